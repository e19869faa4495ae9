import Derived.Test.YtfhcoiogdgfkcaaGreatOps4
import Derived.Laws.BytesString
import Derived.Laws.MakeOwn
namespace Go.Abs

section
variable {P : Program} {L : Nat} {ρ : Env} {β : Bij}

theorem byteCode_rel (hρ : ρ.ok L) {x : V} {c : Nat} {v : Value} (hx : CRel β ρ x v) (h : byteCode x = some c) : c < 260 ∧ v = .int .u8 ((byteAt ρ c).toNat : Int) := by
  unfold byteCode at h
  split at h
  · rename_i n
    split at h
    · rename_i hn
      simp only [Option.some.injEq] at h
      subst h
      refine ⟨by omega, ?_⟩
      rw [byteAt_lit hn]
      exact hx
    · cases h
  · rename_i f
    have hv : v = .int .u8 (f.val ρ) := hx
    have key : ∀ i, i < 4 → f = digitForm i → c = 256 + i → c < 260 ∧ v = .int .u8 ((byteAt ρ c).toNat : Int) := by
      intro i hi hf hc
      have h1 : (byteV c : V) = .sym .u8 (digitForm i) := by
        unfold byteV
        rw [hc]
        have : Nat.blt (256 + i) 256 = false := by rw [← Bool.not_eq_true, Nat.blt_eq]; omega
        rw [this]
        simp
      have h2 := byteV_rel (β := β) hρ (c := c) (by omega)
      rw [h1] at h2
      refine ⟨by omega, ?_⟩
      rw [hv, hf]
      exact h2.symm
    split at h
    · simp only [Option.some.injEq] at h; exact key 0 (by omega) (by assumption) (by omega)
    · split at h
      · simp only [Option.some.injEq] at h; exact key 1 (by omega) (by assumption) (by omega)
      · split at h
        · simp only [Option.some.injEq] at h; exact key 2 (by omega) (by assumption) (by omega)
        · split at h
          · simp only [Option.some.injEq] at h; exact key 3 (by omega) (by assumption) (by omega)
          · cases h
  · cases h

theorem codesOf_rel (hρ : ρ.ok L) : ∀ {l : List V} {vs : List Value} {s : List Nat}, LRel β ρ l vs → codesOf l = some s → (∀ c ∈ s, c < 260) ∧ vs = (s.map fun c => ((byteAt ρ c).toNat : Int)).map (Value.int .u8)
  | [], _, s, h, hs => by cases h; simp [codesOf] at hs; subst hs; simp
  | x :: l, _, s, h, hs => by
    cases h with
    | cons h1 h2 =>
      simp only [codesOf] at hs
      split at hs
      · rename_i c hc
        split at hs
        · rename_i y hy
          simp only [Option.some.injEq] at hs
          subst hs
          obtain ⟨a1, a2⟩ := byteCode_rel hρ h1 hc
          obtain ⟨b1, b2⟩ := codesOf_rel hρ h2 hy
          refine ⟨fun d hd => ?_, ?_⟩
          · cases hd with
            | head => exact a1
            | tail _ hd => exact b1 d hd
          · rw [a2, b2]; simp
        · cases hs
      · cases hs

theorem foldPush (l : List UInt8) : ∀ (r : ByteArray), l.foldl (fun r b => r.push b) r = ⟨(r.data.toList ++ l).toArray⟩ := by
  induction l with
  | nil => intro r; apply ByteArray.ext; simp
  | cons b l ih =>
    intro r
    rw [List.foldl_cons, ih]
    apply ByteArray.ext
    simp

theorem readOp_sound (hρ : ρ.ok L) {w0 w : World} {h : Tr Blk} {nx : Nat} (H : HRel w0 β ρ h nx w) {tm : E} {ev : Operand → Value} (E : ERel β ρ tm ev) {o : Oper} {v : V} (hv : readOp P tm h o.op = some v) :
    ∃ cv, VRel β ρ v cv ∧ (execOp ev o).run P w = .ok (.value cv) w := by
  obtain ⟨dst, op, ty, pos, after, guard⟩ := o
  simp only at hv
  unfold readOp at hv
  split at hv
  · rename_i t a
    have ha := E a
    split at hv
    · rename_i b off n hp hag hsz
      rw [hp] at ha
      obtain ⟨c, sz, hb, he⟩ := ha
      split at hv
      · rename_i l hl
        simp only [Option.some.injEq] at hv
        subst hv
        obtain ⟨vs, g1, g2, g3, g4⟩ := H.load (P := P) hl hb
        refine ⟨.agg vs.toArray, ⟨_, rfl, by simpa using g2⟩, run_value ?_⟩
        unfold Instr.loadAt loadVar
        simp only [he, Instr.sureAddr, Sem.run_bind, Sem.run_pure, Result.andThen_ok, aggT_spec hag, if_true, run_sizeOf hsz, g3]
      · cases hv
    · rename_i b off hp hag hsz
      rw [hp] at ha
      obtain ⟨c, sz, hb, he⟩ := ha
      split at hv
      · rename_i x l hl
        simp only [Option.some.injEq] at hv
        subst hv
        obtain ⟨vs, g1, g2, g3, g4⟩ := H.load (P := P) hl hb
        cases g2 with
        | cons r1 r2 =>
          rename_i cv vs'
          refine ⟨cv, r1.vrel, run_value ?_⟩
          have g5 := g4 0 (by omega)
          simp only [Nat.add_zero, List.getElem?_cons_zero] at g5
          unfold Instr.loadAt loadVar
          simp only [he, Instr.sureAddr, Sem.run_bind, Sem.run_pure, Result.andThen_ok, aggT_spec hag, Bool.false_eq_true, if_false, run_load, g5]
      · cases hv
    · cases hv
  · rename_i s d x
    have hx := E x
    split at hv
    · rename_i e b off len cap z hs hd hp
      rw [hp] at hx
      obtain ⟨c, sz, cap', hb, _, _, o, ho, he⟩ := hx
      split at hv
      · rename_i hu8 hpos
        simp only [Nat.blt_eq] at hpos
        obtain rfl : o = off := by rcases ho with h | ⟨h, h'⟩ <;> omega
        split at hv
        · rename_i l hl
          split at hv
          · rename_i cs hcs
            simp only [Option.some.injEq] at hv
            subst hv
            obtain ⟨vs, g1, g2, g3, g4⟩ := H.load (P := P) hl hb
            obtain ⟨k1, k2⟩ := codesOf_rel hρ g2 hcs
            refine ⟨_, ⟨k1, rfl⟩, run_value ?_⟩
            rw [he, run_convert_bytes_string w s d e _ len cap' hs hu8 hd, run_bytesToString w _ len cap' (cs.map fun c => ((byteAt ρ c).toNat : Int)) (by rw [g3, k2])]
            congr 2
            rw [List.foldl_map]
            have := foldPush (cs.map (byteAt ρ)) ByteArray.empty
            rw [List.foldl_map] at this
            simp only [Int.toNat_natCast, UInt8.ofNat_toNat]
            rw [this]
            simp
          · cases hv
        · cases hv
      · cases hv
    · cases hv
  · cases hv

/-- an operation gives a value (nothing: 'undef') and a world -/
def Gives (P : Program) (ev : Operand → Value) (o : Oper) (w : World) (cv : Value) (w' : World) : Prop :=
  (execOp ev o).run P w = .ok (.value cv) w' ∨ ((execOp ev o).run P w = .ok .skip w' ∧ cv = Go.undef)

theorem repl_length (z : List V) : ∀ n, (repl z n).length = n * z.length
  | 0 => by simp [repl]
  | n + 1 => by simp [repl, repl_length z n, Nat.add_mul]; omega
theorem repl_get (z : List V) : ∀ (n i : Nat), i < n * z.length → (repl z n)[i]? = z[i % z.length]?
  | 0, i, h => by simp at h
  | n + 1, i, h => by
    simp only [repl]
    by_cases hi : i < z.length
    · rw [List.getElem?_append_left hi, Nat.mod_eq_of_lt hi]
    · rw [List.getElem?_append_right (by omega), repl_get z n (i - z.length) (by rw [Nat.add_mul] at h; omega)]
      rw [Nat.mod_eq_sub_mod (show i ≥ z.length by omega)]

theorem repl_rel {z : List V} {zc : Array Value} (hz : LRel β ρ z zc.toList) (hpos : 0 < z.length) (n : Nat) : LRel β ρ (repl z n) ((Array.range (n * zc.size)).map (zc[· % zc.size]!)).toList := by
  have hlen : z.length = zc.size := by have := hz.length; simpa using this
  refine LRel.of_get (by simp [repl_length, hlen]) fun i a b ha hb => ?_
  have hi : i < n * z.length := by
    rcases Nat.lt_or_ge i (n * z.length) with h | h
    · exact h
    · rw [List.getElem?_eq_none (by rw [repl_length]; exact h)] at ha; cases ha
  rw [repl_get z n i hi] at ha
  obtain ⟨b', hb', hr⟩ := hz.get _ _ ha
  have hmod : i % zc.size < zc.size := Nat.mod_lt _ (by omega)
  have : b = b' := by
    rw [Array.getElem?_toList] at hb hb'
    rw [hlen] at hb'
    simp [Array.getElem?_range] at hb
    obtain ⟨hb1, hb2⟩ := hb
    rw [← hb2, getElem!_pos zc (i % zc.size) hmod]
    rw [Array.getElem?_eq_getElem hmod] at hb'
    simpa using hb'
  rw [this]; exact hr

theorem HRel.cut {w0 : World} {h : Tr Blk} {nx : Nat} {w : World} (H : HRel w0 β ρ h nx w) (b : Nat) : HRel w0 β ρ (h.cutAt b) nx w := by
  have g : ∀ x k, (h.cutAt b).get x = some k → h.get x = some k := by
    intro x k hx
    rw [Tr.get_cutAt] at hx
    by_cases e : x = b
    · rw [if_pos e] at hx; cases hx
    · rw [if_neg e] at hx; exact hx
  refine ⟨fun b' k c sz h1 h2 => H.cells b' k c sz (g _ _ h1) h2, fun b1 b2 k1 k2 c s1 s2 h1 h2 => H.inj b1 b2 k1 k2 c s1 s2 (g _ _ h1) (g _ _ h2), H.base, fun x hx => ?_, H.kept⟩
  obtain ⟨h1, h2⟩ := H.fresh x hx
  refine ⟨?_, h2⟩
  rw [Tr.get_cutAt]
  split
  · rfl
  · exact h1

/-- a block counts by its cells alone -/
theorem HRel.congr_blk {w0 : World} {h : Tr Blk} {x nx : Nat} {w : World} {k k' : Blk} (H : HRel w0 β ρ (h.put x k) nx w) (hn : k'.n = k.n) (hc : ∀ i, i < k.n → k'.c.get i = k.c.get i) : HRel w0 β ρ (h.put x k') nx w := by
  have g : ∀ y q, (h.put x k').get y = some q → ∃ q', (h.put x k).get y = some q' ∧ q.n = q'.n ∧ ∀ i, i < q'.n → q.c.get i = q'.c.get i := by
    intro y q hq
    rw [Tr.get_put] at hq ⊢
    by_cases e : y = x
    · rw [if_pos e] at hq ⊢
      cases hq
      exact ⟨k, rfl, hn, hc⟩
    · rw [if_neg e] at hq ⊢
      exact ⟨q, hq, rfl, fun _ _ => rfl⟩
  refine ⟨fun b q c sz h1 h2 => ?_, fun b b' q q' c sz sz' h1 h2 h3 h4 => ?_, H.base, fun b hb => ?_, H.kept⟩
  · obtain ⟨q', g1, g2, g3⟩ := g _ _ h1
    obtain ⟨cs, e, a1, a2, a3, a4⟩ := H.cells b q' c sz g1 h2
    refine ⟨cs, e, a1, a2, by omega, fun i hi => ?_⟩
    rw [g3 i (by omega)]
    exact a4 i (by omega)
  · obtain ⟨p, g1, _⟩ := g _ _ h1
    obtain ⟨p', g1', _⟩ := g _ _ h2
    exact H.inj b b' p p' c sz sz' g1 g1' h3 h4
  · obtain ⟨h1, h2⟩ := H.fresh b hb
    refine ⟨?_, h2⟩
    rw [Tr.get_put] at h1 ⊢
    by_cases e : b = x
    · rw [if_pos e] at h1; cases h1
    · rw [if_neg e] at h1 ⊢; exact h1
/-- the cells of a block, all of them -/
theorem HRel.all {w0 : World} {h : Tr Blk} {nx : Nat} {w : World} (H : HRel w0 β ρ h nx w) {b c sz : Nat} {k : Blk} (hk : h.get b = some k) (hb : β b = some (c, sz)) : ∃ old, loadAt h b 0 k.n = some old := by
  obtain ⟨cs, e, hc, hsz, hkn, hcell⟩ := H.cells b k c sz hk hb
  have key : ∀ (n off : Nat), off + n ≤ k.n → ∃ l, loadN k.c off n = some l := by
    intro n
    induction n with
    | zero => intro off _; exact ⟨[], rfl⟩
    | succ n ih =>
      intro off hle
      obtain ⟨x, v, h1, _, _⟩ := hcell off (by omega)
      obtain ⟨l, hl⟩ := ih (off + 1) (by omega)
      exact ⟨x :: l, by simp only [loadN, h1, hl]⟩
  obtain ⟨l, hl⟩ := key k.n 0 (by omega)
  refine ⟨l, ?_⟩
  unfold loadAt
  rw [hk]
  simp only [Nat.zero_add, nble_true (Nat.le_refl k.n), hl]
/-- cells behind the last, and all of them laid anew -/
theorem grown_blk {h : Tr Blk} {b : Nat} {k : Blk} {old new : List V} (hk : h.get b = some k) (ho : loadAt h b 0 k.n = some old) :
    (grown k new).n = (mkBlk (old ++ new)).n ∧ ∀ i, i < (mkBlk (old ++ new)).n → (grown k new).c.get i = (mkBlk (old ++ new)).c.get i := by
  unfold loadAt at ho
  rw [hk] at ho
  simp only [Nat.zero_add, nble_true (Nat.le_refl k.n)] at ho
  obtain ⟨h1, h2⟩ := loadN_spec _ _ _ ho
  refine ⟨by show k.n + new.length = (old ++ new).length; rw [List.length_append, h1], fun i hi => ?_⟩
  have hi' : i < (old ++ new).length := hi
  rw [List.length_append, h1] at hi'
  show (storeL k.n k.c new).get i = _
  rw [mkBlk_get, storeL_get]
  by_cases e : i < k.n
  · rw [if_neg (by omega), List.getElem?_append_left (by omega)]
    obtain ⟨x, g1, g2⟩ := h2 i e
    rw [Nat.zero_add] at g1
    rw [g1, g2]
  · rw [if_pos (by omega), List.getElem?_append_right (by omega), h1]

/-- an append that finds room in the world where the abstract block has none: the new number stands for the old block -/
theorem HRel.regrow {w0 : World} {h : Tr Blk} {nx : Nat} {w : World} (H : HRel w0 β ρ h nx w) {b c sz : Nat} {k : Blk} (hk : h.get b = some k) (hb : β b = some (c, sz))
    {old new : List V} {vs : List Value} (ho : loadAt h b 0 old.length = some old) (hn : LRel β ρ new vs) (hroom : old.length + vs.length ≤ sz) :
    ∃ w', (storeCells ⟨c, old.length, none⟩ vs).run P w = .ok () w' ∧ HRel w0 (β.with nx c sz) ρ ((h.cutAt b).put nx (mkBlk (old ++ new))) (nx + 1) w' := by
  obtain ⟨cs, e, hc, hsz, hkn, hcell⟩ := H.cells b k c sz hk hb
  have hle : β.le (β.with nx c sz) := Bij.le_with (H.fresh nx (Nat.le_refl _)).2
  have hone : ∀ v ∈ vs, v.oneCell' = true := by
    clear hroom
    induction hn with
    | nil => simp
    | cons h1 _ ih => intro v hv; cases hv with
      | head => exact h1.one
      | tail _ hv => exact ih v hv
  obtain ⟨cs', w', hr, hW, hs', hj⟩ := run_storeCells (P := P) (off := old.length) vs 0 w cs hc hone (by omega)
  have hlen := hn.length
  -- the old cells
  have hold : old.length ≤ k.n ∧ ∀ i, i < old.length → ∃ x, k.c.get i = some x ∧ old[i]? = some x := by
    unfold loadAt at ho
    rw [hk] at ho
    simp only at ho
    split at ho
    · rename_i hle
      obtain ⟨_, h2⟩ := loadN_spec _ _ _ ho
      exact ⟨by simpa using Nat.le_of_ble_eq_true hle, fun i hi => by simpa using h2 i hi⟩
    · cases ho
  have hne : b ≠ nx := by
    rintro rfl
    rw [(H.fresh b (Nat.le_refl _)).1] at hk; cases hk
  have get' : ∀ x k', ((h.cutAt b).put nx (mkBlk (old ++ new))).get x = some k' → (x = nx ∧ k' = mkBlk (old ++ new)) ∨ (x ≠ nx ∧ x ≠ b ∧ h.get x = some k') := by
    intro x k' hx
    rw [Tr.get_put, Tr.get_cutAt] at hx
    by_cases e1 : x = nx
    · rw [if_pos e1] at hx
      exact .inl ⟨e1, by simpa using hx.symm⟩
    · rw [if_neg e1] at hx
      by_cases e2 : x = b
      · rw [if_pos e2] at hx; cases hx
      · rw [if_neg e2] at hx
        exact .inr ⟨e1, e2, hx⟩
  refine ⟨w', hr, ⟨?_, ?_, ?_, ?_, H.kept.wrote (H.base b c sz hb).1 hW⟩⟩
  · intro b1 k1 c1 s1 h1 h2
    unfold Bij.with at h2
    rcases get' b1 k1 h1 with ⟨rfl, rfl⟩ | ⟨e1, e2, h3⟩
    · rw [if_pos rfl] at h2
      simp only [Option.some.injEq, Prod.mk.injEq] at h2
      obtain ⟨rfl, rfl⟩ := h2
      refine ⟨cs', e, hW.here, by omega, ?_, fun i hi => ?_⟩
      · show (old ++ new).length ≤ sz
        simp only [List.length_append]
        omega
      · have hi' : i < (old ++ new).length := hi
        simp only [List.length_append] at hi'
        rw [mkBlk_get, hj i]
        simp only [Nat.add_zero]
        by_cases hin : i < old.length
        · rw [if_neg (by omega), List.getElem?_append_left hin]
          obtain ⟨x, g1, g2⟩ := hold.2 i hin
          obtain ⟨x', v, a1, a2, a3⟩ := hcell i (by omega)
          rw [g1] at a1
          cases a1
          exact ⟨x, v, g2, a2, a3.mono hle⟩
        · rw [if_pos (by omega), List.getElem?_append_right (by omega)]
          have hx : new[i - old.length]? = some (new[i - old.length]'(by omega)) := List.getElem?_eq_getElem (by omega)
          obtain ⟨v, hv, hcr⟩ := hn.get _ _ hx
          exact ⟨_, v, hx, hv, hcr.mono hle⟩
    · rw [if_neg e1] at h2
      obtain ⟨cs1, t1, g1, g2, g3, g4⟩ := H.cells b1 k1 c1 s1 h3 h2
      have hne1 : c1 ≠ c := by
        rintro rfl
        exact e2 (H.inj b1 b k1 k c1 s1 sz h3 hk h2 hb)
      refine ⟨cs1, t1, by rw [hW.other c1 hne1]; exact g1, g2, g3, fun i hi => ?_⟩
      obtain ⟨x, v, a1, a2, a3⟩ := g4 i hi
      exact ⟨x, v, a1, a2, a3.mono hle⟩
  · intro b1 b2 k1 k2 c1 s1 s2 h1 h2 q1 q2
    unfold Bij.with at q1 q2
    rcases get' b1 k1 h1 with ⟨rfl, rfl⟩ | ⟨e1, e2, h3⟩
    · rw [if_pos rfl] at q1
      simp only [Option.some.injEq, Prod.mk.injEq] at q1
      rcases get' b2 k2 h2 with ⟨rfl, rfl⟩ | ⟨e3, e4, h4⟩
      · rfl
      · rw [if_neg e3] at q2
        exact absurd (H.inj b2 b k2 k c1 s2 sz h4 hk q2 (by rw [hb, q1.1])) e4
    · rw [if_neg e1] at q1
      rcases get' b2 k2 h2 with ⟨rfl, rfl⟩ | ⟨e3, e4, h4⟩
      · rw [if_pos rfl] at q2
        simp only [Option.some.injEq, Prod.mk.injEq] at q2
        exact absurd (H.inj b1 b k1 k c1 s1 sz h3 hk q1 (by rw [hb, q2.1])) e2
      · rw [if_neg e3] at q2
        exact H.inj b1 b2 k1 k2 c1 s1 s2 h3 h4 q1 q2
  · intro b1 c1 s1 h1
    unfold Bij.with at h1
    rw [hW.size]
    by_cases e1 : b1 = nx
    · rw [if_pos e1] at h1
      simp only [Option.some.injEq, Prod.mk.injEq] at h1
      rw [← h1.1]
      exact H.base b c sz hb
    · rw [if_neg e1] at h1
      exact H.base b1 c1 s1 h1
  · intro b1 h1
    obtain ⟨g1, g2⟩ := H.fresh b1 (by omega)
    have n1 : b1 ≠ nx := by omega
    rw [Tr.get_put, Tr.get_cutAt, if_neg n1]
    unfold Bij.with
    rw [if_neg n1]
    refine ⟨?_, g2⟩
    split
    · rfl
    · exact g1

end
end Go.Abs
