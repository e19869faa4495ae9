import Derived.Test.YtmohklalmohilaaGreatSym
import Derived.Laws.StructEq
import Derived.Laws.Concat
namespace Go.Abs

section
variable {P : Program} {L : Nat} {ρ : Env} {β : Bij}

theorem ub_ofNat (b : UInt8) : byteAt ρ b.toNat = b := by
  unfold byteAt
  rw [if_pos b.toNat_lt]
  simp

theorem absC_rel {v : Value} {x : V} (h : absC v = some x) : CRel β ρ x v := by
  unfold absC at h
  split at h <;> first
    | (cases h; done)
    | (simp only [Option.some.injEq] at h; subst h; rfl)
    | skip
  rename_i s
  simp only [Option.some.injEq] at h
  subst h
  refine ⟨fun c hc => ?_, ?_⟩
  · obtain ⟨b, _, rfl⟩ := List.mem_map.1 hc
    have := b.toNat_lt
    omega
  show Value.string s = .string ⟨((s.data.toList.map (·.toNat)).map (byteAt ρ)).toArray⟩
  rw [List.map_map]
  have : (byteAt ρ ∘ fun x : UInt8 => x.toNat) = id := by funext b; exact ub_ofNat b
  rw [this, List.map_id]

theorem absL_rel : ∀ {vs : List Value} {l : List V}, absL vs = some l → LRel β ρ l vs
  | [], l, h => by simp [absL] at h; subst h; exact .nil
  | v :: vs, l, h => by
    simp only [absL] at h
    split at h
    · rename_i x hx
      split at h
      · rename_i y hy
        simp only [Option.some.injEq] at h
        subst h
        exact .cons (absC_rel hx) (absL_rel hy)
      · cases h
    · cases h

theorem absC_not {v : Value} {x : V} (h : absC v = some x) : (∀ l, x ≠ .agg l) ∧ (∀ l, x ≠ .tup l) ∧ x ≠ .junk := by
  unfold absC at h
  split at h <;> first
    | (simp only [Option.some.injEq] at h; subst h; exact ⟨fun l h => (by cases h), fun l h => (by cases h), fun h => (by cases h)⟩)
    | cases h

theorem absV_rel {v : Value} {x : V} (h : absV v = some x) : ARel β ρ x v := by
  unfold absV at h
  split at h
  · rename_i cs
    split at h
    · rename_i l hl
      simp only [Option.some.injEq] at h
      subst h
      exact ⟨cs, rfl, absL_rel hl⟩
    · cases h
  · rw [ARel.eq_c (absC_not h).1]
    exact absC_rel h

theorem absV_not {v : Value} {x : V} (h : absV v = some x) : (∀ l, x ≠ .tup l) ∧ x ≠ .junk := by
  unfold absV at h
  split at h
  · split at h
    · simp only [Option.some.injEq] at h
      subst h
      exact ⟨fun l h => (by cases h), fun h => (by cases h)⟩
    · cases h
  · exact (absC_not h).2

/-! ### one operation's answer -/

theorem run_value {s : Sem Value} {w w' : World} {x : Value} (h : s.run P w = .ok x w') : (do pure (Next.value (← s)) : Sem Next).run P w = .ok (.value x) w' := by
  simp only [Sem.run_bind, h, Result.andThen_ok, Sem.run_pure]

theorem intBin_sound {op : BinOp} {k : IntKind} {a b : Int} {v : V} (t : TypeId) (X Y : Operand) (h : intBin op k a b = some v) :
    ∃ cv, CRel β ρ v cv ∧ ∀ w, (do eqGuard op t X Y (.int k a) (.int k b); binOp op t (.int k a) (.int k b) : Sem Value).run P w = .ok cv w := by
  cases op <;> simp only [intBin] at h <;> first
    | (cases h; done)
    | (split at h
       · cases h
       · rename_i hb
         simp only [Option.some.injEq] at h
         subst h
         refine ⟨_, rfl, fun w => ?_⟩
         simp [eqGuard_at_int, binOp_quo, binOp_rem, Op.intDiv, hb])
    | (simp only [Option.some.injEq] at h
       subst h
       refine ⟨_, rfl, fun w => ?_⟩
       simp [eqGuard_at_int, binOp_add, binOp_sub, binOp_mul, binOp_and, binOp_eql, binOp_neq, binOp_lss, binOp_leq, binOp_gtr, binOp_geq, Op.intArith, Op.intBits])

theorem constForm {g : Form} {n : Nat} (h : ∃ k2, g = ⟨.ofNat 0, .ofNat 0, .ofNat 0, .ofNat 0, .ofNat n, 0, k2⟩) : g.val ρ = n := by
  obtain ⟨k2, rfl⟩ := h
  simp [Form.val, Form.lin]

theorem symBin_sound (hρ : ρ.ok L) {op : BinOp} {k : IntKind} {f g : Form} {v : V} (t : TypeId) (X Y : Operand) (h : symBin L op k f g = some v) :
    ∃ cv, CRel β ρ v cv ∧ ∀ w, (do eqGuard op t X Y (.int k (f.val ρ)) (.int k (g.val ρ)); binOp op t (.int k (f.val ρ)) (.int k (g.val ρ)) : Sem Value).run P w = .ok cv w := by
  cases op <;> simp only [symBin] at h <;> try (cases h; done)
  case add =>
    split at h
    · rename_i d hd
      obtain ⟨h1, h2⟩ := mkV_sound (β := β) hρ h
      refine ⟨_, h1, fun w => ?_⟩
      rw [add_val hd] at h2 ⊢
      simp [eqGuard_at_int, binOp_add, Op.intArith, h2]
    · cases h
  case sub =>
    split at h
    · rename_i d hd
      obtain ⟨h1, h2⟩ := mkV_sound (β := β) hρ h
      refine ⟨_, h1, fun w => ?_⟩
      rw [sub_val hd] at h2 ⊢
      simp [eqGuard_at_int, binOp_sub, Op.intArith, h2]
    · cases h
  case mul =>
    split at h
    · rename_i d hd
      obtain ⟨h1, h2⟩ := mkV_sound (β := β) hρ h
      refine ⟨_, h1, fun w => ?_⟩
      rw [mul_val hd] at h2 ⊢
      simp [eqGuard_at_int, binOp_mul, Op.intArith, h2]
    · cases h
  case quo =>
    split at h
    · rename_i n k2
      split at h
      · rename_i d hd
        obtain ⟨h1, h2⟩ := mkV_sound (β := β) hρ h
        refine ⟨_, h1, fun w => ?_⟩
        rw [quo_val hρ (by omega) hd] at h2 ⊢
        rw [constForm (n := n + 1) ⟨k2, rfl⟩]
        have hne : ¬ (((n + 1 : Nat) : Int) = 0) := by omega
        simp only [eqGuard_at_int, binOp_quo, Op.intDiv, Sem.run_bind, Sem.run_pure, Result.andThen_ok, if_neg hne, h2]
      · cases h
    · cases h
  case rem =>
    split at h
    · rename_i n k2
      split at h
      · rename_i d hd
        obtain ⟨h1, h2⟩ := mkV_sound (β := β) hρ h
        refine ⟨_, h1, fun w => ?_⟩
        rw [rem_val hρ (by omega) hd]
        rw [constForm (n := n + 1) ⟨k2, rfl⟩]
        have hne : ¬ (((n + 1 : Nat) : Int) = 0) := by omega
        simp only [eqGuard_at_int, binOp_rem, Op.intDiv, Sem.run_bind, Sem.run_pure, Result.andThen_ok, if_neg hne]
      · cases h
    · cases h
  case eql =>
    split at h
    · rename_i b hb
      simp only [Option.some.injEq] at h
      subst h
      refine ⟨_, rfl, fun w => ?_⟩
      rw [eqS_val hρ hb]
      simp [eqGuard_at_int, binOp_eql]
      rfl
    · cases h
  case neq =>
    split at h
    · rename_i b hb
      simp only [Option.some.injEq] at h
      subst h
      refine ⟨_, rfl, fun w => ?_⟩
      rw [eqS_val hρ hb]
      simp [eqGuard_at_int, binOp_neq, bne]
      rfl
    · cases h
  case lss =>
    split at h
    · rename_i b hb
      simp only [Option.some.injEq] at h
      subst h
      refine ⟨_, rfl, fun w => ?_⟩
      rw [leS_val hρ hb]
      simp [eqGuard_at_int, binOp_lss, ← decide_not, Int.not_le]
    · cases h
  case leq =>
    split at h
    · rename_i b hb
      simp only [Option.some.injEq] at h
      subst h
      refine ⟨_, rfl, fun w => ?_⟩
      rw [leS_val hρ hb]
      simp [eqGuard_at_int, binOp_leq]
    · cases h
  case gtr =>
    split at h
    · rename_i b hb
      simp only [Option.some.injEq] at h
      subst h
      refine ⟨_, rfl, fun w => ?_⟩
      rw [leS_val hρ hb]
      simp [eqGuard_at_int, binOp_gtr, ← decide_not, Int.not_le]
    · cases h
  case geq =>
    split at h
    · rename_i b hb
      simp only [Option.some.injEq] at h
      subst h
      refine ⟨_, rfl, fun w => ?_⟩
      rw [leS_val hρ hb]
      simp [eqGuard_at_int, binOp_geq]
    · cases h

/-! strings -/
theorem hiD_le (L i : Nat) : hiD L i ≤ 9 := by unfold hiD; split <;> decide
theorem loD_ge (L i : Nat) : 0 ≤ loD L i := by
  unfold loD
  split
  · split <;> decide
  · decide

theorem byteAt_sym (hρ : ρ.ok L) {c : Nat} (hc : ¬ c < 256) (h4 : c < 260) : (byteAt ρ c).toNat = (48 + ρ.d (c - 256)).toNat ∧ 48 ≤ (byteAt ρ c).toNat ∧ (byteAt ρ c).toNat ≤ 57 := by
  obtain ⟨h1, h2⟩ := hρ (c - 256) (by omega)
  have h3 := hiD_le L (c - 256)
  have h5 := loD_ge L (c - 256)
  unfold byteAt
  rw [if_neg hc]
  have : (UInt8.ofNat (48 + ρ.d (c - 256)).toNat).toNat = (48 + ρ.d (c - 256)).toNat := by
    rw [UInt8.toNat_ofNat']
    omega
  omega
theorem byteAt_lit {c : Nat} (hc : c < 256) : (byteAt ρ c).toNat = c := by
  unfold byteAt
  rw [if_pos hc, UInt8.toNat_ofNat']
  omega

theorem strEq_sound (hρ : ρ.ok L) : ∀ {a b : List Nat} {r : Bool}, (∀ c ∈ a, c < 260) → (∀ c ∈ b, c < 260) → strEq a b = some r → (a.map (byteAt ρ) == b.map (byteAt ρ)) = r
  | [], [], r, _, _, h => by simp [strEq] at h; subst h; rfl
  | [], _ :: _, r, _, _, h => by simp [strEq] at h; subst h; rfl
  | _ :: _, [], r, _, _, h => by simp [strEq] at h; subst h; rfl
  | x :: a, y :: b, r, ha, hb, h => by
    have ih := fun r => strEq_sound (a := a) (b := b) (r := r) hρ (fun c hc => ha c (List.mem_cons_of_mem _ hc)) (fun c hc => hb c (List.mem_cons_of_mem _ hc))
    have hx := ha x (List.mem_cons_self ..)
    have hy := hb y (List.mem_cons_self ..)
    simp only [strEq] at h
    simp only [List.map_cons, List.cons_beq_cons]
    have differ : (byteAt ρ x).toNat ≠ (byteAt ρ y).toNat → (byteAt ρ x == byteAt ρ y) = false := by
      intro hne
      rw [beq_eq_false_iff_ne]
      intro e
      exact hne (by rw [e])
    split at h
    · rename_i he
      have he' := Nat.eq_of_beq_eq_true he
      subst he'
      rw [ih r h]
      simp
    · rename_i he
      have hne : x ≠ y := fun e => by subst e; rw [Nat.beq_refl] at he; cases he
      split at h
      · rename_i h2
        simp only [Option.some.injEq] at h
        subst h
        simp only [Bool.and_eq_true, Nat.blt_eq] at h2
        rw [differ (by rw [byteAt_lit h2.1, byteAt_lit h2.2]; exact hne)]
        rfl
      · rename_i h2
        split at h
        · rename_i h3
          simp only [Option.some.injEq] at h
          subst h
          simp only [Bool.or_eq_true, Bool.and_eq_true, Nat.blt_eq] at h3
          have h2' : ¬ (x < 256 ∧ y < 256) := by
            intro hc
            rw [Bool.and_eq_false_iff] at h2
            rcases h2 with h2 | h2
            · rw [← Bool.not_eq_true, Nat.blt_eq] at h2; omega
            · rw [← Bool.not_eq_true, Nat.blt_eq] at h2; omega
          rw [differ ?_]
          · rfl
          · by_cases hx2 : x < 256
            · have hs := byteAt_sym hρ (c := y) (by omega) hy
              rw [byteAt_lit hx2]
              omega
            · have hs := byteAt_sym hρ (c := x) hx2 hx
              by_cases hy2 : y < 256
              · rw [byteAt_lit hy2]
                omega
              · omega
        · split at h
          · rename_i h4
            simp only [Option.some.injEq] at h
            subst h
            rw [ih false h4]
            simp
          · cases h

theorem drop_get {β : Bij} {ρ : Env} : ∀ {l : List V} {vs : List Value} (o : Nat), LRel β ρ l vs → LRel β ρ (dropN o l) (vs.drop o)
  | _, _, 0, h => by simpa [dropN] using h
  | [], _, o + 1, h => by cases h; simpa [dropN] using LRel.nil
  | _ :: _, _, o + 1, h => by
    cases h with
    | cons h1 h2 => simpa [dropN] using drop_get o h2

theorem part_one {w : World} {t : TypeId} {cs : Array Value} {off : Nat} {v : Value} {d : TypeDesc} (ht : P.underlying t = some d) (hd : (match d with | .struct _ | .array _ _ => true | _ => false) = false)
    (hv : cs[off]? = some v) : (part t cs off).run P w = .ok v w := by
  unfold part isAgg
  simp only [Sem.run_bind, run_underlying ht, Result.andThen_ok]
  cases d <;> simp at hd <;> simp [hv]

theorem eqF_sound (hρ : ρ.ok L) {xs ys : List V} {cx cy : Array Value} (hx : LRel β ρ xs cx.toList) (hy : LRel β ρ ys cy.toList) (d : Nat) :
    ∀ {fs : List Field} {r : Bool}, (fs.any fun f => f.name == "_") = false → eqF P xs ys fs = some r → ∀ w, (Op.eqFields (d + 1) cx cy fs).run P w = .ok r w
  | [], r, _, h, w => by simp [eqF] at h; subst h; simp [Op.eqFields]
  | f :: fs, r, hn, h, w => by
    simp only [List.any_cons, Bool.or_eq_false_iff, beq_eq_false_iff_ne, ne_eq] at hn
    simp only [eqF] at h
    have gx := drop_get f.offset hx
    have gy := drop_get f.offset hy
    have ih := fun r h => eqF_sound hρ hx hy d (fs := fs) (r := r) (by simpa using hn.2) h w
    have at0 : ∀ {l : List V} {cs : Array Value} {x : V} {l' : List V}, LRel β ρ (dropN f.offset l) (cs.toList.drop f.offset) → dropN f.offset l = x :: l' → ∃ v, cs[f.offset]? = some v ∧ CRel β ρ x v := by
      intro l cs x l' hl he
      rw [he] at hl
      generalize hdr : cs.toList.drop f.offset = dr at hl
      cases hl with
      | cons h1 h2 =>
        rename_i v vs
        refine ⟨v, ?_, h1⟩
        have : (cs.toList.drop f.offset)[0]? = some v := by rw [hdr]; rfl
        simpa using this
    simp only [Op.eqFields, hn.1, ne_eq, not_false_eq_true, if_true]
    split at h
    · rename_i k a _ k' b _ kk e1 e2 e3
      obtain ⟨va, ha, ra⟩ := at0 gx e1
      obtain ⟨vb, hb, rb⟩ := at0 gy e2
      cases ra
      cases rb
      split at h
      · rename_i hk
        have hk' := of_decide_eq_true hk
        subst hk'
        rw [Sem.run_bind, part_one e3 rfl ha]
        simp only [Result.andThen_ok]
        rw [Sem.run_bind, part_one e3 rfl hb]
        simp only [Result.andThen_ok]
        rw [Sem.run_bind, run_equalIn_int w d f.type k kk a b e3]
        simp only [Result.andThen_ok]
        split at h
        · rename_i hab
          have hab' := of_decide_eq_true hab
          subst hab'
          simpa using ih r h
        · rename_i hab
          have hab' := of_decide_eq_false hab
          simp only [Option.some.injEq] at h
          subst h
          simp [hab']
      · cases h
    · rename_i a _ b _ e1 e2 e3
      obtain ⟨va, ha, ra⟩ := at0 gx e1
      obtain ⟨vb, hb, rb⟩ := at0 gy e2
      obtain ⟨la, rfl⟩ := ra
      obtain ⟨lb, rfl⟩ := rb
      rw [Sem.run_bind, part_one e3 rfl ha]
      simp only [Result.andThen_ok]
      rw [Sem.run_bind, part_one e3 rfl hb]
      simp only [Result.andThen_ok]
      rw [Sem.run_bind, run_equalIn_string w d f.type _ _ e3]
      simp only [Result.andThen_ok, ByteArray.toList_mk]
      split at h
      · rename_i hs
        rw [strEq_sound hρ la lb hs]
        simpa using ih r h
      · rename_i hs
        rw [strEq_sound hρ la lb hs]
        simp only [Option.some.injEq] at h
        subst h
        simp
      · cases h
    · rename_i a _ b _ e1 e2 e3
      obtain ⟨va, ha, ra⟩ := at0 gx e1
      obtain ⟨vb, hb, rb⟩ := at0 gy e2
      cases ra
      cases rb
      rw [Sem.run_bind, part_one e3 rfl ha]
      simp only [Result.andThen_ok]
      rw [Sem.run_bind, part_one e3 rfl hb]
      simp only [Result.andThen_ok]
      rw [Sem.run_bind, run_equalIn_bool w d f.type _ _ e3]
      simp only [Result.andThen_ok]
      split at h
      · rename_i hs
        rw [hs]
        simpa using ih r h
      · rename_i hs
        rw [hs]
        simp only [Option.some.injEq] at h
        subst h
        simp
    · cases h

end
end Go.Abs
