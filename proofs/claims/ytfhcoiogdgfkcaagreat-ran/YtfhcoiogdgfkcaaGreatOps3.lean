import Derived.Test.YtfhcoiogdgfkcaaGreatOps2
namespace Go.Abs

section
variable {P : Program} {L : Nat} {ρ : Env} {β : Bij}

theorem LRel.of_get : ∀ {x : List V} {v : List Value}, x.length = v.length → (∀ (i : Nat) a b, x[i]? = some a → v[i]? = some b → CRel β ρ a b) → LRel β ρ x v
  | [], [], _, _ => .nil
  | [], _ :: _, h, _ => by simp at h
  | _ :: _, [], h, _ => by simp at h
  | a :: x, b :: v, h, hr => .cons (hr 0 a b rfl rfl) (LRel.of_get (by simpa using h) fun i a' b' h1 h2 => hr (i + 1) a' b' (by simpa using h1) (by simpa using h2))

theorem dropN_eq : ∀ (n : Nat) (l : List V), dropN n l = l.drop n
  | 0, _ => rfl
  | _ + 1, [] => rfl
  | n + 1, _ :: l => by simpa [dropN] using dropN_eq n l
theorem takeN_eq : ∀ {n : Nat} {l r : List V}, takeN n l = some r → r = l.take n ∧ n ≤ l.length
  | 0, l, r, h => by simp [takeN] at h; subst h; simp
  | n + 1, [], r, h => by simp [takeN] at h
  | n + 1, x :: l, r, h => by
    simp only [takeN] at h
    split at h
    · rename_i y hy
      simp only [Option.some.injEq] at h
      obtain ⟨h1, h2⟩ := takeN_eq hy
      subst h
      subst h1
      exact ⟨by simp, by simpa using h2⟩
    · cases h
theorem LRel.take {x : List V} {v : List Value} (h : LRel β ρ x v) (n : Nat) : LRel β ρ (x.take n) (v.take n) := by
  induction h generalizing n with
  | nil => simpa using LRel.nil
  | cons h1 _ ih => cases n with
    | zero => simpa using LRel.nil
    | succ n => simpa using LRel.cons h1 (ih n)
theorem LRel.drop {x : List V} {v : List Value} (h : LRel β ρ x v) (n : Nat) : LRel β ρ (x.drop n) (v.drop n) := by
  rw [← dropN_eq]; exact drop_get n h

theorem aggT_spec {t : TypeId} {b : Bool} (h : aggT P t = some b) (w : World) : (isAgg t).run P w = .ok b w := by
  unfold aggT at h
  unfold isAgg
  split at h
  · rename_i hu
    simp only [Option.some.injEq] at h; subst h
    simp [run_underlying hu]
  · rename_i hu
    simp only [Option.some.injEq] at h; subst h
    simp [run_underlying hu]
  · rename_i d hu _ _
    simp only [Option.some.injEq] at h; subst h
    cases d <;> simp_all [run_underlying]
  · cases h

theorem partOf_sound {t : TypeId} {cs : List V} {vs : Array Value} {off : Nat} {v : V} (hc : LRel β ρ cs vs.toList) (h : partOf P t cs off = some v) :
    ∃ cv, VRel β ρ v cv ∧ ∀ w, (part t vs off).run P w = .ok cv w := by
  unfold partOf at h
  split at h
  · rename_i n ha hs
    split at h
    · rename_i l hl
      simp only [Option.some.injEq] at h
      subst h
      obtain ⟨rfl, hle⟩ := takeN_eq hl
      rw [dropN_eq] at hle ⊢
      refine ⟨.agg (vs.extract off (off + n)), ⟨_, rfl, ?_⟩, fun w => ?_⟩
      · have := (hc.drop off).take n
        rw [Array.toList_extract]
        simpa [List.extract_eq_take_drop] using this
      · unfold part
        simp only [Sem.run_bind, aggT_spec ha, Result.andThen_ok, if_true, run_sizeOf hs, Sem.run_pure]
    · cases h
  · rename_i n ha hs
    split at h
    · rename_i x l hl
      simp only [Option.some.injEq] at h
      subst h
      rw [dropN_eq] at hl
      have h1 := hc.drop off
      rw [hl] at h1
      generalize hd : vs.toList.drop off = dr at h1
      cases h1 with
      | cons h2 h3 =>
        rename_i cv rest
        have hg : vs[off]? = some cv := by
          have : (vs.toList.drop off)[0]? = some cv := by rw [hd]; rfl
          simpa using this
        refine ⟨cv, h2.vrel, fun w => ?_⟩
        unfold part
        simp only [Sem.run_bind, aggT_spec ha, Result.andThen_ok, Bool.false_eq_true, if_false, hg, Sem.run_pure]
    · cases h
  · cases h

theorem aField_sound {s : TypeId} {f : Nat} {x v : V} {cx : Value} (hx : VRel β ρ x cx) (h : aField P s x f = some v) : ∃ cv, VRel β ρ v cv ∧ ∀ w, (Instr.field s cx f).run P w = .ok cv w := by
  unfold aField at h
  split at h
  · rename_i o u cs hf
    obtain ⟨vs, rfl, hr⟩ := hx
    obtain ⟨fs, x, h1, h2, h3, h4⟩ := fieldAt_spec hf
    obtain ⟨cv, g1, g2⟩ := partOf_sound hr h
    refine ⟨cv, g1, fun w => ?_⟩
    unfold Instr.field
    simp only [Sem.run_bind, run_underlying h1, Result.andThen_ok, h2, asAgg, Sem.run_pure, h3, h4]
    exact g2 w
  · cases h

theorem bound_rel {x : Option V} {cx : Option Value} {d most n : Nat} (hx : match x, cx with | none, none => True | some a, some b => VRel β ρ a b | _, _ => False) (h : bound x d most = some n) :
    (cx = none ∧ n = d) ∨ (∃ k, cx = some (.int k (n : Int)) ∧ n ≤ most) := by
  unfold bound at h
  split at h
  · simp only [Option.some.injEq] at h
    cases cx with
    | none => exact .inl ⟨rfl, h.symm⟩
    | some b => exact hx.elim
  · rename_i v
    split at h
    · rename_i m hm
      split at h
      · rename_i hle
        simp only [Option.some.injEq] at h
        subst h
        cases cx with
        | none => exact hx.elim
        | some b =>
          obtain ⟨k, rfl⟩ := natOf_rel hx hm
          exact .inr ⟨k, rfl, Nat.le_of_ble_eq_true hle⟩
      · cases h
    · cases h

theorem run_bound {k : IntKind} {n y : Nat} (code : BoundsCode) (h : n ≤ y) (w : World) : (Instr.sliceBound (.int k (n : Int)) y code).run P w = .ok n w := by
  unfold Instr.sliceBound
  simp only [asIntOf, Sem.run_bind, Sem.run_pure, Result.andThen_ok]
  rw [if_pos (by omega)]
  simp

theorem run_bounds {b : Bool} {len cap h l : Nat} {lo hi : Option Value} (hh : (hi = none ∧ h = len) ∨ (∃ k, hi = some (.int k (h : Int)) ∧ h ≤ cap)) (hl : (lo = none ∧ l = 0) ∨ (∃ k, lo = some (.int k (l : Int)) ∧ l ≤ h)) (w : World) :
    (Instr.sliceBounds b len cap lo hi none).run P w = .ok (l, h, cap) w := by
  unfold Instr.sliceBounds
  simp only [Sem.run_bind, Sem.run_pure, Result.andThen_ok]
  rcases hh with ⟨rfl, rfl⟩ | ⟨k, rfl, hle⟩
  · rcases hl with ⟨rfl, rfl⟩ | ⟨k', rfl, hle'⟩
    · simp
    · simp only [Sem.run_bind, Sem.run_pure, Result.andThen_ok]
      rw [run_bound _ hle']
      simp
  · rcases hl with ⟨rfl, rfl⟩ | ⟨k', rfl, hle'⟩
    · simp only [Sem.run_bind]
      rw [run_bound _ hle]
      simp
    · simp only [Sem.run_bind]
      rw [run_bound _ hle]
      simp only [Result.andThen_ok]
      rw [run_bound _ hle']
      simp

theorem takeS_eq : ∀ (n : Nat) (l : List Nat), takeS n l = l.take n
  | 0, _ => by simp [takeS]
  | _ + 1, [] => by simp [takeS]
  | n + 1, _ :: l => by simpa [takeS] using takeS_eq n l
theorem dropS_eq : ∀ (n : Nat) (l : List Nat), dropS n l = l.drop n
  | 0, _ => rfl
  | _ + 1, [] => rfl
  | n + 1, _ :: l => by simpa [dropS] using dropS_eq n l

theorem aSlice_sound {t : TypeId} {x v : V} {lo hi : Option V} {cx : Value} {clo chi : Option Value} (hx : VRel β ρ x cx)
    (hlo : match lo, clo with | none, none => True | some a, some b => VRel β ρ a b | _, _ => False) (hhi : match hi, chi with | none, none => True | some a, some b => VRel β ρ a b | _, _ => False)
    (h : aSlice P t x lo hi = some v) : ∃ cv, VRel β ρ v cv ∧ ∀ w, (Instr.sliceAt t cx clo chi none).run P w = .ok cv w := by
  unfold aSlice at h
  split at h
  · rename_i s hu
    obtain ⟨ls, rfl⟩ := hx
    split at h
    · rename_i hh h1
      split at h
      · rename_i l h2
        simp only [Option.some.injEq] at h
        subst h
        have b1 := bound_rel hhi h1
        have b2 := bound_rel hlo h2
        have hle : hh ≤ s.length := by rcases b1 with ⟨_, rfl⟩ | ⟨_, _, h⟩ <;> omega
        have hle2 : l ≤ hh := by rcases b2 with ⟨_, rfl⟩ | ⟨_, _, h⟩ <;> omega
        refine ⟨.string ⟨((s.take hh).drop l |>.map (byteAt ρ)).toArray⟩, ⟨fun c hc => ?_, ?_⟩, fun w => ?_⟩
        · rw [takeS_eq, dropS_eq] at hc
          exact ls c (List.mem_of_mem_drop (List.mem_of_mem_take hc))
        · rw [takeS_eq, dropS_eq, List.drop_take]
        · unfold Instr.sliceAt
          simp only [Sem.run_bind, run_underlying hu, Result.andThen_ok]
          unfold Instr.slice
          have hsz : (⟨(s.map (byteAt ρ)).toArray⟩ : ByteArray).size = s.length := by simp [ByteArray.size_mk']
          have b1' : (chi = none ∧ hh = (⟨(s.map (byteAt ρ)).toArray⟩ : ByteArray).size) ∨ (∃ k, chi = some (.int k (hh : Int)) ∧ hh ≤ (⟨(s.map (byteAt ρ)).toArray⟩ : ByteArray).size) := by
            rw [hsz]; exact b1
          simp only [Sem.run_bind, run_underlying hu, Result.andThen_ok]
          simp only [Option.isSome_none, Bool.false_eq_true, if_false, Sem.run_bind, Sem.run_pure, Result.andThen_ok, run_bounds b1' b2]
          congr 2
          apply ByteArray.ext
          simp only [ByteArray.data_extract]
          apply Array.ext'
          simp [List.extract_eq_take_drop, List.map_drop, List.map_take, List.drop_take]
      · cases h
    · cases h
  · rename_i e b off len cap z hu
    obtain ⟨c, sz, cap', hb, hcap, hsz, o, ho, rfl⟩ := hx
    split at h
    · rename_i hh z' h1 hz
      split at h
      · rename_i l h2
        split at h
        · rename_i hc
          simp only [Bool.and_eq_true, Nat.blt_eq, Nat.beq_eq, Nat.ble_eq] at hc
          obtain ⟨⟨hc1, rfl⟩, hc2⟩ := hc
          simp only [Option.some.injEq] at h
          subst h
          have b1 := bound_rel hhi h1
          have b2 := bound_rel hlo h2
          have hle : hh ≤ len := by rcases b1 with ⟨_, rfl⟩ | ⟨_, _, h⟩ <;> omega
          have hle2 : l ≤ hh := by rcases b2 with ⟨_, rfl⟩ | ⟨_, _, h⟩ <;> omega
          have b1' : (chi = none ∧ hh = len) ∨ (∃ k, chi = some (.int k (hh : Int)) ∧ hh ≤ cap') := by
            rcases b1 with h | ⟨k, h, h'⟩
            · exact .inl h
            · exact .inr ⟨k, h, by omega⟩
          refine ⟨.slice (some ⟨c, o + l * z, none⟩) (hh - l) (cap' - l), ⟨c, sz, cap' - l, hb, by omega, ?_, o + l * z, ?_, rfl⟩, fun w => ?_⟩
          · rcases hsz with h0 | h0
            · exact .inl h0
            · right
              have : (cap' - l) * z + l * z = cap' * z := by rw [← Nat.add_mul]; congr 1; omega
              omega
          · rcases ho with rfl | ⟨h0, h1⟩
            · exact .inl rfl
            · exact .inr ⟨by omega, h1⟩
          · unfold Instr.sliceAt
            simp only [Sem.run_bind, run_underlying hu, Result.andThen_ok]
            unfold Instr.slice
            simp only [Sem.run_bind, run_underlying hu, Result.andThen_ok, run_bounds b1' b2, run_sizeOf hz, Sem.run_pure]
            rw [if_neg (by omega)]
            simp [add_none]
        · split at h
          · rename_i hc
            simp only [Bool.and_eq_true, Nat.beq_eq, Nat.ble_eq] at hc
            obtain ⟨rfl, hc2⟩ := hc
            simp only [Option.some.injEq] at h
            subst h
            have b1 := bound_rel hhi h1
            have b2 := bound_rel hlo h2
            have hle : l ≤ len := by rcases b1 with ⟨_, rfl⟩ | ⟨_, _, h⟩ <;> omega
            have b1' : (chi = none ∧ l = len) ∨ (∃ k, chi = some (.int k (l : Int)) ∧ l ≤ cap') := by
              rcases b1 with h | ⟨k, h, h'⟩
              · exact .inl h
              · exact .inr ⟨k, h, by omega⟩
            by_cases hq : cap' = l
            · refine ⟨.slice (some ⟨c, o, none⟩) 0 (cap' - l), ⟨c, sz, cap' - l, hb, by omega, .inl rfl, o, .inr ⟨rfl, rfl⟩, rfl⟩, fun w => ?_⟩
              unfold Instr.sliceAt
              simp only [Sem.run_bind, run_underlying hu, Result.andThen_ok]
              unfold Instr.slice
              simp only [Sem.run_bind, run_underlying hu, Result.andThen_ok, run_bounds b1' b2, run_sizeOf hz, Sem.run_pure]
              rw [if_pos hq, Nat.sub_self]
            · refine ⟨.slice (some ⟨c, o + l * z', none⟩) 0 (cap' - l), ⟨c, sz, cap' - l, hb, by omega, .inl rfl, o + l * z', .inr ⟨rfl, rfl⟩, rfl⟩, fun w => ?_⟩
              unfold Instr.sliceAt
              simp only [Sem.run_bind, run_underlying hu, Result.andThen_ok]
              unfold Instr.slice
              simp only [Sem.run_bind, run_underlying hu, Result.andThen_ok, run_bounds b1' b2, run_sizeOf hz, Sem.run_pure]
              rw [if_neg hq, Nat.sub_self]
              simp [add_none]
          · cases h
      · cases h
    · cases h
  · rename_i n e b off hu
    obtain ⟨c, sz, hb, rfl⟩ := hx
    split at h
    · rename_i hh z h1 hz
      split at h
      · rename_i l h2
        split at h
        · rename_i hc
          simp only [Nat.blt_eq] at hc
          simp only [Option.some.injEq] at h
          subst h
          have b1 := bound_rel hhi h1
          have b2 := bound_rel hlo h2
          have hle : hh ≤ n := by rcases b1 with ⟨_, rfl⟩ | ⟨_, _, h⟩ <;> omega
          have hle2 : l ≤ hh := by rcases b2 with ⟨_, rfl⟩ | ⟨_, _, h⟩ <;> omega
          refine ⟨.slice (some ⟨c, off + l * z, none⟩) (hh - l) (n - l), ⟨c, sz, n - l, hb, by omega, .inl rfl, off + l * z, .inl rfl, rfl⟩, fun w => ?_⟩
          unfold Instr.sliceAt
          simp only [Sem.run_bind, run_underlying hu, Result.andThen_ok, Instr.sureAddr, Sem.run_pure, run_bounds b1 b2, run_sizeOf hz]
          rw [if_neg (by omega)]
          simp [add_none]
        · cases h
      · cases h
    · cases h
  · cases h

end
end Go.Abs
