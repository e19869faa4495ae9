import Derived.Test.YtfhcoiogdgfkcaaGreatOps
import Derived.Laws.Pointers
namespace Go.Abs

section
variable {P : Program} {L : Nat} {ρ : Env} {β : Bij}

theorem ptrT_spec {t : TypeId} (h : ptrT P t = true) : ∃ e, P.underlying t = some (.pointer e) := by
  unfold ptrT at h
  split at h
  · rename_i e he; exact ⟨e, he⟩
  · cases h

theorem run_eq_nils {t e : TypeId} (he : P.underlying t = some (.pointer e)) (w : World) : (Op.equalIn 10000 t (.pointer none) (.pointer none)).run P w = .ok true w := by
  rw [Op.equalIn]
  simp only [Sem.run_bind, run_underlying he, Result.andThen_ok]
  rfl
theorem run_eq_nilr {t e : TypeId} (he : P.underlying t = some (.pointer e)) (a : Addr) (w : World) : (Op.equalIn 10000 t (.pointer none) (.pointer (some a))).run P w = .ok false w := by
  rw [Op.equalIn]
  simp only [Sem.run_bind, run_underlying he, Result.andThen_ok]
  rfl
theorem run_eq_nill {t e : TypeId} (he : P.underlying t = some (.pointer e)) (a : Addr) (w : World) : (Op.equalIn 10000 t (.pointer (some a)) (.pointer none)).run P w = .ok false w := by
  rw [Op.equalIn]
  simp only [Sem.run_bind, run_underlying he, Result.andThen_ok]
  rfl
theorem run_ptr_eq {t : TypeId} {X Y : Operand} {a b : Option Addr} {w : World} {r : Bool} (h : (Op.equalIn 10000 t (.pointer a) (.pointer b)).run P w = .ok r w) :
    (do eqGuard .eql t X Y (.pointer a) (.pointer b); binOp .eql t (.pointer a) (.pointer b) : Sem Value).run P w = .ok (.bool r) w := by
  rw [eqGuard_at_pointer, Sem.run_bind, Sem.run_pure, Result.andThen_ok, binOp]
  · rw [Sem.run_bind, Op.equal, Op.maxDepth, h]; rfl
  all_goals (intros; simp_all)
theorem run_ptr_ne {t : TypeId} {X Y : Operand} {a b : Option Addr} {w : World} {r : Bool} (h : (Op.equalIn 10000 t (.pointer a) (.pointer b)).run P w = .ok r w) :
    (do eqGuard .neq t X Y (.pointer a) (.pointer b); binOp .neq t (.pointer a) (.pointer b) : Sem Value).run P w = .ok (.bool !r) w := by
  rw [eqGuard_at_pointer, Sem.run_bind, Sem.run_pure, Result.andThen_ok, binOp]
  · rw [Sem.run_bind, Op.equal, Op.maxDepth, h]; rfl
  all_goals (intros; simp_all)

theorem binV_sound (hρ : ρ.ok L) {op : BinOp} {t : TypeId} {x y v : V} {cx cy : Value} (X Y : Operand) (hx : VRel β ρ x cx) (hy : VRel β ρ y cy) (h : binV P L op t x y = some v) :
    ∃ cv, VRel β ρ v cv ∧ ∀ w, (do eqGuard op t X Y cx cy; binOp op t cx cy : Sem Value).run P w = .ok cv w := by
  unfold binV at h
  split at h
  · -- int, int
    rename_i k a k' b
    cases hx
    cases hy
    split at h
    · split at h
      · rename_i h0
        have h0' := of_decide_eq_true h0
        simp only [Option.some.injEq] at h
        subst h
        refine ⟨_, rfl, fun w => ?_⟩
        simp [eqGuard_at_int, binOp_shr, Op.shift, Int.not_lt.2 h0']
      · cases h
    · split at h
      · rename_i hk
        have hk' := of_decide_eq_true hk
        subst hk'
        obtain ⟨cv, h1, h2⟩ := intBin_sound (β := β) (ρ := ρ) (P := P) t X Y h
        exact ⟨cv, h1.vrel, h2⟩
      · cases h
  · rename_i k f k' b
    cases hx
    cases hy
    split at h
    · rename_i hk
      have hk' := of_decide_eq_true hk
      subst hk'
      obtain ⟨cv, h1, h2⟩ := symBin_sound (β := β) (P := P) hρ t X Y h
      rw [ofInt_val] at h2
      exact ⟨cv, h1.vrel, h2⟩
    · cases h
  · rename_i k a k' g
    cases hx
    cases hy
    split at h
    · rename_i hk
      have hk' := of_decide_eq_true hk
      subst hk'
      obtain ⟨cv, h1, h2⟩ := symBin_sound (β := β) (P := P) hρ t X Y h
      rw [ofInt_val] at h2
      exact ⟨cv, h1.vrel, h2⟩
    · cases h
  · rename_i k f k' g
    cases hx
    cases hy
    split at h
    · rename_i hk
      have hk' := of_decide_eq_true hk
      subst hk'
      obtain ⟨cv, h1, h2⟩ := symBin_sound (β := β) (P := P) hρ t X Y h
      exact ⟨cv, h1.vrel, h2⟩
    · cases h
  · -- strings
    rename_i a b
    obtain ⟨la, rfl⟩ := hx
    obtain ⟨lb, rfl⟩ := hy
    split at h
    · split at h
      · rename_i hle
        have hle' := Nat.le_of_ble_eq_true hle
        simp only [Option.some.injEq] at h
        subst h
        refine ⟨.string ⟨((a ++ b).map (byteAt ρ)).toArray⟩, ⟨fun c hc => ?_, rfl⟩, fun w => ?_⟩
        · rcases List.mem_append.1 hc with h1 | h1
          · exact la c h1
          · exact lb c h1
        · simp only [eqGuard_at_string, Sem.run_bind, Sem.run_pure, Result.andThen_ok, binOp_string_add]
          rw [run_string_add_sum w _ _ (by simp [ByteArray.size_mk']; omega), ByteArray.mk_append_mk, List.map_append]
      · cases h
    · split at h
      · rename_i r hr
        simp only [Option.some.injEq] at h
        subst h
        refine ⟨_, rfl, fun w => ?_⟩
        simp only [eqGuard_at_string, Sem.run_bind, Sem.run_pure, Result.andThen_ok, binOp_string_eql, ByteArray.toList_mk, strEq_sound hρ la lb hr]
      · cases h
    · split at h
      · rename_i r hr
        simp only [Option.some.injEq] at h
        subst h
        refine ⟨_, rfl, fun w => ?_⟩
        simp only [eqGuard_at_string, Sem.run_bind, Sem.run_pure, Result.andThen_ok, binOp_string_neq, ByteArray.toList_mk, strEq_sound hρ la lb hr]
      · cases h
    · cases h
  · -- nil, nil
    cases hx
    cases hy
    split at h
    · rename_i hp
      obtain ⟨e, he⟩ := ptrT_spec hp
      simp only [Option.some.injEq] at h
      subst h
      refine ⟨_, rfl, fun w => ?_⟩
      exact run_ptr_eq (run_eq_nils he w)
    · rename_i hp
      obtain ⟨e, he⟩ := ptrT_spec hp
      simp only [Option.some.injEq] at h
      subst h
      refine ⟨_, rfl, fun w => ?_⟩
      exact run_ptr_ne (run_eq_nils he w)
    · cases h
  · cases hx
    obtain ⟨c, sz, hb, rfl⟩ := hy
    split at h
    · rename_i hp
      obtain ⟨e, he⟩ := ptrT_spec hp
      simp only [Option.some.injEq] at h
      subst h
      refine ⟨_, rfl, fun w => ?_⟩
      exact run_ptr_eq (run_eq_nilr he _ w)
    · rename_i hp
      obtain ⟨e, he⟩ := ptrT_spec hp
      simp only [Option.some.injEq] at h
      subst h
      refine ⟨_, rfl, fun w => ?_⟩
      exact run_ptr_ne (run_eq_nilr he _ w)
    · cases h
  · cases hy
    obtain ⟨c, sz, hb, rfl⟩ := hx
    split at h
    · rename_i hp
      obtain ⟨e, he⟩ := ptrT_spec hp
      simp only [Option.some.injEq] at h
      subst h
      refine ⟨_, rfl, fun w => ?_⟩
      exact run_ptr_eq (run_eq_nill he _ w)
    · rename_i hp
      obtain ⟨e, he⟩ := ptrT_spec hp
      simp only [Option.some.injEq] at h
      subst h
      refine ⟨_, rfl, fun w => ?_⟩
      exact run_ptr_ne (run_eq_nill he _ w)
    · cases h
  · -- structs
    rename_i a b
    obtain ⟨ca, rfl, ra⟩ := hx
    obtain ⟨cb, rfl, rb⟩ := hy
    split at h
    · rename_i fs hfs
      have hflat : P.underlying t = some (.struct (P.fieldsOf t)) ∧ P.stoodInHeld t = false ∧ P.eqGuardType P.depth t = false ∧ (fs.any fun f => f.name == "_") = false ∧ (P.fieldsOf t).toList = fs := by
        unfold flatS at hfs
        split at hfs
        · rename_i fs' hu
          split at hfs
          · cases hfs
          · rename_i hc
            simp only [Option.some.injEq] at hfs
            simp only [Bool.or_eq_false_iff] at hc
            subst hfs
            have : P.fieldsOf t = fs' := by unfold Program.fieldsOf; rw [hu]
            rw [this]
            exact ⟨hu, hc.1.1, hc.1.2, hc.2, rfl⟩
        · cases hfs
      obtain ⟨u1, u2, u3, u4, u5⟩ := hflat
      have key : ∀ r, eqF P a b fs = some r → ∀ w, (Op.equalIn 10000 t (.agg ca) (.agg cb)).run P w = .ok r w := by
        intro r hr w
        rw [run_equalIn_struct w 9999 t ca cb u1 u2, u5]
        exact eqF_sound hρ ra rb 9998 u4 hr w
      split at h
      · split at h
        · rename_i r hr
          simp only [Option.some.injEq] at h
          subst h
          refine ⟨_, rfl, fun w => ?_⟩
          rw [Sem.run_bind, run_eqGuard_agg w .eql t X Y ca cb u3]
          simp only [Result.andThen_ok]
          rw [run_eql_struct, key r hr]
          rfl
        · cases h
      · split at h
        · rename_i r hr
          simp only [Option.some.injEq] at h
          subst h
          refine ⟨_, rfl, fun w => ?_⟩
          rw [Sem.run_bind, run_eqGuard_agg w .neq t X Y ca cb u3]
          simp only [Result.andThen_ok]
          rw [run_neq_struct, key r hr]
          rfl
        · cases h
      · cases h
    · cases h
  · cases h

/-! the other operations on temporaries -/

theorem natOf_rel {x : V} {cx : Value} {n : Nat} (hx : VRel β ρ x cx) (h : natOf x = some n) : ∃ k, cx = .int k (n : Int) := by
  unfold natOf at h
  split at h
  · rename_i k m
    simp only [Option.some.injEq] at h
    subst h
    exact ⟨k, hx⟩
  · cases h

theorem aUn_sound {op : UnOp} {x v : V} {cx : Value} (hx : VRel β ρ x cx) (h : aUn op x = some v) : ∃ cv, VRel β ρ v cv ∧ ∀ w, (Op.unary op cx).run P w = .ok cv w := by
  unfold aUn at h
  split at h
  · cases hx
    simp only [Option.some.injEq] at h
    subst h
    exact ⟨_, rfl, fun w => by simp [Op.unary]⟩
  · cases hx
    simp only [Option.some.injEq] at h
    subst h
    exact ⟨_, rfl, fun w => by simp [Op.unary, Op.intArith]⟩
  · cases h

theorem aConv_sound (hρ : ρ.ok L) {s d : TypeId} {x v : V} {cx : Value} (hx : VRel β ρ x cx) (h : aConv P L s d x = some v) : ∃ cv, VRel β ρ v cv ∧ ∀ w, (convert s d cx).run P w = .ok cv w := by
  unfold aConv at h
  split at h
  · rename_i ds k k' n hs hd
    cases hx
    simp only [Option.some.injEq] at h
    subst h
    refine ⟨_, rfl, fun w => ?_⟩
    unfold convert
    simp only [Sem.run_bind, run_underlying hs, run_underlying hd, Result.andThen_ok]
    cases ds <;> simp [Conv.intToInt]
  · rename_i ds k k' f hs hd
    cases hx
    obtain ⟨h1, h2⟩ := mkV_sound (β := β) hρ h
    refine ⟨_, h1.vrel, fun w => ?_⟩
    unfold convert
    simp only [Sem.run_bind, run_underlying hs, run_underlying hd, Result.andThen_ok]
    cases ds <;> simp [Conv.intToInt, h2]
  · cases h

theorem fieldAt_spec {t : TypeId} {f o : Nat} {u : TypeId} (h : fieldAt P t f = some (o, u)) : ∃ fs x, P.underlying t = some (.struct fs) ∧ fs[f]? = some x ∧ x.offset = o ∧ x.type = u := by
  unfold fieldAt at h
  split at h
  · rename_i fs hu
    split at h
    · rename_i x hx
      simp only [Option.some.injEq, Prod.mk.injEq] at h
      exact ⟨fs, x, hu, hx, h.1, h.2⟩
    · cases h
  · cases h

theorem szOf_spec {t : TypeId} {n : Nat} (h : szOf P t = some n) : ∃ i, P.info? t = some i ∧ i.size = n := by
  unfold szOf at h
  split at h
  · rename_i i hi
    simp only [Option.some.injEq] at h
    exact ⟨i, hi, h⟩
  · cases h
theorem run_sizeOf {t : TypeId} {n : Nat} (h : szOf P t = some n) (w : World) : (sizeOf t).run P w = .ok n w := by
  obtain ⟨i, hi, rfl⟩ := szOf_spec h
  simp [sizeOf, typeInfo, hi]

theorem aFieldAddr_sound {s : TypeId} {f : Nat} {x v : V} {cx : Value} (hx : VRel β ρ x cx) (h : aFieldAddr P s x f = some v) : ∃ cv, VRel β ρ v cv ∧ ∀ w, (Instr.fieldAt s cx f).run P w = .ok cv w := by
  unfold aFieldAddr at h
  split at h
  · rename_i o u b off hf
    obtain ⟨c, sz, hb, rfl⟩ := hx
    split at h
    · rename_i m hs
      simp only [Option.some.injEq] at h
      subst h
      obtain ⟨fs, x, h1, h2, h3, h4⟩ := fieldAt_spec hf
      refine ⟨_, ⟨c, sz, hb, rfl⟩, fun w => ?_⟩
      unfold Instr.fieldAt
      simp only [Sem.run_bind, run_underlying h1, Result.andThen_ok, h2]
      simp only [Instr.sureAddr, Sem.run_pure, Result.andThen_ok, fieldPlace, Sem.run_bind, h4, run_sizeOf hs, h3, add_none]
      simp
    · cases h
  · cases h

theorem aIndexAddr_sound {t : TypeId} {x ix v : V} {cx ci : Value} (hx : VRel β ρ x cx) (hi : VRel β ρ ix ci) (h : aIndexAddr P t x ix = some v) : ∃ cv, VRel β ρ v cv ∧ ∀ w, (Instr.indexAt t cx ci).run P w = .ok cv w := by
  unfold aIndexAddr at h
  split at h
  · rename_i i b off n e hn hu
    obtain ⟨k, rfl⟩ := natOf_rel hi hn
    obtain ⟨c, sz, hb, rfl⟩ := hx
    split at h
    · rename_i z hlt hz
      simp only [Nat.blt_eq] at hlt
      simp only [Option.some.injEq] at h
      subst h
      refine ⟨_, ⟨c, sz, hb, rfl⟩, fun w => ?_⟩
      unfold Instr.indexAt
      simp only [asIntOf, Sem.run_bind, Sem.run_pure, Result.andThen_ok, run_underlying hu, Instr.sureAddr]
      have : (0 : Int) ≤ (i : Int) ∧ (i : Int) < (n : Int) := by omega
      simp [this, run_sizeOf hz, add_none]
    · cases h
  · rename_i i b off len _ _ e hn hu
    obtain ⟨k, rfl⟩ := natOf_rel hi hn
    obtain ⟨c, sz, cap', hb, _, _, o, ho, rfl⟩ := hx
    split at h
    · rename_i z hlt hz
      simp only [Nat.blt_eq] at hlt
      obtain rfl : o = off := by rcases ho with h | ⟨h, _⟩ <;> omega
      simp only [Option.some.injEq] at h
      subst h
      refine ⟨_, ⟨c, sz, hb, rfl⟩, fun w => ?_⟩
      unfold Instr.indexAt
      simp only [asIntOf, Sem.run_bind, Sem.run_pure, Result.andThen_ok, run_underlying hu]
      have : (0 : Int) ≤ (i : Int) ∧ (i : Int) < (len : Int) := by omega
      simp [this, run_sizeOf hz, add_none]
    · cases h
  · cases h

theorem nthS_spec : ∀ {i : Nat} {s : List Nat} {c : Nat}, nthS i s = some c → s[i]? = some c
  | _, [], c, h => by simp [nthS] at h
  | 0, x :: s, c, h => by simpa [nthS] using h
  | i + 1, _ :: s, c, h => by simpa using nthS_spec (i := i) (s := s) (by simpa [nthS] using h)

theorem byteV_rel (hρ : ρ.ok L) {c : Nat} (h : c < 260) : CRel β ρ (byteV c) (.int .u8 ((byteAt ρ c).toNat : Int)) := by
  unfold byteV
  split
  · rename_i hb
    simp only [Nat.blt_eq] at hb
    rw [byteAt_lit hb]
    rfl
  · rename_i hb
    have hb' : ¬ c < 256 := by rw [← Bool.not_eq_true, Nat.blt_eq] at hb; exact hb
    obtain ⟨h1, h2, h3⟩ := byteAt_sym hρ hb' h
    show Value.int .u8 _ = .int .u8 ((digitForm (c - 256)).val ρ)
    have hd : (digitForm (c - 256)).val ρ = 48 + ρ.d (c - 256) := by
      have : c - 256 = 0 ∨ c - 256 = 1 ∨ c - 256 = 2 ∨ c - 256 = 3 := by omega
      rcases this with e | e | e | e <;> rw [e] <;> simp [digitForm, Form.val, Form.lin] <;> omega
    rw [hd, h1, Int.toNat_of_nonneg (by omega)]

theorem aIndex_sound (hρ : ρ.ok L) {t : TypeId} {x ix v : V} {cx ci : Value} (hx : VRel β ρ x cx) (hi : VRel β ρ ix ci) (h : aIndex P t x ix = some v) : ∃ cv, VRel β ρ v cv ∧ ∀ w, (Instr.index t cx ci).run P w = .ok cv w := by
  unfold aIndex at h
  split at h
  · rename_i i s hn hu
    obtain ⟨k, rfl⟩ := natOf_rel hi hn
    obtain ⟨ls, rfl⟩ := hx
    split at h
    · rename_i c hc
      simp only [Option.some.injEq] at h
      subst h
      have hc' := nthS_spec hc
      have hmem : c ∈ s := List.mem_of_getElem? hc'
      refine ⟨_, (byteV_rel hρ (ls c hmem)).vrel, fun w => ?_⟩
      unfold Instr.index
      simp only [asIntOf, Sem.run_bind, Sem.run_pure, Result.andThen_ok, run_underlying hu]
      have hlt : i < s.length := by
        rcases Nat.lt_or_ge i s.length with h1 | h1
        · exact h1
        · rw [List.getElem?_eq_none h1] at hc'; cases hc'
      have hget : (⟨(s.map (byteAt ρ)).toArray⟩ : ByteArray)[(i : Int).toNat]? = some (byteAt ρ c) := by
        rw [ByteArray.getElem?_lt' _ _ (by simp [ByteArray.size_mk']; exact hlt)]
        have h2 : s[i] = c := by rw [List.getElem?_eq_getElem hlt] at hc'; simpa using hc'
        show some ((s.map (byteAt ρ)).toArray[(i : Int).toNat]'_) = _
        simp [h2]
      rw [if_pos (by omega), hget]
      simp
    · cases h
  · cases h

theorem aLen_sound {t ty : TypeId} {x v : V} {cx : Value} (hx : VRel β ρ x cx) (h : aLen P t x = some v) : ∃ cv, VRel β ρ v cv ∧ ∀ w, (Builtin.len_ #[t] ty #[cx]).run P w = .ok cv w := by
  unfold aLen at h
  split at h
  · rename_i s hu
    obtain ⟨ls, rfl⟩ := hx
    simp only [Option.some.injEq] at h
    subst h
    refine ⟨_, rfl, fun w => ?_⟩
    unfold Builtin.len_
    simp [run_underlying hu, goInt, ByteArray.size_mk']
  · rename_i hu
    obtain ⟨c, sz, cap', hb, _, _, o, ho, rfl⟩ := hx
    simp only [Option.some.injEq] at h
    subst h
    refine ⟨_, rfl, fun w => ?_⟩
    unfold Builtin.len_
    simp [run_underlying hu, goInt]
  · rename_i hu
    cases hx
    simp only [Option.some.injEq] at h
    subst h
    refine ⟨_, rfl, fun w => ?_⟩
    unfold Builtin.len_
    simp [run_underlying hu, goInt]
  · rename_i hu
    simp only [Option.some.injEq] at h
    subst h
    refine ⟨_, rfl, fun w => ?_⟩
    unfold Builtin.len_
    simp [run_underlying hu, goInt]
  · rename_i hu
    split at h
    · rename_i hu2
      simp only [Option.some.injEq] at h
      subst h
      refine ⟨_, rfl, fun w => ?_⟩
      unfold Builtin.len_
      simp [run_underlying hu, run_underlying hu2, goInt]
    · cases h
  · cases h

end
end Go.Abs
