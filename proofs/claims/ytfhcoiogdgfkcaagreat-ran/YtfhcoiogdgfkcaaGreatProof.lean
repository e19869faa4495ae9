import Derived.Test.YtfhcoiogdgfkcaaGreatRows
import Derived.Test.YtfhcoiogdgfkcaaGreatFn
import Derived.Test.YtfhcoiogdgfkcaaGreatEval1a
import Derived.Test.YtfhcoiogdgfkcaaGreatEval1b
import Derived.Test.YtfhcoiogdgfkcaaGreatEval1c
import Derived.Test.YtfhcoiogdgfkcaaGreatEval1d
import Derived.Test.YtfhcoiogdgfkcaaGreatEval1e
import Derived.Test.YtfhcoiogdgfkcaaGreatEval1f
import Derived.Test.YtfhcoiogdgfkcaaGreatEval1g
import Derived.Test.YtfhcoiogdgfkcaaGreatEval2a
import Derived.Test.YtfhcoiogdgfkcaaGreatEval2b
import Derived.Test.YtfhcoiogdgfkcaaGreatEval2c
import Derived.Test.YtfhcoiogdgfkcaaGreatEval2d
import Derived.Test.YtfhcoiogdgfkcaaGreatEval2e
import Derived.Test.YtfhcoiogdgfkcaaGreatEval2f
import Derived.Test.YtfhcoiogdgfkcaaGreatEval2g
import Derived.Test.YtfhcoiogdgfkcaaGreatEval3a
import Derived.Test.YtfhcoiogdgfkcaaGreatEval3b
import Derived.Test.YtfhcoiogdgfkcaaGreatEval3c
import Derived.Test.YtfhcoiogdgfkcaaGreatEval3d
import Derived.Test.YtfhcoiogdgfkcaaGreatEval3e
import Derived.Test.YtfhcoiogdgfkcaaGreatEval3f
import Derived.Test.YtfhcoiogdgfkcaaGreatEval3g
import Derived.Test.YtfhcoiogdgfkcaaGreatEval4a
import Derived.Test.YtfhcoiogdgfkcaaGreatEval4b
import Derived.Test.YtfhcoiogdgfkcaaGreatEval4c
import Derived.Test.YtfhcoiogdgfkcaaGreatEval4d
import Derived.Test.YtfhcoiogdgfkcaaGreatEval4e
import Derived.Test.YtfhcoiogdgfkcaaGreatEval4f
import Derived.Test.YtfhcoiogdgfkcaaGreatEval4g
import Derived.DataShut
import Derived.WalkKit
import Derived.ProofKit
import Derived.OpenShut
namespace Go.Proofs.YtfhcoiogdgfkcaaGreat.ran
open Go.ChangeShapes Go.WideShapes Go.ChangeAt Go.RowKit Go.Abs

/-! ### 'pick' -/
theorem wrap64_fits (x : Int) (h0 : -9223372036854775808 ≤ x) (h1 : x ≤ 9223372036854775807) : IntKind.i64.wrap x = x := IntWalk.i64_in x ⟨h0, h1⟩

def picked (c n : Int) : Int := (if c < 0 then -(c + 1) else c).tmod n

theorem pick_neg (c n : Int) (h0 : -9223372036854775808 ≤ c) (h : c < 0) (hn : n ≠ 0) (w : World) :
    Calls Tryz.prog 4 #[.int .i64 c, .int .i64 n] w fun e w' => e = .returned (.int .i64 ((-(c + 1)).tmod n)) ∧ w' = w := by
  have e1 : IntKind.i64.wrap (c + 1) = c + 1 := wrap64_fits _ (by omega) (by omega)
  have e2 : IntKind.i64.wrap (0 - (c + 1)) = -(c + 1) := by rw [wrap64_fits _ (by omega) (by omega)]; omega
  have hd : decide (c < 0) = true := by simpa using h
  go_enter Tryz.func4, Tryz.ntmps4
  go_wp2
  go_ret
  simp
theorem pick_pos (c n : Int) (h : ¬ c < 0) (hn : n ≠ 0) (w : World) :
    Calls Tryz.prog 4 #[.int .i64 c, .int .i64 n] w fun e w' => e = .returned (.int .i64 (c.tmod n)) ∧ w' = w := by
  have hd : decide (c < 0) = false := by simpa using h
  go_enter Tryz.func4, Tryz.ntmps4
  go_wp2
  go_ret
  simp
  exact (Int.tmod_eq_emod_of_nonneg (by omega)).symm
theorem pick_walk (c n : Int) (h0 : -9223372036854775808 ≤ c) (hn : n ≠ 0) (w : World) :
    Calls Tryz.prog 4 #[.int .i64 c, .int .i64 n] w fun e w' => e = .returned (.int .i64 (picked c n)) ∧ w' = w := by
  unfold picked
  by_cases h : c < 0
  · rw [if_pos h]; exact pick_neg c n h0 h hn w
  · rw [if_neg h]; exact pick_pos c n h hn w
theorem picked_range (c n : Int) (hn : 0 < n) : 0 ≤ picked c n ∧ picked c n < n := by
  unfold picked
  have h0 : 0 ≤ (if c < 0 then -(c + 1) else c) := by split <;> omega
  rw [Int.tmod_eq_emod_of_nonneg h0]
  exact ⟨Int.emod_nonneg _ (by omega), Int.emod_lt_of_pos _ hn⟩

/-! ### what the digits stand for -/
def rho (a0 a1 n : Int) : Env := ⟨fun i => match i with | 0 => n % 10 | 1 => n / 10 % 10 | 2 => n / 100 % 10 | _ => n / 1000 % 10, fun i => match i with | 0 => a0 | _ => a1⟩

theorem ok_of {L : Nat} {ρ : Env} (h0 : loD L 0 ≤ ρ.d 0 ∧ ρ.d 0 ≤ hiD L 0) (h1 : loD L 1 ≤ ρ.d 1 ∧ ρ.d 1 ≤ hiD L 1) (h2 : loD L 2 ≤ ρ.d 2 ∧ ρ.d 2 ≤ hiD L 2) (h3 : loD L 3 ≤ ρ.d 3 ∧ ρ.d 3 ≤ hiD L 3) : ρ.ok L := by
  intro i hi
  have : i = 0 ∨ i = 1 ∨ i = 2 ∨ i = 3 := by omega
  rcases this with rfl | rfl | rfl | rfl
  · exact h0
  · exact h1
  · exact h2
  · exact h3

theorem noNumB : (Tryz.prog.funcs.toList.all fun fn => fn.name != "runtime.NumGoroutine") = true := by kernel_rfl
theorem noNum : NoNum Tryz.prog := by
  intro f fn hf
  have h := List.all_eq_true.1 noNumB fn (by rw [← Array.getElem?_toList] at hf; exact List.mem_of_getElem? hf)
  simpa using h
theorem mixed : Tryz.prog.follows .mixedOrders = true := by kernel_rfl

theorem foldl_get {α : Type} : ∀ (l : List (Nat × α)) (t : Tr α) (f : Nat) (x : α), (l.foldl (fun t (p : Nat × α) => t.put p.1 p.2) t).get f = some x → (f, x) ∈ l ∨ t.get f = some x
  | [], _, _, _, h => .inr h
  | p :: l, t, f, x, h => by
    rw [List.foldl_cons] at h
    rcases foldl_get l _ f x h with h1 | h1
    · exact .inl (List.mem_cons_of_mem _ h1)
    · rw [Tr.get_put] at h1
      by_cases e : f = p.1
      · rw [if_pos e] at h1
        cases h1
        left
        rw [e]
        exact List.mem_cons_self ..
      · rw [if_neg e] at h1
        exact .inr h1

theorem vl_two {β : Bij} {ρ : Env} {i : Nat} {m : Int} {cargs : Array Value} (h : VLRel β ρ [.raw i, .int .i64 m] cargs.toList) : cargs = #[.int .i64 (ρ.raw i), .int .i64 m] := by
  generalize hl : cargs.toList = l at h
  cases h with
  | cons h1 h2 =>
    cases h2 with
    | cons h3 h4 =>
      cases h4
      cases h1
      cases h3
      apply Array.ext'
      exact hl

theorem fns1 : ∀ f ft, C1.fns f = some ft → FnOk Tryz.prog 1 C1.plan f ft := by
  intro f ft h
  rcases foldl_get C1.fnList .nil f ft h with h1 | h1
  · exact C1.allOk (f, ft) h1
  · rw [Tr.get_nil] at h1; cases h1
theorem orc1 {ρ : Env} {k : Nat} (h0 : -9223372036854775808 ≤ ρ.raw 0) (h1 : -9223372036854775808 ≤ ρ.raw 1) (hk : picked (ρ.raw 0) 34 = (k : Int)) (hn : picked (ρ.raw 1) 10000 = C1.nForm.val ρ) : OrcOk Tryz.prog ρ (C1.orc k) := by
  intro f args v h
  unfold C1.orc at h
  cases hf : Nat.beq f 4 with
  | false => rw [hf] at h; cases h
  | true =>
    rw [hf] at h
    have hf' := Nat.eq_of_beq_eq_true hf
    subst hf'
    have h' : C1.orcV k args = some v := h
    refine ⟨⟨Tryz.f4, Tryz.func4, rfl⟩, fun β cargs w ha => ?_⟩
    unfold C1.orcV at h'
    split at h'
    · rename_i m
      split at h'
      · rename_i hm
        have hm' := Nat.eq_of_beq_eq_true hm
        subst hm'
        cases h'
        rw [vl_two ha]
        refine (pick_walk (ρ.raw 0) 34 h0 (by omega) w).mono fun e w' he => ?_
        obtain ⟨rfl, rfl⟩ := he
        exact ⟨_, rfl, by rw [hk]; rfl, rfl⟩
      · cases h'
    · rename_i m
      split at h'
      · rename_i hm
        have hm' := Nat.eq_of_beq_eq_true hm
        subst hm'
        cases h'
        rw [vl_two ha]
        refine (pick_walk (ρ.raw 1) 10000 h1 (by omega) w).mono fun e w' he => ?_
        obtain ⟨rfl, rfl⟩ := he
        exact ⟨_, rfl, by rw [hn]; rfl, rfl⟩
      · cases h'
    · cases h'
theorem ok1 (k : Nat) (hk : k < 34) : C1.okT k = true := match k, hk with
  | 0, _ => C1.t0
  | 1, _ => C1.t1
  | 2, _ => C1.t2
  | 3, _ => C1.t3
  | 4, _ => C1.t4
  | 5, _ => C1.t5
  | 6, _ => C1.t6
  | 7, _ => C1.t7
  | 8, _ => C1.t8
  | 9, _ => C1.t9
  | 10, _ => C1.t10
  | 11, _ => C1.t11
  | 12, _ => C1.t12
  | 13, _ => C1.t13
  | 14, _ => C1.t14
  | 15, _ => C1.t15
  | 16, _ => C1.t16
  | 17, _ => C1.t17
  | 18, _ => C1.t18
  | 19, _ => C1.t19
  | 20, _ => C1.t20
  | 21, _ => C1.t21
  | 22, _ => C1.t22
  | 23, _ => C1.t23
  | 24, _ => C1.t24
  | 25, _ => C1.t25
  | 26, _ => C1.t26
  | 27, _ => C1.t27
  | 28, _ => C1.t28
  | 29, _ => C1.t29
  | 30, _ => C1.t30
  | 31, _ => C1.t31
  | 32, _ => C1.t32
  | 33, _ => C1.t33
  | n + 34, h => absurd h (by omega)
theorem run1 {ρ : Env} {k : Nat} (hρ : ρ.ok 1) (h0 : -9223372036854775808 ≤ ρ.raw 0) (h1 : -9223372036854775808 ≤ ρ.raw 1) (hlt : k < 34) (hk : picked (ρ.raw 0) 34 = (k : Int)) (hn : picked (ρ.raw 1) 10000 = C1.nForm.val ρ) (w : World) :
    Calls Tryz.prog 3 #[.int .i64 (ρ.raw 0), .int .i64 (ρ.raw 1)] w fun e w' => e = .returned (.bool true) ∧ Grown w w' := by
  have hr := ok1 k hlt
  unfold C1.okT C1.isTrue at hr
  split at hr
  · rename_i h' nx' hx
    exact run_ok (plan := C1.plan) hρ noNum mixed fns1 (orc1 h0 h1 hk hn) hx (.cons rfl (.cons rfl .nil)) w
  · cases hr

theorem fns2 : ∀ f ft, C2.fns f = some ft → FnOk Tryz.prog 2 C2.plan f ft := by
  intro f ft h
  rcases foldl_get C2.fnList .nil f ft h with h1 | h1
  · exact C2.allOk (f, ft) h1
  · rw [Tr.get_nil] at h1; cases h1
theorem orc2 {ρ : Env} {k : Nat} (h0 : -9223372036854775808 ≤ ρ.raw 0) (h1 : -9223372036854775808 ≤ ρ.raw 1) (hk : picked (ρ.raw 0) 34 = (k : Int)) (hn : picked (ρ.raw 1) 10000 = C2.nForm.val ρ) : OrcOk Tryz.prog ρ (C2.orc k) := by
  intro f args v h
  unfold C2.orc at h
  cases hf : Nat.beq f 4 with
  | false => rw [hf] at h; cases h
  | true =>
    rw [hf] at h
    have hf' := Nat.eq_of_beq_eq_true hf
    subst hf'
    have h' : C2.orcV k args = some v := h
    refine ⟨⟨Tryz.f4, Tryz.func4, rfl⟩, fun β cargs w ha => ?_⟩
    unfold C2.orcV at h'
    split at h'
    · rename_i m
      split at h'
      · rename_i hm
        have hm' := Nat.eq_of_beq_eq_true hm
        subst hm'
        cases h'
        rw [vl_two ha]
        refine (pick_walk (ρ.raw 0) 34 h0 (by omega) w).mono fun e w' he => ?_
        obtain ⟨rfl, rfl⟩ := he
        exact ⟨_, rfl, by rw [hk]; rfl, rfl⟩
      · cases h'
    · rename_i m
      split at h'
      · rename_i hm
        have hm' := Nat.eq_of_beq_eq_true hm
        subst hm'
        cases h'
        rw [vl_two ha]
        refine (pick_walk (ρ.raw 1) 10000 h1 (by omega) w).mono fun e w' he => ?_
        obtain ⟨rfl, rfl⟩ := he
        exact ⟨_, rfl, by rw [hn]; rfl, rfl⟩
      · cases h'
    · cases h'
theorem ok2 (k : Nat) (hk : k < 34) : C2.okT k = true := match k, hk with
  | 0, _ => C2.t0
  | 1, _ => C2.t1
  | 2, _ => C2.t2
  | 3, _ => C2.t3
  | 4, _ => C2.t4
  | 5, _ => C2.t5
  | 6, _ => C2.t6
  | 7, _ => C2.t7
  | 8, _ => C2.t8
  | 9, _ => C2.t9
  | 10, _ => C2.t10
  | 11, _ => C2.t11
  | 12, _ => C2.t12
  | 13, _ => C2.t13
  | 14, _ => C2.t14
  | 15, _ => C2.t15
  | 16, _ => C2.t16
  | 17, _ => C2.t17
  | 18, _ => C2.t18
  | 19, _ => C2.t19
  | 20, _ => C2.t20
  | 21, _ => C2.t21
  | 22, _ => C2.t22
  | 23, _ => C2.t23
  | 24, _ => C2.t24
  | 25, _ => C2.t25
  | 26, _ => C2.t26
  | 27, _ => C2.t27
  | 28, _ => C2.t28
  | 29, _ => C2.t29
  | 30, _ => C2.t30
  | 31, _ => C2.t31
  | 32, _ => C2.t32
  | 33, _ => C2.t33
  | n + 34, h => absurd h (by omega)
theorem run2 {ρ : Env} {k : Nat} (hρ : ρ.ok 2) (h0 : -9223372036854775808 ≤ ρ.raw 0) (h1 : -9223372036854775808 ≤ ρ.raw 1) (hlt : k < 34) (hk : picked (ρ.raw 0) 34 = (k : Int)) (hn : picked (ρ.raw 1) 10000 = C2.nForm.val ρ) (w : World) :
    Calls Tryz.prog 3 #[.int .i64 (ρ.raw 0), .int .i64 (ρ.raw 1)] w fun e w' => e = .returned (.bool true) ∧ Grown w w' := by
  have hr := ok2 k hlt
  unfold C2.okT C2.isTrue at hr
  split at hr
  · rename_i h' nx' hx
    exact run_ok (plan := C2.plan) hρ noNum mixed fns2 (orc2 h0 h1 hk hn) hx (.cons rfl (.cons rfl .nil)) w
  · cases hr

theorem fns3 : ∀ f ft, C3.fns f = some ft → FnOk Tryz.prog 3 C3.plan f ft := by
  intro f ft h
  rcases foldl_get C3.fnList .nil f ft h with h1 | h1
  · exact C3.allOk (f, ft) h1
  · rw [Tr.get_nil] at h1; cases h1
theorem orc3 {ρ : Env} {k : Nat} (h0 : -9223372036854775808 ≤ ρ.raw 0) (h1 : -9223372036854775808 ≤ ρ.raw 1) (hk : picked (ρ.raw 0) 34 = (k : Int)) (hn : picked (ρ.raw 1) 10000 = C3.nForm.val ρ) : OrcOk Tryz.prog ρ (C3.orc k) := by
  intro f args v h
  unfold C3.orc at h
  cases hf : Nat.beq f 4 with
  | false => rw [hf] at h; cases h
  | true =>
    rw [hf] at h
    have hf' := Nat.eq_of_beq_eq_true hf
    subst hf'
    have h' : C3.orcV k args = some v := h
    refine ⟨⟨Tryz.f4, Tryz.func4, rfl⟩, fun β cargs w ha => ?_⟩
    unfold C3.orcV at h'
    split at h'
    · rename_i m
      split at h'
      · rename_i hm
        have hm' := Nat.eq_of_beq_eq_true hm
        subst hm'
        cases h'
        rw [vl_two ha]
        refine (pick_walk (ρ.raw 0) 34 h0 (by omega) w).mono fun e w' he => ?_
        obtain ⟨rfl, rfl⟩ := he
        exact ⟨_, rfl, by rw [hk]; rfl, rfl⟩
      · cases h'
    · rename_i m
      split at h'
      · rename_i hm
        have hm' := Nat.eq_of_beq_eq_true hm
        subst hm'
        cases h'
        rw [vl_two ha]
        refine (pick_walk (ρ.raw 1) 10000 h1 (by omega) w).mono fun e w' he => ?_
        obtain ⟨rfl, rfl⟩ := he
        exact ⟨_, rfl, by rw [hn]; rfl, rfl⟩
      · cases h'
    · cases h'
theorem ok3 (k : Nat) (hk : k < 34) : C3.okT k = true := match k, hk with
  | 0, _ => C3.t0
  | 1, _ => C3.t1
  | 2, _ => C3.t2
  | 3, _ => C3.t3
  | 4, _ => C3.t4
  | 5, _ => C3.t5
  | 6, _ => C3.t6
  | 7, _ => C3.t7
  | 8, _ => C3.t8
  | 9, _ => C3.t9
  | 10, _ => C3.t10
  | 11, _ => C3.t11
  | 12, _ => C3.t12
  | 13, _ => C3.t13
  | 14, _ => C3.t14
  | 15, _ => C3.t15
  | 16, _ => C3.t16
  | 17, _ => C3.t17
  | 18, _ => C3.t18
  | 19, _ => C3.t19
  | 20, _ => C3.t20
  | 21, _ => C3.t21
  | 22, _ => C3.t22
  | 23, _ => C3.t23
  | 24, _ => C3.t24
  | 25, _ => C3.t25
  | 26, _ => C3.t26
  | 27, _ => C3.t27
  | 28, _ => C3.t28
  | 29, _ => C3.t29
  | 30, _ => C3.t30
  | 31, _ => C3.t31
  | 32, _ => C3.t32
  | 33, _ => C3.t33
  | n + 34, h => absurd h (by omega)
theorem run3 {ρ : Env} {k : Nat} (hρ : ρ.ok 3) (h0 : -9223372036854775808 ≤ ρ.raw 0) (h1 : -9223372036854775808 ≤ ρ.raw 1) (hlt : k < 34) (hk : picked (ρ.raw 0) 34 = (k : Int)) (hn : picked (ρ.raw 1) 10000 = C3.nForm.val ρ) (w : World) :
    Calls Tryz.prog 3 #[.int .i64 (ρ.raw 0), .int .i64 (ρ.raw 1)] w fun e w' => e = .returned (.bool true) ∧ Grown w w' := by
  have hr := ok3 k hlt
  unfold C3.okT C3.isTrue at hr
  split at hr
  · rename_i h' nx' hx
    exact run_ok (plan := C3.plan) hρ noNum mixed fns3 (orc3 h0 h1 hk hn) hx (.cons rfl (.cons rfl .nil)) w
  · cases hr

theorem fns4 : ∀ f ft, C4.fns f = some ft → FnOk Tryz.prog 4 C4.plan f ft := by
  intro f ft h
  rcases foldl_get C4.fnList .nil f ft h with h1 | h1
  · exact C4.allOk (f, ft) h1
  · rw [Tr.get_nil] at h1; cases h1
theorem orc4 {ρ : Env} {k : Nat} (h0 : -9223372036854775808 ≤ ρ.raw 0) (h1 : -9223372036854775808 ≤ ρ.raw 1) (hk : picked (ρ.raw 0) 34 = (k : Int)) (hn : picked (ρ.raw 1) 10000 = C4.nForm.val ρ) : OrcOk Tryz.prog ρ (C4.orc k) := by
  intro f args v h
  unfold C4.orc at h
  cases hf : Nat.beq f 4 with
  | false => rw [hf] at h; cases h
  | true =>
    rw [hf] at h
    have hf' := Nat.eq_of_beq_eq_true hf
    subst hf'
    have h' : C4.orcV k args = some v := h
    refine ⟨⟨Tryz.f4, Tryz.func4, rfl⟩, fun β cargs w ha => ?_⟩
    unfold C4.orcV at h'
    split at h'
    · rename_i m
      split at h'
      · rename_i hm
        have hm' := Nat.eq_of_beq_eq_true hm
        subst hm'
        cases h'
        rw [vl_two ha]
        refine (pick_walk (ρ.raw 0) 34 h0 (by omega) w).mono fun e w' he => ?_
        obtain ⟨rfl, rfl⟩ := he
        exact ⟨_, rfl, by rw [hk]; rfl, rfl⟩
      · cases h'
    · rename_i m
      split at h'
      · rename_i hm
        have hm' := Nat.eq_of_beq_eq_true hm
        subst hm'
        cases h'
        rw [vl_two ha]
        refine (pick_walk (ρ.raw 1) 10000 h1 (by omega) w).mono fun e w' he => ?_
        obtain ⟨rfl, rfl⟩ := he
        exact ⟨_, rfl, by rw [hn]; rfl, rfl⟩
      · cases h'
    · cases h'
theorem ok4 (k : Nat) (hk : k < 34) : C4.okT k = true := match k, hk with
  | 0, _ => C4.t0
  | 1, _ => C4.t1
  | 2, _ => C4.t2
  | 3, _ => C4.t3
  | 4, _ => C4.t4
  | 5, _ => C4.t5
  | 6, _ => C4.t6
  | 7, _ => C4.t7
  | 8, _ => C4.t8
  | 9, _ => C4.t9
  | 10, _ => C4.t10
  | 11, _ => C4.t11
  | 12, _ => C4.t12
  | 13, _ => C4.t13
  | 14, _ => C4.t14
  | 15, _ => C4.t15
  | 16, _ => C4.t16
  | 17, _ => C4.t17
  | 18, _ => C4.t18
  | 19, _ => C4.t19
  | 20, _ => C4.t20
  | 21, _ => C4.t21
  | 22, _ => C4.t22
  | 23, _ => C4.t23
  | 24, _ => C4.t24
  | 25, _ => C4.t25
  | 26, _ => C4.t26
  | 27, _ => C4.t27
  | 28, _ => C4.t28
  | 29, _ => C4.t29
  | 30, _ => C4.t30
  | 31, _ => C4.t31
  | 32, _ => C4.t32
  | 33, _ => C4.t33
  | n + 34, h => absurd h (by omega)
theorem run4 {ρ : Env} {k : Nat} (hρ : ρ.ok 4) (h0 : -9223372036854775808 ≤ ρ.raw 0) (h1 : -9223372036854775808 ≤ ρ.raw 1) (hlt : k < 34) (hk : picked (ρ.raw 0) 34 = (k : Int)) (hn : picked (ρ.raw 1) 10000 = C4.nForm.val ρ) (w : World) :
    Calls Tryz.prog 3 #[.int .i64 (ρ.raw 0), .int .i64 (ρ.raw 1)] w fun e w' => e = .returned (.bool true) ∧ Grown w w' := by
  have hr := ok4 k hlt
  unfold C4.okT C4.isTrue at hr
  split at hr
  · rename_i h' nx' hx
    exact run_ok (plan := C4.plan) hρ noNum mixed fns4 (orc4 h0 h1 hk hn) hx (.cons rfl (.cons rfl .nil)) w
  · cases hr

theorem own : ownKnob Tryz.prog.godebug = none := by kernel_rfl

/-- the call returns true -/
theorem walk (a0 : Int) (a1 : Int) (w0 : (Lit.int .i64 a0).wf = true) (w1 : (Lit.int .i64 a1).wf = true) (w : World) :
    Calls Tryz.prog 3 #[.int .i64 a0, .int .i64 a1] w fun e w' => e = .returned (.bool true) ∧ Grown w w' := by
  have b0 := (Lit.wf_int_iff .i64 a0).1 w0
  have b1 := (Lit.wf_int_iff .i64 a1).1 w1
  simp [IntKind.min, IntKind.signed, IntKind.bits] at b0 b1
  obtain ⟨k0, k1⟩ := picked_range a0 34 (by omega)
  obtain ⟨n0, n1⟩ := picked_range a1 10000 (by omega)
  generalize hkk : picked a0 34 = kk at *
  generalize hnn : picked a1 10000 = nn at *
  have hk : picked ((rho a0 a1 nn).raw 0) 34 = ((kk.toNat : Nat) : Int) := by
    show picked a0 34 = _
    rw [hkk]; omega
  have hlt : kk.toNat < 34 := by omega
  have d0 : (rho a0 a1 nn).d 0 = nn % 10 := rfl
  have d1 : (rho a0 a1 nn).d 1 = nn / 10 % 10 := rfl
  have d2 : (rho a0 a1 nn).d 2 = nn / 100 % 10 := rfl
  have d3 : (rho a0 a1 nn).d 3 = nn / 1000 % 10 := rfl
  by_cases c1 : nn < 10
  · refine run1 (ρ := rho a0 a1 nn) (ok_of ?_ ?_ ?_ ?_) b0.1 b1.1 hlt hk ?_ w
    · rw [d0]; simp [loD, hiD]; omega
    · rw [d1]; simp [loD, hiD]; omega
    · rw [d2]; simp [loD, hiD]; omega
    · rw [d3]; simp [loD, hiD]; omega
    · show picked a1 10000 = _
      rw [hnn]
      simp [C1.nForm, Abs.Form.val, Abs.Form.lin, d0]
      omega
  · by_cases c2 : nn < 100
    · refine run2 (ρ := rho a0 a1 nn) (ok_of ?_ ?_ ?_ ?_) b0.1 b1.1 hlt hk ?_ w
      · rw [d0]; simp [loD, hiD]; omega
      · rw [d1]; simp [loD, hiD]; omega
      · rw [d2]; simp [loD, hiD]; omega
      · rw [d3]; simp [loD, hiD]; omega
      · show picked a1 10000 = _
        rw [hnn]
        simp [C2.nForm, Abs.Form.val, Abs.Form.lin, d0, d1]
        omega
    · by_cases c3 : nn < 1000
      · refine run3 (ρ := rho a0 a1 nn) (ok_of ?_ ?_ ?_ ?_) b0.1 b1.1 hlt hk ?_ w
        · rw [d0]; simp [loD, hiD]; omega
        · rw [d1]; simp [loD, hiD]; omega
        · rw [d2]; simp [loD, hiD]; omega
        · rw [d3]; simp [loD, hiD]; omega
        · show picked a1 10000 = _
          rw [hnn]
          simp [C3.nForm, Abs.Form.val, Abs.Form.lin, d0, d1, d2]
          omega
      · refine run4 (ρ := rho a0 a1 nn) (ok_of ?_ ?_ ?_ ?_) b0.1 b1.1 hlt hk ?_ w
        · rw [d0]; simp [loD, hiD]; omega
        · rw [d1]; simp [loD, hiD]; omega
        · rw [d2]; simp [loD, hiD]; omega
        · rw [d3]; simp [loD, hiD]; omega
        · show picked a1 10000 = _
          rw [hnn]
          simp [C4.nForm, Abs.Form.val, Abs.Form.lin, d0, d1, d2, d3]
          omega

set_option maxRecDepth 100000 in
theorem lifted (os : Os) (started : os.Started) (H : Type) (enc : TypeId × Value → H) :
    ReturnsInHanded {} Tryz.checked os 3 .any (Rows.ranSpec.pre6 enc Tryz.prog Tryz.f3 Rows.ranRow.domain false) (Rows.ranSpec.post enc Tryz.prog Tryz.f3 false true false false) := by
  refine returnsInHanded_of_change (C := Tryz.checked) own started (by kernel_rfl) Tryz.func3
    (ChangeSpec.witness6 (enc := enc) (C := Tryz.checked) false ⟨#[], #[.int .i64 0, .int .i64 0], []⟩ 8 (by kernel_rfl) (by kernel_rfl) (by kernel_rfl) (by kernel_rfl)) ?_
  intro W base args ds gs before hval0 hW hcnd _
  have hval : ∀ (j : Nat) t v, Tryz.f3.params[j]? = some t → args[j]? = some v → Value.okWide Tryz.prog W .any base t v := hval0
  have hW' := hW
  obtain ⟨p, q, hA0, hV, rfl, hfz, hnd⟩ := hW
  have hA : DataW.TrodAll enc Tryz.prog W 0 (fun _ => true) true Tryz.f3.params.toList args.toList ds p := hA0
  rw [Tryz.params3] at hA hval
  obtain ⟨v0, vs0, d0, ds0, p0, q0, hargs, rfl, rfl, h0, r0⟩ := trodAll_cons hA
  obtain ⟨v1, vs1, d1, ds1, p1, q1, rfl, rfl, rfl, h1, r1⟩ := trodAll_cons r0
  obtain ⟨rfl, rfl, rfl⟩ := trodAll_nil r1
  obtain rfl : args = #[v0, v1] := by cases args; simp_all
  obtain ⟨rfl, rfl⟩ := trodVars_none hV
  obtain ⟨a0, rfl, rfl, rfl, w0⟩ := open_int Tryz.underlying3 (hval 0 3 v0 rfl rfl) h0
  obtain ⟨a1, rfl, rfl, rfl, w1⟩ := open_int Tryz.underlying3 (hval 1 3 v1 rfl rfl) h1
  clear hA0 hval0
  simp only [List.append_nil] at hW'
  refine (walk a0 a1 w0 w1 W).mono fun e W' ⟨he, hg⟩ => ?_
  subst he
  exact ⟨_, rfl, post_of_same (pa := []) (pv := []) hW' (fun _ _ _ => (trodAll_cons_mk (shut_bool Tryz.underlying4 _) trodAll_mk0)) (fun sp _ => (trodAll_cons_mk (shut_int Tryz.underlying3 w0) (trodAll_cons_mk (shut_int Tryz.underlying3 w1) trodAll_mk0))) (fun _ _ => rfl) rfl
    (hg.frame _) hg.2.1 (ok_one (by kernel_rfl) rfl (okWide_bool_mk Tryz.underlying4 _))⟩

theorem over : Rows.ranRow.holds Tryz.pinned (OpenSpec.ofChange Rows.ranSpec) :=
  OpenClaim.holds_of_wide 3 Tryz.f3 rfl rfl rfl rfl rfl rfl rfl ⟨rfl, rfl, rfl, rfl, rfl⟩ rfl rfl rfl rfl rfl (by kernel_rfl) Tryz.func3 (by kernel_rfl)
    (of_decide_eq_true (by kernel_rfl)) (by unfold Func.isWrapper; first | (rw [if_pos (by decide +kernel)]; kernel_rfl) | (rw [if_neg (by decide +kernel)]; exact ⟨rfl, rfl⟩))
    (fun os started H enc _ => lifted os started H enc)

/-- ████ THE STATEMENT ████ -/
theorem proved : Rows.RanSaid :=
  over
end Go.Proofs.YtfhcoiogdgfkcaaGreat.ran

