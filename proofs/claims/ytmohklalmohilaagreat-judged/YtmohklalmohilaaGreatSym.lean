import Derived.Test.YtmohklalmohilaaGreatMem
namespace Go.Abs

theorem wrap_in (k : IntKind) (n : Int) (h0 : k.min ≤ n) (h1 : n ≤ k.max) : k.wrap n = n := by
  cases k <;> simp [IntKind.min, IntKind.max, IntKind.signed, IntKind.bits] at h0 h1 <;> simp [IntKind.wrap, IntKind.signed, IntKind.bits] <;> omega

section
variable {ρ : Env} {L : Nat}

theorem term_range (hρ : ρ.ok L) (i : Nat) (hi : i < 4) (a : Int) : tmin L i a ≤ a * ρ.d i ∧ a * ρ.d i ≤ tmax L i a := by
  obtain ⟨h1, h2⟩ := hρ i hi
  unfold tmin tmax
  by_cases ha : 0 ≤ a
  · rw [if_pos ha, if_pos ha]
    exact ⟨Int.mul_le_mul_of_nonneg_left h1 ha, Int.mul_le_mul_of_nonneg_left h2 ha⟩
  · rw [if_neg ha, if_neg ha]
    have ha' : a ≤ 0 := by omega
    exact ⟨Int.mul_le_mul_of_nonpos_left ha' h2, Int.mul_le_mul_of_nonpos_left ha' h1⟩

theorem Form.range (hρ : ρ.ok L) (f : Form) : f.lo L ≤ f.val ρ ∧ f.val ρ ≤ f.hi L := by
  have t0 := term_range hρ 0 (by omega) f.a0
  have t1 := term_range hρ 1 (by omega) f.a1
  have t2 := term_range hρ 2 (by omega) f.a2
  have t3 := term_range hρ 3 (by omega) f.a3
  unfold Form.lo Form.hi Form.val
  by_cases hm : f.m = 0
  · rw [if_pos hm, if_pos hm, if_pos hm]
    unfold Form.lin
    omega
  · rw [if_neg hm, if_neg hm, if_neg hm]
    have h1 := Int.emod_nonneg (f.lin ρ) (b := (f.m : Int)) (by omega)
    have h2 := Int.emod_lt_of_pos (f.lin ρ) (b := (f.m : Int)) (by omega)
    omega

theorem val_zero {f : Form} (h : f.m = 0) : f.val ρ = f.lin ρ := by unfold Form.val; rw [if_pos h]

theorem mkV_sound (hρ : ρ.ok L) {k : IntKind} {f : Form} {v : V} {β : Bij} (h : mkV L k f = some v) :
    CRel β ρ v (.int k (f.val ρ)) ∧ k.wrap (f.val ρ) = f.val ρ := by
  unfold mkV at h
  obtain ⟨r1, r2⟩ := f.range hρ
  cases hd : (decide (k.min ≤ f.lo L) && decide (f.hi L ≤ k.max)) with
  | false => rw [hd] at h; simp at h
  | true =>
    rw [hd] at h
    simp only [Bool.and_eq_true, decide_eq_true_eq] at hd
    refine ⟨?_, wrap_in k _ (by omega) (by omega)⟩
    simp only at h
    split at h
    · simp only [Option.some.injEq] at h
      subst h
      simp [CRel, Form.val, Form.lin]
    · simp only [Option.some.injEq] at h
      subst h
      rfl

theorem add_val {f g h : Form} (e : f.add g = some h) : h.val ρ = f.val ρ + g.val ρ := by
  unfold Form.add at e
  split at e
  · rename_i hf hg
    simp only [Option.some.injEq] at e
    subst e
    rw [val_zero hf, val_zero hg, val_zero rfl]
    simp only [Form.lin, Int.add_mul]
    omega
  · rename_i m hf hg
    split at e
    · rename_i hz
      simp only [Option.some.injEq] at e
      subst e
      rw [val_zero hg]
      unfold Form.val Form.lin
      simp only [hf, hz.1, hz.2.1, hz.2.2.1, hz.2.2.2]
      simp
      omega
    · cases e
  · rename_i m hf hg
    split at e
    · rename_i hz
      simp only [Option.some.injEq] at e
      subst e
      rw [val_zero hf]
      unfold Form.val Form.lin
      simp only [hg, hz.1, hz.2.1, hz.2.2.1, hz.2.2.2]
      simp
      omega
    · cases e
  · cases e

theorem neg_val {f h : Form} (e : f.neg = some h) : h.val ρ = - f.val ρ := by
  unfold Form.neg at e
  split at e
  · rename_i hf
    simp only [Option.some.injEq] at e
    subst e
    rw [val_zero hf, val_zero rfl]
    simp only [Form.lin, Int.neg_mul]
    omega
  · cases e

theorem sub_val {f g h : Form} (e : f.sub g = some h) : h.val ρ = f.val ρ - g.val ρ := by
  unfold Form.sub at e
  split at e
  · rename_i g' hg
    rw [add_val e, neg_val hg]; omega
  · cases e

theorem mul_val {f g h : Form} (e : f.mul g = some h) : h.val ρ = f.val ρ * g.val ρ := by
  unfold Form.mul at e
  split at e
  · rename_i hm
    split at e
    · rename_i hz
      simp only [Option.some.injEq] at e
      subst e
      rw [val_zero hm.1, val_zero hm.2, val_zero rfl]
      unfold Form.lin
      simp only [hz.1, hz.2.1, hz.2.2.1, hz.2.2.2]
      simp [Int.add_mul, Int.mul_right_comm]
    · split at e
      · rename_i hz
        simp only [Option.some.injEq] at e
        subst e
        rw [val_zero hm.1, val_zero hm.2, val_zero rfl]
        unfold Form.lin
        simp only [hz.1, hz.2.1, hz.2.2.1, hz.2.2.2]
        simp only [Int.zero_mul, Int.zero_add, Int.mul_add]
        rw [Int.mul_comm f.k g.k]
        have c : ∀ x d : Int, x * f.k * d = f.k * (x * d) := fun x d => by rw [Int.mul_comm x f.k, Int.mul_assoc]
        rw [c, c, c, c]
      · cases e
  · cases e

theorem cut_mod (m a d : Int) : (cut m a * d) % m = (a * d) % m := by
  unfold cut
  split
  · rename_i h
    rw [Int.mul_emod a d m, h]; simp
  · rfl

theorem emod_congr {a a' b b' m : Int} (ha : a % m = a' % m) (hb : b % m = b' % m) : (a + b) % m = (a' + b') % m := by
  rw [Int.add_emod, ha, hb, ← Int.add_emod]

theorem remLin_val (hρ : ρ.ok L) {f h : Form} {m : Nat} (hm : 0 < m) (hf : f.m = 0) (e : f.remLin L m = some h) : 0 ≤ f.val ρ ∧ h.val ρ = f.val ρ % m := by
  unfold Form.remLin at e
  obtain ⟨r1, r2⟩ := f.range hρ
  split at e
  · rename_i h0
    refine ⟨by omega, ?_⟩
    have hmod : ∀ x : Form, x = ⟨cut m f.a0, cut m f.a1, cut m f.a2, cut m f.a3, f.k % m, 0, 0⟩ → x.lin ρ % m = f.lin ρ % m := by
      rintro x rfl
      unfold Form.lin
      simp only
      have e0 := cut_mod m f.a0 (ρ.d 0)
      have e1 := cut_mod m f.a1 (ρ.d 1)
      have e2 := cut_mod m f.a2 (ρ.d 2)
      have e3 := cut_mod m f.a3 (ρ.d 3)
      have e4 : (f.k % (m : Int)) % m = f.k % m := Int.emod_emod_of_dvd _ (Int.dvd_refl _)
      exact emod_congr (emod_congr (emod_congr (emod_congr e0 e1) e2) e3) e4
    simp only at e
    split at e
    · rename_i h1
      simp only [Option.some.injEq] at e
      subst e
      rw [Int.emod_eq_of_lt (by omega) (by omega)]
    · split at e
      · rename_i h2
        simp only [Option.some.injEq] at e
        have hh := hmod _ rfl
        obtain ⟨q1, q2⟩ := Form.range hρ h
        rw [← e] at q1 q2 ⊢
        rw [val_zero rfl] at q1 q2 ⊢
        rw [val_zero hf, ← hh]
        exact (Int.emod_eq_of_lt (by omega) (by omega)).symm
      · split at e
        · rename_i h2
          simp only [Option.some.injEq] at e
          rw [val_zero hf, ← hmod _ rfl, ← e]
          unfold Form.val
          rw [if_neg (by simp; omega)]
          simp [Form.lin]
        · cases e
  · cases e

theorem rem_val (hρ : ρ.ok L) {f h : Form} {m : Nat} (hm : 0 < m) (e : f.rem L m = some h) : h.val ρ = (f.val ρ).tmod m := by
  unfold Form.rem at e
  split at e
  · rename_i hf
    obtain ⟨h0, h1⟩ := remLin_val hρ hm hf e
    rw [h1, Int.tmod_eq_emod_of_nonneg h0]
  · rename_i x hf
    split at e
    · rename_i hc
      obtain ⟨h0, h1⟩ := remLin_val hρ hm rfl e
      rw [h1]
      have hv : f.val ρ = f.k2 + f.lin ρ % m := by
        unfold Form.val; rw [if_neg (by omega), hc.1]
      have hnn : 0 ≤ f.lin ρ % (m : Int) := Int.emod_nonneg _ (by omega)
      rw [hv, Int.tmod_eq_emod_of_nonneg (by omega), val_zero rfl]
      unfold Form.lin
      simp only
      rw [Int.add_emod f.k2, Int.emod_emod_of_dvd _ (Int.dvd_refl _), ← Int.add_emod]
      congr 1
      omega
    · cases e

theorem cut_div (m a : Int) (d : Int) (_hm : 0 < m) : a * d = m * ((a - cut m a) / m * d) + cut m a * d := by
  unfold cut
  split
  · rename_i h
    have : a = m * (a / m) := by have := Int.mul_ediv_add_emod a m; omega
    simp only [Int.sub_zero, Int.zero_mul, Int.add_zero]
    rw [← Int.mul_assoc, ← this]
  · simp

theorem quo_val (hρ : ρ.ok L) {f h : Form} {m : Nat} (hm : 0 < m) (e : f.quo L m = some h) : h.val ρ = (f.val ρ).tdiv m := by
  unfold Form.quo at e
  split at e
  · rename_i h0
    simp only at e
    split at e
    · rename_i h1
      simp only [Option.some.injEq] at e
      obtain ⟨r1, r2⟩ := f.range hρ
      obtain ⟨q1, q2⟩ := Form.range hρ ⟨cut m f.a0, cut m f.a1, cut m f.a2, cut m f.a3, f.k % m, 0, 0⟩
      have hg : Form.val ρ ⟨cut m f.a0, cut m f.a1, cut m f.a2, cut m f.a3, f.k % m, 0, 0⟩ = cut m f.a0 * ρ.d 0 + cut m f.a1 * ρ.d 1 + cut m f.a2 * ρ.d 2 + cut m f.a3 * ρ.d 3 + f.k % m := by
        rw [val_zero rfl]; rfl
      rw [hg] at q1 q2
      rw [Int.tdiv_eq_ediv_of_nonneg (by omega), ← e, val_zero rfl, val_zero h0.1]
      unfold Form.lin
      simp only
      have e0 := cut_div m f.a0 (ρ.d 0) (by omega)
      have e1 := cut_div m f.a1 (ρ.d 1) (by omega)
      have e2 := cut_div m f.a2 (ρ.d 2) (by omega)
      have e3 := cut_div m f.a3 (ρ.d 3) (by omega)
      have e4 : f.k = m * ((f.k - f.k % m) / m) + f.k % m := by
        have h5 := Int.mul_ediv_add_emod f.k m
        have h6 : (f.k - f.k % m) / (m : Int) = f.k / m := by
          rw [show f.k - f.k % m = f.k / m * m by rw [Int.mul_comm]; omega]
          exact Int.mul_ediv_cancel _ (by omega)
        rw [h6]; omega
      generalize hA : (f.a0 - cut m f.a0) / (m : Int) * ρ.d 0 = A at *
      generalize hB : (f.a1 - cut m f.a1) / (m : Int) * ρ.d 1 = B at *
      generalize hC : (f.a2 - cut m f.a2) / (m : Int) * ρ.d 2 = C at *
      generalize hD : (f.a3 - cut m f.a3) / (m : Int) * ρ.d 3 = D at *
      generalize hE : (f.k - f.k % (m : Int)) / (m : Int) = E at *
      generalize hr : cut m f.a0 * ρ.d 0 + cut m f.a1 * ρ.d 1 + cut m f.a2 * ρ.d 2 + cut m f.a3 * ρ.d 3 + f.k % (m : Int) = r at *
      have hsum : f.a0 * ρ.d 0 + f.a1 * ρ.d 1 + f.a2 * ρ.d 2 + f.a3 * ρ.d 3 + f.k = r + m * (A + B + C + D + E) := by
        rw [Int.mul_add, Int.mul_add, Int.mul_add, Int.mul_add]
        omega
      rw [hsum, Int.add_mul_ediv_left _ _ (by omega), Int.ediv_eq_zero_of_lt (by omega) (by omega)]
      omega
    · cases e
  · cases e

theorem leS_val (hρ : ρ.ok L) {f g : Form} {b : Bool} (e : f.leS L g = some b) : b = decide (f.val ρ ≤ g.val ρ) := by
  obtain ⟨r1, r2⟩ := f.range hρ
  obtain ⟨q1, q2⟩ := g.range hρ
  unfold Form.leS at e
  have fin : ∀ (b : Bool), (if f.hi L ≤ g.lo L then some true else if g.hi L < f.lo L then some false else none) = some b → b = decide (f.val ρ ≤ g.val ρ) := by
    intro b e
    split at e
    · simp at e; subst e; simp; omega
    · split at e
      · simp at e; subst e; simp; omega
      · cases e
  split at e
  · rename_i d hd
    have hv := sub_val (ρ := ρ) hd
    obtain ⟨s1, s2⟩ := d.range hρ
    split at e
    · split at e
      · simp at e; subst e; simp; omega
      · split at e
        · simp at e; subst e; simp; omega
        · cases e
    · exact fin b e
  · exact fin b e

theorem eqS_val (hρ : ρ.ok L) {f g : Form} {b : Bool} (e : f.eqS L g = some b) : b = decide (f.val ρ = g.val ρ) := by
  obtain ⟨r1, r2⟩ := f.range hρ
  obtain ⟨q1, q2⟩ := g.range hρ
  unfold Form.eqS at e
  split at e
  · rename_i h; subst h; simp at e; subst e; simp
  · split at e
    · simp at e; subst e; simp; omega
    · split at e
      · rename_i d hd
        have hv := sub_val (ρ := ρ) hd
        obtain ⟨s1, s2⟩ := d.range hρ
        split at e
        · simp at e; subst e; simp; omega
        · cases e
      · cases e

theorem ofInt_val (n : Int) : (Form.ofInt n).val ρ = n := by simp [Form.ofInt, Form.val, Form.lin]

end
end Go.Abs
