import Derived.Test.YtmohklalmohilaaGreatCongr
namespace Go.Abs

section
variable {P : Program} {L : Nat} {ρ : Env} {β : Bij} {w0 : World}

theorem isZero_spec {h : Tr Blk} {b : Nat} {l : List V} (hz : isZero h b l = true) : ∃ k, h.get b = some k ∧ k.n = l.length ∧ ∀ j, j < l.length → k.c.get j = l[j]? := by
  unfold isZero at hz
  split at hz
  · rename_i k hk
    split at hz
    · rename_i hn
      rw [Nat.beq_eq] at hn
      refine ⟨k, hk, hn, fun j hj => ?_⟩
      have := holdsL_get hz j hj
      simpa using this
    · cases hz
  · cases hz

/-- the block that was laid for an operation is made -/
theorem HRel.born {h : Tr Blk} {nx : Nat} {w : World} (H : HRel w0 β ρ h nx w) {b : Nat} {l : List V} {cs : Array Value} {e : TypeId} (hb : β b = none) (hlt : b < nx) (hz : isZero h b l = true) (hl : LRel β ρ l cs.toList) :
    HRel w0 (β.with b w.heap.size cs.size) ρ h nx (w.alloc (.cells cs e)) := by
  have hle : β.le (β.with b w.heap.size cs.size) := Bij.le_with hb
  have hsz : cs.size = l.length := by have := hl.length; simpa using this.symm
  obtain ⟨k0, hk0, hn0, hget0⟩ := isZero_spec hz
  refine ⟨?_, ?_, ?_, ?_, H.kept.alloc cs e⟩
  · intro b1 k c sz h1 h2
    unfold Bij.with at h2
    by_cases hb1 : b1 = b
    · rw [if_pos hb1] at h2
      simp only [Option.some.injEq, Prod.mk.injEq] at h2
      obtain ⟨rfl, rfl⟩ := h2
      subst hb1
      rw [hk0] at h1
      simp only [Option.some.injEq] at h1
      subst h1
      refine ⟨cs, e, by show (w.heap.push _)[w.heap.size]? = _; simp, rfl, by omega, fun i hi => ?_⟩
      have hi' : i < l.length := by omega
      have hx : l[i]? = some (l[i]'hi') := List.getElem?_eq_getElem hi'
      obtain ⟨v, hv, hcr⟩ := hl.get i _ hx
      exact ⟨_, v, by rw [hget0 i hi', hx], by simpa using hv, hcr.mono hle⟩
    · rw [if_neg hb1] at h2
      obtain ⟨cs1, e1, g1, g2, g3, g4⟩ := H.cells b1 k c sz h1 h2
      have hlt1 := (H.base b1 c sz h2).2
      refine ⟨cs1, e1, ?_, g2, g3, fun i hi => ?_⟩
      · rw [← g1]
        show (w.heap.push _)[c]? = _
        rw [Array.getElem?_push_lt hlt1]
        simp [Array.getElem?_eq_getElem hlt1]
      · obtain ⟨x, v, a1, a2, a3⟩ := g4 i hi
        exact ⟨x, v, a1, a2, a3.mono hle⟩
  · intro b1 b2 k1 k2 c s1 s2 h1 h2 e1 e2
    unfold Bij.with at e1 e2
    by_cases hb1 : b1 = b
    · by_cases hb2 : b2 = b
      · rw [hb1, hb2]
      · rw [if_pos hb1] at e1
        rw [if_neg hb2] at e2
        have := (H.base b2 c s2 e2).2
        simp at e1
        omega
    · rw [if_neg hb1] at e1
      by_cases hb2 : b2 = b
      · rw [if_pos hb2] at e2
        have := (H.base b1 c s1 e1).2
        simp at e2
        omega
      · rw [if_neg hb2] at e2
        exact H.inj b1 b2 k1 k2 c s1 s2 h1 h2 e1 e2
  · intro b1 c sz h1
    unfold Bij.with at h1
    have hs := H.kept.size
    by_cases hb1 : b1 = b
    · rw [if_pos hb1] at h1
      simp at h1
      simp
      omega
    · rw [if_neg hb1] at h1
      have := H.base b1 c sz h1
      simp
      omega
  · intro b1 hb1
    obtain ⟨g1, g2⟩ := H.fresh b1 hb1
    refine ⟨g1, ?_⟩
    unfold Bij.with
    rw [if_neg (by omega)]
    exact g2

/-! ### the order in which a region's operations may come -/
inductive Bef (ops : Array Oper) : Nat → Nat → Prop
  | edge {o : Oper} {e : Edge} {j : Nat} : ops[j]? = some o → e ∈ o.after → Region.binds .any e = true → Bef ops e.on j
  | trans {i k j : Nat} : Bef ops i k → Bef ops k j → Bef ops i j

theorem Bef.last {ops : Array Oper} {i j : Nat} (h : Bef ops i j) : ∃ o e, ops[j]? = some o ∧ e ∈ o.after ∧ Region.binds .any e = true ∧ (e.on = i ∨ Bef ops i e.on) := by
  induction h with
  | edge h1 h2 h3 => exact ⟨_, _, h1, h2, h3, .inl rfl⟩
  | trans h1 h2 ih1 ih2 =>
    obtain ⟨o, e, a1, a2, a3, a4⟩ := ih2
    refine ⟨o, e, a1, a2, a3, .inr ?_⟩
    rcases a4 with rfl | a4
    · exact h1
    · exact h1.trans a4

theorem all_range {n : Nat} {p : Nat → Bool} (h : (List.range n).all p = true) {k : Nat} (hk : k < n) : p k = true := List.all_eq_true.1 h k (by simpa using hk)

theorem edges_spec {ops : Array Oper} (h : edgesOk ops = true) {j : Nat} {o : Oper} (ho : ops[j]? = some o) {e : Edge} (he : e ∈ o.after) (hb : Region.binds .any e = true) : e.on < j := by
  have hj : j < ops.size := (Array.getElem?_eq_some_iff.1 ho).1
  have := all_range h hj
  simp only [ho, Array.all_eq_true_iff_forall_mem] at this
  have := this e he
  simpa [hb] using this

theorem masks_spec {ops : Array Oper} {m : Array Nat} (he : edgesOk ops = true) (h : masksOk ops m = true) : ∀ (j i : Nat), j < ops.size → i < j → bitOf m j i = true → Bef ops i j := by
  intro j
  induction j using Nat.strongRecOn with
  | _ j ih =>
    intro i hj hi hb
    have h1 := all_range h hj
    have ho : ops[j]? = some ops[j] := Array.getElem?_eq_getElem hj
    simp only [ho] at h1
    have h2 := all_range h1 hi
    rw [hb] at h2
    simp only [Bool.not_true, Bool.false_or, Array.any_eq_true', Bool.and_eq_true, Bool.or_eq_true, beq_iff_eq, decide_eq_true_eq] at h2
    obtain ⟨e, h3, h4, h5⟩ := h2
    have hlt := edges_spec he ho h3 h4
    rcases h5 with rfl | ⟨h5, h6⟩
    · exact .edge ho h3 h4
    · exact (ih e.on hlt i (by omega) h6 h5).trans (.edge ho h3 h4)

structure Shape (ops : Array Oper) (pl : Plan) : Prop where
  edges : ∀ {j : Nat} {o : Oper}, ops[j]? = some o → ∀ {e : Edge}, e ∈ o.after → Region.binds .any e = true → e.on < j
  loose : ∀ {i j : Nat} {x y : Oper}, i < j → ops[i]? = some x → ops[j]? = some y → Bef ops i j ∨
    (x.apart ops y = true ∧ ¬ (isEff x = true ∧ isEff y = true) ∧ (isRd x = true → isEff y = true → (i, j) ∈ pl.pairs) ∧ (isEff x = true → isRd y = true → (j, i) ∈ pl.pairs))
  allocs : pl.allocs = allocsOf ops

theorem shape_of {ops : Array Oper} {pl : Plan} (h : regOk ops pl = true) : Shape ops pl := by
  unfold regOk at h
  simp only [Bool.and_eq_true, decide_eq_true_eq] at h
  obtain ⟨⟨⟨h1, h2⟩, h3⟩, h4⟩ := h
  refine ⟨fun ho e he hb => edges_spec h1 ho he hb, fun {i j x y} hij hx hy => ?_, h4⟩
  have hj : j < ops.size := (Array.getElem?_eq_some_iff.1 hy).1
  have g := all_range (all_range h3 hj) hij
  simp only [hx, hy, Bool.or_eq_true] at g
  rcases g with g | g
  · exact .inl (masks_spec h1 h2 j i hj hij g)
  · right
    simp only [Bool.and_eq_true, Bool.or_eq_true, Bool.not_eq_true', Bool.and_eq_false_iff] at g
    obtain ⟨⟨⟨g1, g2⟩, g3⟩, g4⟩ := g
    refine ⟨g1, fun ⟨a, b⟩ => ?_, fun a b => ?_, fun a b => ?_⟩
    · rw [a, b] at g2; simp at g2
    · rw [a, b] at g3; simpa using g3
    · rw [a, b] at g4; simpa using g4

theorem bef_lt {ops : Array Oper} {pl : Plan} (hs : Shape ops pl) {i j : Nat} (h : Bef ops i j) : i < j := by
  induction h with
  | edge h1 h2 h3 => exact hs.edges h1 h2 h3
  | trans _ _ ih1 ih2 => omega

end
end Go.Abs
