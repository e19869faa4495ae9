import Derived.Test.YtmohklalmohilaaGreatRel
namespace Go.Abs

/-! ### the world behind a call: the old blocks are as they were, the new ones are rows of cells -/
structure Kept (w0 w : World) : Prop where
  os : w.os = w0.os
  output : w.output = w0.output
  size : w0.heap.size ≤ w.heap.size
  old : ∀ i, i < w0.heap.size → w.heap[i]? = w0.heap[i]?
  new : ∀ i, w0.heap.size ≤ i → i < w.heap.size → ∃ cs e, w.heap[i]? = some (.cells cs e (0, 0))

theorem Kept.refl (w : World) : Kept w w := ⟨rfl, rfl, Nat.le_refl _, fun _ _ => rfl, fun _ h1 h2 => absurd h2 (Nat.not_lt.2 h1)⟩

theorem Kept.grown {w0 w : World} (h : Kept w0 w) : RowKit.Grown w0 w := by
  refine ⟨⟨h.os, h.output, fun i hi => ?_⟩, fun a => ?_, h.size⟩
  · rw [h.old i hi]
    cases w0.heap[i]? with
    | none => rfl
    | some o => cases o <;> simp
  · by_cases hb : a.block < w0.heap.size
    · simp only [World.frozen?, h.old _ hb]
    · have h0 : w0.heap[a.block]? = none := by simp; omega
      by_cases hb' : a.block < w.heap.size
      · obtain ⟨cs, e, hc⟩ := h.new _ (by omega) hb'
        simp [World.frozen?, hc, h0]
      · have h1 : w.heap[a.block]? = none := by simp; omega
        simp [World.frozen?, h1, h0]

theorem Kept.alloc {w0 w : World} (h : Kept w0 w) (cs : Array Value) (e : TypeId) : Kept w0 (w.alloc (.cells cs e)) := by
  refine ⟨h.os, h.output, by have := h.size; simp; omega, fun i hi => ?_, fun i h1 h2 => ?_⟩
  · have := h.size
    rw [← h.old i hi]
    simp only [World.alloc]
    rw [Array.getElem?_push_lt (by omega)]
    simp [Array.getElem?_eq_getElem (show i < w.heap.size by omega)]
  · by_cases hi : i = w.heap.size
    · subst hi
      exact ⟨cs, e, by show (w.heap.push _)[w.heap.size]? = _; simp⟩
    · simp only [World.size_alloc] at h2
      obtain ⟨c, t, hc⟩ := h.new i h1 (by omega)
      refine ⟨c, t, ?_⟩
      rw [← hc]
      simp only [World.alloc]
      rw [Array.getElem?_push_lt (by omega)]
      simp [Array.getElem?_eq_getElem (show i < w.heap.size by omega)]

theorem Kept.drew {w0 w : World} (h : Kept w0 w) : Kept w0 w.drew := ⟨h.os, h.output, h.size, h.old, h.new⟩
theorem Kept.drew' {w0 w : World} (h : Kept w0 w) : Kept w0 { w with drawn := w.drawn + 1 } := h.drew

/-- one block is written -/
structure Wrote (c : Nat) (e : TypeId) (cs' : Array Value) (w w' : World) : Prop where
  os : w'.os = w.os
  output : w'.output = w.output
  size : w'.heap.size = w.heap.size
  other : ∀ i, i ≠ c → w'.heap[i]? = w.heap[i]?
  here : w'.heap[c]? = some (.cells cs' e (0, 0))

theorem Kept.wrote {w0 w w' : World} {c : Nat} {e : TypeId} {cs' : Array Value} (h : Kept w0 w) (hc : w0.heap.size ≤ c) (hw : Wrote c e cs' w w') : Kept w0 w' := by
  refine ⟨hw.os.trans h.os, hw.output.trans h.output, by rw [hw.size]; exact h.size, fun i hi => ?_, fun i h1 h2 => ?_⟩
  · rw [hw.other i (by omega)]; exact h.old i hi
  · by_cases hi : i = c
    · subst hi; exact ⟨cs', e, hw.here⟩
    · rw [hw.other i hi]; exact h.new i h1 (by rw [← hw.size]; exact h2)

theorem cell?_of {w : World} {c : Nat} {cs : Array Value} {e : TypeId} {fr : Nat × Nat} (h : w.heap[c]? = some (.cells cs e fr)) (off : Nat) : w.cell? ⟨c, off, none⟩ = cs[off]? := by
  simp [World.cell?, h]
theorem frozen?_of {w : World} {c : Nat} {cs : Array Value} {e : TypeId} (h : w.heap[c]? = some (.cells cs e (0, 0))) (off : Nat) : w.frozen? ⟨c, off, none⟩ = false := by
  simp [World.frozen?, h]
theorem add_none (c off n : Nat) : (⟨c, off, none⟩ : Addr).add n = ⟨c, off + n, none⟩ := by
  unfold Addr.add; split <;> simp_all

theorem setCell_wrote {w : World} {c : Nat} {cs : Array Value} {e : TypeId} (h : w.heap[c]? = some (.cells cs e (0, 0))) (off : Nat) (v : Value) :
    Wrote c e (cs.setIfInBounds off v) w (w.setCell ⟨c, off, none⟩ v) := by
  refine ⟨rfl, rfl, by simp, fun i hi => ?_, ?_⟩
  · simp only [World.setCell]
    rw [Array.getElem?_modify]
    simp [Ne.symm hi]
  · simp only [World.setCell]
    rw [Array.getElem?_modify]
    simp [h]

theorem Wrote.trans {c : Nat} {e : TypeId} {cs cs' : Array Value} {w w' w'' : World} (h : Wrote c e cs w w') (h' : Wrote c e cs' w' w'') : Wrote c e cs' w w'' :=
  ⟨h'.os.trans h.os, h'.output.trans h.output, h'.size.trans h.size, fun i hi => (h'.other i hi).trans (h.other i hi), h'.here⟩

/-- a row of values is stored -/
theorem run_storeCells {P : Program} {c : Nat} {e : TypeId} {off : Nat} : ∀ (vs : List Value) (i : Nat) (w : World) (cs : Array Value),
    w.heap[c]? = some (.cells cs e (0, 0)) → (∀ v ∈ vs, v.oneCell' = true) → off + i + vs.length ≤ cs.size →
    ∃ cs' w', (storeCells ⟨c, off, none⟩ vs i).run P w = .ok () w' ∧ Wrote c e cs' w w' ∧ cs'.size = cs.size ∧
      ∀ j, cs'[j]? = if off + i ≤ j ∧ j < off + i + vs.length then vs[j - (off + i)]? else cs[j]?
  | [], i, w, cs, hc, _, _ => by
    refine ⟨cs, w, by simp [storeCells], ⟨rfl, rfl, rfl, fun _ _ => rfl, hc⟩, rfl, fun j => ?_⟩
    rw [if_neg (by simp)]
  | v :: vs, i, w, cs, hc, ho, hl => by
    simp only [List.length_cons] at hl
    have hw := setCell_wrote hc (off + i) v
    obtain ⟨cs', w', hr, hW, hs, hj⟩ := run_storeCells (P := P) (off := off) vs (i + 1) (w.setCell ⟨c, off + i, none⟩ v) (cs.setIfInBounds (off + i) v) hw.here
      (fun u hu => ho u (List.mem_cons_of_mem _ hu)) (by simp; omega)
    refine ⟨cs', w', ?_, hw.trans hW, by simpa using hs, fun j => ?_⟩
    · simp only [storeCells, Sem.run_bind, add_none]
      rw [run_store P w _ v .plain (ho v (List.mem_cons_self ..))]
      rw [cell?_of hc, Array.getElem?_eq_getElem (show off + i < cs.size by omega)]
      simp only [frozen?_of hc, Bool.false_eq_true, if_false, Result.andThen_ok]
      exact hr
    · rw [hj j]
      simp only [List.length_cons]
      by_cases h1 : j = off + i
      · subst h1
        rw [if_neg (by omega), if_pos (by omega)]
        rw [Array.getElem?_setIfInBounds_self_of_lt (by omega)]
        simp
      · by_cases h2 : off + (i + 1) ≤ j ∧ j < off + (i + 1) + vs.length
        · rw [if_pos h2, if_pos (by omega)]
          rw [show j - (off + i) = (j - (off + (i + 1))) + 1 by omega, List.getElem?_cons_succ]
        · rw [if_neg h2, if_neg (by omega), Array.getElem?_setIfInBounds_ne (by omega)]

/-- a row of cells is read -/
theorem run_loadRow {P : Program} {w : World} {c : Nat} {cs : Array Value} {e : TypeId} {fr : Nat × Nat} (h : w.heap[c]? = some (.cells cs e fr)) (off : Nat) (vs : List Value)
    (hv : ∀ j, j < vs.length → cs[off + j]? = vs[j]?) : (loadCells ⟨c, off, none⟩ vs.length).run P w = .ok vs.toArray w := by
  refine run_loadCells_list w _ vs fun j v hj => ?_
  rw [add_none, cell?_of h]
  have hlt : j < vs.length := by
    rcases Nat.lt_or_ge j vs.length with h1 | h1
    · exact h1
    · rw [List.getElem?_eq_none h1] at hj; cases hj
  rw [hv j hlt]; exact hj

/-! ### the abstract heap against the world -/
structure HRel (w0 : World) (β : Bij) (ρ : Env) (h : Tr Blk) (nx : Nat) (w : World) : Prop where
  cells : ∀ b k c sz, h.get b = some k → β b = some (c, sz) → ∃ cs e, w.heap[c]? = some (.cells cs e (0, 0)) ∧ cs.size = sz ∧ k.n ≤ sz ∧
    ∀ i, i < k.n → ∃ x v, k.c.get i = some x ∧ cs[i]? = some v ∧ CRel β ρ x v
  inj : ∀ b b' k k' c sz sz', h.get b = some k → h.get b' = some k' → β b = some (c, sz) → β b' = some (c, sz') → b = b'
  base : ∀ b c sz, β b = some (c, sz) → w0.heap.size ≤ c ∧ c < w.heap.size
  fresh : ∀ b, nx ≤ b → h.get b = none ∧ β b = none
  kept : Kept w0 w

theorem HRel.drew {w0 : World} {β : Bij} {ρ : Env} {h : Tr Blk} {nx : Nat} {w : World} (H : HRel w0 β ρ h nx w) : HRel w0 β ρ h nx { w with drawn := w.drawn + 1 } :=
  ⟨H.cells, H.inj, H.base, H.fresh, H.kept.drew⟩

/-- the abstract number 'nx' for the concrete block 'c' of 'sz' cells -/
def Bij.with (β : Bij) (b c sz : Nat) : Bij := fun x => if x = b then some (c, sz) else β x
theorem Bij.le_with {β : Bij} {b c sz : Nat} (h : β b = none) : β.le (β.with b c sz) := by
  intro x y hx
  unfold Bij.with
  rw [if_neg (by rintro rfl; rw [h] at hx; cases hx)]
  exact hx

theorem loadN_spec {c : Tr V} : ∀ (n off : Nat) (l : List V), loadN c off n = some l → l.length = n ∧ ∀ j, j < n → ∃ x, c.get (off + j) = some x ∧ l[j]? = some x
  | 0, off, l, h => by simp [loadN] at h; subst h; simp
  | n + 1, off, l, h => by
    simp only [loadN] at h
    cases hg : c.get off with
    | none => rw [hg] at h; simp at h
    | some v =>
      rw [hg] at h
      simp only at h
      cases hl : loadN c (off + 1) n with
      | none => rw [hl] at h; simp at h
      | some l' =>
        rw [hl] at h
        simp only [Option.some.injEq] at h
        subst h
        obtain ⟨h1, h2⟩ := loadN_spec n (off + 1) l' hl
        refine ⟨by simp [h1], fun j hj => ?_⟩
        cases j with
        | zero => exact ⟨v, hg, rfl⟩
        | succ j =>
          obtain ⟨x, hx, hx'⟩ := h2 j (by omega)
          exact ⟨x, by rw [show off + (j + 1) = off + 1 + j by omega]; exact hx, by simpa using hx'⟩

/-- what a load yields -/
theorem HRel.load {P : Program} {w0 : World} {β : Bij} {ρ : Env} {h : Tr Blk} {nx : Nat} {w : World} (H : HRel w0 β ρ h nx w) {b off n c sz : Nat} {l : List V}
    (hl : loadAt h b off n = some l) (hb : β b = some (c, sz)) : ∃ vs : List Value, vs.length = n ∧ LRel β ρ l vs ∧ (loadCells ⟨c, off, none⟩ n).run P w = .ok vs.toArray w ∧
      ∀ j, j < n → w.cell? ⟨c, off + j, none⟩ = vs[j]? := by
  unfold loadAt at hl
  cases hk : h.get b with
  | none => rw [hk] at hl; simp at hl
  | some k =>
    rw [hk] at hl
    simp only at hl
    cases hle : Nat.ble (off + n) k.n with
    | false => rw [hle] at hl; simp at hl
    | true =>
      rw [hle] at hl
      simp only at hl
      have hle' := Nat.le_of_ble_eq_true hle
      obtain ⟨cs, e, hc, hs, hn, hcell⟩ := H.cells b k c sz hk hb
      obtain ⟨hlen, hget⟩ := loadN_spec n off l hl
      have key : ∀ (m o : Nat) (l : List V), l.length = m → (∀ j, j < m → ∃ x, k.c.get (o + j) = some x ∧ l[j]? = some x) → o + m ≤ k.n →
          ∃ vs : List Value, vs.length = m ∧ LRel β ρ l vs ∧ ∀ j, j < m → cs[o + j]? = vs[j]? := by
        intro m
        induction m with
        | zero => intro o l hl0 _ _; exact ⟨[], rfl, by cases l <;> first | exact .nil | simp at hl0, by simp⟩
        | succ m ih =>
          intro o l hl0 hg ho
          cases l with
          | nil => simp at hl0
          | cons x l =>
            obtain ⟨vs, h1, h2, h3⟩ := ih (o + 1) l (by simpa using hl0) (fun j hj => by
              obtain ⟨y, hy, hy'⟩ := hg (j + 1) (by omega)
              exact ⟨y, by rw [show o + 1 + j = o + (j + 1) by omega]; exact hy, by simpa using hy'⟩) (by omega)
            obtain ⟨y, hy, hy'⟩ := hg 0 (by omega)
            simp at hy'
            subst hy'
            obtain ⟨x', v, hx', hv, hr⟩ := hcell o (by omega)
            rw [Nat.add_zero] at hy
            rw [hy] at hx'
            cases hx'
            refine ⟨v :: vs, by simp [h1], .cons hr h2, fun j hj => ?_⟩
            cases j with
            | zero => simpa using hv
            | succ j => rw [show o + (j + 1) = o + 1 + j by omega, h3 j (by omega)]; simp
      obtain ⟨vs, h1, h2, h3⟩ := key n off l hlen hget hle'
      refine ⟨vs, h1, h2, ?_, fun j hj => ?_⟩
      · rw [← h1]
        exact run_loadRow hc off vs (fun j hj => h3 j (by omega))
      · rw [cell?_of hc]; exact h3 j hj

theorem storeL_get : ∀ (l : List V) (off : Nat) (c : Tr V) (i : Nat), (storeL off c l).get i = if off ≤ i ∧ i < off + l.length then l[i - off]? else c.get i
  | [], off, c, i => by simp [storeL]; omega
  | v :: l, off, c, i => by
    simp only [storeL, storeL_get l, Tr.get_put, List.length_cons]
    by_cases h1 : i = off
    · subst h1
      rw [if_neg (by omega), if_pos rfl, if_pos (by omega)]
      simp
    · by_cases h2 : off + 1 ≤ i ∧ i < off + 1 + l.length
      · rw [if_pos h2, if_pos (by omega)]
        rw [show i - off = (i - (off + 1)) + 1 by omega, List.getElem?_cons_succ]
      · rw [if_neg h2, if_neg h1, if_neg (by omega)]

/-- what a store does -/
theorem HRel.store {P : Program} {w0 : World} {β : Bij} {ρ : Env} {h h' : Tr Blk} {nx : Nat} {w : World} (H : HRel w0 β ρ h nx w) {b off c sz : Nat} {l : List V} {vs : List Value}
    (hs : storeAt h b off l = some h') (hb : β b = some (c, sz)) (hl : LRel β ρ l vs) :
    ∃ w', (storeCells ⟨c, off, none⟩ vs).run P w = .ok () w' ∧ HRel w0 β ρ h' nx w' := by
  unfold storeAt at hs
  cases hk : h.get b with
  | none => rw [hk] at hs; simp at hs
  | some k =>
    rw [hk] at hs
    simp only at hs
    cases hle : Nat.ble (off + l.length) k.n with
    | false => rw [hle] at hs; simp at hs
    | true =>
      rw [hle] at hs
      simp only [Option.some.injEq] at hs
      subst hs
      have hle' := Nat.le_of_ble_eq_true hle
      obtain ⟨cs, e, hc, hsz, hn, hcell⟩ := H.cells b k c sz hk hb
      have hlen := hl.length
      have hone : ∀ v ∈ vs, v.oneCell' = true := by
        clear hlen hle' hle
        induction hl with
        | nil => simp
        | cons h1 _ ih => intro v hv; cases hv with
          | head => exact h1.one
          | tail _ hv => exact ih v hv
      obtain ⟨cs', w', hr, hW, hs', hj⟩ := run_storeCells (P := P) (off := off) vs 0 w cs hc hone (by omega)
      refine ⟨w', hr, ⟨?_, ?_, ?_, ?_, H.kept.wrote (H.base b c sz hb).1 hW⟩⟩
      · intro b1 k1 c1 sz1 h1 h2
        rw [Tr.get_put] at h1
        by_cases hbb : b1 = b
        · rw [if_pos hbb] at h1
          subst hbb
          simp only [Option.some.injEq] at h1
          subst h1
          rw [hb] at h2
          simp only [Option.some.injEq, Prod.mk.injEq] at h2
          obtain ⟨rfl, rfl⟩ := h2
          refine ⟨cs', e, hW.here, by omega, by show k.n ≤ sz; omega, fun i hi => ?_⟩
          have hi' : i < k.n := hi
          show ∃ x v, (storeL off k.c l).get i = some x ∧ _
          rw [storeL_get, hj i]
          simp only [Nat.add_zero]
          by_cases hin : off ≤ i ∧ i < off + l.length
          · rw [if_pos hin, if_pos (by omega)]
            have hx : l[i - off]? = some (l[i - off]'(by omega)) := List.getElem?_eq_getElem (by omega)
            obtain ⟨v, hv, hcr⟩ := hl.get (i - off) _ hx
            exact ⟨_, v, hx, hv, hcr⟩
          · rw [if_neg hin, if_neg (by omega)]
            exact hcell i hi'
        · rw [if_neg hbb] at h1
          obtain ⟨cs1, e1, g1, g2, g3, g4⟩ := H.cells b1 k1 c1 sz1 h1 h2
          have hne : c1 ≠ c := by
            rintro rfl
            exact hbb (H.inj b1 b k1 k c1 sz1 sz h1 hk h2 hb)
          exact ⟨cs1, e1, by rw [hW.other c1 hne]; exact g1, g2, g3, g4⟩
      · intro b1 b2 k1 k2 c1 s1 s2 h1 h2 e1 e2
        have g : ∀ x k', (h.put b ⟨k.n, storeL off k.c l⟩).get x = some k' → ∃ k'', h.get x = some k'' := by
          intro x k' hx
          rw [Tr.get_put] at hx
          by_cases hxb : x = b
          · subst hxb; exact ⟨k, hk⟩
          · rw [if_neg hxb] at hx; exact ⟨k', hx⟩
        obtain ⟨k1', h1'⟩ := g _ _ h1
        obtain ⟨k2', h2'⟩ := g _ _ h2
        exact H.inj b1 b2 k1' k2' c1 s1 s2 h1' h2' e1 e2
      · intro b1 c1 s1 h1
        rw [hW.size]
        exact H.base b1 c1 s1 h1
      · intro b1 h1
        obtain ⟨g1, g2⟩ := H.fresh b1 h1
        refine ⟨?_, g2⟩
        rw [Tr.get_put]
        have : b1 ≠ b := by rintro rfl; rw [hk] at g1; cases g1
        rw [if_neg this]; exact g1

theorem mkBlk_get (l : List V) (i : Nat) : (mkBlk l).c.get i = l[i]? := by
  unfold mkBlk
  simp only
  rw [storeL_get]
  by_cases h : i < l.length
  · rw [if_pos (by omega)]; simp
  · rw [if_neg (by omega), Tr.get_nil, List.getElem?_eq_none (by omega)]

/-- a new block -/
theorem HRel.new {w0 : World} {β : Bij} {ρ : Env} {h : Tr Blk} {nx : Nat} {w : World} (H : HRel w0 β ρ h nx w) {l : List V} {cs : Array Value} {e : TypeId} {rest : List Value} {vs : List Value}
    (hl : LRel β ρ l vs) (hcs : cs.toList = vs ++ rest) :
    HRel w0 (β.with nx w.heap.size cs.size) ρ (h.put nx (mkBlk l)) (nx + 1) (w.alloc (.cells cs e)) := by
  have hle : β.le (β.with nx w.heap.size cs.size) := Bij.le_with (H.fresh nx (Nat.le_refl _)).2
  have hsz : cs.size = vs.length + rest.length := by rw [← Array.length_toList, hcs, List.length_append]
  refine ⟨?_, ?_, ?_, ?_, H.kept.alloc cs e⟩
  · intro b k c sz h1 h2
    rw [Tr.get_put] at h1
    unfold Bij.with at h2
    by_cases hb : b = nx
    · rw [if_pos hb] at h1 h2
      simp only [Option.some.injEq, Prod.mk.injEq] at h1 h2
      obtain ⟨rfl, rfl⟩ := h2
      subst h1
      refine ⟨cs, e, by show (w.heap.push _)[w.heap.size]? = _; simp, rfl, by show l.length ≤ _; rw [hl.length]; omega, fun i hi => ?_⟩
      have hi' : i < l.length := hi
      rw [mkBlk_get]
      have hx : l[i]? = some (l[i]'hi') := List.getElem?_eq_getElem hi'
      obtain ⟨v, hv, hcr⟩ := hl.get i _ hx
      refine ⟨_, v, hx, ?_, hcr.mono hle⟩
      rw [← Array.getElem?_toList, hcs, List.getElem?_append_left (by rw [← hl.length]; exact hi')]
      exact hv
    · rw [if_neg hb] at h1 h2
      obtain ⟨cs1, e1, g1, g2, g3, g4⟩ := H.cells b k c sz h1 h2
      have hlt := (H.base b c sz h2).2
      refine ⟨cs1, e1, ?_, g2, g3, fun i hi => ?_⟩
      · rw [← g1]
        simp only [World.alloc]
        rw [Array.getElem?_push_lt hlt]
        simp [Array.getElem?_eq_getElem hlt]
      · obtain ⟨x, v, a1, a2, a3⟩ := g4 i hi
        exact ⟨x, v, a1, a2, a3.mono hle⟩
  · intro b1 b2 k1 k2 c s1 s2 h1 h2 e1 e2
    rw [Tr.get_put] at h1 h2
    unfold Bij.with at e1 e2
    by_cases hb1 : b1 = nx
    · by_cases hb2 : b2 = nx
      · rw [hb1, hb2]
      · rw [if_pos hb1] at e1
        rw [if_neg hb2] at e2
        have := (H.base b2 c s2 e2).2
        simp at e1
        omega
    · rw [if_neg hb1] at e1 h1
      by_cases hb2 : b2 = nx
      · rw [if_pos hb2] at e2
        have := (H.base b1 c s1 e1).2
        simp at e2
        omega
      · rw [if_neg hb2] at e2 h2
        exact H.inj b1 b2 k1 k2 c s1 s2 h1 h2 e1 e2
  · intro b c sz h1
    unfold Bij.with at h1
    have hs := H.kept.size
    by_cases hb : b = nx
    · rw [if_pos hb] at h1
      simp at h1
      simp
      omega
    · rw [if_neg hb] at h1
      have := H.base b c sz h1
      simp
      omega
  · intro b hb
    obtain ⟨g1, g2⟩ := H.fresh b (by omega)
    rw [Tr.get_put]
    unfold Bij.with
    rw [if_neg (by omega), if_neg (by omega)]
    exact ⟨g1, g2⟩

end Go.Abs
