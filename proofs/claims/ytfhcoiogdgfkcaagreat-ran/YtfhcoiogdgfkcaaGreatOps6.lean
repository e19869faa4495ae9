import Derived.Test.YtfhcoiogdgfkcaaGreatOps5
namespace Go.Abs

section
variable {P : Program} {L : Nat} {ρ : Env} {β : Bij}

/-- the numbers below 'nx' stand for what they stood for -/
structure Ext (nx nx' : Nat) (β β' : Bij) : Prop where
  le : β.le β'
  grow : ∀ b, b < nx → β' b = β b
  nx : nx ≤ nx'
theorem Ext.refl (nx : Nat) (β : Bij) : Ext nx nx β β := ⟨Bij.le_refl β, fun _ _ => rfl, Nat.le_refl _⟩
theorem Ext.trans {a b c : Nat} {β β' β'' : Bij} (h : Ext a b β β') (h' : Ext b c β' β'') : Ext a c β β'' :=
  ⟨Bij.le_trans h.le h'.le, fun x hx => (h'.grow x (Nat.lt_of_lt_of_le hx h.nx)).trans (h.grow x hx), Nat.le_trans h.nx h'.nx⟩
theorem Ext.new {nx c sz : Nat} {β : Bij} (h : β nx = none) : Ext nx (nx + 1) β (β.with nx c sz) :=
  ⟨Bij.le_with h, fun x hx => by unfold Bij.with; rw [if_neg (by omega)], Nat.le_succ _⟩

/-- what an operation that turns the heap must do -/
def EffOk (P : Program) (w0 : World) (β : Bij) (ρ : Env) (ev : Operand → Value) (o : Oper) (w : World) (nx : Nat) (v : V) (h' : Tr Blk) (nx' : Nat) : Prop :=
  ∃ cv β' w', Gives P ev o w cv w' ∧ Ext nx nx' β β' ∧ VRel β' ρ v cv ∧ HRel w0 β' ρ h' nx' w'

theorem ptr_new {nx c sz : Nat} : CRel (Bij.with β nx c sz) ρ (.ptr nx 0) (.pointer (some ⟨c, 0, none⟩)) := ⟨c, sz, by simp [Bij.with], rfl⟩

theorem eff_new {w0 w : World} {h : Tr Blk} {nx : Nat} (H : HRel w0 β ρ h nx w) {ev : Operand → Value} {o : Oper} {l : List V} {cs : Array Value} {e : TypeId}
    (hl : LRel β ρ l cs.toList) (hrun : (execOp ev o).run P w = .ok (.value (.pointer (some ⟨w.heap.size, 0, none⟩))) (w.alloc (.cells cs e))) :
    EffOk P w0 β ρ ev o w nx (.ptr nx 0) (h.put nx (mkBlk l)) (nx + 1) :=
  ⟨_, _, _, .inl hrun, Ext.new (H.fresh nx (Nat.le_refl _)).2, ptr_new.vrel, H.new (e := e) (rest := []) hl (by simp)⟩

theorem eff_newSlice {w0 w w1 : World} {h : Tr Blk} {nx : Nat} (H : HRel w0 β ρ h nx w1) {ev : Operand → Value} {o : Oper} {l : List V} {vs rest : List Value} {cs : Array Value} {e : TypeId} {len cap cap' z : Nat}
    (hl : LRel β ρ l vs) (hcs : cs.toList = vs ++ rest) (hcap : cap ≤ cap') (hsz : cap' * z ≤ cs.size)
    (hrun : (execOp ev o).run P w = .ok (.value (.slice (some ⟨w1.heap.size, 0, none⟩) len cap')) (w1.alloc (.cells cs e))) :
    EffOk P w0 β ρ ev o w nx (.slice nx 0 len cap z) (h.put nx (mkBlk l)) (nx + 1) :=
  ⟨_, _, _, .inl hrun, Ext.new (H.fresh nx (Nat.le_refl _)).2, (show CRel _ ρ (.slice nx 0 len cap z) _ from ⟨w1.heap.size, cs.size, cap', by simp [Bij.with], hcap, .inr (by omega), _, .inl rfl, rfl⟩).vrel, H.new (e := e) hl hcs⟩

theorem fillV_length {place : Nat → Option (Nat × Nat)} : ∀ {parts : List (Nat × V)} {cells l : List V}, fillV place cells parts = some l → l.length = cells.length
  | [], cells, l, h => by simp [fillV] at h; rw [h]
  | (i, x) :: rest, cells, l, h => by
    simp only [fillV] at h
    split at h
    · cases h
    · rename_i off size hpl
      split at h
      · rename_i hc
        simp only [Bool.and_eq_true, Nat.beq_eq, Nat.ble_eq] at hc
        rw [fillV_length h, setAt_length _ _ _ (by omega)]
      · cases h

theorem firstCells_run {w0 w : World} {h : Tr Blk} {nx : Nat} (H : HRel w0 β ρ h nx w) {b off n z len cap c sz : Nat} {l : List V} (hl : loadAt h b off (n * z) = some l) (hb : β b = some (c, sz)) :
    ∃ vs : List Value, vs.length = n * z ∧ LRel β ρ l vs ∧ (∀ j v, vs[j]? = some v → w.cell? ((⟨c, off, none⟩ : Addr).add j) = some v) ∧ (Builtin.firstCells z n (.slice (some ⟨c, off, none⟩) len cap)).run P w = .ok vs.toArray w := by
  obtain ⟨vs, g1, g2, g3, g4⟩ := H.load (P := P) hl hb
  refine ⟨vs, g1, g2, fun j v hj => ?_, ?_⟩
  · have hlt : j < vs.length := by
      rcases Nat.lt_or_ge j vs.length with h1 | h1
      · exact h1
      · rw [List.getElem?_eq_none h1] at hj; cases hj
    rw [add_none, g4 j (by omega)]
    exact hj
  · simp only [Builtin.firstCells]
    exact g3

theorem zero_cells_size {z : Array Value} {n : Nat} : (Builtin.zeroCells z n).size = n * z.size := by simp [Builtin.zeroCells]

theorem grownCap_le {w : World} {need old : Nat} {e : TypeId} : need ≤ grownCap w need old e := by
  unfold grownCap Question.cut
  exact Nat.le_add_right _ _

theorem effOp_sound (hρ : ρ.ok L) {w0 w : World} {h h' : Tr Blk} {nx nx' : Nat} (H : HRel w0 β ρ h nx w) {tm : E} {ev : Operand → Value} (E : ERel β ρ tm ev) {o : Oper} {v : V}
    (hv : effOp P tm h nx o.op = some (v, h', nx')) : EffOk P w0 β ρ ev o w nx v h' nx' := by
  have _ := hρ
  obtain ⟨dst, op, ty, pos, after, guard⟩ := o
  simp only at hv
  unfold effOp at hv
  split at hv
  · -- alloc
    rename_i t
    split at hv
    · rename_i z hz
      simp only [Option.some.injEq, Prod.mk.injEq] at hv
      obtain ⟨rfl, rfl, rfl⟩ := hv
      obtain ⟨i, zv, hi, hzv, habs⟩ := zeroV_spec hz
      refine eff_new H (cs := zv.cells) (e := t) (absV_rel habs).cells ?_
      simp [execOp, Instr.alloc, zeroValue, typeInfo, hi, hzv, newVar, newRow]
    · cases hv
  · -- box
    rename_i t x
    have hx := E x
    split at hv
    · cases hv
    · cases hv
    · rename_i v' hnt hnj
      simp only [Option.some.injEq, Prod.mk.injEq] at hv
      obtain ⟨rfl, rfl, rfl⟩ := hv
      have hxa := (hx.arel (fun l e => hnt l e) (fun e => hnj e)).cells
      refine eff_new H (cs := (ev x).cells) (e := t) hxa ?_
      simp [execOp, Instr.box, newVar, newRow]
  · -- buildSlice
    rename_i t len parts
    split at hv
    · rename_i e hu
      split at hv
      · rename_i z n hz hn
        split at hv
        · rename_i hc
          simp only [Bool.and_eq_true, Nat.ble_eq, Nat.beq_eq, Nat.blt_eq] at hc
          obtain ⟨⟨⟨hc1, hc2⟩, hc3⟩, hc4⟩ := hc
          split at hv
          · rename_i l hl
            simp only [Option.some.injEq, Prod.mk.injEq] at hv
            obtain ⟨rfl, rfl, rfl⟩ := hv
            obtain ⟨i, zv, hi, hzv, habs⟩ := zeroV_spec hz
            obtain ⟨i', hi', hsz⟩ := szOf_spec hn
            rw [hi] at hi'
            cases hi'
            have hsz' : i.size = n + 1 := hsz
            have hzr : LRel β ρ z.cells zv.cells.toList := (absV_rel habs).cells
            have hzlen : zv.cells.size = n + 1 := by have := hzr.length; rw [hc2] at this; simpa using this.symm
            have hrep := repl_rel hzr (by omega) len
            rw [hzlen] at hrep
            have hp := evP_rel E parts.toList
            obtain ⟨cl, h1, h2⟩ := fill_sound (cplace := fun i => some (i * (n + 1), n + 1)) (fun i o n hi => hi) hp hc4 hrep hl
            have hcl : cl.size = len * (n + 1) := by
              have e1 := h2.length
              rw [fillV_length hl, repl_length, hc2] at e1
              simpa using e1.symm
            refine eff_newSlice H (cs := cl) (vs := cl.toList) (rest := []) (e := e) h2 (by simp) (Nat.le_refl _) (by omega) ?_
            refine run_value ?_
            refine run_buildSlice w t e len _ cl i zv hu hi hzv (by rw [hsz']; omega) (by rw [hsz']; have := Nat.mul_pos hc3 (show 0 < n + 1 by omega); omega) ?_
            rw [hsz', hzlen]
            simpa using h1
          · cases hv
        · cases hv
      · cases hv
    · cases hv
  · -- makeSlice
    rename_i t l c
    split at hv
    · rename_i e len cap hu hl hc
      obtain ⟨kl, hel⟩ := natOf_rel (E l) hl
      obtain ⟨kc, hec⟩ := natOf_rel (E c) hc
      split at hv
      · rename_i z n y hz hn hy
        split at hv
        · rename_i hcond
          simp only [Bool.and_eq_true, Nat.ble_eq, Nat.beq_eq] at hcond
          obtain ⟨⟨⟨hc1, hc2⟩, hc3⟩, hc4⟩ := hcond
          simp only [Option.some.injEq, Prod.mk.injEq] at hv
          obtain ⟨rfl, rfl, rfl⟩ := hv
          obtain ⟨i, zv, hi, hzv, habs⟩ := zeroV_spec hz
          obtain ⟨i', hi', hsz⟩ := szOf_spec hn
          rw [hi] at hi'
          cases hi'
          have hyb : i.bytes = y := by unfold bytesOf at hy; rw [hi] at hy; simpa using hy
          have hzr : LRel β ρ z.cells zv.cells.toList := (absV_rel habs).cells
          have hzlen : zv.cells.size = n + 1 := by have := hzr.length; rw [hc3] at this; simpa using this.symm
          have hrep := repl_rel hzr (by omega) cap
          have hsz' : i.size = n + 1 := hsz
          refine eff_newSlice H (cs := madeCells zv.cells (cap * i.size)) (vs := (madeCells zv.cells (cap * i.size)).toList) (rest := []) (e := e) ?_ (by simp) (Nat.le_refl _) (by rw [size_madeCells, hsz]; exact Nat.le_refl _) ?_
          · unfold madeCells
            rw [hsz', ← hzlen]
            exact hrep
          · refine run_value ?_
            have hm := run_make (P := P) w t e i zv hu hi hzv kl kc len cap (by omega) (by omega) (by
              rw [hyb]
              have : ((y : Int) * (cap : Int)) = ((cap * y : Nat) : Int) := by rw [Nat.mul_comm]; simp
              rw [this]; omega) (by omega)
            rw [hel, hec, hm]
            simp
        · cases hv
      · cases hv
    · cases hv
  · -- store
    rename_i t a x
    have ha := E a
    have hx := E x
    split at hv
    · cases hv
    · cases hv
    · rename_i b off n hp hsz hnt hnj
      rw [hp] at ha
      obtain ⟨c, sz, hb, he⟩ := ha
      split at hv
      · rename_i hlen
        split at hv
        · rename_i h2 hst
          simp only [Option.some.injEq, Prod.mk.injEq] at hv
          obtain ⟨rfl, rfl, rfl⟩ := hv
          have hxa := (hx.arel (fun l e => hnt l e) (fun e => hnj e)).cells
          obtain ⟨w', h3, h4⟩ := H.store (P := P) hst hb hxa
          refine ⟨Go.undef, β, w', .inr ⟨?_, rfl⟩, Ext.refl nx β, VRel.undef, h4⟩
          have hs : (ev x).cells.size = n := by
            have := hxa.length
            rw [Nat.beq_eq] at hlen
            rw [hlen] at this
            simpa using this.symm
          simp only [execOp, Sem.run_bind, Instr.storeAt, he, Instr.sureAddr, Sem.run_pure, Result.andThen_ok, storeVar, run_sizeOf hsz, hs, ne_eq, not_true_eq_false, if_false, h3]
        · cases hv
      · cases hv
    · cases hv
  · -- append
    rename_i args argTypes
    split at hv
    · rename_i s x t t' hargs htys
      have hargs' : args = #[s, x] := by apply Array.ext'; simpa using hargs
      have htys' : argTypes = #[t, t'] := by apply Array.ext'; simpa using htys
      subst hargs'
      subst htys'
      split at hv
      · rename_i e hu
        split at hv
        · rename_i z y zv xb xo n xc xz hz hy hzv hpx
          have hx := E x
          rw [hpx] at hx
          obtain ⟨xcc, xsz, xcap, hxb, _, _, xoo, hxo, hxe⟩ := hx
          split at hv
          · rename_i new hcond hnew
            simp only [Bool.and_eq_true, Nat.beq_eq, Nat.blt_eq] at hcond
            obtain ⟨⟨rfl, hn0⟩, hzl⟩ := hcond
            obtain rfl : xo = xoo := by rcases hxo with h | ⟨h, _⟩ <;> omega
            obtain ⟨i, zval, hi, hzval, habs⟩ := zeroV_spec hzv
            obtain ⟨i', hi', hsz⟩ := szOf_spec hz
            rw [hi] at hi'
            cases hi'
            have hyb : i.bytes = y := by unfold bytesOf at hy; rw [hi] at hy; simpa using hy
            have hzr : LRel β ρ zv.cells zval.cells.toList := (absV_rel habs).cells
            have hzlen : zval.cells.size = z + 1 := by have := hzr.length; rw [hzl] at this; simpa using this.symm
            obtain ⟨vs, g1, g2, g3, g4⟩ := firstCells_run (P := P) H (len := n) (cap := xcap) hnew hxb
            have hrunA : ∀ (sv : Value) (r : Value) (w' : World), ev s = sv → (Builtin.append_ #[t, t] ty #[sv, .slice (some ⟨xcc, xo, none⟩) n xcap]).run P w = .ok r w' →
                (execOp ev { dst := dst, op := .call { callee := .builtin .append, args := #[s, x], argTypes := #[t, t] }, type := ty, pos := pos, after := after, guard := guard }).run P w = .ok (.value r) w' := by
              intro sv r w' hsv hr
              simp only [execOp, resolve, Sem.run_bind, Sem.run_pure, Result.andThen_ok, invoke, builtin, List.map_toArray, List.map_cons, List.map_nil, hsv, hxe, hr]
            split at hv
            · -- nil
              rename_i hps
              have hsn : ev s = .slice none 0 0 := by have := E s; rw [hps] at this; exact this
              split at hv
              · rename_i hb
                simp only [Bool.and_eq_true, Nat.ble_eq] at hb
                simp only [Option.some.injEq, Prod.mk.injEq] at hv
                obtain ⟨rfl, rfl, rfl⟩ := hv
                have hr := run_append_nil (P := P) w t ty e i zval hu hi hzval ⟨xcc, xo, none⟩ n xcap vs (by rw [g1, hsz]) g3 hn0 (by omega) (by rw [hyb]; omega)
                have hgc := grownCap_le (w := w) (need := n) (old := 0) (e := e)
                have hlen2 : (vs.toArray ++ Builtin.zeroCells zval.cells (grownCap w n 0 e - n)).size = grownCap w n 0 e * (z + 1) := by
                  simp only [Array.size_append, List.size_toArray, zero_cells_size, g1, hzlen]
                  rw [← Nat.add_mul]; congr 1; omega
                exact eff_newSlice (P := P) (ev := ev) (w1 := w.drew) H.drew (l := new) (vs := vs) (rest := (Builtin.zeroCells zval.cells (grownCap w n 0 e - n)).toList) (cs := vs.toArray ++ Builtin.zeroCells zval.cells (grownCap w n 0 e - n)) (e := e)
                  g2 (by simp) hgc (by rw [hlen2]; exact Nat.le_refl _) (hrunA _ _ _ hsn hr)
              · cases hv
            · -- a slice
              rename_i b off len cap z' hps
              have hs := E s
              rw [hps] at hs
              obtain ⟨c, sz, cap', hb, hcap, hroom, oo, hoo, hse⟩ := hs
              split at hv
              · rename_i hzz
                rw [Nat.beq_eq] at hzz
                subst hzz
                obtain rfl : off = oo := by rcases hoo with h | ⟨_, h⟩ <;> omega
                split at hv
                · -- room in both
                  rename_i hle
                  rw [Nat.ble_eq] at hle
                  split at hv
                  · rename_i h2 hst
                    simp only [Option.some.injEq, Prod.mk.injEq] at hv
                    obtain ⟨rfl, rfl, rfl⟩ := hv
                    obtain ⟨w', k1, k2⟩ := H.store (P := P) hst hb g2
                    refine ⟨_, β, w', .inl (hrunA _ (.slice (some ⟨c, off, none⟩) (len + n) cap') w' hse ?_), Ext.refl nx β, (show CRel β ρ (.slice b off (len + n) cap (z + 1)) _ from ⟨c, sz, cap', hb, hcap, hroom, _, .inl rfl, rfl⟩).vrel, k2⟩
                    have hle' : len + n ≤ cap' := by omega
                    unfold Builtin.append_
                    simp only [Sem.run_bind, run_underlying hu, Result.andThen_ok, run_sizeOf hz, Builtin.lenOf, Sem.run_pure, List.getElem?_toArray, List.getElem?_cons_zero, List.getElem?_cons_succ, Bool.false_eq_true, if_false, if_pos hle', Bool.not_false, if_true, g4, add_none]
                    have hk1 : (storeCells ⟨c, off + len * (z + 1), none⟩ vs).run P w = .ok () w' := k1
                    simp [hk1]
                  · cases hv
                · rename_i hle
                  have hle' : ¬ (len + n ≤ cap) := by rw [← Bool.not_eq_true, Nat.ble_eq] at hle; exact hle
                  split at hv
                  · rename_i k hk
                    split at hv
                    · rename_i hcond2
                      simp only [Bool.and_eq_true, Nat.beq_eq, Nat.ble_eq] at hcond2
                      obtain ⟨⟨⟨⟨q1, rfl⟩, q3⟩, q4⟩, rfl⟩ := hcond2
                      simp only [Option.some.injEq, Prod.mk.injEq] at hv
                      obtain ⟨rfl, rfl, rfl⟩ := hv
                      have hroom' : cap' * (z + 1) ≤ sz := by
                        rcases hroom with h0 | h0
                        · omega
                        · omega
                      obtain ⟨old, hold0⟩ := H.all hk hb
                      obtain ⟨gb1, gb2⟩ := grown_blk (new := new) hk hold0
                      have hold : loadAt h b 0 (len * (z + 1)) = some old := by rw [← q1]; exact hold0
                      obtain ⟨os, o1, o2, o3, o4⟩ := firstCells_run (P := P) H (len := len) (cap := cap') hold hb
                      have holdlen : old.length = len * (z + 1) := by have := o2.length; omega
                      by_cases hin : len + n ≤ cap'
                      · -- the world has room
                        have hfit : (len + n) * (z + 1) ≤ cap' * (z + 1) := Nat.mul_le_mul_right _ hin
                        rw [Nat.add_mul] at hfit
                        obtain ⟨w', k1, k2⟩ := HRel.regrow (P := P) H hk hb (old := old) (new := new) (vs := vs) (by rw [holdlen]; exact hold) g2 (by omega)
                        refine ⟨_, _, w', .inl (hrunA _ (.slice (some ⟨c, 0, none⟩) (len + n) cap') w' hse ?_), Ext.new (H.fresh nx (Nat.le_refl _)).2,
                          (show CRel _ ρ (.slice nx 0 (len + n) (len + n) (z + 1)) _ from ⟨c, sz, cap', by simp [Bij.with], hin, .inr (by omega), _, .inl rfl, rfl⟩).vrel, k2.congr_blk gb1 gb2⟩
                        unfold Builtin.append_
                        simp only [Sem.run_bind, run_underlying hu, Result.andThen_ok, run_sizeOf hz, Builtin.lenOf, Sem.run_pure, List.getElem?_toArray, List.getElem?_cons_zero, List.getElem?_cons_succ, Bool.false_eq_true, if_false, if_pos hin, Bool.not_false, if_true, g4, add_none]
                        have hk1 : (storeCells ⟨c, len * (z + 1), none⟩ vs).run P w = .ok () w' := by rw [← holdlen]; exact k1
                        simp [hk1]
                      · -- it has none
                        have hr := run_append_grow (P := P) w t ty e i zval hu hi hzval ⟨c, 0, none⟩ len cap' os (by rw [o1, hsz]) o3 ⟨xcc, xo, none⟩ n xcap vs (by rw [g1, hsz]) g3 (by omega) (by omega)
                          (growslice_fits (by omega) (by rw [hyb]; omega))
                        have hgc := grownCap_le (w := w) (need := len + n) (old := cap') (e := e)
                        have hlen2 : (os.toArray ++ vs.toArray ++ Builtin.zeroCells zval.cells (grownCap w (len + n) cap' e - (len + n))).size = grownCap w (len + n) cap' e * (z + 1) := by
                          simp only [Array.size_append, List.size_toArray, zero_cells_size, g1, o1, hzlen]
                          rw [← Nat.add_mul, ← Nat.add_mul]; congr 1; omega
                        obtain ⟨cv, β', w', a1, a2, a3, a4⟩ := eff_newSlice (P := P) (ev := ev) (w1 := w.drew) (H.cut b).drew (l := old ++ new) (vs := os ++ vs) (rest := (Builtin.zeroCells zval.cells (grownCap w (len + n) cap' e - (len + n))).toList)
                          (cs := os.toArray ++ vs.toArray ++ Builtin.zeroCells zval.cells (grownCap w (len + n) cap' e - (len + n))) (e := e)
                          (o2.append g2) (by simp) hgc (by rw [hlen2]; exact Nat.le_refl _) (hrunA _ _ _ hse hr)
                        exact ⟨cv, β', w', a1, a2, a3, a4.congr_blk gb1 gb2⟩
                    · cases hv
                  · cases hv
              · cases hv
            · cases hv
          · cases hv
        · cases hv
      · cases hv
    · cases hv
  · -- copy
    rename_i args argTypes
    split at hv
    · rename_i d x t ts hargs htys
      have hargs' : args = #[d, x] := by apply Array.ext'; simpa using hargs
      subst hargs'
      split at hv
      · rename_i e hu
        split at hv
        · rename_i z n k hz hnd hnx
          split at hv
          · rename_i b off dl dc dz xb xo xl xc xz hpd hpx
            have hd := E d
            have hx := E x
            rw [hpd] at hd hnd
            rw [hpx] at hx hnx
            obtain ⟨c, sz, cap', hb, _, _, oo, hoo, hde⟩ := hd
            obtain ⟨xcc, xsz, xcap, hxb, _, _, xoo, hxo, hxe⟩ := hx
            simp only [lenV, Option.some.injEq] at hnd hnx
            subst hnd
            subst hnx
            split at hv
            · rename_i new hpos hnew
              simp only [Bool.and_eq_true, Nat.blt_eq] at hpos
              obtain rfl : xo = xoo := by rcases hxo with h | ⟨h, h'⟩ <;> omega
              obtain rfl : off = oo := by rcases hoo with h | ⟨h, h'⟩ <;> omega
              split at hv
              · rename_i h2 hst
                simp only [Option.some.injEq, Prod.mk.injEq] at hv
                obtain ⟨rfl, rfl, rfl⟩ := hv
                obtain ⟨vs, g1, g2, g3, g4⟩ := firstCells_run (P := P) H (len := xl) (cap := xcap) hnew hxb
                obtain ⟨w', k1, k2⟩ := H.store (P := P) hst hb g2
                refine ⟨_, β, w', .inl ?_, Ext.refl nx β, (show CRel β ρ (.int .i64 (.ofNat (Nat.min xl dl))) _ from rfl).vrel, k2⟩
                have ht0 : argTypes[0]? = some t := by rw [← Array.getElem?_toList, htys]; rfl
                simp only [execOp, resolve, Sem.run_bind, Sem.run_pure, Result.andThen_ok, invoke, builtin, List.map_toArray, List.map_cons, List.map_nil, hde, hxe]
                unfold Builtin.copy_
                simp only [ht0, List.getElem?_toArray, List.getElem?_cons_zero, List.getElem?_cons_succ, Sem.run_bind, run_underlying hu, Result.andThen_ok, Builtin.lenOf, Sem.run_pure, run_sizeOf hz, g4]
                have hk1 : (storeCells ⟨c, off, none⟩ vs).run P w = .ok () w' := k1
                simp [hk1, goInt]
              · cases hv
            · cases hv
          · cases hv
        · cases hv
      · cases hv
    · cases hv
  · cases hv

end
end Go.Abs
