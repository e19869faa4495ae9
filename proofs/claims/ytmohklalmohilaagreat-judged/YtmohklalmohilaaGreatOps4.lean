import Derived.Test.YtmohklalmohilaaGreatOps3
import Derived.Laws.Tables
import Derived.Great.BuildSlice
namespace Go.Abs

section
variable {P : Program} {L : Nat} {ρ : Env} {β : Bij}

theorem fold_get (off : Nat) : ∀ (l : List Value) (k : Nat) (cells : Array Value) (i : Nat), off + k + l.length ≤ cells.size →
    ((l.zipIdx k).foldl (fun cs (p : Value × Nat) => cs.setIfInBounds (off + p.2) p.1) cells)[i]? = (if off + k ≤ i ∧ i < off + k + l.length then l[i - (off + k)]? else cells[i]?) ∧
    ((l.zipIdx k).foldl (fun cs (p : Value × Nat) => cs.setIfInBounds (off + p.2) p.1) cells).size = cells.size
  | [], k, cells, i, _ => by
    refine ⟨?_, rfl⟩
    rw [if_neg (by simp)]
    rfl
  | v :: l, k, cells, i, h => by
    simp only [List.length_cons] at h
    simp only [List.zipIdx_cons, List.foldl_cons]
    obtain ⟨h1, h2⟩ := fold_get off l (k + 1) (cells.setIfInBounds (off + k) v) i (by simp; omega)
    refine ⟨?_, by rw [h2]; simp⟩
    rw [h1]
    simp only [List.length_cons]
    by_cases e : i = off + k
    · subst e
      rw [if_neg (by omega), if_pos (by omega), Array.getElem?_setIfInBounds_self_of_lt (by omega)]
      simp
    · by_cases e2 : off + (k + 1) ≤ i ∧ i < off + (k + 1) + l.length
      · rw [if_pos e2, if_pos (by omega), show i - (off + k) = (i - (off + (k + 1))) + 1 by omega, List.getElem?_cons_succ]
      · rw [if_neg e2, if_neg (by omega), Array.getElem?_setIfInBounds_ne (by omega)]

theorem setAt_length : ∀ (cs : List V) (n : Nat) (p : List V), n + p.length ≤ cs.length → (setAt cs n p).length = cs.length
  | cs, 0, p, h => by simp [setAt, dropN_eq]; omega
  | [], n + 1, p, h => by simp at h
  | c :: cs, n + 1, p, h => by
    simp only [setAt, List.length_cons]
    rw [setAt_length cs n p (by simp at h; omega)]

theorem setAt_get : ∀ (cs : List V) (n : Nat) (p : List V) (i : Nat), n + p.length ≤ cs.length → (setAt cs n p)[i]? = if n ≤ i ∧ i < n + p.length then p[i - n]? else cs[i]?
  | cs, 0, p, i, h => by
    simp only [setAt, dropN_eq]
    by_cases hi : i < p.length
    · rw [List.getElem?_append_left hi, if_pos (by omega)]; simp
    · rw [List.getElem?_append_right (by omega), if_neg (by omega), List.getElem?_drop]
      congr 1; omega
  | [], n + 1, p, i, h => by simp at h
  | c :: cs, n + 1, p, i, h => by
    simp only [setAt]
    cases i with
    | zero => rw [if_neg (by omega)]; simp
    | succ i =>
      simp only [List.getElem?_cons_succ]
      rw [setAt_get cs n p i (by simp at h; omega)]
      by_cases hc : n ≤ i ∧ i < n + p.length
      · rw [if_pos hc, if_pos (by omega)]
        congr 1; omega
      · rw [if_neg hc, if_neg (by omega)]

inductive PRel (β : Bij) (ρ : Env) : List (Nat × V) → List (Nat × Value) → Prop
  | nil : PRel β ρ [] []
  | cons {i x v l vs} : VRel β ρ x v → PRel β ρ l vs → PRel β ρ ((i, x) :: l) ((i, v) :: vs)

theorem fill_sound {place cplace : Nat → Option (Nat × Nat)} (hp : ∀ i o n, place i = some (o, n) → cplace i = some (o, n)) :
    ∀ {parts : List (Nat × V)} {cparts : List (Nat × Value)} {cells l : List V} {ccells : Array Value}, PRel β ρ parts cparts → noTup parts = true → LRel β ρ cells ccells.toList →
      fillV place cells parts = some l → ∃ cl, Instr.fill cplace ccells cparts = some cl ∧ LRel β ρ l cl.toList
  | [], _, cells, l, ccells, hpr, _, hc, h => by
    cases hpr
    simp only [fillV, Option.some.injEq] at h
    subst h
    exact ⟨ccells, rfl, hc⟩
  | (i, x) :: rest, _, cells, l, ccells, hpr, hn, hc, h => by
    cases hpr with
    | cons hx hr =>
      rename_i v vs
      have hx1 : (∀ l, x ≠ .tup l) ∧ x ≠ .junk ∧ noTup rest = true := by
        cases x <;> simp [noTup] at hn <;> exact ⟨fun l h => (by cases h), fun h => (by cases h), hn⟩
      have hxa := (hx.arel hx1.1 hx1.2.1).cells
      simp only [fillV] at h
      split at h
      · cases h
      · rename_i off size hpl
        split at h
        · rename_i hcond
          simp only [Bool.and_eq_true, Nat.beq_eq, Nat.ble_eq] at hcond
          obtain ⟨hs1, hs2⟩ := hcond
          have hlen : x.cells.length = v.cells.size := by have := hxa.length; simpa using this
          have hclen : cells.length = ccells.size := by have := hc.length; simpa using this
          have hle : off + v.cells.size ≤ ccells.size := by omega
          have hset : LRel β ρ (setAt cells off x.cells) (v.cells.zipIdx.foldl (fun cs (p : Value × Nat) => cs.setIfInBounds (off + p.2) p.1) ccells).toList := by
            rw [← Array.foldl_toList, Array.toList_zipIdx]
            have hf := fun i => fold_get off v.cells.toList 0 ccells i (by simpa using hle)
            simp only [Nat.add_zero] at hf
            refine LRel.of_get ?_ fun i a b ha hb => ?_
            · rw [setAt_length _ _ _ (by omega), hclen, ← (hf 0).2]
              simp
            · rw [Array.getElem?_toList, (hf i).1] at hb
              rw [setAt_get _ _ _ _ (by omega)] at ha
              simp only [Array.length_toList] at hb
              by_cases hin : off ≤ i ∧ i < off + v.cells.size
              · rw [if_pos (by omega)] at ha
                rw [if_pos hin] at hb
                obtain ⟨b', hb', hr'⟩ := hxa.get _ _ ha
                rw [hb] at hb'
                cases hb'
                exact hr'
              · rw [if_neg (by omega)] at ha
                rw [if_neg hin, ← Array.getElem?_toList] at hb
                obtain ⟨b', hb', hr'⟩ := hc.get _ _ ha
                rw [hb] at hb'
                cases hb'
                exact hr'
          obtain ⟨cl, h1, h2⟩ := fill_sound hp hr hx1.2.2 hset h
          refine ⟨cl, ?_, h2⟩
          unfold Instr.fill
          rw [hp i off size hpl]
          simp only
          rw [if_neg (by simp; omega)]
          exact h1
        · cases h

theorem nthP_eq : ∀ (i : Nat) (l : List (Nat × Nat)), nthP i l = l[i]?
  | _, [] => by simp [nthP]
  | 0, x :: _ => by simp [nthP]
  | i + 1, _ :: l => by simpa [nthP] using nthP_eq i l

theorem placesL_eq : ∀ {fs : List Field} {l : List (Nat × Nat)}, placesL P fs = some l → fs.mapM (fun f => (P.info? f.type).map fun i => (f.offset, i.size)) = some l
  | [], l, h => by simp [placesL] at h; subst h; simp
  | f :: fs, l, h => by
    simp only [placesL] at h
    split at h
    · rename_i n hn
      split at h
      · rename_i l' hl
        simp only [Option.some.injEq] at h
        subst h
        obtain ⟨i, hi, rfl⟩ := szOf_spec hn
        simp [List.mapM_cons, hi, placesL_eq hl]
      · cases h
    · cases h

theorem zeroV_spec {t : TypeId} {z : V} (h : zeroV P t = some z) : ∃ i v, P.info? t = some i ∧ i.zero = some v ∧ absV v = some z := by
  unfold zeroV at h
  split at h
  · rename_i i hi
    split at h
    · rename_i v hv
      exact ⟨i, v, hi, hv, h⟩
    · cases h
  · cases h

theorem aBuild_sound {t : TypeId} {parts : List (Nat × V)} {cparts : Array (Nat × Value)} {v : V} (hp : PRel β ρ parts cparts.toList) (h : aBuild P t parts = some v) :
    ∃ cv, VRel β ρ v cv ∧ ∀ w, (Instr.build t cparts).run P w = .ok cv w := by
  unfold aBuild at h
  split at h
  · rename_i z hz hn
    obtain ⟨i, zv, hi, hzv, habs⟩ := zeroV_spec hz
    have hzr : LRel β ρ z.cells zv.cells.toList := (absV_rel habs).cells
    split at h
    · rename_i fs hu
      split at h
      · rename_i ps hps
        split at h
        · rename_i l hl
          simp only [Option.some.injEq] at h
          subst h
          unfold placesT at hps
          rw [hu] at hps
          have hm := placesL_eq hps
          obtain ⟨cl, h1, h2⟩ := fill_sound (cplace := (ps.toArray[·]?)) (fun i o n hi => by rw [nthP_eq] at hi; simpa using hi) hp hn hzr hl
          refine ⟨.agg cl, ⟨cl, rfl, h2⟩, fun w => ?_⟩
          refine run_build w t cparts cl ?_
          unfold Program.built
          simp only [hi, hu, hzv, hm]
          exact h1
        · cases h
      · cases h
    · rename_i n e hu
      split at h
      · rename_i sz hsz
        split at h
        · rename_i l hl
          simp only [Option.some.injEq] at h
          subst h
          obtain ⟨ie, hie, rfl⟩ := szOf_spec hsz
          obtain ⟨cl, h1, h2⟩ := fill_sound (cplace := fun i => some (i * ie.size, ie.size)) (fun i o n hi => hi) hp hn hzr hl
          refine ⟨.agg cl, ⟨cl, rfl, h2⟩, fun w => ?_⟩
          refine run_build w t cparts cl ?_
          unfold Program.built
          simp only [hi, hu, hzv, hie]
          exact h1
        · cases h
      · cases h
    · cases h
  · cases h

/-! ### operands -/
def ERel (β : Bij) (ρ : Env) (tm : E) (ev : Operand → Value) : Prop := ∀ x, VRel β ρ (evO tm x) (ev x)

theorem evP_rel {tm : E} {ev : Operand → Value} (E : ERel β ρ tm ev) : ∀ (l : List (Nat × Operand)), PRel β ρ (evP tm l) (l.map fun (i, x) => (i, ev x))
  | [] => .nil
  | (_, x) :: l => .cons (E x) (evP_rel E l)

theorem nthV_rel : ∀ {i : Nat} {l : List V} {vs : List Value} {v : V}, ALRel β ρ l vs → nthV i l = some v → ∃ cv, vs[i]? = some cv ∧ ARel β ρ v cv
  | _, [], _, v, h, hv => by simp [nthV] at hv
  | 0, x :: l, _, v, h, hv => by
    cases h with
    | cons h1 h2 => simp [nthV] at hv; subst hv; exact ⟨_, rfl, h1⟩
  | i + 1, _ :: l, _, v, h, hv => by
    cases h with
    | cons h1 h2 => simpa using nthV_rel (i := i) h2 (by simpa [nthV] using hv)

theorem pureOp_sound (hρ : ρ.ok L) {tm : E} {ev : Operand → Value} (E : ERel β ρ tm ev) {o : Oper} {v : V} (h : pureOp P L tm o.op = some v) :
    ∃ cv, VRel β ρ v cv ∧ ∀ w, (execOp ev o).run P w = .ok (.value cv) w := by
  obtain ⟨dst, op, ty, pos, after, guard⟩ := o
  simp only at h
  unfold pureOp at h
  split at h
  · rename_i x
    simp only [Option.some.injEq] at h; subst h
    exact ⟨_, E x, fun w => rfl⟩
  · rename_i x
    simp only [Option.some.injEq] at h; subst h
    exact ⟨_, E x, fun w => rfl⟩
  · rename_i c a b
    unfold aPick at h
    have hc := E c
    split at h
    · rename_i hcc
      rw [hcc] at hc
      simp only [Option.some.injEq] at h; subst h
      refine ⟨_, E a, fun w => ?_⟩
      have hc' : ev c = .bool true := hc
      simp [execOp, hc', asBool]
    · rename_i hcc
      rw [hcc] at hc
      simp only [Option.some.injEq] at h; subst h
      refine ⟨_, E b, fun w => ?_⟩
      have hc' : ev c = .bool false := hc
      simp [execOp, hc', asBool]
    · cases h
  · rename_i t parts
    have hp := evP_rel E parts.toList
    obtain ⟨cv, h1, h2⟩ := aBuild_sound (P := P) (cparts := parts.map fun (i, x) => (i, ev x)) (by simpa using hp) h
    exact ⟨cv, h1, fun w => run_value (h2 w)⟩
  · rename_i x
    have hx := E x
    split at h
    · rename_i b off hcc
      rw [hcc] at hx
      obtain ⟨c, sz, hb, he⟩ := hx
      simp only [Option.some.injEq] at h; subst h
      exact ⟨_, ⟨c, sz, hb, rfl⟩, fun w => by simp [execOp, he]⟩
    · cases h
  · rename_i op t x y _
    obtain ⟨cv, h1, h2⟩ := binV_sound (P := P) hρ x y (E x) (E y) h
    exact ⟨cv, h1, fun w => run_value (h2 w)⟩
  · rename_i op _ x
    obtain ⟨cv, h1, h2⟩ := aUn_sound (P := P) (E x) h
    exact ⟨cv, h1, fun w => run_value (h2 w)⟩
  · rename_i s d x
    obtain ⟨cv, h1, h2⟩ := aConv_sound hρ (E x) h
    exact ⟨cv, h1, fun w => run_value (h2 w)⟩
  · rename_i t x lo hi
    obtain ⟨cv, h1, h2⟩ := aSlice_sound (P := P) (clo := lo.map ev) (chi := hi.map ev) (E x) (by cases lo <;> simp [E _]) (by cases hi <;> simp [E _]) h
    exact ⟨cv, h1, fun w => run_value (h2 w)⟩
  · rename_i s x f
    obtain ⟨cv, h1, h2⟩ := aFieldAddr_sound (P := P) (E x) h
    exact ⟨cv, h1, fun w => run_value (h2 w)⟩
  · rename_i s x f
    obtain ⟨cv, h1, h2⟩ := aField_sound (P := P) (E x) h
    exact ⟨cv, h1, fun w => run_value (h2 w)⟩
  · rename_i t x ix
    obtain ⟨cv, h1, h2⟩ := aIndexAddr_sound (P := P) (E x) (E ix) h
    exact ⟨cv, h1, fun w => run_value (h2 w)⟩
  · rename_i t x ix
    obtain ⟨cv, h1, h2⟩ := aIndex_sound (P := P) hρ (E x) (E ix) h
    exact ⟨cv, h1, fun w => run_value (h2 w)⟩
  · rename_i x i
    have hx := E x
    split at h
    · rename_i vs hcc
      rw [hcc] at hx
      obtain ⟨cvs, he, hr⟩ := hx
      obtain ⟨cv, h1, h2⟩ := nthV_rel hr h
      refine ⟨cv, h2.vrel, fun w => ?_⟩
      have h1' : cvs[i]? = some cv := by simpa using h1
      simp [execOp, Instr.extract, he, h1']
    · cases h
  · rename_i args argTypes
    split at h
    · rename_i x t hx ht
      have hargs : args = #[x] := by apply Array.ext'; simpa using hx
      have htys : argTypes = #[t] := by apply Array.ext'; simpa using ht
      subst hargs
      subst htys
      obtain ⟨cv, h1, h2⟩ := aLen_sound (P := P) (ty := ty) (E x) h
      refine ⟨cv, h1, fun w => ?_⟩
      simp only [execOp, resolve, Sem.run_bind, Sem.run_pure, Result.andThen_ok, invoke, builtin]
      have := h2 w
      simp only [List.map_toArray, List.map_cons, List.map_nil] at this ⊢
      rw [this]
      rfl
    · cases h
  · cases h

end
end Go.Abs
