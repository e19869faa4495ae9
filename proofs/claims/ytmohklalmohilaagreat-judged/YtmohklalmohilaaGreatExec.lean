import Derived.Test.YtmohklalmohilaaGreatOps6
import Derived.Tactics
namespace Go.Abs

section
variable {P : Program} {L : Nat} {ρ : Env} {β : Bij} {w0 : World}

structure SRel (w0 : World) (β : Bij) (ρ : Env) (s : St) (a : Act) (w : World) : Prop where
  tm : ∀ t, VRel β ρ (evO s.tm (.tmp t)) (a.tmps.getD t Go.undef)
  size : a.tmps.size = s.nt
  defers : a.defers = []
  hp : HRel w0 β ρ s.hp s.nx w

theorem SRel.ev {s : St} {a : Act} {w : World} (S : SRel w0 β ρ s a w) : ERel β ρ s.tm a.eval := by
  intro x
  cases x with
  | tmp t => exact S.tm t
  | const v =>
    show VRel β ρ (match absV v with | some x => x | none => .junk) v
    cases h : absV v with
    | none => trivial
    | some x => exact (absV_rel h).vrel
  | global g => trivial
  | func f => trivial

/-- the temporaries alone -/
def TRel (β : Bij) (ρ : Env) (tm : E) (a : Act) : Prop := ∀ t, VRel β ρ (evO tm (.tmp t)) (a.tmps.getD t Go.undef)

theorem E.look_put (e : E) (d t : Nat) (v : V) : (e.put d v).look t = if t = d then some v else e.look t := by
  unfold E.put
  cases hd : e.far d with
  | true =>
    have hx : ∀ t, E.far ⟨e.x, e.ls, e.tm.put d v⟩ t = e.far t := fun _ => rfl
    simp only
    unfold E.look
    rw [hx]
    by_cases h : t = d
    · subst h
      simp only [hd, Tr.get_put, if_true]
    · cases ht : e.far t with
      | true => simp only [Tr.get_put, if_neg h]
      | false => simp only [if_neg h]
  | false =>
    have hx : ∀ t, E.far ⟨e.x, .cons d v e.ls, e.tm⟩ t = e.far t := fun _ => rfl
    simp only
    unfold E.look
    rw [hx]
    by_cases h : t = d
    · subst h
      simp only [hd, Loc.look, Nat.beq_refl, if_true]
    · cases ht : e.far t with
      | true => simp only [if_neg h]
      | false => simp only [Loc.look, nbeq_false (Ne.symm h), if_neg h]

theorem evO_put (tm : E) (d t : Nat) (v : V) : evO (tm.put d v) (.tmp t) = if t = d then v else evO tm (.tmp t) := by
  simp only [evO, E.look_put]
  by_cases h : t = d <;> simp [h]

theorem evO_anew (tm : E) (t : Nat) : evO tm.anew (.tmp t) = evO tm (.tmp t) ∨ evO tm.anew (.tmp t) = .junk := by
  have hx : tm.anew.far t = tm.far t := rfl
  simp only [evO, E.look, hx]
  cases tm.far t with
  | true => exact .inl rfl
  | false => exact .inr rfl

theorem SRel.anew {s : St} {a : Act} {w : World} (S : SRel w0 β ρ s a w) : SRel w0 β ρ ⟨s.tm.anew, s.hp, s.nx, s.nt⟩ a w := by
  refine ⟨fun t => ?_, S.size, S.defers, S.hp⟩
  rcases evO_anew s.tm t with h | h
  · rw [h]; exact S.tm t
  · rw [h]; trivial

theorem put_rel {nt : Nat} {tm tm' : E} {a : Act} {d : Option Tmp} {v : V} {cv : Value} (T : TRel β ρ tm a) (hs : a.tmps.size = nt) (hp : putT nt tm d v = some tm') (hv : VRel β ρ v cv) :
    TRel β ρ tm' (a.put d cv) ∧ (a.put d cv).tmps.size = nt ∧ (a.put d cv).defers = a.defers := by
  unfold putT at hp
  split at hp
  · rename_i t
    split at hp
    · rename_i hlt
      rw [Nat.blt_eq] at hlt
      simp only [Option.some.injEq] at hp
      subst hp
      refine ⟨fun x => ?_, by simp [Act.put, hs], rfl⟩
      rw [evO_put]
      by_cases e : x = t
      · subst e
        rw [if_pos rfl]
        simp [Act.put, hs, hlt, hv]
      · rw [if_neg e]
        have := T x
        simpa [Act.put, Array.getElem?_setIfInBounds_ne (Ne.symm e)] using this
    · cases hp
  · simp only [Option.some.injEq] at hp
    subst hp
    exact ⟨T, hs, rfl⟩

theorem TRel.mono {β' : Bij} (hb : β.le β') {tm : E} {a : Act} (T : TRel β ρ tm a) : TRel β' ρ tm a := fun t => (T t).mono hb

inductive VLRel (β : Bij) (ρ : Env) : List V → List Value → Prop
  | nil : VLRel β ρ [] []
  | cons {x v l vs} : VRel β ρ x v → VLRel β ρ l vs → VLRel β ρ (x :: l) (v :: vs)

theorem evL_rel {tm : E} {ev : Operand → Value} (E : ERel β ρ tm ev) : ∀ (l : List Operand), VLRel β ρ (evL tm l) (l.map ev)
  | [] => .nil
  | x :: l => .cons (E x) (evL_rel E l)

def CallOk (P : Program) (w0 : World) (ρ : Env) (call : FuncId → List V → Tr Blk → Nat → Option (V × Tr Blk × Nat)) : Prop :=
  ∀ f args h nx v h' nx', call f args h nx = some (v, h', nx') → (∃ fn, P.funcs[f]? = some fn ∧ fn.body.isSome = true) ∧
    ∀ (β : Bij) (cargs : Array Value) (w : World), HRel w0 β ρ h nx w → VLRel β ρ args cargs.toList →
      Calls P f cargs w fun e w' => ∃ cv β', e = .returned cv ∧ Ext nx nx' β β' ∧ VRel β' ρ v cv ∧ HRel w0 β' ρ h' nx' w'

def NoNum (P : Program) : Prop := ∀ (f : FuncId) (fn : Func), P.funcs[f]? = some fn → fn.name ≠ "runtime.NumGoroutine"

theorem opA_wp (hρ : ρ.ok L) (hN : NoNum P) {call : FuncId → List V → Tr Blk → Nat → Option (V × Tr Blk × Nat)} (hcall : CallOk P w0 ρ call) {s : St} {a : Act} {w : World} {o : Oper} (S : SRel w0 β ρ s a w)
    {v : V} {h' : Tr Blk} {nx' : Nat} (h : opA P L call o s = some (v, h', nx')) {next : Act → World → Prop} {Q : Exit → Act → World → Prop}
    (K : ∀ cv β' w', Ext s.nx nx' β β' → VRel β' ρ v cv → HRel w0 β' ρ h' nx' w' → next (a.put o.dst cv) w') : o.wp P a w next Q := by
  unfold opA at h
  split at h
  · rename_i v' hp
    simp only [Option.some.injEq, Prod.mk.injEq] at h
    obtain ⟨rfl, rfl, rfl⟩ := h
    obtain ⟨cv, h1, h2⟩ := pureOp_sound hρ S.ev hp
    unfold Oper.wp
    rw [h2 w, Oper.upon_value]
    exact K cv β w (Ext.refl _ β) h1 S.hp
  · split at h
    · rename_i v' hr
      simp only [Option.some.injEq, Prod.mk.injEq] at h
      obtain ⟨rfl, rfl, rfl⟩ := h
      obtain ⟨cv, h1, h2⟩ := readOp_sound hρ S.hp S.ev hr
      unfold Oper.wp
      rw [h2, Oper.upon_value]
      exact K cv β w (Ext.refl _ β) h1 S.hp
    · split at h
      · rename_i f args tys hop
        obtain ⟨⟨fn, hf, hb⟩, hc⟩ := hcall _ _ _ _ _ _ _ h
        have hrun : (execOp a.eval o).run P w = .ok (.enter f (args.map a.eval)) w := by
          have hname := hN f fn hf
          simp [execOp, hop, resolve, Act.eval, Deferred.ofValue, invoke, callFunc, hf, hname]
          intro hbn
          rw [hbn] at hb
          cases hb
        unfold Oper.wp
        rw [hrun, Oper.upon_enter]
        refine (hc β (args.map a.eval) w S.hp (by simpa using evL_rel S.ev args.toList)).mono fun e w' he => ?_
        obtain ⟨cv, β', rfl, h1, h2, h3⟩ := he
        exact K cv β' w' h1 h2 h3
      · obtain ⟨cv, β', w', h1, h2, h3, h4⟩ := effOp_sound (P := P) hρ S.hp S.ev h
        unfold Oper.wp
        rcases h1 with h1 | ⟨h1, rfl⟩
        · rw [h1, Oper.upon_value]
          exact K cv β' w' h2 h3 h4
        · rw [h1, Oper.upon_skip]
          exact K _ β' w' h2 h3 h4

theorem wantA_sound {ops : Array Oper} {tm : E} {a : Act} {o : Oper} {r : Bool} (T : TRel β ρ tm a) (h : wantA ops tm o = some r) : Region.wanted o (yielded ops a.tmps) = r := by
  unfold wantA at h
  unfold Region.wanted
  split at h
  · rename_i hg
    simp only [Option.some.injEq] at h
    rw [hg]; exact h
  · rename_i j want hg
    rw [hg]
    simp only
    unfold yielded
    split at h
    · rename_i q hq
      split at h
      · rename_i t hd
        have ht := T t
        simp only [hq, hd, Option.bind_some]
        split at h
        · rename_i b hb
          rw [hb] at ht
          have ht' : a.tmps.getD t Go.undef = .bool b := ht
          have : a.tmps[t]? = some (.bool b) := by
            cases hg2 : a.tmps[t]? with
            | none => rw [Array.getD_eq_getD_getElem?, hg2] at ht'; cases ht'
            | some y => rw [Array.getD_eq_getD_getElem?, hg2] at ht'; simpa using ht'
          rw [this]
          simp only [Option.some.injEq] at h
          rw [← h]
          cases b <;> cases want <;> rfl
        · rename_i hb
          rw [hb] at ht
          obtain ⟨vs, ht', _⟩ := ht
          simp only [Option.some.injEq] at h
          subst h
          cases hg2 : a.tmps[t]? with
          | none => rfl
          | some y =>
            rw [Array.getD_eq_getD_getElem?, hg2] at ht'
            simp only [Option.getD_some] at ht'
            subst ht'
            rfl
        · cases h
      · rename_i hd
        simp only [Option.some.injEq] at h
        subst h
        simp [hq, hd]
    · rename_i hq
      simp only [Option.some.injEq] at h
      subst h
      simp [hq]

theorem stepA_wp (hρ : ρ.ok L) (hN : NoNum P) {call : FuncId → List V → Tr Blk → Nat → Option (V × Tr Blk × Nat)} (hcall : CallOk P w0 ρ call) {ops : Array Oper} {s s' : St} {a : Act} {w : World} {o : Oper} (S : SRel w0 β ρ s a w)
    (h : stepA P L call ops o s = some s') {K : Act → World → Prop} {Q : Exit → Act → World → Prop}
    (hK : ∀ β' a' w', Ext s.nx s'.nx β β' → SRel w0 β' ρ s' a' w' → K a' w') :
    if Region.wanted o (yielded ops a.tmps) then o.wp P a w K Q ∨ (o.asks P a w ∧ LetsOut Q) else K (a.put o.dst Go.undef) w := by
  unfold stepA at h
  split at h
  · cases h
  · rename_i hw
    rw [wantA_sound S.tm hw]
    simp only [Bool.false_eq_true, if_false]
    split at h
    · rename_i tm hp
      simp only [Option.some.injEq] at h
      subst h
      obtain ⟨h1, h2, h3⟩ := put_rel S.tm S.size hp VRel.undef
      exact hK β _ w (Ext.refl _ β) ⟨h1, h2, h3.trans S.defers, S.hp⟩
    · cases h
  · rename_i hw
    rw [wantA_sound S.tm hw]
    simp only [if_true]
    left
    split at h
    · rename_i v h2 n hop
      split at h
      · rename_i tm hp
        simp only [Option.some.injEq] at h
        subst h
        refine opA_wp hρ hN hcall S hop fun cv β' w' hle hv hh => ?_
        obtain ⟨g1, g2, g3⟩ := put_rel (TRel.mono hle.le S.tm) S.size hp hv
        exact hK β' _ w' hle ⟨g1, g2, g3.trans S.defers, hh⟩
      · cases h
    · cases h

theorem stepsA_wp (hρ : ρ.ok L) (hN : NoNum P) {call : FuncId → List V → Tr Blk → Nat → Option (V × Tr Blk × Nat)} (hcall : CallOk P w0 ρ call) {ops : Array Oper} {Q : Exit → Act → World → Prop} {s' : St} :
    ∀ (l : List Oper) {β : Bij} {s : St} {a : Act} {w : World}, SRel w0 β ρ s a w → stepsA P L call ops l s = some s' → (∀ β' a' w', Ext s.nx s'.nx β β' → SRel w0 β' ρ s' a' w' → Q .normal a' w') → wpList P ops Q l a w
  | [], β, s, a, w, S, h, hK => by
    simp only [stepsA, Option.some.injEq] at h
    subst h
    exact hK β a w (Ext.refl _ β) S
  | o :: l, β, s, a, w, S, h, hK => by
    simp only [stepsA] at h
    split at h
    · rename_i s1 h1
      unfold wpList
      exact stepA_wp hρ hN hcall S h1 fun β' a' w' hle S' => stepsA_wp hρ hN hcall l S' h fun β'' a'' w'' hle' => hK β'' a'' w'' (hle.trans hle')
    · cases h

end
end Go.Abs
