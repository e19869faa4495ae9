import Derived.Test.YtfhcoiogdgfkcaaGreatHoOp
namespace Go.Abs

abbrev Out := Option (Ex × St)
section
variable (P : Program) (L : Nat) (plan : FuncId → Nat → Plan)

/-! ### the code of a region -/
noncomputable def putK (far nt : Nat) (d : Option Tmp) (v : V) (ls : Loc) (tm : Tr V) (k : Loc → Tr V → Res) : Res := match d with
  | none => k ls tm
  | some t => (match Nat.blt t nt with
    | true => (match farB far t with
      | true => wF (wrT t v tm) fun tm' => k ls tm'
      | false => k (.cons t v ls) tm)
    | false => none)
noncomputable def stepK (far nt : Nat) (ops : Array Oper) (o : Oper) (rest : Loc → Tr V → Hp → Nat → Res) (ls : Loc) (tm : Tr V) (h : Hp) (nx : Nat) (call : CallK) : Res := match o.guard with
  | none => opK P L far o ls tm h nx call fun v h' nx' => putK far nt o.dst v ls tm fun ls' tm' => rest ls' tm' h' nx'
  | some (j, w) => (match (ops[j]?).bind (·.dst) with
    | some g => kG (evK far ls tm (.tmp g)) w (fun k => opK P L far o ls tm h nx call k) h nx fun v h' nx' => putK far nt o.dst v ls tm fun ls' tm' => rest ls' tm' h' nx'
    | none => putK far nt o.dst .undef ls tm fun ls' tm' => rest ls' tm' h nx)
noncomputable def compR (far nt : Nat) (ops : Array Oper) (l : List Oper) : Loc → Tr V → Hp → Nat → CallK → KE → Res :=
  List.rec (motive := fun _ => Loc → Tr V → Hp → Nat → CallK → KE → Res) (fun _ tm h nx _ kn => kn tm h nx)
    (fun o _ ih ls tm h nx call kn => stepK P L far nt ops o (fun ls' tm' h' nx' => ih ls' tm' h' nx' call kn) ls tm h nx call) l

/-! ### the code of a code -/
def plainO (o : Oper) : Bool := match o.op, o.guard with | .alloc _, none => false | .makeSlice .., none => false | _, _ => true
def plainB (ops : Array Oper) (pl : Plan) : Bool := pl.pairs.isEmpty && pl.allocs.isEmpty && ops.toList.all plainO
noncomputable def condK : Operand → Tr V → V
  | .tmp t => rdT t
  | .const v => fun _ => (match absV v with | some x => x | none => .junk)
  | _ => fun _ => .junk
noncomputable def compK (far nt : Nat) (f : FuncId) : Code → CoK
  | .skip => cSkip
  | .region _ ops false => cReg fun call kn tm h nx => compR P L far nt ops ops.toList .nil tm h nx call kn
  | .region id ops true => (match plainB ops (plan f id) with
    | true => cRegD ops.size fun call kn tm h nx => compR P L far nt ops ops.toList .nil tm h nx call kn
    | false => cSlow P L far nt ops (plan f id))
  | .seq a b => cSeq (compK far nt f a) (compK far nt f b)
  | .cond x a b => cCond (condK x) (compK far nt f a) (compK far nt f b)
  | .block id b => cBlock id (compK far nt f b)
  | .loop b => cLoop (compK far nt f b)
  | .exit id => cExit id
  | .ret => cRet
  | _ => cNone
def farC (far : Nat) : Code → Bool
  | .seq a b => farC far a && farC far b
  | .cond x a b => (match x with | .tmp t => farB far t | _ => true) && (farC far a && farC far b)
  | .block _ b => farC far b
  | .loop b => farC far b
  | _ => true

/-! ### the same, one state after another -/
def loopM (a : St → Out) : Nat → St → Out
  | 0, _ => none
  | n + 1, s => match a s with
    | some (.normal, s1) => loopM a n s1
    | some (.exit i, s1) => some (.exit i, s1)
    | some (.ret, s1) => some (.ret, s1)
    | none => none
def midC (f : FuncId) : Code → CallT → Nat → St → Out
  | .skip, _, _, s => some (.normal, s)
  | .region _ ops false, call, _, s => (match stepsA P L call ops ops.toList ⟨s.tm.anew, s.hp, s.nx, s.nt⟩ with
    | some s' => some (.normal, s')
    | none => none)
  | .region id ops true, call, _, s => (match drawnA P L call ops (plan f id) ⟨s.tm.anew, s.hp, s.nx, s.nt⟩ with
    | some s' => some (.normal, s')
    | none => none)
  | .seq a b, call, n, s => (match midC f a call n s with
    | some (.normal, s1) => midC f b call n s1
    | some (.exit i, s1) => some (.exit i, s1)
    | some (.ret, s1) => some (.ret, s1)
    | none => none)
  | .cond x a b, call, n, s => (match evO s.tm x with
    | .bool true => midC f a call n s
    | .bool false => midC f b call n s
    | _ => none)
  | .block id b, call, n, s => (match midC f b call n s with
    | some (.exit i, s1) => (match Nat.beq i id with | true => some (.normal, s1) | false => some (.exit i, s1))
    | some (.normal, s1) => some (.normal, s1)
    | some (.ret, s1) => some (.ret, s1)
    | none => none)
  | .loop b, call, n, s => loopM (midC f b call n) n s
  | .exit id, _, _, s => some (.exit id, s)
  | .ret, _, _, s => some (.ret, s)
  | _, _, _, _ => none
end

section
variable {P : Program} {L : Nat} {plan : FuncId → Nat → Plan}

def endK (kn : KE) : Option St → Res
  | some s => kn s.tm.tm s.hp s.nx
  | none => none
theorem putK_ok {far nt : Nat} {d : Option Tmp} {v : V} {ls : Loc} {tm : Tr V} {k : Loc → Tr V → Res} {kn : KE} {h' : Hp} {nx' : Nat} {F : St → Option St} (hk : ∀ ls' tm', k ls' tm' = endK kn (F ⟨⟨far, ls', tm'⟩, h', nx', nt⟩)) :
    putK far nt d v ls tm k = endK kn (match (match putT nt ⟨far, ls, tm⟩ d v with | some e => some (St.mk e h' nx' nt) | none => none) with | some s' => F s' | none => none) := by
  unfold putK putT
  cases d with
  | none => exact hk ls tm
  | some t =>
    simp only
    cases Nat.blt t nt with
    | false => rfl
    | true =>
      simp only [E.put]
      have hf : E.far ⟨far, ls, tm⟩ t = farB far t := rfl
      rw [hf]
      cases farB far t with
      | false => exact hk _ _
      | true =>
        show k ls (wrT t v tm) = _
        rw [wrT_eq]
        exact hk _ _
theorem kG_eq {ops : Array Oper} {e : E} {o : Oper} {j : Nat} {w : Bool} {g : Tmp} (hg : o.guard = some (j, w)) (hd : (ops[j]?).bind (·.dst) = some g) (op : KV → Res) (h : Hp) (nx : Nat) (K : KV) :
    kG (evO e (.tmp g)) w op h nx K = (match wantA ops e o with | none => none | some false => K .undef h nx | some true => op K) := by
  unfold kG wantA
  rw [hg]
  simp only
  cases hq : ops[j]? with
  | none => rw [hq] at hd; cases hd
  | some q =>
    rw [hq] at hd
    have hd' : q.dst = some g := hd
    simp only [hd']
    rw [onBool_eq, onTup_eq]
    cases evO e (.tmp g) <;> try rfl
    · rename_i b; cases b <;> cases w <;> rfl
    · rename_i l; cases l <;> rfl
theorem stepK_ok {far nt : Nat} {ops : Array Oper} {o : Oper} {rest : Loc → Tr V → Hp → Nat → Res} {ls : Loc} {tm : Tr V} {h : Hp} {nx : Nat} {call : CallK} (hcall : CallNat call) {kn : KE} {F : St → Option St}
    (hr : ∀ ls' tm' h' nx', rest ls' tm' h' nx' = endK kn (F ⟨⟨far, ls', tm'⟩, h', nx', nt⟩)) :
    stepK P L far nt ops o rest ls tm h nx call = endK kn (match stepA P L (dir call) ops o ⟨⟨far, ls, tm⟩, h, nx, nt⟩ with | some s' => F s' | none => none) := by
  have run : ∀ {r : Res}, r = bR (opA P L (dir call) o ⟨⟨far, ls, tm⟩, h, nx, nt⟩) (fun v h' nx' => putK far nt o.dst v ls tm fun ls' tm' => rest ls' tm' h' nx') →
      r = endK kn (match (match opA P L (dir call) o ⟨⟨far, ls, tm⟩, h, nx, nt⟩ with | some (v, h, n) => (match putT nt ⟨far, ls, tm⟩ o.dst v with | some tm => some ⟨tm, h, n, nt⟩ | none => none) | none => none) with | some s' => F s' | none => none) := by
    intro r hr'
    rw [hr']
    cases opA P L (dir call) o ⟨⟨far, ls, tm⟩, h, nx, nt⟩ with
    | none => rfl
    | some p =>
      obtain ⟨v, h', nx'⟩ := p
      rw [bR_some]
      exact putK_ok fun ls' tm' => hr ls' tm' h' nx'
  unfold stepK
  cases hg : o.guard with
  | none =>
    have hw : wantA ops ⟨far, ls, tm⟩ o = some true := by unfold wantA; rw [hg]
    unfold stepA
    simp only [hw]
    exact run (opK_ok hcall _)
  | some p =>
    obtain ⟨j, w⟩ := p
    simp only
    cases hgd : (ops[j]?).bind (·.dst) with
    | none =>
      have hw : wantA ops ⟨far, ls, tm⟩ o = some false := by
        unfold wantA
        rw [hg]
        simp only
        cases hq : ops[j]? with
        | none => rfl
        | some q =>
          rw [hq] at hgd
          have hd' : q.dst = none := hgd
          simp only [hd']
      unfold stepA
      simp only [hw]
      exact putK_ok fun ls' tm' => hr ls' tm' h nx
    | some g =>
      simp only
      rw [evK_eq, kG_eq (ops := ops) hg hgd]
      unfold stepA
      simp only
      cases wantA ops ⟨far, ls, tm⟩ o with
      | none => rfl
      | some b =>
        cases b with
        | false => exact putK_ok fun ls' tm' => hr ls' tm' h nx
        | true => exact run (opK_ok hcall _)
theorem compR_ok {far nt : Nat} {ops : Array Oper} {call : CallK} (hcall : CallNat call) {kn : KE} : ∀ (l : List Oper) (ls : Loc) (tm : Tr V) (h : Hp) (nx : Nat),
    compR P L far nt ops l ls tm h nx call kn = endK kn (stepsA P L (dir call) ops l ⟨⟨far, ls, tm⟩, h, nx, nt⟩)
  | [], _, _, _, _ => rfl
  | o :: l, ls, tm, h, nx => by
    show stepK P L far nt ops o (fun ls' tm' h' nx' => compR P L far nt ops l ls' tm' h' nx' call kn) ls tm h nx call = _
    rw [stepK_ok (F := fun s => stepsA P L (dir call) ops l s) hcall fun ls' tm' h' nx' => compR_ok hcall l ls' tm' h' nx']
    rfl

/-! ### what stays: the mask and the number of temporaries -/
theorem putT_x {nt : Nat} {e e' : E} {d : Option Tmp} {v : V} (h : putT nt e d v = some e') : e'.x = e.x := by
  unfold putT at h
  cases d with
  | none => cases h; rfl
  | some t =>
    simp only at h
    split at h
    · cases h
      unfold E.put
      cases e.far t <;> rfl
    · cases h
theorem stepA_keeps {call : CallT} {ops : Array Oper} {o : Oper} {s s' : St} (h : stepA P L call ops o s = some s') : s'.tm.x = s.tm.x ∧ s'.nt = s.nt := by
  unfold stepA at h
  split at h
  · cases h
  · split at h
    · rename_i tm hp; cases h; exact ⟨putT_x hp, rfl⟩
    · cases h
  · split at h
    · split at h
      · rename_i tm hp; cases h; exact ⟨putT_x hp, rfl⟩
      · cases h
    · cases h
theorem stepsA_keeps {call : CallT} {ops : Array Oper} : ∀ {l : List Oper} {s s' : St}, stepsA P L call ops l s = some s' → s'.tm.x = s.tm.x ∧ s'.nt = s.nt
  | [], s, s', h => by cases h; exact ⟨rfl, rfl⟩
  | o :: l, s, s', h => by
    simp only [stepsA] at h
    split at h
    · rename_i s1 h1
      obtain ⟨a, b⟩ := stepA_keeps h1
      obtain ⟨c, d⟩ := stepsA_keeps h
      exact ⟨c.trans a, d.trans b⟩
    · cases h
theorem stepD_keeps {call : CallT} {ops : Array Oper} {base k : Nat} {o : Oper} {s s' : St} (h : stepD P L call ops base k o s = some s') : s'.tm.x = s.tm.x ∧ s'.nt = s.nt := by
  unfold stepD at h
  split at h
  · split at h
    · split at h
      · rename_i tm hp; cases h; exact ⟨putT_x hp, rfl⟩
      · cases h
    · cases h
  · split at h
    · split at h
      · rename_i tm hp; cases h; exact ⟨putT_x hp, rfl⟩
      · cases h
    · cases h
  · exact stepA_keeps h
theorem stepsD_keeps {call : CallT} {ops : Array Oper} {base : Nat} : ∀ {l : List Oper} {k : Nat} {s s' : St} {tr : List St}, stepsD P L call ops base k l s = some tr → lastT tr = some s' → s'.tm.x = s.tm.x ∧ s'.nt = s.nt
  | [], k, s, s', tr, h, hl => by cases h; cases hl; exact ⟨rfl, rfl⟩
  | o :: l, k, s, s', tr, h, hl => by
    simp only [stepsD] at h
    split at h
    · rename_i s1 h1
      split at h
      · rename_i tr1 h2
        cases h
        have hl' : lastT tr1 = some s' := by
          cases tr1 with
          | nil =>
            cases l with
            | nil => simp [stepsD] at h2
            | cons o' l' =>
              simp only [stepsD] at h2
              split at h2
              · split at h2 <;> cases h2
              · cases h2
          | cons y t => exact hl
        obtain ⟨a, b⟩ := stepD_keeps h1
        obtain ⟨c, d⟩ := stepsD_keeps h2 hl'
        exact ⟨c.trans a, d.trans b⟩
      · cases h
    · cases h
theorem drawnA_keeps {call : CallT} {ops : Array Oper} {pl : Plan} {s s' : St} (h : drawnA P L call ops pl s = some s') : s'.tm.x = s.tm.x ∧ s'.nt = s.nt := by
  unfold drawnA at h
  split at h
  · split at h
    · rename_i tr htr
      split at h
      · obtain ⟨a, b⟩ := stepsD_keeps htr h
        exact ⟨a, b⟩
      · cases h
    · cases h
  · cases h
theorem midC_keeps (f : FuncId) : ∀ (c : Code) (call : CallT) (n : Nat) (s : St) (r : Ex) (s' : St), midC P L plan f c call n s = some (r, s') → s'.tm.x = s.tm.x ∧ s'.nt = s.nt := by
  intro c
  induction c with
  | skip => intro call n s r s' h; cases h; exact ⟨rfl, rfl⟩
  | exit id => intro call n s r s' h; cases h; exact ⟨rfl, rfl⟩
  | ret => intro call n s r s' h; cases h; exact ⟨rfl, rfl⟩
  | region id ops d =>
    intro call n s r s' h
    cases d with
    | false =>
      simp only [midC] at h
      split at h
      · rename_i s1 h1; cases h; obtain ⟨a, b⟩ := stepsA_keeps h1; exact ⟨a, b⟩
      · cases h
    | true =>
      simp only [midC] at h
      split at h
      · rename_i s1 h1; cases h; obtain ⟨a, b⟩ := drawnA_keeps h1; exact ⟨a, b⟩
      · cases h
  | seq a b iha ihb =>
    intro call n s r s' h
    simp only [midC] at h
    split at h
    · rename_i s1 h1
      obtain ⟨p, q⟩ := iha call n s _ _ h1
      obtain ⟨p', q'⟩ := ihb call n s1 _ _ h
      exact ⟨p'.trans p, q'.trans q⟩
    · rename_i i s1 h1; cases h; exact iha call n s _ _ h1
    · rename_i s1 h1; cases h; exact iha call n s _ _ h1
    · cases h
  | cond x a b iha ihb =>
    intro call n s r s' h
    simp only [midC] at h
    split at h
    · exact iha call n s _ _ h
    · exact ihb call n s _ _ h
    · cases h
  | block id b ihb =>
    intro call n s r s' h
    simp only [midC] at h
    split at h
    · rename_i i s1 h1
      split at h <;> (cases h; exact ihb call n s _ _ h1)
    · rename_i s1 h1; cases h; exact ihb call n s _ _ h1
    · rename_i s1 h1; cases h; exact ihb call n s _ _ h1
    · cases h
  | loop b ihb =>
    intro call n s r s' h
    have key : ∀ (m : Nat) (s : St), loopM (midC P L plan f b call n) m s = some (r, s') → s'.tm.x = s.tm.x ∧ s'.nt = s.nt := by
      intro m
      induction m with
      | zero => intro s h; cases h
      | succ m ih =>
        intro s h
        simp only [loopM] at h
        split at h
        · rename_i s1 h1
          obtain ⟨p, q⟩ := ihb call n s _ _ h1
          obtain ⟨p', q'⟩ := ih s1 h
          exact ⟨p'.trans p, q'.trans q⟩
        · rename_i i s1 h1; cases h; exact ihb call n s _ _ h1
        · rename_i s1 h1; cases h; exact ihb call n s _ _ h1
        · cases h
    exact key n s h
  | _ => intro call n s r s' h; cases h

/-! ### a region that draws its order and has nothing loose -/
theorem stepsD_plain {call : CallT} {ops : Array Oper} {base : Nat} : ∀ {l : List Oper} {k : Nat} {s : St}, l.all plainO = true →
    (∃ s' tr, stepsA P L call ops l s = some s' ∧ stepsD P L call ops base k l s = some tr ∧ lastT tr = some s') ∨ (stepsA P L call ops l s = none ∧ stepsD P L call ops base k l s = none)
  | [], k, s, _ => .inl ⟨s, [s], rfl, rfl, rfl⟩
  | o :: l, k, s, hp => by
    simp only [List.all_cons, Bool.and_eq_true] at hp
    have hstep : stepD P L call ops base k o s = stepA P L call ops o s := by
      unfold stepD
      split
      · rename_i t h1 h2
        have := hp.1
        unfold plainO at this
        rw [h1, h2] at this
        cases this
      · rename_i t l c h1 h2
        have := hp.1
        unfold plainO at this
        rw [h1, h2] at this
        cases this
      · rfl
    simp only [stepsA, stepsD, hstep]
    cases h1 : stepA P L call ops o s with
    | none => exact .inr ⟨rfl, rfl⟩
    | some s1 =>
      simp only
      rcases stepsD_plain (call := call) (ops := ops) (base := base) (l := l) (k := k + 1) (s := s1) hp.2 with ⟨s', tr, h2, h3, h4⟩ | ⟨h2, h3⟩
      · refine .inl ⟨s', s :: tr, h2, by rw [h3], ?_⟩
        cases tr with
        | nil => simp [lastT] at h4
        | cons y t => exact h4
      · exact .inr ⟨h2, by rw [h3]⟩
theorem any_make {l : List Oper} (h : l.all plainO = true) : l.any isMake = false := by
  rw [List.any_eq_false]
  intro o ho hm
  have := List.all_eq_true.1 h o ho
  unfold isMake at hm
  split at hm
  · rename_i h1 h2
    unfold plainO at this
    rw [h1, h2] at this
    cases this
  · cases hm
theorem drawn_plain {call : CallT} {ops : Array Oper} {pl : Plan} {e : E} {h : Hp} {nx nt : Nat} (hp : plainB ops pl = true) :
    drawnA P L call ops pl ⟨e, h, nx, nt⟩ = stepsA P L call ops ops.toList ⟨e, h, nx + ops.size, nt⟩ := by
  unfold plainB at hp
  simp only [Bool.and_eq_true, List.isEmpty_iff] at hp
  obtain ⟨⟨h1, h2⟩, h3⟩ := hp
  unfold drawnA laidA
  rw [h1, h2, any_make h3]
  simp only [layA, List.all_nil]
  rcases stepsD_plain (P := P) (L := L) (call := call) (ops := ops) (base := nx) (l := ops.toList) (k := 0) (s := ⟨e, h, nx + ops.size, nt⟩) h3 with ⟨s', tr, g1, g2, g3⟩ | ⟨g1, g2⟩
  · rw [g1, g2]; exact g3
  · rw [g1, g2]

/-! ### both are the same -/
def contO (kn : KE) (ke : Nat → KE) (kr : KE) : Out → Res
  | some (.normal, s) => kn s.tm.tm s.hp s.nx
  | some (.exit i, s) => ke i s.tm.tm s.hp s.nx
  | some (.ret, s) => kr s.tm.tm s.hp s.nx
  | none => none
theorem endK_cont (kn : KE) (ke : Nat → KE) (kr : KE) (o : Option St) : endK kn o = contO kn ke kr (match o with | some s' => some (.normal, s') | none => none) := by cases o <;> rfl
theorem condK_eq {far : Nat} {ls : Loc} {tm : Tr V} {x : Operand} (h : (match x with | .tmp t => farB far t | _ => true) = true) : condK x tm = evO ⟨far, ls, tm⟩ x := by
  cases x with
  | tmp t =>
    have h' : farB far t = true := h
    show rdT t tm = _
    rw [← evK_eq]
    show _ = (match farB far t with | true => rdT t tm | false => orJ (ls.look t))
    rw [h']
  | const v => rfl
  | global g => rfl
  | func f => rfl
theorem compK_ok (far nt : Nat) (f : FuncId) {call : CallK} (hcall : CallNat call) (n : Nat) : ∀ (c : Code), farC far c = true → ∀ (kn : KE) (ke : Nat → KE) (kr : KE) (ls : Loc) (tm : Tr V) (h : Hp) (nx : Nat),
    compK P L plan far nt f c call n kn ke kr tm h nx = contO kn ke kr (midC P L plan f c (dir call) n ⟨⟨far, ls, tm⟩, h, nx, nt⟩) := by
  intro c
  induction c with
  | skip => intro _ kn ke kr ls tm h nx; rfl
  | exit id => intro _ kn ke kr ls tm h nx; rfl
  | ret => intro _ kn ke kr ls tm h nx; rfl
  | region id ops d =>
    intro _ kn ke kr ls tm h nx
    cases d with
    | false =>
      show compR P L far nt ops ops.toList .nil tm h nx call kn = _
      rw [compR_ok hcall, endK_cont kn ke kr]
      rfl
    | true =>
      simp only [midC]
      cases hpb : plainB ops (plan f id) with
      | true =>
        have hk : compK P L plan far nt f (.region id ops true) = cRegD ops.size fun call kn tm h nx => compR P L far nt ops ops.toList .nil tm h nx call kn := by simp only [compK, hpb]
        rw [hk]
        show compR P L far nt ops ops.toList .nil tm h (nx + ops.size) call kn = _
        rw [compR_ok hcall, endK_cont kn ke kr, drawn_plain hpb]
        rfl
      | false =>
        have hk : compK P L plan far nt f (.region id ops true) = cSlow P L far nt ops (plan f id) := by simp only [compK, hpb]
        rw [hk]
        show Option.rec (motive := fun _ => Res) none _ (drawnA P L (dir call) ops (plan f id) ⟨⟨far, .nil, tm⟩, h, nx, nt⟩) = contO kn ke kr (match drawnA P L (dir call) ops (plan f id) ⟨⟨far, .nil, tm⟩, h, nx, nt⟩ with | some s' => some (.normal, s') | none => none)
        cases drawnA P L (dir call) ops (plan f id) ⟨⟨far, .nil, tm⟩, h, nx, nt⟩ with
        | none => rfl
        | some s => obtain ⟨⟨_, _, _⟩, _, _, _⟩ := s; rfl
  | seq a b iha ihb =>
    intro hf kn ke kr ls tm h nx
    simp only [farC, Bool.and_eq_true] at hf
    show compK P L plan far nt f a call n (compK P L plan far nt f b call n kn ke kr) ke kr tm h nx = _
    rw [iha hf.1 _ ke kr ls]
    simp only [midC]
    cases hx : midC P L plan f a (dir call) n ⟨⟨far, ls, tm⟩, h, nx, nt⟩ with
    | none => rfl
    | some p =>
      obtain ⟨e1, s1⟩ := p
      obtain ⟨q1, q2⟩ := midC_keeps f a _ _ _ _ _ hx
      obtain ⟨⟨x1, ls1, tm1⟩, h1, nx1, nt1⟩ := s1
      have q1' : x1 = far := q1
      have q2' : nt1 = nt := q2
      subst q1'
      subst q2'
      cases e1 with
      | normal => exact ihb hf.2 kn ke kr ls1 tm1 h1 nx1
      | exit i => rfl
      | ret => rfl
  | cond x a b iha ihb =>
    intro hf kn ke kr ls tm h nx
    simp only [farC, Bool.and_eq_true] at hf
    show onBool (condK x tm) (fun t => Bool.rec (motive := fun _ => CoK) (compK P L plan far nt f b) (compK P L plan far nt f a) t call n kn ke kr tm h nx) none = _
    rw [condK_eq (ls := ls) hf.1, onBool_eq]
    simp only [midC]
    cases evO ⟨far, ls, tm⟩ x <;> try rfl
    rename_i t
    cases t with
    | true => exact iha hf.2.1 kn ke kr ls tm h nx
    | false => exact ihb hf.2.2 kn ke kr ls tm h nx
  | block id b ihb =>
    intro hf kn ke kr ls tm h nx
    simp only [farC] at hf
    show compK P L plan far nt f b call n kn (fun i => Bool.rec (motive := fun _ => KE) (ke i) kn (Nat.beq i id)) kr tm h nx = _
    rw [ihb hf kn _ kr ls]
    simp only [midC]
    cases midC P L plan f b (dir call) n ⟨⟨far, ls, tm⟩, h, nx, nt⟩ with
    | none => rfl
    | some p =>
      obtain ⟨e1, s1⟩ := p
      cases e1 with
      | normal => rfl
      | ret => rfl
      | exit i =>
        show Bool.rec (motive := fun _ => KE) (ke i) kn (Nat.beq i id) s1.tm.tm s1.hp s1.nx = _
        simp only
        cases Nat.beq i id <;> rfl
  | loop b ihb =>
    intro hf kn ke kr ls tm h nx
    simp only [farC] at hf
    have key : ∀ (m : Nat) (ls : Loc) (tm : Tr V) (h : Hp) (nx : Nat), loopK (fun ih => compK P L plan far nt f b call n ih ke kr) m tm h nx = contO kn ke kr (loopM (midC P L plan f b (dir call) n) m ⟨⟨far, ls, tm⟩, h, nx, nt⟩) := by
      intro m
      induction m with
      | zero => intro ls tm h nx; rfl
      | succ m ih =>
        intro ls tm h nx
        show compK P L plan far nt f b call n (loopK (fun ih => compK P L plan far nt f b call n ih ke kr) m) ke kr tm h nx = _
        rw [ihb hf _ ke kr ls]
        simp only [loopM]
        cases hx : midC P L plan f b (dir call) n ⟨⟨far, ls, tm⟩, h, nx, nt⟩ with
        | none => rfl
        | some p =>
          obtain ⟨e1, s1⟩ := p
          obtain ⟨q1, q2⟩ := midC_keeps f b _ _ _ _ _ hx
          obtain ⟨⟨x1, ls1, tm1⟩, h1, nx1, nt1⟩ := s1
          have q1' : x1 = far := q1
          have q2' : nt1 = nt := q2
          subst q1'
          subst q2'
          cases e1 with
          | normal => exact ih ls1 tm1 h1 nx1
          | exit i => rfl
          | ret => rfl
    exact key n ls tm h nx
  | _ => intro _ kn ke kr ls tm h nx; rfl
end
end Go.Abs
