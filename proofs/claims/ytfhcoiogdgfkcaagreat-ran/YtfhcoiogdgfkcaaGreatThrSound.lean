import Derived.Test.YtfhcoiogdgfkcaaGreatThrCode
namespace Go.Abs

section
variable {P : Program} {L : Nat} {plan : FuncId → Nat → Plan}

theorem anewF_eq (e : E) : anewF e = e.anew := by cases e; rfl

/-- a region that draws its order and has nothing loose runs as its steps do -/
theorem stepsD_plain {call : CallT} {ops : Array Oper} {base : Nat} : ∀ {l : List Oper} {k : Nat} {s s' : St}, l.all plainO = true → stepsA P L call ops l s = some s' → ∃ tr, stepsD P L call ops base k l s = some tr ∧ lastT tr = some s'
  | [], k, s, s', _, h => by
    simp only [stepsA, Option.some.injEq] at h
    subst h
    exact ⟨[s], rfl, rfl⟩
  | o :: l, k, s, s', hp, h => by
    simp only [List.all_cons, Bool.and_eq_true] at hp
    simp only [stepsA] at h
    have hstep : stepD P L call ops base k o s = stepA P L call ops o s := by
      unfold stepD
      split
      · rename_i t h1 h2
        have := hp.1
        unfold plainO at this
        rw [h1, h2] at this
        cases this
      · rfl
    split at h
    · rename_i s1 h1
      obtain ⟨tr, h2, h3⟩ := stepsD_plain (base := base) (k := k + 1) hp.2 h
      refine ⟨s :: tr, ?_, ?_⟩
      · simp only [stepsD, hstep, h1, h2]
      · cases tr with
        | nil => simp [lastT] at h3
        | cons y t => exact h3
    · cases h

theorem drawn_plain {call : CallT} {ops : Array Oper} {pl : Plan} {e : E} {h : Tr Blk} {nx nt : Nat} {s' : St} (hp : plainB ops pl = true) (hs : stepsA P L call ops ops.toList ⟨e, h, nx + ops.size, nt⟩ = some s') :
    drawnA P L call ops pl ⟨e, h, nx, nt⟩ = some s' := by
  unfold plainB at hp
  simp only [Bool.and_eq_true, List.isEmpty_iff] at hp
  obtain ⟨⟨h1, h2⟩, h3⟩ := hp
  obtain ⟨tr, g1, g2⟩ := stepsD_plain (base := nx) (k := 0) h3 hs
  unfold drawnA
  rw [h1, h2]
  simp only [layA, g1, List.all_nil, g2]

def CoOk (P : Program) (L : Nat) (k : CoT) (c : Code) : Prop :=
  ∀ {ρ : Env} {w0 : World} {call : CallT}, ρ.ok L → NoNum P → P.follows .mixedOrders = true → CallOk P w0 ρ call → ∀ (n : Nat) (s : St) (r : Ex) (s' : St), k call n s = some (r, s') →
    ∀ (β : Bij) (a : Act) (w : World), SRel w0 β ρ s a w → c.wp P (Post w0 ρ s.nx β r s') a w

theorem loopF_unfold (a : St → Out) (n : Nat) (s : St) : loopF a (n + 1) s = (match a s with | some (.normal, s1) => loopF a n s1 | some (.exit i, s1) => some (.exit i, s1) | some (.ret, s1) => some (.ret, s1) | none => none) := by
  show Option.rec (motive := fun _ => Out) none _ (a s) = _
  cases a s with
  | none => rfl
  | some p => obtain ⟨e, s1⟩ := p; cases e <;> rfl

theorem compC_ok (f : FuncId) : ∀ (c : Code), planB plan f c = true → CoOk P L (compC P L plan f c) c := by
  intro c
  induction c with
  | skip =>
    intro _ ρ w0 call hρ hN hm hc n s r s' h β a w S
    have h' : some (Ex.normal, s) = some (r, s') := h
    cases h'
    exact wp_skip ⟨rfl, β, Ext.refl _ β, S⟩
  | exit id =>
    intro _ ρ w0 call hρ hN hm hc n s r s' h β a w S
    have h' : some (Ex.exit id, s) = some (r, s') := h
    cases h'
    exact wp_exit ⟨rfl, β, Ext.refl _ β, S⟩
  | ret =>
    intro _ ρ w0 call hρ hN hm hc n s r s' h β a w S
    have h' : some (Ex.ret, s) = some (r, s') := h
    cases h'
    exact wp_ret ⟨rfl, β, Ext.refl _ β, S⟩
  | region id ops d =>
    intro hpl ρ w0 call hρ hN hm hc n s r s' h β a w S
    obtain ⟨e, hp, nx, nt⟩ := s
    cases d with
    | false =>
      have h' : Option.rec (motive := fun _ => Out) none (fun s' => some (.normal, s')) (compSs P L ops ops.toList call ⟨anewF e, hp, nx, nt⟩) = some (r, s') := h
      rw [compSs_ok, anewF_eq] at h'
      cases hs : stepsA P L call ops ops.toList ⟨e.anew, hp, nx, nt⟩ with
      | none => rw [hs] at h'; cases h'
      | some s1 =>
        rw [hs] at h'
        cases h'
        exact wp_region_list (stepsA_wp hρ hN hc ops.toList S.anew hs fun β' a' w' e1 S1 => ⟨rfl, β', e1, S1⟩)
    | true =>
      have key : ∀ s1, drawnA P L call ops (plan f id) ⟨e.anew, hp, nx, nt⟩ = some s1 → some (Ex.normal, s1) = some (r, s') → (Code.region id ops true).wp P (Post w0 ρ nx β r s') a w := by
        intro s1 hd he
        cases he
        exact drawnA_wp hρ hN hm hc hpl S.anew hd fun β' a' w' e1 S1 => ⟨rfl, β', e1, S1⟩
      cases hpb : plainB ops (plan f id) with
      | true =>
        have hk : compC P L plan f (.region id ops true) = cRegD ops.size (compSs P L ops ops.toList) := by simp only [compC, hpb]
        rw [hk] at h
        have h' : Option.rec (motive := fun _ => Out) none (fun s' => some (.normal, s')) (compSs P L ops ops.toList call ⟨anewF e, hp, Nat.add nx ops.size, nt⟩) = some (r, s') := h
        rw [compSs_ok, anewF_eq] at h'
        cases hs : stepsA P L call ops ops.toList ⟨e.anew, hp, Nat.add nx ops.size, nt⟩ with
        | none => rw [hs] at h'; cases h'
        | some s1 =>
          rw [hs] at h'
          exact key s1 (drawn_plain hpb hs) h'
      | false =>
        have hk : compC P L plan f (.region id ops true) = cDrawn P L ops (plan f id) := by simp only [compC, hpb]
        rw [hk] at h
        have h' : Option.rec (motive := fun _ => Out) none (fun s' => some (.normal, s')) (drawnA P L call ops (plan f id) ⟨anewF e, hp, nx, nt⟩) = some (r, s') := h
        rw [anewF_eq] at h'
        cases hs : drawnA P L call ops (plan f id) ⟨e.anew, hp, nx, nt⟩ with
        | none => rw [hs] at h'; cases h'
        | some s1 =>
          rw [hs] at h'
          exact key s1 hs h'
  | seq x y ihx ihy =>
    intro hpl ρ w0 call hρ hN hm hc n s r s' h β a w S
    simp only [planB, Bool.and_eq_true] at hpl
    have h' : Option.rec (motive := fun _ => Out) none (fun p => Prod.rec (fun e s => Ex.rec (motive := fun _ => Out) (compC P L plan f y call n s) (fun i => some (.exit i, s)) (some (.ret, s)) e) p) (compC P L plan f x call n s) = some (r, s') := h
    refine wp_seq ?_
    cases hx : compC P L plan f x call n s with
    | none => rw [hx] at h'; cases h'
    | some p =>
      obtain ⟨e1, s1⟩ := p
      rw [hx] at h'
      refine wp_mono (ihx hpl.1 hρ hN hm hc n s e1 s1 hx β a w S) fun e a' w' hp => ?_
      obtain ⟨rfl, β1, q1, S1⟩ := hp
      cases e1 with
      | normal =>
        have h2 : compC P L plan f y call n s1 = some (r, s') := h'
        refine wp_mono (ihy hpl.2 hρ hN hm hc n s1 r s' h2 β1 a' w' S1) fun e2 a2 w2 hp2 => ?_
        obtain ⟨rfl, β2, q2, S2⟩ := hp2
        exact ⟨rfl, β2, q1.trans q2, S2⟩
      | exit i =>
        have h2 : some (Ex.exit i, s1) = some (r, s') := h'
        cases h2
        exact ⟨rfl, β1, q1, S1⟩
      | ret =>
        have h2 : some (Ex.ret, s1) = some (r, s') := h'
        cases h2
        exact ⟨rfl, β1, q1, S1⟩
  | cond x y z ihy ihz =>
    intro hpl ρ w0 call hρ hN hm hc n s r s' h β a w S
    simp only [planB, Bool.and_eq_true] at hpl
    obtain ⟨e, hp, nx, nt⟩ := s
    have h' : onBool (compO x e) (fun t => Bool.rec (compC P L plan f z call n ⟨e, hp, nx, nt⟩) (compC P L plan f y call n ⟨e, hp, nx, nt⟩) t) none = some (r, s') := h
    rw [compO_ok x e, onBool_eq] at h'
    have hev := S.ev x
    split at h'
    · rename_i b hb
      rw [show evO (St.mk e hp nx nt).tm x = evO e x from rfl, hb] at hev
      cases b with
      | true => exact wp_cond_true hev (ihy hpl.1 hρ hN hm hc n _ r s' h' β a w S)
      | false => exact wp_cond_false hev (ihz hpl.2 hρ hN hm hc n _ r s' h' β a w S)
    · cases h'
  | block id y ihy =>
    intro hpl ρ w0 call hρ hN hm hc n s r s' h β a w S
    simp only [planB] at hpl
    have h' : Option.rec (motive := fun _ => Out) none (fun p => Prod.rec (fun e s => Ex.rec (motive := fun _ => Out) (some (.normal, s)) (fun i => Bool.rec (some (.exit i, s)) (some (.normal, s)) (Nat.beq i id)) (some (.ret, s)) e) p) (compC P L plan f y call n s) = some (r, s') := h
    refine wp_block ?_
    cases hx : compC P L plan f y call n s with
    | none => rw [hx] at h'; cases h'
    | some p =>
      obtain ⟨e1, s1⟩ := p
      rw [hx] at h'
      refine wp_mono (ihy hpl hρ hN hm hc n s e1 s1 hx β a w S) fun e a' w' hp => ?_
      obtain ⟨rfl, β1, q1, S1⟩ := hp
      cases e1 with
      | normal =>
        have h2 : some (Ex.normal, s1) = some (r, s') := h'
        cases h2
        exact ⟨rfl, β1, q1, S1⟩
      | ret =>
        have h2 : some (Ex.ret, s1) = some (r, s') := h'
        cases h2
        exact ⟨rfl, β1, q1, S1⟩
      | exit i =>
        have h2 : Bool.rec (motive := fun _ => Out) (some (.exit i, s1)) (some (.normal, s1)) (Nat.beq i id) = some (r, s') := h'
        show (if i = id then _ else _)
        by_cases hi : i = id
        · rw [nbeq_true hi] at h2
          cases h2
          rw [if_pos hi]
          exact ⟨rfl, β1, q1, S1⟩
        · rw [nbeq_false hi] at h2
          cases h2
          rw [if_neg hi]
          exact ⟨rfl, β1, q1, S1⟩
  | loop y ihy =>
    intro hpl ρ w0 call hρ hN hm hc n s r s' h β a w S
    simp only [planB] at hpl
    have h' : loopF (compC P L plan f y call n) n s = some (r, s') := h
    refine wp_loop_fuel (fun k a' w' => ∃ s1 β1, loopF (compC P L plan f y call n) k s1 = some (r, s') ∧ Ext s.nx s1.nx β β1 ∧ SRel w0 β1 ρ s1 a' w') (fun k a1 w1 hR => ?_) n a w ⟨s, β, h', Ext.refl _ β, S⟩
    obtain ⟨s1, β1, h1, e1, S1⟩ := hR
    cases k with
    | zero => cases (show (none : Out) = some (r, s') from h1)
    | succ k =>
      rw [loopF_unfold] at h1
      split at h1
      · rename_i s2 h2
        refine wp_mono (ihy hpl hρ hN hm hc n s1 .normal s2 h2 β1 a1 w1 S1) fun e a' w' hp => ?_
        obtain ⟨rfl, β2, e2, S2⟩ := hp
        exact ⟨k, by omega, s2, β2, h1, e1.trans e2, S2⟩
      · rename_i i s2 h2
        cases h1
        refine wp_mono (ihy hpl hρ hN hm hc n s1 _ _ h2 β1 a1 w1 S1) fun e a' w' hp => ?_
        obtain ⟨rfl, β2, e2, S2⟩ := hp
        exact ⟨rfl, β2, e1.trans e2, S2⟩
      · rename_i s2 h2
        cases h1
        refine wp_mono (ihy hpl hρ hN hm hc n s1 _ _ h2 β1 a1 w1 S1) fun e a' w' hp => ?_
        obtain ⟨rfl, β2, e2, S2⟩ := hp
        exact ⟨rfl, β2, e1.trans e2, S2⟩
      · cases h1
  | _ =>
    intro _ ρ w0 call hρ hN hm hc n s r s' h β a w S
    cases (show (none : Out) = some (r, s') from h)

/-! ### functions -/
theorem compR_ok (r : ResultVar) (e : E) (h : Tr Blk) : compR P r e h = resV P e h r := by
  cases r with
  | tmp t => show some (rT t e) = _; rw [rT_eq]; rfl
  | cell a t =>
    have no : compR P (.cell a t) = qNo → resV P e h (.cell a t) = none → compR P (.cell a t) e h = resV P e h (.cell a t) := fun h1 h2 => by rw [h1, h2]; rfl
    cases ha : aggT P t with
    | none => exact no (by simp only [compR, ha]) (by simp only [resV, ha]; cases evO e (.tmp a) <;> rfl)
    | some b =>
      cases hs : szOf P t with
      | none => exact no (by simp only [compR, ha, hs]) (by simp only [resV, ha, hs]; cases evO e (.tmp a) <;> cases b <;> rfl)
      | some n =>
        cases b with
        | true =>
          have h1 : compR P (.cell a t) = qAgg a n := by simp only [compR, ha, hs]
          rw [h1]
          show onPtr (rT a e) _ _ = _
          rw [rT_eq, onPtr_eq]
          simp only [resV, ha, hs]
          cases evO e (.tmp a) <;> try rfl
          rename_i b off
          show loadAtR h b off n = _
          rw [loadAtR_eq]
          simp only
          cases loadAt h b off n <;> rfl
        | false =>
          by_cases hn : n = 1
          · subst hn
            have h1 : compR P (.cell a t) = qOne a := by simp only [compR, ha, hs]
            rw [h1]
            show onPtr (rT a e) _ _ = _
            rw [rT_eq, onPtr_eq]
            simp only [resV, ha, hs]
            cases evO e (.tmp a) <;> try rfl
            rename_i b off
            show load1R h b off = _
            rw [load1R_eq]
            simp only
            cases loadAt h b off 1 with
            | none => rfl
            | some l => cases l <;> rfl
          · refine no ?_ ?_
            · simp only [compR, ha, hs]
              split
              · rename_i h1 h2; cases h1
              · rename_i h1 h2; cases h2; exact absurd rfl hn
              · rfl
            · simp only [resV, ha, hs]
              split
              · rename_i h1 h2; cases h1
              · rename_i h1 h2; cases h2; exact absurd rfl hn
              · rfl
theorem compRs_ok : ∀ (l : List ResultVar) (e : E) (h : Tr Blk), resF (compRs P l) e h = resL P e h l
  | [], _, _ => rfl
  | r :: l, e, h => by
    show Option.rec (motive := fun _ => Option (List V)) none (fun v => Option.rec (motive := fun _ => Option (List V)) none (fun vs => some (v :: vs)) (resF (compRs P l) e h)) (compR P r e h) = _
    rw [compR_ok, compRs_ok l]
    simp only [resL]
    cases resV P e h r with
    | none => rfl
    | some v =>
      show Option.rec (motive := fun _ => Option (List V)) none (fun vs => some (v :: vs)) (resL P e h l) = _
      simp only
      cases resL P e h l <;> rfl

theorem argsE_eq : ∀ (l : List V) (i : Nat) (e : E), argsE l i e = tmOf i e l
  | [], _, _ => rfl
  | v :: l, i, e => by
    show argsE l (Nat.succ i) (putE e i v) = _
    rw [argsE_eq l, putE_eq]; rfl

structure FnOk (P : Program) (L : Nat) (plan : FuncId → Nat → Plan) (f : FuncId) (ft : FnT) : Prop where
  ok : ∃ fn b, P.funcs[f]? = some fn ∧ fn.body = some b ∧ planB plan f b = true ∧ ft.nt = fn.ntmps ∧ ft.body = compC P L plan f b ∧ ft.res = compRs P fn.results.toList

theorem packF_spec {h h' : Tr Blk} {nx nx' : Nat} {vs : List V} {v : V} (hp : packF h nx vs = some (v, h', nx')) : h' = h ∧ nx' = nx ∧ ((vs = [v]) ∨ ((∀ u, vs ≠ [u]) ∧ noTupV vs = true ∧ v = .tup vs)) := by
  have tup : ∀ {vs : List V}, tupF h nx vs = some (v, h', nx') → h' = h ∧ nx' = nx ∧ noTupV vs = true ∧ v = .tup vs := by
    intro vs ht
    unfold tupF at ht
    cases hn : noTupV vs with
    | false => rw [hn] at ht; cases ht
    | true => rw [hn] at ht; cases ht; exact ⟨rfl, rfl, rfl, rfl⟩
  cases vs with
  | nil =>
    obtain ⟨h1, h2, h3, h4⟩ := tup (vs := []) hp
    exact ⟨h1, h2, .inr ⟨fun u e => (by cases e), h3, h4⟩⟩
  | cons x l =>
    cases l with
    | nil =>
      have hp' : some (x, h, nx) = some (v, h', nx') := hp
      cases hp'
      exact ⟨rfl, rfl, .inl rfl⟩
    | cons y l =>
      obtain ⟨h1, h2, h3, h4⟩ := tup (vs := x :: y :: l) hp
      exact ⟨h1, h2, .inr ⟨fun u e => (by cases e), h3, h4⟩⟩

theorem callF_ok {ρ : Env} {w0 : World} (hρ : ρ.ok L) (hN : NoNum P) (hm : P.follows .mixedOrders = true) {fns : FuncId → Option FnT} (hfns : ∀ f ft, fns f = some ft → FnOk P L plan f ft) {orc : FuncId → List V → Option V} (horc : OrcOk P ρ orc) (turns : Nat) :
    ∀ depth, CallOk P w0 ρ (callF fns orc turns depth) := by
  intro depth
  induction depth with
  | zero => intro f args h nx v h' nx' hc; cases (show (none : Res) = some (v, h', nx') from hc)
  | succ depth ih =>
    intro f args h nx v h' nx' hc
    have hc' : Option.rec (motive := fun _ => Res) (Option.rec (motive := fun _ => Res) none (fun fn => goF (callF fns orc turns depth) turns args h nx fn) (fns f)) (fun v => some (v, h, nx)) (orc f args) = some (v, h', nx') := hc
    cases ho : orc f args with
    | some v1 =>
      rw [ho] at hc'
      cases hc'
      obtain ⟨h1, h2⟩ := horc _ _ _ ho
      refine ⟨h1, fun β cargs w H ha => (h2 β cargs w ha).mono fun e w' he => ?_⟩
      obtain ⟨cv, rfl, hv, rfl⟩ := he
      exact ⟨cv, β, rfl, Ext.refl _ β, hv, H⟩
    | none =>
      rw [ho] at hc'
      cases hft : fns f with
      | none => rw [hft] at hc'; cases hc'
      | some ft =>
        rw [hft] at hc'
        obtain ⟨fn, b, hfn, hb, hpl, e1, e2, e3⟩ := (hfns f ft hft).ok
        obtain ⟨nt, far, body, res⟩ := ft
        have e1' : nt = fn.ntmps := e1
        have e2' : body = compC P L plan f b := e2
        have e3' : res = compRs P fn.results.toList := e3
        subst e1'
        subst e2'
        subst e3'
        have hc2 : Bool.rec (motive := fun _ => Res) none (backF (compRs P fn.results.toList) (compC P L plan f b (callF fns orc turns depth) turns ⟨argsE args 0 ⟨far, .nil, .nil⟩, h, nx, fn.ntmps⟩)) (Nat.ble args.length fn.ntmps) = some (v, h', nx') := hc'
        cases hle : Nat.ble args.length fn.ntmps with
        | false => rw [hle] at hc2; cases hc2
        | true =>
          rw [hle] at hc2
          have hle' := Nat.le_of_ble_eq_true hle
          have hc3 : backF (compRs P fn.results.toList) (compC P L plan f b (callF fns orc turns depth) turns ⟨argsE args 0 ⟨far, .nil, .nil⟩, h, nx, fn.ntmps⟩) = some (v, h', nx') := hc2
          rw [argsE_eq] at hc3
          refine ⟨⟨fn, hfn, by rw [hb]; rfl⟩, fun β cargs w H ha => ?_⟩
          have S0 := enter_rel (x := far) H ha hle'
          cases hx : compC P L plan f b (callF fns orc turns depth) turns ⟨tmOf 0 ⟨far, .nil, .nil⟩ args, h, nx, fn.ntmps⟩ with
          | none => rw [hx] at hc3; cases hc3
          | some p =>
            obtain ⟨ex, s1⟩ := p
            rw [hx] at hc3
            have hwp := compC_ok f b hpl hρ hN hm ih turns _ ex s1 hx β _ w S0
            refine calls_of_wp hfn hb (wp_mono hwp fun e a' w' hp => ?_)
            obtain ⟨rfl, β', q1, S1⟩ := hp
            obtain ⟨te, th, tn, tnt⟩ := s1
            have fin : Option.rec (motive := fun _ => Res) none (fun vs => packF th tn vs) (resF (compRs P fn.results.toList) te th) = some (v, h', nx') → ∃ cv, (results fn a'.tmps).run P w' = .ok cv w' ∧ VRel β' ρ v cv ∧ h' = th ∧ nx' = tn := by
              intro hr
              rw [compRs_ok] at hr
              cases hvs : resL P te th fn.results.toList with
              | none => rw [hvs] at hr; cases hr
              | some vs =>
                rw [hvs] at hr
                obtain ⟨k1, k2, k3⟩ := packF_spec (show packF th tn vs = some (v, h', nx') from hr)
                rcases k3 with rfl | ⟨k4, k5, rfl⟩
                · obtain ⟨cv, g1, g2⟩ := (results_sound (P := P) S1 hvs).1 _ rfl
                  exact ⟨cv, g2, g1, k1, k2⟩
                · obtain ⟨cv, g1, g2⟩ := (results_sound (P := P) S1 hvs).2 k4 k5
                  exact ⟨cv, g2, g1, k1, k2⟩
            cases ex with
            | normal =>
              obtain ⟨cv, g1, g2, rfl, rfl⟩ := fin hc3
              exact ⟨S1.defers, cv, g1, cv, β', rfl, q1, g2, S1.hp⟩
            | exit id => cases (show (none : Res) = some (v, h', nx') from hc3)
            | ret =>
              obtain ⟨cv, g1, g2, rfl, rfl⟩ := fin hc3
              exact ⟨S1.defers, cv, g1, cv, β', rfl, q1, g2, S1.hp⟩

/-- what a run of the evaluator says of the call -/
theorem run_ok {ρ : Env} (hρ : ρ.ok L) (hN : NoNum P) (hm : P.follows .mixedOrders = true) {fns : FuncId → Option FnT} (hfns : ∀ f ft, fns f = some ft → FnOk P L plan f ft) {orc : FuncId → List V → Option V} (horc : OrcOk P ρ orc)
    {turns depth : Nat} {f : FuncId} {args : List V} {b : Bool} {h' : Tr Blk} {nx' : Nat} (hrun : callF fns orc turns depth f args .nil 0 = some (.bool b, h', nx')) {cargs : Array Value} (ha : VLRel (fun _ => none) ρ args cargs.toList) (w : World) :
    Calls P f cargs w fun e w' => e = .returned (.bool b) ∧ RowKit.Grown w w' := by
  have hk := callF_ok (plan := plan) (w0 := w) hρ hN hm hfns horc turns depth f args .nil 0 _ h' nx' hrun
  have H0 : HRel w (fun _ => none) ρ .nil 0 w := by
    refine ⟨fun b k c sz h1 => ?_, fun b b' k k' c s s' h1 => ?_, fun b c sz h1 => ?_, fun b _ => ⟨Tr.get_nil b, rfl⟩, Kept.refl w⟩
    · rw [Tr.get_nil] at h1; cases h1
    · rw [Tr.get_nil] at h1; cases h1
    · cases h1
  refine (hk.2 _ cargs w H0 ha).mono fun e w' he => ?_
  obtain ⟨cv, β', rfl, _, hv, H⟩ := he
  have hcv : cv = .bool b := hv
  subst hcv
  exact ⟨rfl, H.kept.grown⟩

end
end Go.Abs
