import Derived.Test.YtfhcoiogdgfkcaaGreatHoCode
namespace Go.Abs

section
variable {P : Program} {L : Nat} {plan : FuncId → Nat → Plan}

theorem midC_ok {ρ : Env} {w0 : World} {call : CallT} (hρ : ρ.ok L) (hN : NoNum P) (hm : P.follows .mixedOrders = true) (hc : CallOk P w0 ρ call) (f : FuncId) (n : Nat) : ∀ (c : Code), planB plan f c = true →
    ∀ (s : St) (r : Ex) (s' : St), midC P L plan f c call n s = some (r, s') → ∀ (β : Bij) (a : Act) (w : World), SRel w0 β ρ s a w → c.wp P (Post w0 ρ s.nx β r s') a w := by
  intro c
  induction c with
  | skip => intro _ s r s' h β a w S; cases h; exact wp_skip ⟨rfl, β, Ext.refl _ β, S⟩
  | exit id => intro _ s r s' h β a w S; cases h; exact wp_exit ⟨rfl, β, Ext.refl _ β, S⟩
  | ret => intro _ s r s' h β a w S; cases h; exact wp_ret ⟨rfl, β, Ext.refl _ β, S⟩
  | region id ops d =>
    intro hpl s r s' h β a w S
    cases d with
    | false =>
      simp only [midC] at h
      split at h
      · rename_i s1 h1
        cases h
        exact wp_region_list (stepsA_wp hρ hN hc ops.toList S.anew h1 fun β' a' w' e1 S1 => ⟨rfl, β', e1, S1⟩)
      · cases h
    | true =>
      simp only [midC] at h
      split at h
      · rename_i s1 h1
        cases h
        exact drawnA_wp hρ hN hm hc hpl S.anew h1 fun β' a' w' e1 S1 => ⟨rfl, β', e1, S1⟩
      · cases h
  | seq x y ihx ihy =>
    intro hpl s r s' h β a w S
    simp only [planB, Bool.and_eq_true] at hpl
    simp only [midC] at h
    refine wp_seq ?_
    cases hx : midC P L plan f x call n s with
    | none => rw [hx] at h; cases h
    | some p =>
      obtain ⟨e1, s1⟩ := p
      rw [hx] at h
      refine wp_mono (ihx hpl.1 s e1 s1 hx β a w S) fun e a' w' hp => ?_
      obtain ⟨rfl, β1, q1, S1⟩ := hp
      cases e1 with
      | normal =>
        refine wp_mono (ihy hpl.2 s1 r s' h β1 a' w' S1) fun e2 a2 w2 hp2 => ?_
        obtain ⟨rfl, β2, q2, S2⟩ := hp2
        exact ⟨rfl, β2, q1.trans q2, S2⟩
      | exit i => cases h; exact ⟨rfl, β1, q1, S1⟩
      | ret => cases h; exact ⟨rfl, β1, q1, S1⟩
  | cond x y z ihy ihz =>
    intro hpl s r s' h β a w S
    simp only [planB, Bool.and_eq_true] at hpl
    simp only [midC] at h
    have hev := S.ev x
    split at h
    · rename_i hb
      rw [hb] at hev
      exact wp_cond_true hev (ihy hpl.1 s r s' h β a w S)
    · rename_i hb
      rw [hb] at hev
      exact wp_cond_false hev (ihz hpl.2 s r s' h β a w S)
    · cases h
  | block id y ihy =>
    intro hpl s r s' h β a w S
    simp only [planB] at hpl
    simp only [midC] at h
    refine wp_block ?_
    cases hx : midC P L plan f y call n s with
    | none => rw [hx] at h; cases h
    | some p =>
      obtain ⟨e1, s1⟩ := p
      rw [hx] at h
      refine wp_mono (ihy hpl s e1 s1 hx β a w S) fun e a' w' hp => ?_
      obtain ⟨rfl, β1, q1, S1⟩ := hp
      cases e1 with
      | normal => cases h; exact ⟨rfl, β1, q1, S1⟩
      | ret => cases h; exact ⟨rfl, β1, q1, S1⟩
      | exit i =>
        simp only at h
        show (if i = id then _ else _)
        by_cases hi : i = id
        · rw [nbeq_true hi] at h
          cases h
          rw [if_pos hi]
          exact ⟨rfl, β1, q1, S1⟩
        · rw [nbeq_false hi] at h
          cases h
          rw [if_neg hi]
          exact ⟨rfl, β1, q1, S1⟩
  | loop y ihy =>
    intro hpl s r s' h β a w S
    simp only [planB] at hpl
    simp only [midC] at h
    refine wp_loop_fuel (fun k a' w' => ∃ s1 β1, loopM (midC P L plan f y call n) k s1 = some (r, s') ∧ Ext s.nx s1.nx β β1 ∧ SRel w0 β1 ρ s1 a' w') (fun k a1 w1 hR => ?_) n a w ⟨s, β, h, Ext.refl _ β, S⟩
    obtain ⟨s1, β1, h1, e1, S1⟩ := hR
    cases k with
    | zero => cases h1
    | succ k =>
      simp only [loopM] at h1
      split at h1
      · rename_i s2 h2
        refine wp_mono (ihy hpl s1 .normal s2 h2 β1 a1 w1 S1) fun e a' w' hp => ?_
        obtain ⟨rfl, β2, e2, S2⟩ := hp
        exact ⟨k, by omega, s2, β2, h1, e1.trans e2, S2⟩
      · rename_i i s2 h2
        cases h1
        refine wp_mono (ihy hpl s1 _ _ h2 β1 a1 w1 S1) fun e a' w' hp => ?_
        obtain ⟨rfl, β2, e2, S2⟩ := hp
        exact ⟨rfl, β2, e1.trans e2, S2⟩
      · rename_i s2 h2
        cases h1
        refine wp_mono (ihy hpl s1 _ _ h2 β1 a1 w1 S1) fun e a' w' hp => ?_
        obtain ⟨rfl, β2, e2, S2⟩ := hp
        exact ⟨rfl, β2, e1.trans e2, S2⟩
      · cases h1
  | _ => intro _ s r s' h; cases h

/-! ### functions -/
noncomputable def compQ (P : Program) : ResultVar → ResK
  | .tmp t => qTmp (rdT t)
  | .cell a t => (match aggT P t, szOf P t with
    | some true, some n => qAgg (rdT a) n
    | some false, some 1 => qOne (rdT a)
    | _, _ => qNo)
noncomputable def compQs (P : Program) : List ResultVar → List ResK
  | [] => []
  | r :: l => compQ P r :: compQs P l
def resFar (far : Nat) : List ResultVar → Bool
  | [] => true
  | .tmp t :: l => farB far t && resFar far l
  | .cell t _ :: l => farB far t && resFar far l
def lowFar (far : Nat) : Nat → Bool
  | 0 => true
  | n + 1 => farB far n && lowFar far n
theorem rd_far {far : Nat} {ls : Loc} {tm : Tr V} {t : Nat} (h : farB far t = true) : rdT t tm = evO ⟨far, ls, tm⟩ (.tmp t) := condK_eq (x := .tmp t) h
theorem compQ_ok {far : Nat} {ls : Loc} {tm : Tr V} {h : Hp} {r : ResultVar} {l : List ResultVar} (hf : resFar far (r :: l) = true) (k : V → Res) : compQ P r tm h k = bO (resV P ⟨far, ls, tm⟩ h r) k := by
  cases r with
  | tmp t =>
    simp only [resFar, Bool.and_eq_true] at hf
    show k (rdT t tm) = _
    rw [rd_far (ls := ls) hf.1]; rfl
  | cell a t =>
    simp only [resFar, Bool.and_eq_true] at hf
    have no : compQ P (.cell a t) = qNo → resV P ⟨far, ls, tm⟩ h (.cell a t) = none → compQ P (.cell a t) tm h k = bO (resV P ⟨far, ls, tm⟩ h (.cell a t)) k := fun h1 h2 => by rw [h1, h2]; rfl
    cases ha : aggT P t with
    | none => exact no (by simp only [compQ, ha]) (by simp only [resV, ha]; cases evO ⟨far, ls, tm⟩ (.tmp a) <;> rfl)
    | some b =>
      cases hs : szOf P t with
      | none => exact no (by simp only [compQ, ha, hs]) (by simp only [resV, ha, hs]; cases evO ⟨far, ls, tm⟩ (.tmp a) <;> cases b <;> rfl)
      | some n =>
        cases b with
        | true =>
          have h1 : compQ P (.cell a t) = qAgg (rdT a) n := by simp only [compQ, ha, hs]
          rw [h1]
          show kLdN n h (rdT a tm) k = _
          rw [kLdN_eq, rd_far (ls := ls) hf.1]
          simp only [resV, ha, hs]
          cases evO ⟨far, ls, tm⟩ (.tmp a) <;> rfl
        | false =>
          by_cases hn : n = 1
          · subst hn
            have h1 : compQ P (.cell a t) = qOne (rdT a) := by simp only [compQ, ha, hs]
            rw [h1]
            show kLd1 h (rdT a tm) k = _
            rw [kLd1_eq, rd_far (ls := ls) hf.1]
            simp only [resV, ha, hs]
            cases evO ⟨far, ls, tm⟩ (.tmp a) <;> rfl
          · refine no ?_ ?_
            · simp only [compQ, ha, hs]
              split
              · rename_i h1 h2; cases h1
              · rename_i h1 h2; cases h2; exact absurd rfl hn
              · rfl
            · simp only [resV, ha, hs]
              split
              · rename_i h1 h2; cases h1
              · rename_i h1 h2; cases h2; exact absurd rfl hn
              · rfl
theorem resK_ok {far : Nat} {ls : Loc} {tm : Tr V} {h : Hp} : ∀ {l : List ResultVar} (_ : resFar far l = true) (k : List V → Res), resK (compQs P l) tm h k = (match resL P ⟨far, ls, tm⟩ h l with | some vs => k vs | none => none)
  | [], _, _ => rfl
  | r :: l, hf, k => by
    have hf' : resFar far l = true := by cases r <;> (simp only [resFar, Bool.and_eq_true] at hf; exact hf.2)
    show compQ P r tm h (fun v => resK (compQs P l) tm h fun vs => k (v :: vs)) = _
    rw [compQ_ok (ls := ls) hf]
    simp only [resL]
    cases resV P ⟨far, ls, tm⟩ h r with
    | none => rfl
    | some v =>
      show resK (compQs P l) tm h (fun vs => k (v :: vs)) = _
      rw [resK_ok (ls := ls) hf']
      simp only
      cases resL P ⟨far, ls, tm⟩ h l <;> rfl
/-- what a function gives back -/
def packM (h : Hp) (nx : Nat) : Option (List V) → Res
  | some [v] => some (v, h, nx)
  | some vs => (match noTupV vs with | true => some (.tup vs, h, nx) | false => none)
  | none => none
theorem giveK_ok {far : Nat} {ls : Loc} {tm : Tr V} {h : Hp} {nx : Nat} {l : List ResultVar} (hf : resFar far l = true) (k : KV) : giveK (compQs P l) k tm h nx = bR (packM h nx (resL P ⟨far, ls, tm⟩ h l)) k := by
  cases l with
  | nil => rfl
  | cons r l =>
    cases l with
    | nil =>
      show compQ P r tm h (fun v => k v h nx) = _
      rw [compQ_ok (ls := ls) hf]
      simp only [resL]
      cases resV P ⟨far, ls, tm⟩ h r <;> rfl
    | cons r' l =>
      show resK (compQs P (r :: r' :: l)) tm h (fun vs => Bool.rec (motive := fun _ => Res) none (k (.tup vs) h nx) (noTupV vs)) = _
      rw [resK_ok (ls := ls) hf]
      cases hr : resL P ⟨far, ls, tm⟩ h (r :: r' :: l) with
      | none => rfl
      | some vs =>
        have two : ∃ x y z, vs = x :: y :: z := by
          simp only [resL] at hr
          split at hr
          · split at hr
            · rename_i v1 _ vs1 h1
              cases hr
              split at h1
              · split at h1
                · cases h1; exact ⟨_, _, _, rfl⟩
                · cases h1
              · cases h1
            · cases hr
          · cases hr
        obtain ⟨x, y, z, rfl⟩ := two
        simp only [packM]
        cases noTupV (x :: y :: z) <;> rfl
theorem argsT_ok {far : Nat} {ls : Loc} : ∀ (l : List V) (i : Nat) (tm : Tr V), (∀ j, i ≤ j → j < i + l.length → farB far j = true) → tmOf i ⟨far, ls, tm⟩ l = ⟨far, ls, argsT l i tm⟩
  | [], _, _, _ => rfl
  | v :: l, i, tm, h => by
    have hi : E.far ⟨far, ls, tm⟩ i = true := h i (Nat.le_refl i) (by simp only [List.length_cons]; omega)
    have hp : E.put ⟨far, ls, tm⟩ i v = ⟨far, ls, putV v tm i⟩ := by
      unfold E.put
      rw [hi]
      simp only [putV_eq]
    simp only [tmOf, hp]
    exact argsT_ok l (i + 1) _ fun j h1 h2 => h j (by omega) (by simp only [List.length_cons]; omega)
theorem argsF_eq (l : List V) : argsF l = argsT l 0 .nil := by
  cases l with
  | nil => rfl
  | cons a l =>
    cases l with
    | nil => rfl
    | cons b l =>
      cases l with
      | nil => rfl
      | cons c l =>
        cases l with
        | nil => rfl
        | cons d l => rfl
theorem lowFar_ok {far : Nat} : ∀ {n : Nat}, lowFar far n = true → ∀ j, j < n → farB far j = true
  | 0, _, _, hj => absurd hj (Nat.not_lt_zero _)
  | n + 1, h, j, hj => by
    simp only [lowFar, Bool.and_eq_true] at h
    by_cases e : j = n
    · rw [e]; exact h.1
    · exact lowFar_ok h.2 j (by omega)

structure FnOk (P : Program) (L : Nat) (plan : FuncId → Nat → Plan) (f : FuncId) (ft : FnK) : Prop where
  ok : ∃ far fn b, P.funcs[f]? = some fn ∧ fn.body = some b ∧ planB plan f b = true ∧ farC far b = true ∧ resFar far fn.results.toList = true ∧ lowFar far ft.np = true ∧ Nat.ble ft.np fn.ntmps = true ∧
    ft.body = compK P L plan far fn.ntmps f b ∧ ft.res = compQs P fn.results.toList

theorem contO_bR (ke : Nat → KE) {ke' : Nat → KE} {kn kn' : KE} {k : KV} (h1 : ∀ tm h nx, kn tm h nx = bR (kn' tm h nx) k) (h2 : ∀ i tm h nx, ke i tm h nx = bR (ke' i tm h nx) k) (o : Out) : contO kn ke kn o = bR (contO kn' ke' kn' o) k := by
  cases o with
  | none => rfl
  | some p =>
    obtain ⟨e, s⟩ := p
    cases e with
    | normal => exact h1 _ _ _
    | exit i => exact h2 _ _ _ _
    | ret => exact h1 _ _ _

/-- a function's call, one state after another -/
def goM (P : Program) (L : Nat) (plan : FuncId → Nat → Plan) (f far nt : Nat) (b : Code) (rs : List ResultVar) (call : CallT) (turns : Nat) (args : List V) (h : Hp) (nx : Nat) : Res :=
  match midC P L plan f b call turns ⟨tmOf 0 (.of far) args, h, nx, nt⟩ with
  | some (.normal, s) => packM s.hp s.nx (resL P s.tm s.hp rs)
  | some (.ret, s) => packM s.hp s.nx (resL P s.tm s.hp rs)
  | _ => none
theorem goK_ok {f far np nt : Nat} {b : Code} {rs : List ResultVar} {call : CallK} (hcall : CallNat call) {turns : Nat} (hfar : farC far b = true) (hres : resFar far rs = true) (hlow : lowFar far np = true) (args : List V) (h : Hp) (nx : Nat) (k : KV) :
    goK call turns args h nx k ⟨np, compK P L plan far nt f b, compQs P rs⟩ = bR (match Nat.ble args.length np with | true => goM P L plan f far nt b rs (dir call) turns args h nx | false => none) k := by
  show Bool.rec (motive := fun _ => Res) none (compK P L plan far nt f b call turns (giveK (compQs P rs) k) (fun _ _ _ _ => none) (giveK (compQs P rs) k) (argsF args) h nx) (Nat.ble args.length np) = _
  cases hle : Nat.ble args.length np with
  | false => rfl
  | true =>
    have hle' := Nat.le_of_ble_eq_true hle
    show compK P L plan far nt f b call turns (giveK (compQs P rs) k) (fun _ _ _ _ => none) (giveK (compQs P rs) k) (argsF args) h nx = bR (goM P L plan f far nt b rs (dir call) turns args h nx) k
    rw [compK_ok far nt f hcall turns b hfar _ _ _ .nil, argsF_eq]
    unfold goM
    rw [show tmOf 0 (.of far) args = ⟨far, .nil, argsT args 0 .nil⟩ from argsT_ok args 0 .nil fun j _ h2 => lowFar_ok hlow j (by omega)]
    cases hx : midC P L plan f b (dir call) turns ⟨⟨far, .nil, argsT args 0 .nil⟩, h, nx, nt⟩ with
    | none => rfl
    | some p =>
      obtain ⟨e1, s1⟩ := p
      obtain ⟨q1, q2⟩ := midC_keeps f b _ _ _ _ _ hx
      obtain ⟨⟨x1, ls1, tm1⟩, h1, nx1, nt1⟩ := s1
      have q1' : x1 = far := q1
      subst q1'
      cases e1 with
      | normal => exact giveK_ok hres k
      | exit i => rfl
      | ret => exact giveK_ok hres k

theorem packM_spec {h h' : Hp} {nx nx' : Nat} {o : Option (List V)} {v : V} (hp : packM h nx o = some (v, h', nx')) : ∃ vs, o = some vs ∧ h' = h ∧ nx' = nx ∧ ((vs = [v]) ∨ ((∀ u, vs ≠ [u]) ∧ noTupV vs = true ∧ v = .tup vs)) := by
  unfold packM at hp
  split at hp
  · cases hp; exact ⟨_, rfl, rfl, rfl, .inl rfl⟩
  · rename_i vs hne
    split at hp
    · rename_i hn
      cases hp
      exact ⟨vs, rfl, rfl, rfl, .inr ⟨fun u e => hne u (by rw [e]), hn, rfl⟩⟩
    · cases hp
  · cases hp

theorem callK_ok {ρ : Env} {w0 : World} (hρ : ρ.ok L) (hN : NoNum P) (hm : P.follows .mixedOrders = true) {fns : FuncId → Option FnK} (hfns : ∀ f ft, fns f = some ft → FnOk P L plan f ft) {orc : FuncId → List V → Option V} (horc : OrcOk P ρ orc) (turns : Nat) :
    ∀ depth, CallNat (callK fns orc turns depth) ∧ CallOk P w0 ρ (dir (callK fns orc turns depth)) := by
  intro depth
  induction depth with
  | zero => exact ⟨fun f args h nx k => rfl, fun f args h nx v h' nx' hc => by cases (show (none : Res) = some (v, h', nx') from hc)⟩
  | succ depth ih =>
    obtain ⟨ih1, ih2⟩ := ih
    have unf : ∀ f args h nx k, callK fns orc turns (depth + 1) f args h nx k = Option.rec (motive := fun _ => Res) (Option.rec (motive := fun _ => Res) none (fun fn => goK (callK fns orc turns depth) turns args h nx k fn) (fns f)) (fun v => k v h nx) (orc f args) := fun _ _ _ _ _ => rfl
    have go : ∀ f ft, fns f = some ft → ∃ far fn b, P.funcs[f]? = some fn ∧ fn.body = some b ∧ planB plan f b = true ∧ lowFar far ft.np = true ∧ Nat.ble ft.np fn.ntmps = true ∧ ∀ args h nx k, goK (callK fns orc turns depth) turns args h nx k ft =
        bR (match Nat.ble args.length ft.np with | true => goM P L plan f far fn.ntmps b fn.results.toList (dir (callK fns orc turns depth)) turns args h nx | false => none) k := by
      intro f ft hft
      obtain ⟨far, fn, b, hfn, hb, hpl, hfar, hres, hlow, hnp, e2, e3⟩ := (hfns f ft hft).ok
      obtain ⟨np, body, res⟩ := ft
      have e2' : body = compK P L plan far fn.ntmps f b := e2
      have e3' : res = compQs P fn.results.toList := e3
      subst e2'
      subst e3'
      exact ⟨far, fn, b, hfn, hb, hpl, hlow, hnp, fun args h nx k => goK_ok ih1 hfar hres hlow args h nx k⟩
    refine ⟨fun f args h nx k => ?_, fun f args h nx v h' nx' hc => ?_⟩
    · show callK fns orc turns (depth + 1) f args h nx k = bR (callK fns orc turns (depth + 1) f args h nx retK) k
      rw [unf, unf]
      cases orc f args with
      | some v => rfl
      | none =>
        cases hft : fns f with
        | none => rfl
        | some ft =>
          obtain ⟨far, fn, b, _, _, _, _, _, hgo⟩ := go f ft hft
          show goK _ turns args h nx k ft = bR (goK _ turns args h nx retK ft) k
          rw [hgo, hgo, bR_ret]
    · have hc' : callK fns orc turns (depth + 1) f args h nx retK = some (v, h', nx') := hc
      rw [unf] at hc'
      cases ho : orc f args with
      | some v1 =>
        rw [ho] at hc'
        cases (show some (v1, h, nx) = some (v, h', nx') from hc')
        obtain ⟨h1, h2⟩ := horc _ _ _ ho
        refine ⟨h1, fun β cargs w H ha => (h2 β cargs w ha).mono fun e w' he => ?_⟩
        obtain ⟨cv, rfl, hv, rfl⟩ := he
        exact ⟨cv, β, rfl, Ext.refl _ β, hv, H⟩
      | none =>
        rw [ho] at hc'
        cases hft : fns f with
        | none => rw [hft] at hc'; cases hc'
        | some ft =>
          rw [hft] at hc'
          obtain ⟨far, fn, b, hfn, hb, hpl, hlow, hnp, hgo⟩ := go f ft hft
          have hc2 : goK (callK fns orc turns depth) turns args h nx retK ft = some (v, h', nx') := hc'
          rw [hgo, bR_ret] at hc2
          cases hle : Nat.ble args.length ft.np with
          | false => rw [hle] at hc2; cases hc2
          | true =>
            rw [hle] at hc2
            have hle' : args.length ≤ fn.ntmps := Nat.le_trans (Nat.le_of_ble_eq_true hle) (Nat.le_of_ble_eq_true hnp)
            have hc3 : goM P L plan f far fn.ntmps b fn.results.toList (dir (callK fns orc turns depth)) turns args h nx = some (v, h', nx') := hc2
            unfold goM at hc3
            refine ⟨⟨fn, hfn, by rw [hb]; rfl⟩, fun β cargs w H ha => ?_⟩
            have S0 := enter_rel (x := far) H ha hle'
            cases hx : midC P L plan f b (dir (callK fns orc turns depth)) turns ⟨tmOf 0 (.of far) args, h, nx, fn.ntmps⟩ with
            | none => rw [hx] at hc3; cases hc3
            | some p =>
              obtain ⟨ex, s1⟩ := p
              rw [hx] at hc3
              have hwp := midC_ok hρ hN hm ih2 f turns b hpl _ ex s1 hx β _ w S0
              refine calls_of_wp hfn hb (wp_mono hwp fun e a' w' hp => ?_)
              obtain ⟨rfl, β', q1, S1⟩ := hp
              have fin : packM s1.hp s1.nx (resL P s1.tm s1.hp fn.results.toList) = some (v, h', nx') → ∃ cv, (results fn a'.tmps).run P w' = .ok cv w' ∧ VRel β' ρ v cv ∧ h' = s1.hp ∧ nx' = s1.nx := by
                intro hr
                obtain ⟨vs, hvs, k1, k2, k3⟩ := packM_spec hr
                rcases k3 with rfl | ⟨k4, k5, rfl⟩
                · obtain ⟨cv, g1, g2⟩ := (results_sound (P := P) S1 hvs).1 _ rfl
                  exact ⟨cv, g2, g1, k1, k2⟩
                · obtain ⟨cv, g1, g2⟩ := (results_sound (P := P) S1 hvs).2 k4 k5
                  exact ⟨cv, g2, g1, k1, k2⟩
              cases ex with
              | normal =>
                obtain ⟨cv, g1, g2, rfl, rfl⟩ := fin hc3
                exact ⟨S1.defers, cv, g1, cv, β', rfl, q1, g2, S1.hp⟩
              | exit id => cases hc3
              | ret =>
                obtain ⟨cv, g1, g2, rfl, rfl⟩ := fin hc3
                exact ⟨S1.defers, cv, g1, cv, β', rfl, q1, g2, S1.hp⟩

/-- what a run of the evaluator says of the call -/
theorem run_ok {ρ : Env} (hρ : ρ.ok L) (hN : NoNum P) (hm : P.follows .mixedOrders = true) {fns : FuncId → Option FnK} (hfns : ∀ f ft, fns f = some ft → FnOk P L plan f ft) {orc : FuncId → List V → Option V} (horc : OrcOk P ρ orc)
    {turns depth : Nat} {f : FuncId} {args : List V} {b : Bool} {h' : Tr Blk} {nx' : Nat} (hrun : callK fns orc turns depth f args .nil 0 retK = some (.bool b, h', nx')) {cargs : Array Value} (ha : VLRel (fun _ => none) ρ args cargs.toList) (w : World) :
    Calls P f cargs w fun e w' => e = .returned (.bool b) ∧ RowKit.Grown w w' := by
  have hk := (callK_ok (plan := plan) (w0 := w) hρ hN hm hfns horc turns depth).2 f args .nil 0 _ h' nx' hrun
  have H0 : HRel w (fun _ => none) ρ .nil 0 w := by
    refine ⟨fun b k c sz h1 => ?_, fun b b' k k' c s s' h1 => ?_, fun b c sz h1 => ?_, fun b _ => ⟨Tr.get_nil b, rfl⟩, Kept.refl w⟩
    · rw [Tr.get_nil] at h1; cases h1
    · rw [Tr.get_nil] at h1; cases h1
    · cases h1
  refine (hk.2 _ cargs w H0 ha).mono fun e w' he => ?_
  obtain ⟨cv, β', rfl, _, hv, H⟩ := he
  have hcv : cv = .bool b := hv
  subst hcv
  exact ⟨rfl, H.kept.grown⟩

end
end Go.Abs
