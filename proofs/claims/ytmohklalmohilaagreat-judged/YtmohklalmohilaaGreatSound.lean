import Derived.Test.YtmohklalmohilaaGreatDrawn4
namespace Go.Abs

section
variable {P : Program} {L : Nat} {ρ : Env} {w0 : World}

def Ex.exit' : Ex → Exit
  | .normal => .normal
  | .exit id => .exit id
  | .ret => .ret

def Post (w0 : World) (ρ : Env) (nx : Nat) (β : Bij) (r : Ex) (s' : St) : Exit → Act → World → Prop :=
  fun e a' w' => e = r.exit' ∧ ∃ β', Ext nx s'.nx β β' ∧ SRel w0 β' ρ s' a' w'

theorem wp_loop_fuel {c : Code} {Q : Exit → Act → World → Prop} (R : Nat → Act → World → Prop) (round : ∀ n a w, R n a w → c.wp P (Exit.then (fun a' w' => ∃ n', n' < n ∧ R n' a' w') Q) a w) :
    ∀ n a w, R n a w → (Code.loop c).wp P Q a w := by
  intro n a w h0 b k cs
  have key : ∀ n a w, R n a w → ∃ e a' w', Q e a' w' ∧ Arrives P (lone (b.at a (.code c :: .inLoop c :: k)) cs w) b k cs e a' w' := by
    intro n
    induction n using Nat.strongRecOn with
    | _ n ih =>
      intro a w hR
      obtain ⟨e, a₁, w₁, hq, harr⟩ := round n a w hR b (.inLoop c :: k) cs
      cases e with
      | normal =>
        obtain ⟨n', hlt, hR'⟩ := hq
        obtain ⟨e₂, a₂, w₂, hq₂, harr₂⟩ := ih n' hlt a₁ w₁ hR'
        exact ⟨e₂, a₂, w₂, hq₂, .of_steps (Steps.trans harr (.one step_inLoop)) harr₂⟩
      | exit id => exact ⟨_, a₁, w₁, hq, .pass (x := .inLoop c) rfl (fun _ _ => .inl (by simp)) harr⟩
      | goto l => exact ⟨_, a₁, w₁, hq, .pass (x := .inLoop c) rfl (fun _ _ => .inl (by simp)) harr⟩
      | ret => exact ⟨_, a₁, w₁, hq, .pass (x := .inLoop c) rfl (fun _ _ => .inl (by simp)) harr⟩
      | panic ch => exact ⟨_, a₁, w₁, hq, .pass (x := .inLoop c) rfl (fun _ _ => .inl (by simp)) harr⟩
      | outgrown => exact ⟨_, a₁, w₁, hq, .pass (x := .inLoop c) rfl (fun _ _ => .inl (by simp)) harr⟩
  obtain ⟨e, a', w', hq, harr⟩ := key n a w h0
  exact ⟨e, a', w', hq, .of_steps (.one step_loop) harr⟩

/-! a call's beginning and end -/
theorem tmOf_ev : ∀ (l : List V) (i : Nat) (tm : E) (t : Nat), evO (tmOf i tm l) (.tmp t) = if i ≤ t ∧ t < i + l.length then l.getD (t - i) .undef else evO tm (.tmp t)
  | [], i, tm, t => by
    simp only [tmOf, List.length_nil, Nat.add_zero]
    rw [if_neg (by omega)]
  | v :: l, i, tm, t => by
    simp only [tmOf, tmOf_ev l, evO_put, List.length_cons]
    by_cases e : t = i
    · subst e
      rw [if_neg (by omega), if_pos rfl, if_pos (by omega)]
      simp
    · by_cases h : i + 1 ≤ t ∧ t < i + 1 + l.length
      · rw [if_pos h, if_pos (by omega), show t - i = (t - (i + 1)) + 1 by omega]
        simp
      · rw [if_neg h, if_neg e, if_neg (by omega)]

theorem VLRel.length {β : Bij} {l : List V} {vs : List Value} (h : VLRel β ρ l vs) : l.length = vs.length := by
  induction h with
  | nil => rfl
  | cons _ _ ih => simp [ih]
theorem VLRel.getD {β : Bij} {l : List V} {vs : List Value} (h : VLRel β ρ l vs) : ∀ i, i < l.length → VRel β ρ (l.getD i .undef) (vs.getD i Go.undef) := by
  induction h with
  | nil => intro i hi; simp at hi
  | cons h1 _ ih =>
    intro i hi
    cases i with
    | zero => simpa using h1
    | succ i => simpa using ih i (by simpa using hi)

theorem enter_rel {β : Bij} {args : List V} {cargs : Array Value} {h : Tr Blk} {nx nt x : Nat} {w : World} (H : HRel w0 β ρ h nx w) (ha : VLRel β ρ args cargs.toList) (hle : args.length ≤ nt) :
    SRel w0 β ρ ⟨tmOf 0 (.of x) args, h, nx, nt⟩ { tmps := cargs ++ Array.replicate (nt - cargs.size) Go.undef, defers := [] } w := by
  have hlen : args.length = cargs.size := by have := ha.length; simpa using this
  refine ⟨fun t => ?_, by simp; omega, rfl, H⟩
  rw [tmOf_ev]
  simp only [Nat.zero_le, true_and, Nat.zero_add, Nat.sub_zero]
  by_cases ht : t < args.length
  · have htc : t < cargs.size := by rw [← hlen]; exact ht
    rw [if_pos ht]
    have := ha.getD t ht
    have h1 : (cargs ++ Array.replicate (nt - cargs.size) Go.undef).getD t Go.undef = cargs.toList.getD t Go.undef := by
      simp only [Array.getD_eq_getD_getElem?, List.getD_eq_getElem?_getD]
      rw [Array.getElem?_append_left htc]
      simp
    rw [h1]
    exact this
  · have htc : cargs.size ≤ t := by rw [← hlen]; exact Nat.le_of_not_lt ht
    rw [if_neg ht]
    have h1 : (cargs ++ Array.replicate (nt - cargs.size) Go.undef).getD t Go.undef = Go.undef := by
      simp only [Array.getD_eq_getD_getElem?]
      rw [Array.getElem?_append_right htc]
      by_cases h2 : t - cargs.size < nt - cargs.size
      · simp [h2]
      · rw [Array.getElem?_eq_none (by simpa using Nat.le_of_not_lt h2)]; rfl
    rw [h1]
    have hj : evO (E.of x) (.tmp t) = .junk := by
      simp only [evO, E.look]
      cases (E.of x).far t with
      | true => show (match (Tr.nil : Tr V).get t with | some v => v | none => .junk) = _; rw [Tr.get_nil]
      | false => rfl
    rw [hj]
    trivial

def resRun (tmps : Array Value) : ResultVar → Sem Value
  | .tmp t => pure (tmps.getD t Go.undef)
  | .cell x t => do loadVar t (← asAddr (tmps.getD x Go.undef))

theorem resV_sound {β : Bij} {s : St} {a : Act} {w : World} (S : SRel w0 β ρ s a w) {r : ResultVar} {v : V} (h : resV P s.tm s.hp r = some v) :
    ∃ cv, VRel β ρ v cv ∧ (resRun a.tmps r).run P w = .ok cv w := by
  unfold resV at h
  split at h
  · rename_i t
    simp only [Option.some.injEq] at h
    subst h
    exact ⟨_, S.tm t, rfl⟩
  · rename_i x t
    have hx := S.tm x
    split at h
    · rename_i b off n hp hag hsz
      rw [hp] at hx
      obtain ⟨c, sz, hb, he⟩ := hx
      split at h
      · rename_i l hl
        simp only [Option.some.injEq] at h
        subst h
        obtain ⟨vs, g1, g2, g3, g4⟩ := S.hp.load (P := P) hl hb
        refine ⟨.agg vs.toArray, ⟨_, rfl, by simpa using g2⟩, ?_⟩
        simp only [resRun, he, asAddr, Sem.run_bind, Sem.run_pure, Result.andThen_ok, loadVar, aggT_spec hag, if_true, run_sizeOf hsz, g3]
      · cases h
    · rename_i b off hp hag hsz
      rw [hp] at hx
      obtain ⟨c, sz, hb, he⟩ := hx
      split at h
      · rename_i y l hl
        simp only [Option.some.injEq] at h
        subst h
        obtain ⟨vs, g1, g2, g3, g4⟩ := S.hp.load (P := P) hl hb
        cases g2 with
        | cons r1 r2 =>
          rename_i cv vs'
          refine ⟨cv, r1.vrel, ?_⟩
          have g5 := g4 0 (by omega)
          simp only [Nat.add_zero, List.getElem?_cons_zero] at g5
          simp only [resRun, he, asAddr, Sem.run_bind, Sem.run_pure, Result.andThen_ok, loadVar, aggT_spec hag, Bool.false_eq_true, if_false, run_load, g5]
      · cases h
    · cases h

theorem resL_sound {β : Bij} {s : St} {a : Act} {w : World} (S : SRel w0 β ρ s a w) : ∀ {l : List ResultVar} {vs : List V}, resL P s.tm s.hp l = some vs →
    ∃ cvs : List Value, VLRel β ρ vs cvs ∧ (l.mapM (resRun a.tmps)).run P w = .ok cvs w
  | [], vs, h => by
    simp only [resL, Option.some.injEq] at h
    subst h
    exact ⟨[], .nil, by simp⟩
  | r :: l, vs, h => by
    simp only [resL] at h
    split at h
    · rename_i v hv
      split at h
      · rename_i vs' hvs
        simp only [Option.some.injEq] at h
        subst h
        obtain ⟨cv, h1, h2⟩ := resV_sound (P := P) S hv
        obtain ⟨cvs, h3, h4⟩ := resL_sound S hvs
        refine ⟨cv :: cvs, .cons h1 h3, ?_⟩
        rw [List.mapM_cons, Sem.run_bind, h2]
        simp only [Result.andThen_ok, Sem.run_bind]
        rw [h4]
        simp
      · cases h
    · cases h

theorem VLRel.al {β : Bij} : ∀ {l : List V} {vs : List Value}, VLRel β ρ l vs → noTupV l = true → ALRel β ρ l vs
  | [], _, h, _ => by cases h; exact .nil
  | x :: l, _, h, hn => by
    cases h with
    | cons h1 h2 =>
      have hx : (∀ l, x ≠ .tup l) ∧ x ≠ .junk ∧ noTupV l = true := by
        cases x <;> simp [noTupV] at hn <;> exact ⟨fun l h => (by cases h), fun h => (by cases h), hn⟩
      exact .cons (h1.arel hx.1 hx.2.1) (VLRel.al h2 hx.2.2)

/-- the value that a call hands back -/
theorem results_sound {β : Bij} {s : St} {a : Act} {w : World} (S : SRel w0 β ρ s a w) {fn : Func} {vs : List V} (h : resL P s.tm s.hp fn.results.toList = some vs) :
    (∀ v, vs = [v] → ∃ cv, VRel β ρ v cv ∧ (results fn a.tmps).run P w = .ok cv w) ∧ ((∀ v, vs ≠ [v]) → noTupV vs = true → ∃ cv, VRel β ρ (.tup vs) cv ∧ (results fn a.tmps).run P w = .ok cv w) := by
  obtain ⟨cvs, h1, h2⟩ := resL_sound S h
  have hrun : (results fn a.tmps).run P w = .ok (if h : cvs.toArray.size = 1 then cvs.toArray[0] else .tuple cvs.toArray) w := by
    unfold results
    rw [Sem.run_bind, Array.mapM_eq_mapM_toList, Sem.run_map]
    have key : ∀ (g : ResultVar → Sem Value), (∀ r, g r = resRun a.tmps r) → (fn.results.toList.mapM g).run P w = .ok cvs w := fun g hg => by
      rw [show g = resRun a.tmps from funext hg]; exact h2
    rw [key _ (fun r => by cases r <;> rfl)]
    rfl
  refine ⟨fun v hv => ?_, fun hne hn => ?_⟩
  · subst hv
    cases h1 with
    | cons r1 r2 =>
      cases r2
      rename_i cv
      exact ⟨cv, r1, by rw [hrun]; rfl⟩
  · refine ⟨.tuple cvs.toArray, ⟨_, rfl, by simpa using VLRel.al h1 hn⟩, ?_⟩
    rw [hrun, dif_neg]
    intro h3
    have hl := h1.length
    simp at h3
    rw [h3] at hl
    cases vs with
    | nil => simp at hl
    | cons v l =>
      cases l with
      | nil => exact hne v rfl
      | cons => simp at hl

def OrcOk (P : Program) (ρ : Env) (orc : FuncId → List V → Option V) : Prop :=
  ∀ f args v, orc f args = some v → (∃ fn, P.funcs[f]? = some fn ∧ fn.body.isSome = true) ∧ ∀ (β : Bij) (cargs : Array Value) (w : World), VLRel β ρ args cargs.toList → Calls P f cargs w fun e w' => ∃ cv, e = .returned cv ∧ VRel β ρ v cv ∧ w' = w

def PlanOk (P : Program) (plan : FuncId → Nat → Plan) : Prop := ∀ (f : FuncId) (fn : Func) (b : Code), P.funcs[f]? = some fn → fn.body = some b → planB plan f b = true

theorem exec_sound (hρ : ρ.ok L) (hN : NoNum P) (hm : P.follows .mixedOrders = true) {plan : FuncId → Nat → Plan} (hplan : PlanOk P plan) {far : FuncId → Nat} {orc : FuncId → List V → Option V} (horc : OrcOk P ρ orc) :
    ∀ (n : Nat) (f : FuncId) (c : Code) (s : St) (r : Ex) (s' : St), planB plan f c = true → exec P L plan far orc n f c s = some (r, s') →
      ∀ (β : Bij) (a : Act) (w : World), SRel w0 β ρ s a w → c.wp P (Post w0 ρ s.nx β r s') a w := by
  intro n
  induction n using Nat.strongRecOn with
  | _ n ih =>
    intro f c s r s' hpl hx β a w S
    cases n with
    | zero => simp [exec] at hx
    | succ n =>
      cases c <;> try (simp only [exec] at hx; cases hx; done)
      case skip =>
        simp only [exec, Option.some.injEq, Prod.mk.injEq] at hx
        obtain ⟨rfl, rfl⟩ := hx
        exact wp_skip ⟨rfl, β, Ext.refl _ β, S⟩
      case exit id =>
        simp only [exec, Option.some.injEq, Prod.mk.injEq] at hx
        obtain ⟨rfl, rfl⟩ := hx
        exact wp_exit ⟨rfl, β, Ext.refl _ β, S⟩
      case ret =>
        simp only [exec, Option.some.injEq, Prod.mk.injEq] at hx
        obtain ⟨rfl, rfl⟩ := hx
        exact wp_ret ⟨rfl, β, Ext.refl _ β, S⟩
      case seq x y =>
        simp only [planB, Bool.and_eq_true] at hpl
        simp only [exec] at hx
        refine wp_seq ?_
        split at hx
        · rename_i s1 h1
          refine wp_mono (ih n (by omega) f x s .normal s1 hpl.1 h1 β a w S) fun e a' w' hp => ?_
          obtain ⟨rfl, β1, e1, S1⟩ := hp
          refine wp_mono (ih n (by omega) f y s1 r s' hpl.2 hx β1 a' w' S1) fun e2 a2 w2 hp2 => ?_
          obtain ⟨rfl, β2, e2, S2⟩ := hp2
          exact ⟨rfl, β2, e1.trans e2, S2⟩
        · rename_i hne
          refine wp_mono (ih n (by omega) f x s r s' hpl.1 hx β a w S) fun e a' w' hp => ?_
          obtain ⟨rfl, hp2⟩ := hp
          cases r with
          | normal => exact absurd hx (hne s')
          | exit id => exact ⟨rfl, hp2⟩
          | ret => exact ⟨rfl, hp2⟩
      case cond x y z =>
        simp only [planB, Bool.and_eq_true] at hpl
        simp only [exec] at hx
        have hev := S.ev x
        split at hx
        · rename_i hc
          rw [hc] at hev
          exact wp_cond_true hev (ih n (by omega) f y s r s' hpl.1 hx β a w S)
        · rename_i hc
          rw [hc] at hev
          exact wp_cond_false hev (ih n (by omega) f z s r s' hpl.2 hx β a w S)
        · cases hx
      case block id y =>
        simp only [planB] at hpl
        simp only [exec] at hx
        refine wp_block ?_
        split at hx
        · rename_i i s1 h1
          refine wp_mono (ih n (by omega) f y s (.exit i) s1 hpl h1 β a w S) fun e a' w' hp => ?_
          obtain ⟨rfl, hp2⟩ := hp
          split at hx
          · rename_i hi
            have hi' := Nat.eq_of_beq_eq_true hi
            simp only [Option.some.injEq, Prod.mk.injEq] at hx
            obtain ⟨rfl, rfl⟩ := hx
            show (if i = id then _ else _)
            rw [if_pos hi']
            exact ⟨rfl, hp2⟩
          · rename_i hi
            have hi' : i ≠ id := fun e => by subst e; rw [Nat.beq_refl] at hi; cases hi
            simp only [Option.some.injEq, Prod.mk.injEq] at hx
            obtain ⟨rfl, rfl⟩ := hx
            show (if i = id then _ else _)
            rw [if_neg hi']
            exact ⟨rfl, hp2⟩
        · rename_i hne
          refine wp_mono (ih n (by omega) f y s r s' hpl hx β a w S) fun e a' w' hp => ?_
          obtain ⟨rfl, hp2⟩ := hp
          cases r with
          | normal => exact ⟨rfl, hp2⟩
          | exit id' => exact absurd hx (hne id' s')
          | ret => exact ⟨rfl, hp2⟩
      case loop y =>
        simp only [planB] at hpl
        refine wp_loop_fuel (fun k a' w' => k ≤ n + 1 ∧ ∃ s1 β1, exec P L plan far orc k f (.loop y) s1 = some (r, s') ∧ Ext s.nx s1.nx β β1 ∧ SRel w0 β1 ρ s1 a' w') (fun k a1 w1 hR => ?_) (n + 1) a w ⟨Nat.le_refl _, s, β, hx, Ext.refl _ β, S⟩
        obtain ⟨hk, s1, β1, h1, e1, S1⟩ := hR
        cases k with
        | zero => simp [exec] at h1
        | succ k =>
          simp only [exec] at h1
          split at h1
          · rename_i s2 h2
            refine wp_mono (ih k (by omega) f y s1 .normal s2 hpl h2 β1 a1 w1 S1) fun e a' w' hp => ?_
            obtain ⟨rfl, β2, e2, S2⟩ := hp
            exact ⟨k, by omega, by omega, s2, β2, h1, e1.trans e2, S2⟩
          · rename_i hne
            refine wp_mono (ih k (by omega) f y s1 r s' hpl h1 β1 a1 w1 S1) fun e a' w' hp => ?_
            obtain ⟨rfl, β2, e2, S2⟩ := hp
            cases r with
            | normal => exact absurd h1 (hne s')
            | exit id => exact ⟨rfl, β2, e1.trans e2, S2⟩
            | ret => exact ⟨rfl, β2, e1.trans e2, S2⟩
      case region id ops d =>
        simp only [exec] at hx
        generalize hcall : (fun (g : FuncId) (args : List V) (h : Tr Blk) (nx : Nat) => _) = call at hx
        have hok : CallOk P w0 ρ call := by
          subst hcall
          intro g args h nx v h' nx' hc
          simp only at hc
          split at hc
          · rename_i v' ho
            simp only [Option.some.injEq, Prod.mk.injEq] at hc
            obtain ⟨rfl, rfl, rfl⟩ := hc
            obtain ⟨h1, h2⟩ := horc _ _ _ ho
            refine ⟨h1, fun β cargs w H ha => (h2 β cargs w ha).mono fun e w' he => ?_⟩
            obtain ⟨cv, rfl, hv, rfl⟩ := he
            exact ⟨cv, β, rfl, Ext.refl _ β, hv, H⟩
          · split at hc
            · rename_i fn hfn
              split at hc
              · rename_i b hb
                split at hc
                · cases hc
                · rename_i hle
                  have hle' := Nat.le_of_ble_eq_true hle
                  refine ⟨⟨fn, hfn, by rw [hb]; rfl⟩, fun β cargs w H ha => ?_⟩
                  have S0 := enter_rel (x := far g) H ha hle'
                  split at hc
                  · cases hc
                  · rename_i ex s1 hne h1
                    have hwp := ih n (by omega) g b _ ex s1 (hplan g fn b hfn hb) h1 β _ w S0
                    refine calls_of_wp hfn hb (wp_mono hwp fun e a' w' hp => ?_)
                    obtain ⟨rfl, β', e1, S1⟩ := hp
                    have fin : ∃ cv, (results fn a'.tmps).run P w' = .ok cv w' ∧ VRel β' ρ v cv ∧ h' = s1.hp ∧ nx' = s1.nx := by
                      split at hc
                      · rename_i v1 hv1
                        simp only [Option.some.injEq, Prod.mk.injEq] at hc
                        obtain ⟨rfl, rfl, rfl⟩ := hc
                        obtain ⟨cv, g1, g2⟩ := (results_sound (P := P) S1 hv1).1 _ rfl
                        exact ⟨cv, g2, g1, rfl, rfl⟩
                      · rename_i vs hnv hvs
                        split at hc
                        · rename_i hnt
                          simp only [Option.some.injEq, Prod.mk.injEq] at hc
                          obtain ⟨rfl, rfl, rfl⟩ := hc
                          obtain ⟨cv, g1, g2⟩ := (results_sound (P := P) S1 hvs).2 (fun v e => hnv v e) hnt
                          exact ⟨cv, g2, g1, rfl, rfl⟩
                        · cases hc
                      · cases hc
                    obtain ⟨cv, g1, g2, rfl, rfl⟩ := fin
                    cases ex with
                    | normal => exact ⟨S1.defers, cv, g1, cv, β', rfl, e1, g2, S1.hp⟩
                    | exit id => exact (hne id rfl).elim
                    | ret => exact ⟨S1.defers, cv, g1, cv, β', rfl, e1, g2, S1.hp⟩
                  · cases hc
              · cases hc
            · cases hc
        split at hx
        · rename_i s1 h1
          simp only [Option.some.injEq, Prod.mk.injEq] at hx
          obtain ⟨rfl, rfl⟩ := hx
          cases d with
          | true =>
            simp only at h1
            exact drawnA_wp hρ hN hm hok hpl S.anew h1 fun β' a' w' e1 S1 => ⟨rfl, β', e1, S1⟩
          | false =>
            simp only at h1
            exact wp_region_list (stepsA_wp hρ hN hok ops.toList S.anew h1 fun β' a' w' e1 S1 => ⟨rfl, β', e1, S1⟩)
        · cases hx

end
end Go.Abs
