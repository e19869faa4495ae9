import Derived.Test.YtfhcoiogdgfkcaaGreatDrawn2
namespace Go.Abs

section
variable {P : Program} {L : Nat} {ρ : Env} {w0 : World} {call : FuncId → List V → Tr Blk → Nat → Option (V × Tr Blk × Nat)} {ops : Array Oper} {pl : Plan} {base nt : Nat} {σ : Nat → St}

/-- where the effects stand -/
structure At (ops : Array Oper) (σ : Nat → St) (base : Nat) (S : Nat → Bool) (w0 : World) (β : Bij) (ρ : Env) (w : World) (m : Nat) : Prop where
  le : m ≤ ops.size
  here : m = ops.size ∨ ∃ o, ops[m]? = some o ∧ isEff o = true ∧ S m = false
  done : ∀ e o, e < m → ops[e]? = some o → isEff o = true → S e = true
  hp : HRel w0 β ρ (σ m).hp (σ m).nx w
  nx : base + ops.size ≤ (σ m).nx

structure DInv (ops : Array Oper) (σ : Nat → St) (base nt : Nat) (w0 : World) (ρ : Env) (β0 : Bij) (listed : Array Bool) (β : Bij) (a : Act) (w : World) : Prop where
  size : listed.size = ops.size
  down : Down ops (Sof listed)
  tm : TRel β ρ (tauOf ops σ (Sof listed) ops.size) a
  tsize : a.tmps.size = nt
  defers : a.defers = []
  spot : ∃ m, At ops σ base (Sof listed) w0 β ρ w m
  unborn : ∀ i t, allocOf ops i = some t → Sof listed i = false → β (base + i) = none
  low : ∀ b, b < base → β b = β0 b
  le : β0.le β

theorem last_eff (ops : Array Oper) (i : Nat) : ∀ m, (∀ e o, i ≤ e → e < m → ops[e]? = some o → isEff o = false) ∨
    ∃ e o, i ≤ e ∧ e < m ∧ ops[e]? = some o ∧ isEff o = true ∧ ∀ e' o', e < e' → e' < m → ops[e']? = some o' → isEff o' = false := by
  intro m
  induction m with
  | zero => left; intro e o _ h; omega
  | succ m ih =>
    by_cases hm : i ≤ m ∧ ∃ o, ops[m]? = some o ∧ isEff o = true
    · obtain ⟨h1, o, h2, h3⟩ := hm
      exact .inr ⟨m, o, h1, by omega, h2, h3, fun e' _ a b => by omega⟩
    · have hno : ∀ o, i ≤ m → ops[m]? = some o → isEff o = false := by
        intro o h1 h2
        cases he : isEff o with
        | false => rfl
        | true => exact absurd ⟨h1, o, h2, he⟩ hm
      rcases ih with ih | ⟨e, o, h1, h2, h3, h4, h5⟩
      · left
        intro e o a b c
        by_cases hem : e = m
        · subst hem; exact hno o a c
        · exact ih e o a (by omega) c
      · refine .inr ⟨e, o, h1, by omega, h3, h4, fun e' o' a b c => ?_⟩
        by_cases hem : e' = m
        · subst hem; exact hno o' (by omega) c
        · exact h5 e' o' a (by omega) c

theorem first_eff (ops : Array Oper) (S : Nat → Bool) : ∀ (d k : Nat), k + d = ops.size → ∃ m, k ≤ m ∧ m ≤ ops.size ∧ (m = ops.size ∨ ∃ o, ops[m]? = some o ∧ isEff o = true ∧ S m = false) ∧
    ∀ e o, k ≤ e → e < m → ops[e]? = some o → isEff o = true → S e = true
  | 0, k, h => ⟨k, Nat.le_refl _, by omega, .inl (by omega), fun e _ a b => by omega⟩
  | d + 1, k, h => by
    by_cases hk : ∃ o, ops[k]? = some o ∧ isEff o = true ∧ S k = false
    · exact ⟨k, Nat.le_refl _, by omega, .inr hk, fun e _ a b => by omega⟩
    · obtain ⟨m, h1, h2, h3, h4⟩ := first_eff ops S d (k + 1) (by omega)
      refine ⟨m, by omega, h2, h3, fun e o a b c he => ?_⟩
      by_cases hek : e = k
      · subst hek
        cases hS : S e with
        | true => rfl
        | false => exact absurd ⟨o, c, he, hS⟩ hk
      · exact h4 e o (by omega) b c he

/-- a read answers the same wherever it may come -/
theorem Canon.stable (C : Canon P L call ops pl base nt σ) (hs : Shape ops pl) {S : Nat → Bool} (hd : Down ops S) {i : Nat} {o : Oper} (h : Now ops S i o) (hr : isRd o = true) (he : isEff o = false)
    (hw : wantA ops (σ i).tm o = some true) (hp : pureOp P L (σ i).tm o.op = none) {v : V} (hv : rdOp P base i (σ i).tm (σ i).hp o.op = some v) {m : Nat} (hm : m ≤ ops.size)
    (here : m = ops.size ∨ ∃ o, ops[m]? = some o ∧ isEff o = true ∧ S m = false) (done : ∀ e o, e < m → ops[e]? = some o → isEff o = true → S e = true) :
    rdOp P base i (σ i).tm (σ m).hp o.op = some v := by
  have hi : i < ops.size := (Array.getElem?_eq_some_iff.1 h.op).1
  by_cases hmi : m = i
  · rw [hmi]; exact hv
  · by_cases hlt : m < i
    · rcases here with e | ⟨om, h1, h2, h3⟩
      · omega
      · rcases hs.loose hlt h1 h.op with hb | ⟨_, _, _, h4⟩
        · have := h.bef hd hb; rw [h3] at this; cases this
        · obtain ⟨v', g1, g2, _⟩ := C.pairs i m (h4 h2 hr) o h.op hw hp
          rw [hv] at g1
          cases g1
          exact g2
    · rcases last_eff ops i m with hno | ⟨e, oe, h1, h2, h3, h4, h5⟩
      · rw [(C.still i m (by omega) hm hno).1]; exact hv
      · have hei : e ≠ i := by
          rintro rfl
          rw [h.op] at h3
          cases h3
          rw [he] at h4; cases h4
        have hS := done e oe h2 h3 h4
        rcases hs.loose (show i < e by omega) h.op h3 with hb | ⟨_, _, h6, _⟩
        · exact (h.not_bef hd hS hb).elim
        · obtain ⟨v', g1, _, g2⟩ := C.pairs i e (h6 hr h4) o h.op hw hp
          rw [hv] at g1
          cases g1
          rw [(C.still (e + 1) m (by omega) hm fun e' o' a b c => h5 e' o' (by omega) b c).1]
          exact g2

theorem Now.ready {listed : Array Bool} (hsz : listed.size = ops.size) {i : Nat} (h : i ∈ Region.ready .any ops listed) : ∃ o, Now ops (Sof listed) i o := by
  obtain ⟨h1, o, h2, h3⟩ := mem_ready.1 h
  have hi : i < ops.size := (Array.getElem?_eq_some_iff.1 h2).1
  refine ⟨o, h2, ?_, fun he hb => h3 _ he hb⟩
  unfold Sof
  simp [hsz, hi] at h1 ⊢
  exact h1

theorem DInv.next {β0 : Bij} {listed : Array Bool} {β : Bij} {a : Act} {w : World} (D : DInv ops σ base nt w0 ρ β0 listed β a w) (C : Canon P L call ops pl base nt σ) (hs : Shape ops pl) {i : Nat} {o : Oper} (h : Now ops (Sof listed) i o)
    {β' : Bij} {cv : Value} {w' : World} (hle : β.le β') (hlow : ∀ b, b < base → β' b = β b) (hun : ∀ j t, allocOf ops j = some t → j ≠ i → Sof listed j = false → β' (base + j) = none)
    (hv : ∀ t, o.dst = some t → VRel β' ρ (valOf ops σ i) cv) (hat : ∃ m, At ops σ base (Sof (listed.setIfInBounds i true)) w0 β' ρ w' m) :
    DInv ops σ base nt w0 ρ β0 (listed.setIfInBounds i true) β' (a.put o.dst cv) w' := by
  have hi : i < ops.size := (Array.getElem?_eq_some_iff.1 h.op).1
  have hS' := Sof_set (listed := listed) (i := i) (by rw [D.size]; exact hi)
  obtain ⟨_, ⟨v, hput⟩, _⟩ := stepD_spec (C.step h.op)
  rw [C.ntk i (by omega)] at hput
  refine ⟨by simp [D.size], ?_, fun t => ?_, ?_, ?_, hat, fun j t ht hj => ?_, fun b hb => (hlow b hb).trans (D.low b hb), Bij.le_trans D.le hle⟩
  · intro j oj hoj hj e he hb
    rw [hS'] at hj ⊢
    simp only [Bool.or_eq_true, decide_eq_true_eq] at hj ⊢
    rcases hj with rfl | hj
    · rw [h.op] at hoj
      cases hoj
      exact .inr (h.after he hb)
    · exact .inr (D.down hoj hj he hb)
  · rw [C.put hs D.down h hS' t]
    have hdo : dstOf ops i = o.dst := by unfold dstOf; rw [h.op]; rfl
    rw [hdo]
    by_cases hd : o.dst = some t
    · rw [if_pos hd]
      have hlt : t < nt := by
        unfold putT at hput
        rw [hd] at hput
        simp only at hput
        split at hput
        · rename_i hb; rw [Nat.blt_eq] at hb; exact hb
        · cases hput
      have := hv t hd
      simpa [Act.put, hd, D.tsize, hlt] using this
    · rw [if_neg hd]
      have := (D.tm t).mono hle
      cases hdd : o.dst with
      | none => simpa [Act.put, hdd] using this
      | some d =>
        have hne : d ≠ t := fun e => hd (by rw [hdd, e])
        simpa [Act.put, hdd, Array.getElem?_setIfInBounds_ne hne] using this
  · cases hdd : o.dst <;> simp [Act.put, D.tsize]
  · cases hdd : o.dst <;> simp [Act.put, D.defers]
  · rw [hS'] at hj
    simp only [Bool.or_eq_false_iff, decide_eq_false_iff_not] at hj
    exact hun j t ht hj.1 hj.2

theorem At.keep {S S' : Nat → Bool} {β β' : Bij} {w w' : World} {m i : Nat} {o : Oper} (A : At ops σ base S w0 β ρ w m) (ho : ops[i]? = some o) (he : isEff o = false) (hS' : ∀ k, S' k = (decide (k = i) || S k))
    (H : HRel w0 β' ρ (σ m).hp (σ m).nx w') : At ops σ base S' w0 β' ρ w' m := by
  refine ⟨A.le, ?_, fun e oe a b c => by rw [hS', A.done e oe a b c]; simp, H, A.nx⟩
  rcases A.here with h | ⟨om, h1, h2, h3⟩
  · exact .inl h
  · refine .inr ⟨om, h1, h2, ?_⟩
    rw [hS', h3]
    have : m ≠ i := by
      rintro rfl
      rw [h1] at ho
      cases ho
      rw [he] at h2; cases h2
    simp [this]

theorem wantA_congr {tm tm' : E} {o : Oper} (h : ∀ t ∈ o.looksAt ops, evO tm (.tmp t) = evO tm' (.tmp t)) : wantA ops tm o = wantA ops tm' o := by
  unfold wantA
  cases hg : o.guard with
  | none => rfl
  | some g =>
    obtain ⟨j, want⟩ := g
    simp only
    cases hq : ops[j]? with
    | none => rfl
    | some q =>
      simp only
      cases hdst : q.dst with
      | none => rfl
      | some t =>
        simp only
        rw [h t (by unfold Oper.looksAt; rw [hg]; simp [hq, hdst])]

theorem same_of_looks {tm tm' : E} {o : Oper} (h : ∀ t ∈ o.looksAt ops, evO tm (.tmp t) = evO tm' (.tmp t)) : Same tm tm' o.op := by
  intro x hx
  cases x with
  | tmp t => exact h t (by unfold Oper.looksAt; exact List.mem_append_left _ (List.mem_filterMap.2 ⟨.tmp t, by simpa using hx, rfl⟩))
  | const v => rfl
  | global g => rfl
  | func f => rfl

theorem opA_noEff {o : Oper} {s : St} {v : V} {h : Tr Blk} {n : Nat} (he : isEff o = false) (hna : ∀ t, o.op = .alloc t → o.guard = none → False) (hnm : ∀ t l c, o.op = .makeSlice t l c → o.guard = none → False) (hop : opA P L call o s = some (v, h, n)) :
    (pureOp P L s.tm o.op = some v ∨ (pureOp P L s.tm o.op = none ∧ readOp P s.tm s.hp o.op = some v)) ∧ h = s.hp ∧ n = s.nx := by
  unfold opA at hop
  split at hop
  · rename_i v' hp
    simp only [Option.some.injEq, Prod.mk.injEq] at hop
    obtain ⟨rfl, rfl, rfl⟩ := hop
    exact ⟨.inl hp, rfl, rfl⟩
  · rename_i hpn
    split at hop
    · rename_i v' hr
      simp only [Option.some.injEq, Prod.mk.injEq] at hop
      obtain ⟨rfl, rfl, rfl⟩ := hop
      exact ⟨.inr ⟨hpn, hr⟩, rfl, rfl⟩
    · unfold isEff at he
      split at hop
      · rename_i f args tys hoo
        rw [hoo] at he
        cases he
      · rename_i hnc
        cases hoo : o.op <;> rw [hoo] at hop he <;> simp only [effOp] at hop <;> try (cases hop; done)
        all_goals first
          | (simp only [effB] at he; cases he; done)
          | skip
        case alloc t =>
          cases hg : o.guard with
          | none => exact absurd hg (hna t hoo)
          | some g => rw [hg] at he; cases he
        case makeSlice t l c =>
          cases hg : o.guard with
          | none => exact absurd hg (hnm t l c hoo)
          | some g => rw [hg] at he; cases he
        case call c =>
          obtain ⟨callee, args, tys⟩ := c
          cases callee with
          | builtin b => cases b <;> simp [effB] at he <;> cases hop
          | value f => simp [effB] at he
          | invoke r m => simp [effB] at he

theorem readOp_isRd {tm : E} {hp : Tr Blk} {o : Oper} {v : V} (h : readOp P tm hp o.op = some v) : isRd o = true ∧ ∀ base k hp', rdOp P base k tm hp' o.op = readOp P tm hp' o.op := by
  unfold isRd
  cases hoo : o.op <;> rw [hoo] at h <;> simp only [readOp] at h <;> first
    | (cases h; done)
    | exact ⟨rfl, fun _ _ _ => rfl⟩

theorem At.eff {S : Nat → Bool} {β : Bij} {w : World} {m i : Nat} {o : Oper} (hs : Shape ops pl) (hd : Down ops S) (A : At ops σ base S w0 β ρ w m) (h : Now ops S i o) (he : isEff o = true) : m = i := by
  have hi : i < ops.size := (Array.getElem?_eq_some_iff.1 h.op).1
  rcases Nat.lt_trichotomy m i with hlt | heq | hlt
  · rcases A.here with e | ⟨om, h1, h2, h3⟩
    · omega
    · rcases hs.loose hlt h1 h.op with hb | ⟨_, hn, _⟩
      · have := h.bef hd hb; rw [h3] at this; cases this
      · exact (hn ⟨h2, he⟩).elim
  · exact heq
  · have := A.done i o hlt h.op he
    rw [h.out] at this; cases this

theorem At.turn (C : Canon P L call ops pl base nt σ) {S S' : Nat → Bool} {β β' : Bij} {w w' : World} {i : Nat} {o : Oper} (hs : Shape ops pl) (hd : Down ops S) (A : At ops σ base S w0 β ρ w i) (h : Now ops S i o) (he : isEff o = true)
    (hS' : ∀ k, S' k = (decide (k = i) || S k)) (H : HRel w0 β' ρ (σ (i + 1)).hp (σ (i + 1)).nx w') (hnx : base + ops.size ≤ (σ (i + 1)).nx) : ∃ m, At ops σ base S' w0 β' ρ w' m := by
  have hi : i < ops.size := (Array.getElem?_eq_some_iff.1 h.op).1
  obtain ⟨m, h1, h2, h3, h4⟩ := first_eff ops S' (ops.size - (i + 1)) (i + 1) (by omega)
  have hno : ∀ e oe, i + 1 ≤ e → e < m → ops[e]? = some oe → isEff oe = false := by
    intro e oe a b c
    cases hee : isEff oe with
    | false => rfl
    | true =>
      have hS := h4 e oe a b c hee
      rw [hS'] at hS
      have hne : e ≠ i := by omega
      simp only [hne, decide_false, Bool.false_or] at hS
      rcases hs.loose (show i < e by omega) h.op c with hb | ⟨_, hn, _⟩
      · exact (h.not_bef hd hS hb).elim
      · exact (hn ⟨he, hee⟩).elim
  obtain ⟨g1, g2⟩ := C.still (i + 1) m h1 h2 hno
  refine ⟨m, h2, h3, fun e oe a b c => ?_, by rw [g1, g2]; exact H, by rw [g2]; exact hnx⟩
  rcases Nat.lt_trichotomy e i with hlt | heq | hlt
  · rw [hS', A.done e oe hlt b c]; simp
  · rw [hS']; simp [heq]
  · exact h4 e oe (by omega) a b c

/-- one operation, whichever comes -/
theorem dstep (hρ : ρ.ok L) (hN : NoNum P) (hcall : CallOk P w0 ρ call) (C : Canon P L call ops pl base nt σ) (hs : Shape ops pl) {β0 : Bij} {listed : Array Bool} {β : Bij} {a : Act} {w : World} (D : DInv ops σ base nt w0 ρ β0 listed β a w)
    {i : Nat} {o : Oper} (h : Now ops (Sof listed) i o) {K : Act → World → Prop} {Q : Exit → Act → World → Prop}
    (hK : ∀ β' a' w', DInv ops σ base nt w0 ρ β0 (listed.setIfInBounds i true) β' a' w' → K a' w') :
    if Region.wanted o (yielded ops a.tmps) then o.wp P a w K Q ∨ (o.asks P a w ∧ LetsOut Q) else K (a.put o.dst Go.undef) w := by
  have hi : i < ops.size := (Array.getElem?_eq_some_iff.1 h.op).1
  have hS' := Sof_set (listed := listed) (i := i) (by rw [D.size]; exact hi)
  obtain ⟨m, A⟩ := D.spot
  have hlook : ∀ t ∈ o.looksAt ops, evO (tauOf ops σ (Sof listed) ops.size) (.tmp t) = evO (σ i).tm (.tmp t) := fun t ht => C.looks hs D.down h ht
  have hsame := same_of_looks hlook
  have hwant := wantA_congr hlook
  have hstep := C.step h.op
  -- the value that the canonical run puts
  have hval : ∀ {v : V}, putT (σ i).nt (σ i).tm o.dst v = some (σ (i + 1)).tm → ∀ t, o.dst = some t → valOf ops σ i = v := by
    intro v hput t ht
    have hdo : dstOf ops i = some t := by unfold dstOf; rw [h.op]; exact ht
    unfold valOf
    rw [hdo]
    simp only
    rw [putT_ev hput t, if_pos ht]
  have hbase : ∀ b, b < base → b < (σ m).nx := fun b hb => by have := A.nx; omega
  have hS : SRel w0 β ρ ⟨tauOf ops σ (Sof listed) ops.size, (σ m).hp, (σ m).nx, nt⟩ a w := ⟨D.tm, D.tsize, D.defers, A.hp⟩
  have hunb : ∀ {β' : Bij}, (∀ b, b < (σ m).nx → β' b = β b) → ∀ j t, allocOf ops j = some t → j ≠ i → Sof listed j = false → β' (base + j) = none := by
    intro β' hg j t ht _ hj
    have hjs : j < ops.size := by
      unfold allocOf at ht
      cases hq : ops[j]? with
      | none => rw [hq] at ht; cases ht
      | some q => exact (Array.getElem?_eq_some_iff.1 hq).1
    rw [hg _ (by have := A.nx; omega)]
    exact D.unborn j t ht hj
  unfold stepD at hstep
  split at hstep
  · -- a block is made
    rename_i t hop hg
    have hwt : Region.wanted o (yielded ops a.tmps) = true := by unfold Region.wanted; rw [hg]
    rw [hwt]
    simp only [if_true]
    left
    have he : isEff o = false := by unfold isEff; rw [hop]; simp [hg]
    have hr : isRd o = true := by unfold isRd; rw [hop]; simp [hg]
    have hwA : wantA ops (σ i).tm o = some true := by unfold wantA; rw [hg]
    have hpn : pureOp P L (σ i).tm o.op = none := by rw [hop]; rfl
    split at hstep
    · rename_i v hv
      split at hstep
      · rename_i tm hput
        simp only [Option.some.injEq] at hstep
        have hput' : putT (σ i).nt (σ i).tm o.dst v = some (σ (i + 1)).tm := by rw [hput, ← hstep]
        have hst := C.stable hs D.down h hr he hwA hpn (v := v) (by rw [hop]; exact hv) A.le A.here A.done
        rw [hop] at hst
        unfold rdOp at hst
        simp only at hst
        split at hst
        · rename_i z hz
          split at hst
          · rename_i hzero
            simp only [Option.some.injEq] at hst
            obtain ⟨inf, zv, hinf, hzv, habs⟩ := zeroV_spec hz
            have hun := D.unborn i t (by unfold allocOf; rw [h.op]; simp only [hop, hg]) h.out
            have hb := HRel.born A.hp (e := t) hun (by have := A.nx; omega) hzero (cs := zv.cells) (absV_rel habs).cells
            have hrun : (execOp a.eval o).run P w = .ok (.value (.pointer (some ⟨w.heap.size, 0, none⟩))) (w.alloc (.cells zv.cells t)) := by
              simp [execOp, hop, Instr.alloc, zeroValue, typeInfo, hinf, hzv, newVar, newRow]
            unfold Oper.wp
            rw [hrun, Oper.upon_value]
            refine hK _ _ _ (D.next C hs h (Bij.le_with hun) (fun b hb => by unfold Bij.with; rw [if_neg (by omega)]) (fun j t' ht' hji hj => ?_) (fun t' ht' => ?_) ⟨m, A.keep h.op he hS' hb⟩)
            · unfold Bij.with
              rw [if_neg (by omega)]
              exact D.unborn j t' ht' hj
            · rw [hval hput' t' ht', ← hst]
              exact ptr_new.vrel
          · cases hst
        · cases hst
      · cases hstep
    · cases hstep
  · -- a slice is made
    rename_i t l c hop hg
    have hwt : Region.wanted o (yielded ops a.tmps) = true := by unfold Region.wanted; rw [hg]
    rw [hwt]
    simp only [if_true]
    left
    have he : isEff o = false := by unfold isEff; rw [hop]; simp [hg]
    have hr : isRd o = true := by unfold isRd; rw [hop]; simp [hg]
    have hwA : wantA ops (σ i).tm o = some true := by unfold wantA; rw [hg]
    have hpn : pureOp P L (σ i).tm o.op = none := by rw [hop]; rfl
    split at hstep
    · rename_i v hv
      split at hstep
      · rename_i tm hput
        simp only [Option.some.injEq] at hstep
        have hput' : putT (σ i).nt (σ i).tm o.dst v = some (σ (i + 1)).tm := by rw [hput, ← hstep]
        have hst := C.stable hs D.down h hr he hwA hpn (v := v) (by rw [hop]; exact hv) A.le A.here A.done
        rw [hop] at hst
        unfold rdOp at hst
        simp only at hst
        have hl' : evO (σ i).tm l = evO (tauOf ops σ (Sof listed) ops.size) l := (hsame l (by rw [hop]; simp [Op.operands])).symm
        have hc' : evO (σ i).tm c = evO (tauOf ops σ (Sof listed) ops.size) c := (hsame c (by rw [hop]; simp [Op.operands])).symm
        rw [hl', hc'] at hst
        split at hst
        · rename_i e len cap hu hl hc
          obtain ⟨kl, hel⟩ := natOf_rel (hS.ev l) hl
          obtain ⟨kc, hec⟩ := natOf_rel (hS.ev c) hc
          split at hst
          · rename_i z n y hz hn hy
            split at hst
            · rename_i hcond
              simp only [Bool.and_eq_true, Nat.ble_eq, Nat.beq_eq] at hcond
              obtain ⟨⟨⟨⟨hc1, hc2⟩, hc3⟩, hc4⟩, hzero⟩ := hcond
              simp only [Option.some.injEq] at hst
              obtain ⟨inf, zv, hi', hzv, habs⟩ := zeroV_spec hz
              obtain ⟨inf', hi'', hsz⟩ := szOf_spec hn
              rw [hi'] at hi''
              cases hi''
              have hyb : inf.bytes = y := by unfold bytesOf at hy; rw [hi'] at hy; simpa using hy
              have hzr : LRel β ρ z.cells zv.cells.toList := (absV_rel habs).cells
              have hzlen : zv.cells.size = n + 1 := by have := hzr.length; rw [hc3] at this; simpa using this.symm
              have hrep := repl_rel hzr (by omega) cap
              have hsz' : inf.size = n + 1 := hsz
              have hun := D.unborn i t (by unfold allocOf; rw [h.op]; simp only [hop, hg]) h.out
              have hmade : LRel β ρ (repl z.cells cap) (madeCells zv.cells (cap * inf.size)).toList := by
                unfold madeCells
                rw [hsz', ← hzlen]
                exact hrep
              have hb := HRel.born A.hp (e := e) hun (by have := A.nx; omega) hzero (cs := madeCells zv.cells (cap * inf.size)) hmade
              have hm := run_make (P := P) w t e inf zv hu hi' hzv kl kc len cap (by omega) (by omega) (by
                rw [hyb]
                have : ((y : Int) * (cap : Int)) = ((cap * y : Nat) : Int) := by rw [Nat.mul_comm]; simp
                rw [this]; omega) (by omega)
              have hrun : (execOp a.eval o).run P w = .ok (.value (.slice (some ⟨w.heap.size, 0, none⟩) len cap)) (w.alloc (.cells (madeCells zv.cells (cap * inf.size)) e)) := by
                simp [execOp, hop, hel, hec, hm]
              unfold Oper.wp
              rw [hrun, Oper.upon_value]
              refine hK _ _ _ (D.next C hs h (Bij.le_with hun) (fun b hb => by unfold Bij.with; rw [if_neg (by omega)]) (fun j t' ht' hji hj => ?_) (fun t' ht' => ?_) ⟨m, A.keep h.op he hS' hb⟩)
              · unfold Bij.with
                rw [if_neg (by omega)]
                exact D.unborn j t' ht' hj
              · rw [hval hput' t' ht', ← hst]
                exact (show CRel _ ρ (.slice (base + i) 0 len cap (n + 1)) _ from ⟨w.heap.size, _, cap, by simp [Bij.with]; rfl, Nat.le_refl _, .inr (by rw [size_madeCells, hsz']; omega), _, .inl rfl, rfl⟩).vrel
            · cases hst
          · cases hst
        · cases hst
      · cases hstep
    · cases hstep
  · -- all else
    rename_i hna hnm
    unfold stepA at hstep
    split at hstep
    · cases hstep
    · -- passed over
      rename_i hw
      have hwt := wantA_sound D.tm (by rw [hwant]; exact hw)
      rw [hwt]
      simp only [Bool.false_eq_true, if_false]
      split at hstep
      · rename_i tm hput
        simp only [Option.some.injEq] at hstep
        have hput' : putT (σ i).nt (σ i).tm o.dst .undef = some (σ (i + 1)).tm := by rw [hput, ← hstep]
        have hhp : (σ (i + 1)).hp = (σ i).hp := by rw [← hstep]
        have hnx : (σ (i + 1)).nx = (σ i).nx := by rw [← hstep]
        have hv : ∀ t, o.dst = some t → VRel β ρ (valOf ops σ i) Go.undef := fun t ht => by rw [hval hput' t ht]; exact VRel.undef
        by_cases he : isEff o = true
        · -- an effect that is passed over: the next one's turn
          have hmi := A.eff hs D.down h he
          subst hmi
          exact hK _ _ _ (D.next C hs h (Bij.le_refl β) (fun _ _ => rfl) (hunb fun _ _ => rfl) hv (A.turn C hs D.down h he hS' (by rw [hhp, hnx]; exact A.hp) (by rw [hnx]; exact A.nx)))
        · exact hK _ _ _ (D.next C hs h (Bij.le_refl β) (fun _ _ => rfl) (hunb fun _ _ => rfl) hv ⟨m, A.keep h.op (by simpa using he) hS' A.hp⟩)
      · cases hstep
    · rename_i hw
      have hwt := wantA_sound D.tm (by rw [hwant]; exact hw)
      rw [hwt]
      simp only [if_true]
      left
      split at hstep
      · rename_i v h' n hop
        split at hstep
        · rename_i tm hput
          simp only [Option.some.injEq] at hstep
          have hput' : putT (σ i).nt (σ i).tm o.dst v = some (σ (i + 1)).tm := by rw [hput, ← hstep]
          by_cases he : isEff o = true
          · have hmi := A.eff hs D.down h he
            subst hmi
            have hop' : opA P L call o ⟨tauOf ops σ (Sof listed) ops.size, (σ m).hp, (σ m).nx, nt⟩ = some (v, h', n) := by rw [← hop]; exact opA_congr hsame rfl rfl
            have hhp : (σ (m + 1)).hp = h' := by rw [← hstep]
            have hnx : (σ (m + 1)).nx = n := by rw [← hstep]
            refine opA_wp hρ hN hcall hS hop' fun cv β' w' hx hv hh => ?_
            exact hK _ _ _ (D.next C hs h hx.le (fun b hb => hx.grow b (hbase b hb)) (hunb hx.grow) (fun t ht => by rw [hval hput' t ht]; exact hv)
              (A.turn C hs D.down h he hS' (by rw [hhp, hnx]; exact hh) (by rw [hnx]; exact Nat.le_trans A.nx hx.nx)))
          · have he' : isEff o = false := by simpa using he
            obtain ⟨hcase, _, _⟩ := opA_noEff he' (fun t h1 h2 => hna t h1 h2) (fun t l c h1 h2 => hnm t l c h1 h2) hop
            have hop' : opA P L call o ⟨tauOf ops σ (Sof listed) ops.size, (σ m).hp, (σ m).nx, nt⟩ = some (v, (σ m).hp, (σ m).nx) := by
              unfold opA
              rw [pureOp_congr (P := P) (L := L) hsame]
              rcases hcase with hp | ⟨hp, hr⟩
              · rw [hp]
              · obtain ⟨hrd, hrdop⟩ := readOp_isRd hr
                have hst := C.stable hs D.down h hrd he' hw hp (v := v) (by rw [hrdop]; exact hr) A.le A.here A.done
                rw [hrdop] at hst
                rw [hp]
                simp only
                rw [readOp_congr hsame, hst]
            refine opA_wp hρ hN hcall hS hop' fun cv β' w' hx hv hh => ?_
            exact hK _ _ _ (D.next C hs h hx.le (fun b hb => hx.grow b (hbase b hb)) (hunb hx.grow) (fun t ht => by rw [hval hput' t ht]; exact hv) ⟨m, A.keep h.op he' hS' hh⟩)
        · cases hstep
      · cases hstep

end
end Go.Abs
