import Derived.Test.YtfhcoiogdgfkcaaGreatDrawn
namespace Go.Abs

section
variable {P : Program} {L : Nat} {ρ : Env} {w0 : World} {call : FuncId → List V → Tr Blk → Nat → Option (V × Tr Blk × Nat)} {ops : Array Oper} {pl : Plan} {base nt : Nat} {σ : Nat → St}

def dstOf (ops : Array Oper) (k : Nat) : Option Tmp := (ops[k]?).bind (·.dst)
def valOf (ops : Array Oper) (σ : Nat → St) (k : Nat) : V := match dstOf ops k with
  | some t => evO (σ (k + 1)).tm (.tmp t)
  | none => .undef

/-- the canonical run -/
structure Canon (P : Program) (L : Nat) (call : FuncId → List V → Tr Blk → Nat → Option (V × Tr Blk × Nat)) (ops : Array Oper) (pl : Plan) (base nt : Nat) (σ : Nat → St) : Prop where
  step : ∀ {k : Nat} {o : Oper}, ops[k]? = some o → stepD P L call ops base k o (σ k) = some (σ (k + 1))
  nt0 : (σ 0).nt = nt
  pairs : ∀ i e, (i, e) ∈ pl.pairs → ∀ o, ops[i]? = some o → wantA ops (σ i).tm o = some true → pureOp P L (σ i).tm o.op = none →
    ∃ v, rdOp P base i (σ i).tm (σ i).hp o.op = some v ∧ rdOp P base i (σ i).tm (σ e).hp o.op = some v ∧ rdOp P base i (σ i).tm (σ (e + 1)).hp o.op = some v

theorem putT_ev {nt : Nat} {tm tm' : E} {d : Option Tmp} {v : V} (h : putT nt tm d v = some tm') (t : Nat) : evO tm' (.tmp t) = if d = some t then v else evO tm (.tmp t) := by
  unfold putT at h
  split at h
  · rename_i t'
    split at h
    · simp only [Option.some.injEq] at h
      subst h
      rw [evO_put]
      by_cases e : t = t'
      · simp [e]
      · simp [e, Ne.symm e]
    · cases h
  · simp only [Option.some.injEq] at h
    subst h
    simp

/-- what one step does -/
theorem stepD_spec {base k : Nat} {o : Oper} {s s' : St} (h : stepD P L call ops base k o s = some s') :
    s'.nt = s.nt ∧ (∃ v, putT s.nt s.tm o.dst v = some s'.tm) ∧ (isEff o = false → s'.hp = s.hp ∧ s'.nx = s.nx) := by
  unfold stepD at h
  split at h
  · split at h
    · rename_i v hv
      split at h
      · rename_i tm htm
        simp only [Option.some.injEq] at h
        subst h
        exact ⟨rfl, ⟨v, htm⟩, fun _ => ⟨rfl, rfl⟩⟩
      · cases h
    · cases h
  · split at h
    · rename_i v hv
      split at h
      · rename_i tm htm
        simp only [Option.some.injEq] at h
        subst h
        exact ⟨rfl, ⟨v, htm⟩, fun _ => ⟨rfl, rfl⟩⟩
      · cases h
    · cases h
  · rename_i hna hnm
    unfold stepA at h
    split at h
    · cases h
    · split at h
      · rename_i tm htm
        simp only [Option.some.injEq] at h
        subst h
        exact ⟨rfl, ⟨_, htm⟩, fun _ => ⟨rfl, rfl⟩⟩
      · cases h
    · split at h
      · rename_i v hp n hop
        split at h
        · rename_i tm htm
          simp only [Option.some.injEq] at h
          subst h
          refine ⟨rfl, ⟨_, htm⟩, fun he => ?_⟩
          show hp = s.hp ∧ n = s.nx
          unfold opA at hop
          split at hop
          · simp only [Option.some.injEq, Prod.mk.injEq] at hop
            exact ⟨hop.2.1.symm, hop.2.2.symm⟩
          · split at hop
            · simp only [Option.some.injEq, Prod.mk.injEq] at hop
              exact ⟨hop.2.1.symm, hop.2.2.symm⟩
            · unfold isEff at he
              split at hop
              · rename_i f args tys hoo
                rw [hoo] at he
                cases he
              · rename_i hnc
                cases hoo : o.op <;> rw [hoo] at hop he <;> simp only [effOp] at hop <;> try (cases hop; done)
                all_goals first
                  | (simp only [effB] at he; cases he; done)
                  | skip
                case alloc t =>
                  cases hg : o.guard with
                  | none => exact absurd hg (hna t hoo)
                  | some g => rw [hg] at he; cases he
                case makeSlice t l c =>
                  cases hg : o.guard with
                  | none => exact absurd hg (hnm t l c hoo)
                  | some g => rw [hg] at he; cases he
                case call c =>
                  obtain ⟨callee, args, tys⟩ := c
                  cases callee with
                  | builtin b => cases b <;> simp [effB] at he <;> cases hop
                  | value f => simp [effB] at he
                  | invoke r m => simp [effB] at he
        · cases h
      · cases h

theorem Canon.ntk (C : Canon P L call ops pl base nt σ) : ∀ k, k ≤ ops.size → (σ k).nt = nt
  | 0, _ => C.nt0
  | k + 1, h => by
    have ho : ops[k]? = some ops[k] := Array.getElem?_eq_getElem (by omega)
    rw [(stepD_spec (C.step ho)).1, C.ntk k (by omega)]

theorem Canon.tm (C : Canon P L call ops pl base nt σ) {k : Nat} (hk : k < ops.size) (t : Nat) :
    evO (σ (k + 1)).tm (.tmp t) = if dstOf ops k = some t then valOf ops σ k else evO (σ k).tm (.tmp t) := by
  have ho : ops[k]? = some ops[k] := Array.getElem?_eq_getElem hk
  obtain ⟨_, ⟨v, hv⟩, _⟩ := stepD_spec (C.step ho)
  have hd : dstOf ops k = ops[k].dst := by unfold dstOf; rw [ho]; rfl
  by_cases h : dstOf ops k = some t
  · rw [if_pos h]
    unfold valOf
    rw [h]
  · rw [if_neg h, putT_ev hv t, if_neg (by rw [← hd]; exact h)]

/-- no effect between: the heap is the same -/
theorem Canon.still (C : Canon P L call ops pl base nt σ) (k : Nat) : ∀ m, k ≤ m → m ≤ ops.size → (∀ e o, k ≤ e → e < m → ops[e]? = some o → isEff o = false) → (σ m).hp = (σ k).hp ∧ (σ m).nx = (σ k).nx := by
  intro m
  induction m with
  | zero => intro h _ _; have : k = 0 := by omega
            subst this; exact ⟨rfl, rfl⟩
  | succ m ih =>
    intro h1 h2 h3
    by_cases hk : k = m + 1
    · subst hk; exact ⟨rfl, rfl⟩
    · obtain ⟨g1, g2⟩ := ih (by omega) (by omega) fun e o a b c => h3 e o a (by omega) c
      have ho : ops[m]? = some ops[m] := Array.getElem?_eq_getElem (by omega)
      obtain ⟨_, _, g3⟩ := stepD_spec (C.step ho)
      obtain ⟨g4, g5⟩ := g3 (h3 m _ (by omega) (by omega) ho)
      exact ⟨g4.trans g1, g5.trans g2⟩

/-- the temporaries when the operations of S have been carried out -/
def tauOf (ops : Array Oper) (σ : Nat → St) (S : Nat → Bool) : Nat → E
  | 0 => (σ 0).tm
  | k + 1 => match S k, dstOf ops k with
    | true, some t => (tauOf ops σ S k).put t (valOf ops σ k)
    | _, _ => tauOf ops σ S k

theorem tau_ev (S : Nat → Bool) (k t : Nat) : evO (tauOf ops σ S (k + 1)) (.tmp t) = if S k = true ∧ dstOf ops k = some t then valOf ops σ k else evO (tauOf ops σ S k) (.tmp t) := by
  have hu : tauOf ops σ S (k + 1) = (match S k, dstOf ops k with | true, some t => (tauOf ops σ S k).put t (valOf ops σ k) | _, _ => tauOf ops σ S k) := rfl
  rw [hu]
  cases hS : S k with
  | false => simp
  | true =>
    cases hd : dstOf ops k with
    | none => simp
    | some d =>
      simp only [evO_put, true_and, Option.some.injEq]
      by_cases e : t = d
      · simp [e]
      · simp [e, Ne.symm e]

def Sof (listed : Array Bool) (k : Nat) : Bool := listed.getD k false

theorem Sof_set {listed : Array Bool} {i : Nat} (hi : i < listed.size) (k : Nat) : Sof (listed.setIfInBounds i true) k = (decide (k = i) || Sof listed k) := by
  unfold Sof
  by_cases e : k = i
  · subst e; simp [hi]
  · simp [e, Array.getElem?_setIfInBounds_ne (Ne.symm e)]

def Down (ops : Array Oper) (S : Nat → Bool) : Prop := ∀ {j : Nat} {o : Oper}, ops[j]? = some o → S j = true → ∀ {e : Edge}, e ∈ o.after → Region.binds .any e = true → S e.on = true

theorem Down.bef {S : Nat → Bool} (h : Down ops S) {i j : Nat} (hb : Bef ops i j) : S j = true → S i = true := by
  induction hb with
  | edge h1 h2 h3 => exact fun hj => h h1 hj h2 h3
  | trans _ _ ih1 ih2 => exact fun hj => ih1 (ih2 hj)

/-- what holds of an operation that may come now -/
structure Now (ops : Array Oper) (S : Nat → Bool) (i : Nat) (o : Oper) : Prop where
  op : ops[i]? = some o
  out : S i = false
  after : ∀ {e : Edge}, e ∈ o.after → Region.binds .any e = true → S e.on = true

theorem Now.bef {S : Nat → Bool} {i : Nat} {o : Oper} (hd : Down ops S) (h : Now ops S i o) {j : Nat} (hb : Bef ops j i) : S j = true := by
  obtain ⟨o', e, h1, h2, h3, h4⟩ := hb.last
  rw [h.op] at h1
  cases h1
  have := h.after h2 h3
  rcases h4 with rfl | h4
  · exact this
  · exact hd.bef h4 this
theorem Now.not_bef {S : Nat → Bool} {i : Nat} {o : Oper} (hd : Down ops S) (h : Now ops S i o) {j : Nat} (hj : S j = true) : ¬ Bef ops i j := fun hb => by
  have := hd.bef hb hj
  rw [h.out] at this; cases this

/-- the order of two operations that are not apart -/
theorem Now.order {S : Nat → Bool} (hs : Shape ops pl) (hd : Down ops S) {i : Nat} {o : Oper} (h : Now ops S i o) {j : Nat} {y : Oper} (hy : ops[j]? = some y) (hne : j ≠ i)
    (hn : j < i → y.apart ops o = true → False) (hn' : i < j → o.apart ops y = true → False) : (S j = true ∧ j < i) ∨ (S j = false ∧ i < j) := by
  rcases Nat.lt_or_gt_of_ne hne with hlt | hlt
  · rcases hs.loose hlt hy h.op with hb | ⟨ha, _⟩
    · exact .inl ⟨h.bef hd hb, hlt⟩
    · exact (hn hlt ha).elim
  · rcases hs.loose hlt h.op hy with hb | ⟨ha, _⟩
    · refine .inr ⟨?_, hlt⟩
      cases hS : S j with
      | false => rfl
      | true => exact (h.not_bef hd hS hb).elim
    · exact (hn' hlt ha).elim

/-- the temporaries that the operation looks at are those of the canonical run -/
theorem Canon.looks (C : Canon P L call ops pl base nt σ) (hs : Shape ops pl) {S : Nat → Bool} (hd : Down ops S) {i : Nat} {o : Oper} (h : Now ops S i o) {t : Tmp} (ht : t ∈ o.looksAt ops) :
    evO (tauOf ops σ S ops.size) (.tmp t) = evO (σ i).tm (.tmp t) := by
  have hi : i < ops.size := (Array.getElem?_eq_some_iff.1 h.op).1
  -- every writer of t other than i is in S just if it lies ahead of i
  have key : ∀ j, j < ops.size → j ≠ i → dstOf ops j = some t → (S j = true ∧ j < i) ∨ (S j = false ∧ i < j) := by
    intro j hj hne hdst
    have hy : ops[j]? = some ops[j] := Array.getElem?_eq_getElem hj
    have hdy : ops[j].dst = some t := by unfold dstOf at hdst; rw [hy] at hdst; exact hdst
    refine h.order hs hd hy hne (fun _ ha => ?_) (fun _ ha => ?_)
    · exact (Oper.apart_spec ha).1 t hdy ht
    · exact (Oper.apart_spec ha).2.2 t hdy ht
  have up : ∀ k, k ≤ i → evO (tauOf ops σ S k) (.tmp t) = evO (σ k).tm (.tmp t) := by
    intro k
    induction k with
    | zero => intro _; rfl
    | succ k ih =>
      intro hk
      rw [tau_ev, C.tm (by omega), ih (by omega)]
      by_cases hdst : dstOf ops k = some t
      · have := key k (by omega) (by omega) hdst
        have hS : S k = true := by rcases this with h1 | h1; exact h1.1; omega
        simp [hdst, hS]
      · simp [hdst]
  have down : ∀ k, i ≤ k → k ≤ ops.size → evO (tauOf ops σ S k) (.tmp t) = evO (tauOf ops σ S i) (.tmp t) := by
    intro k
    induction k with
    | zero => intro h1 _; have : i = 0 := by omega
              subst this; rfl
    | succ k ih =>
      intro h1 h2
      by_cases hk : i = k + 1
      · subst hk; rfl
      · rw [tau_ev, ih (by omega) (by omega)]
        rw [if_neg]
        rintro ⟨hS, hdst⟩
        by_cases hki : k = i
        · subst hki; rw [h.out] at hS; cases hS
        · rcases key k (by omega) hki hdst with h3 | h3
          · omega
          · rw [h3.1] at hS; cases hS
  rw [down ops.size (by omega) (Nat.le_refl _), up i (Nat.le_refl _)]

/-- one operation more -/
theorem Canon.put (_C : Canon P L call ops pl base nt σ) (hs : Shape ops pl) {S S' : Nat → Bool} (hd : Down ops S) {i : Nat} {o : Oper} (h : Now ops S i o) (hS' : ∀ k, S' k = (decide (k = i) || S k)) (t : Nat) :
    evO (tauOf ops σ S' ops.size) (.tmp t) = if dstOf ops i = some t then valOf ops σ i else evO (tauOf ops σ S ops.size) (.tmp t) := by
  have hi : i < ops.size := (Array.getElem?_eq_some_iff.1 h.op).1
  have key : ∀ k, k ≤ ops.size → evO (tauOf ops σ S' k) (.tmp t) = if i < k ∧ dstOf ops i = some t then valOf ops σ i else evO (tauOf ops σ S k) (.tmp t) := by
    intro k
    induction k with
    | zero => intro _; rw [if_neg (by omega)]; rfl
    | succ k ih =>
      intro hk
      rw [tau_ev, tau_ev, ih (by omega), hS' k]
      by_cases hki : k = i
      · subst hki
        simp only [decide_true, Bool.true_or, true_and, h.out, Bool.false_eq_true, false_and, if_false, Nat.lt_irrefl, Nat.lt_succ_self]
      · simp only [hki, decide_false, Bool.false_or]
        by_cases hw : S k = true ∧ dstOf ops k = some t
        · rw [if_pos hw]
          by_cases hit : dstOf ops i = some t
          · have hy : ops[k]? = some ops[k] := Array.getElem?_eq_getElem (by omega)
            have hdy : ops[k].dst = some t := by have := hw.2; unfold dstOf at this; rw [hy] at this; exact this
            have hdo : o.dst = some t := by unfold dstOf at hit; rw [h.op] at hit; exact hit
            rcases h.order hs hd hy hki (fun _ ha => (Oper.apart_spec ha).2.1 t hdy hdo) (fun _ ha => (Oper.apart_spec ha).2.1 t hdo hdy) with h1 | h1
            · rw [if_neg (by omega)]; rw [if_pos hw]
            · rw [h1.1] at hw; exact absurd hw.1 (by simp)
          · rw [if_neg (by simp [hit])]; rw [if_pos hw]
        · rw [if_neg hw]
          by_cases hit : i < k ∧ dstOf ops i = some t
          · rw [if_pos hit, if_pos ⟨by omega, hit.2⟩]
          · rw [if_neg hit, if_neg (fun hc => hit ⟨by omega, hc.2⟩), if_neg hw]
  rw [key ops.size (Nat.le_refl _)]
  simp [hi]

end
end Go.Abs
