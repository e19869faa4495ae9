import Derived.Test.YtfhcoiogdgfkcaaGreatDrawn3
namespace Go.Abs

section
variable {P : Program} {L : Nat} {ρ : Env} {w0 : World} {call : FuncId → List V → Tr Blk → Nat → Option (V × Tr Blk × Nat)} {ops : Array Oper} {pl : Plan} {base nt : Nat} {σ : Nat → St}

def cnt (S : Nat → Bool) : Nat → Nat
  | 0 => 0
  | k + 1 => cnt S k + (if S k = true then 0 else 1)

theorem cnt_zero {S : Nat → Bool} : ∀ {n : Nat}, cnt S n = 0 → ∀ k, k < n → S k = true
  | 0, _, k, hk => by omega
  | n + 1, h, k, hk => by
    simp only [cnt] at h
    by_cases e : k = n
    · subst e
      by_cases hS : S k = true
      · exact hS
      · rw [if_neg hS] at h; omega
    · exact cnt_zero (n := n) (by omega) k (by omega)

theorem cnt_set {S S' : Nat → Bool} {i : Nat} (hS' : ∀ k, S' k = (decide (k = i) || S k)) (hi : S i = false) : ∀ n, cnt S n = cnt S' n + (if i < n then 1 else 0)
  | 0 => by simp [cnt]
  | n + 1 => by
    simp only [cnt]
    rw [cnt_set hS' hi n, hS' n]
    by_cases e : n = i
    · subst e
      simp [hi]
    · simp only [e, decide_false, Bool.false_or]
      by_cases h1 : i < n
      · have h2 : i < n + 1 := by omega
        simp only [h1, h2, if_true]; omega
      · have h2 : ¬ i < n + 1 := by omega
        simp only [h1, h2, if_false]; omega

/-- when nothing is left, everything has come -/
theorem all_listed (hs : Shape ops pl) {listed : Array Bool} (hsz : listed.size = ops.size) (hr : Region.ready .any ops listed = []) : ∀ k, k < ops.size → Sof listed k = true := by
  intro k
  induction k using Nat.strongRecOn with
  | _ k ih =>
    intro hk
    cases hS : Sof listed k with
    | true => rfl
    | false =>
      have ho : ops[k]? = some ops[k] := Array.getElem?_eq_getElem hk
      have : k ∈ Region.ready .any ops listed := by
        rw [mem_ready]
        refine ⟨?_, ops[k], ho, fun e he hb => ?_⟩
        · unfold Sof at hS
          simp [hsz, hk] at hS ⊢
          exact hS
        · have hlt := hs.edges ho he hb
          exact ih e.on hlt (by omega)
      rw [hr] at this
      cases this

theorem tau_all (C : Canon P L call ops pl base nt σ) {S : Nat → Bool} (hall : ∀ k, k < ops.size → S k = true) (t : Nat) : ∀ k, k ≤ ops.size → evO (tauOf ops σ S k) (.tmp t) = evO (σ k).tm (.tmp t)
  | 0, _ => rfl
  | k + 1, h => by
    rw [tau_ev, C.tm (by omega), tau_all C hall t k (by omega), hall k (by omega)]
    simp

theorem tau_none {S : Nat → Bool} (hno : ∀ k, S k = false) (t : Nat) : ∀ k, evO (tauOf ops σ S k) (.tmp t) = evO (σ 0).tm (.tmp t)
  | 0 => rfl
  | k + 1 => by rw [tau_ev, tau_none hno t k, hno k]; simp

theorem drawn_any (hρ : ρ.ok L) (hN : NoNum P) (hcall : CallOk P w0 ρ call) (C : Canon P L call ops pl base nt σ) (hs : Shape ops pl) {β0 : Bij} {Q : Exit → Act → World → Prop}
    (hQ : ∀ β' a' w', (∀ b, b < base → β' b = β0 b) → β0.le β' → base ≤ (σ ops.size).nx → SRel w0 β' ρ (σ ops.size) a' w' → Q .normal a' w') :
    ∀ (fuel : Nat) (listed : Array Bool) (β : Bij) (a : Act) (w : World), DInv ops σ base nt w0 ρ β0 listed β a w → cnt (Sof listed) ops.size ≤ fuel → wpAny P .any ops Q fuel listed a w := by
  have fin : ∀ (listed : Array Bool) (β : Bij) (a : Act) (w : World), DInv ops σ base nt w0 ρ β0 listed β a w → (∀ k, k < ops.size → Sof listed k = true) → Q .normal a w := by
    intro listed β a w D hall
    obtain ⟨m, A⟩ := D.spot
    have hm : m = ops.size := by
      rcases A.here with h | ⟨o, h1, _, h3⟩
      · exact h
      · have := hall m (Array.getElem?_eq_some_iff.1 h1).1
        rw [h3] at this; cases this
    subst hm
    refine hQ β a w D.low D.le (by have := A.nx; omega) ⟨fun t => ?_, by rw [D.tsize, C.ntk _ (Nat.le_refl _)], D.defers, A.hp⟩
    rw [← tau_all C hall t ops.size (Nat.le_refl _)]
    exact D.tm t
  intro fuel
  induction fuel with
  | zero =>
    intro listed β a w D hc
    have hall := cnt_zero (Nat.le_zero.1 hc)
    refine ⟨?_, fin listed β a w D hall⟩
    cases hr : Region.ready .any ops listed with
    | nil => rfl
    | cons i l =>
      obtain ⟨o, h⟩ := Now.ready D.size (i := i) (by rw [hr]; exact List.mem_cons_self ..)
      have := hall i (Array.getElem?_eq_some_iff.1 h.op).1
      rw [h.out] at this; cases this
  | succ fuel ih =>
    intro listed β a w D hc
    refine ⟨fun hr => fin listed β a w D (all_listed hs D.size hr), fun i hi => ?_⟩
    obtain ⟨o, h⟩ := Now.ready D.size hi
    have hlt : i < ops.size := (Array.getElem?_eq_some_iff.1 h.op).1
    unfold wpOp
    simp only [h.op]
    refine dstep hρ hN hcall C hs D h fun β' a' w' D' => ih _ β' a' w' D' ?_
    have := cnt_set (Sof_set (listed := listed) (i := i) (by rw [D.size]; exact hlt)) h.out ops.size
    rw [if_pos hlt] at this
    omega

/-! the canonical run of 'drawnA' -/
theorem nthT_stepsD : ∀ {l : List Oper} {k : Nat} {s : St} {tr : List St}, stepsD P L call ops base k l s = some tr → nthT 0 tr = some s ∧ (∀ j, j ≤ l.length → ∃ x, nthT j tr = some x) ∧
    (∀ (j : Nat) o x y, l[j]? = some o → nthT j tr = some x → nthT (j + 1) tr = some y → stepD P L call ops base (k + j) o x = some y) ∧ lastT tr = nthT l.length tr
  | [], k, s, tr, h => by
    simp only [stepsD, Option.some.injEq] at h
    subst h
    refine ⟨rfl, fun j hj => ⟨s, ?_⟩, fun j o x y h1 => by simp at h1, rfl⟩
    have : j = 0 := by simpa using hj
    subst this; rfl
  | o :: l, k, s, tr, h => by
    simp only [stepsD] at h
    split at h
    · rename_i s' hs'
      split at h
      · rename_i tr' htr
        simp only [Option.some.injEq] at h
        subst h
        obtain ⟨h1, h2, h3, h4⟩ := nthT_stepsD htr
        refine ⟨rfl, fun j hj => ?_, fun j o' x y ho hx hy => ?_, ?_⟩
        · cases j with
          | zero => exact ⟨s, rfl⟩
          | succ j => exact h2 j (by simpa using hj)
        · cases j with
          | zero =>
            simp only [nthT, Option.some.injEq] at hx hy
            subst hx
            rw [h1] at hy
            cases hy
            simp at ho
            subst ho
            exact hs'
          | succ j =>
            rw [show k + (j + 1) = k + 1 + j by omega]
            exact h3 j o' x y (by simpa using ho) hx hy
        · cases tr' with
          | nil => simp [nthT] at h1
          | cons y t =>
            simp only [lastT, List.length_cons, nthT]
            exact h4
      · cases h
    · cases h

theorem HRel.lay {β : Bij} : ∀ {l : List (Nat × TypeId)} {h h' : Tr Blk} {nx n : Nat} {w : World}, HRel w0 β ρ h nx w → base ≤ nx → nx ≤ base + n → (∀ p ∈ l, p.1 < n) → (∀ b, base ≤ b → β b = none) → (∀ b, base + n ≤ b → h.get b = none) →
    layA P base h l = some h' → HRel w0 β ρ h' (base + n) w
  | [], h, h', nx, n, w, H, h1, h2, _, hb, hf, hl => by
    simp only [layA, Option.some.injEq] at hl
    subst hl
    exact ⟨H.cells, H.inj, H.base, fun b hb' => ⟨hf b hb', hb b (by omega)⟩, H.kept⟩
  | (i, t) :: l, h, h', nx, n, w, H, h1, h2, hp, hb, hf, hl => by
    simp only [layA] at hl
    split at hl
    · rename_i z hz
      have hi : i < n := hp (i, t) (List.mem_cons_self ..)
      have hget : ∀ b k, (h.put (base + i) (mkBlk z.cells)).get b = some k → β b ≠ none → h.get b = some k := by
        intro b k hg hne
        rw [Tr.get_put] at hg
        by_cases e : b = base + i
        · exact absurd (hb b (by omega)) hne
        · rw [if_neg e] at hg; exact hg
      have H1 : HRel w0 β ρ (h.put (base + i) (mkBlk z.cells)) (base + n) w := by
        refine ⟨fun b k c sz g1 g2 => H.cells b k c sz (hget b k g1 (by rw [g2]; simp)) g2, fun b b' k k' c s s' g1 g2 g3 g4 => H.inj b b' k k' c s s' (hget _ _ g1 (by rw [g3]; simp)) (hget _ _ g2 (by rw [g4]; simp)) g3 g4, H.base, fun b hb' => ⟨?_, hb b (by omega)⟩, H.kept⟩
        rw [Tr.get_put, if_neg (by omega)]
        exact hf b hb'
      exact HRel.lay H1 (by omega) (Nat.le_refl _) (fun p hp' => hp p (List.mem_cons_of_mem _ hp')) hb (fun b hb' => (H1.fresh b hb').1) hl
    · cases hl

theorem HRel.layB {β : Bij} {base n : Nat} {w : World} : ∀ (l : List (Nat × Blk)) {h : Tr Blk}, HRel w0 β ρ h (base + n) w → (∀ b, base ≤ b → β b = none) → HRel w0 β ρ (Abs.layB base n h l) (base + n) w
  | [], _, H, _ => H
  | (i, k0) :: l, h, H, hb => by
    unfold Abs.layB
    split
    · rename_i hi
      rw [Nat.blt_eq] at hi
      have hget : ∀ b k, (h.put (base + i) k0).get b = some k → β b ≠ none → h.get b = some k := by
        intro b k hg hne
        rw [Tr.get_put] at hg
        by_cases e : b = base + i
        · exact absurd (hb b (by omega)) hne
        · rw [if_neg e] at hg; exact hg
      refine HRel.layB l ?_ hb
      refine ⟨fun b k c sz g1 g2 => H.cells b k c sz (hget b k g1 (by rw [g2]; simp)) g2, fun b b' k k' c s s' g1 g2 g3 g4 => H.inj b b' k k' c s s' (hget _ _ g1 (by rw [g3]; simp)) (hget _ _ g2 (by rw [g4]; simp)) g3 g4, H.base, fun b hb' => ⟨?_, hb b (by omega)⟩, H.kept⟩
      rw [Tr.get_put, if_neg (by omega)]
      exact (H.fresh b hb').1
    · exact HRel.layB l H hb

theorem drawnA_wp (hρ : ρ.ok L) (hN : NoNum P) (hm : P.follows .mixedOrders = true) (hcall : CallOk P w0 ρ call) (hreg : regOk ops pl = true) {β : Bij} {s s' : St} {a : Act} {w : World} {id : Nat} {Q : Exit → Act → World → Prop} (S : SRel w0 β ρ s a w)
    (h : drawnA P L call ops pl s = some s') (hQ : ∀ β' a' w', Ext s.nx s'.nx β β' → SRel w0 β' ρ s' a' w' → Q .normal a' w') : (Code.region id ops true).wp P Q a w := by
  have hs := shape_of hreg
  unfold drawnA at h
  split at h
  · rename_i h00 hlay
    generalize hh0 : laidA P L call ops s h00 = h0 at h
    split at h
    · rename_i tr htr
      split at h
      · rename_i hpairs
        obtain ⟨g1, g2, g3, g4⟩ := nthT_stepsD htr
        let σ : Nat → St := fun k => (nthT k tr).getD s
        have hlen : ops.toList.length = ops.size := by simp
        have hσ : ∀ k, k ≤ ops.size → nthT k tr = some (σ k) := by
          intro k hk
          obtain ⟨x, hx⟩ := g2 k (by omega)
          show nthT k tr = some ((nthT k tr).getD s)
          rw [hx]; rfl
        have hσ0 : σ 0 = ⟨s.tm, h0, s.nx + ops.size, s.nt⟩ := by
          show (nthT 0 tr).getD s = _
          rw [g1]; rfl
        have hlast : s' = σ ops.size := by
          rw [g4, hlen, hσ _ (Nat.le_refl _)] at h
          exact (Option.some.inj h).symm
        have C : Canon P L call ops pl s.nx s.nt σ := by
          refine ⟨fun {k o} ho => ?_, by rw [hσ0], fun i e hie o ho hw hp => ?_⟩
          · have hk : k < ops.size := (Array.getElem?_eq_some_iff.1 ho).1
            have := g3 k o (σ k) (σ (k + 1)) (by simpa using ho) (hσ k (by omega)) (hσ (k + 1) (by omega))
            rwa [Nat.zero_add] at this
          · have hp1 := List.all_eq_true.1 hpairs (i, e) hie
            unfold pairOk at hp1
            simp only at hp1
            split at hp1
            · rename_i o' si se se' q1 q2 q3 q4
              rw [ho] at q1
              cases q1
              have hi : i < ops.size := (Array.getElem?_eq_some_iff.1 ho).1
              have e1 : si = σ i := by rw [hσ i (by omega)] at q2; exact (Option.some.inj q2).symm
              have e2 : se = σ e := by show se = (nthT e tr).getD s; rw [q3]; rfl
              have e3 : se' = σ (e + 1) := by show se' = (nthT (e + 1) tr).getD s; rw [q4]; rfl
              subst e1
              rw [hw] at hp1
              simp only [hp] at hp1
              split at hp1
              · rename_i a1 b1 c1 r1 r2 r3
                simp only [Bool.and_eq_true] at hp1
                have f1 := sameA_eq hp1.1
                have f2 := sameA_eq hp1.2
                refine ⟨a1, r1, ?_, ?_⟩
                · rw [← e2, r2, f1]
                · rw [← e3, r3, f2]
              · cases hp1
            · cases hp1
        have hbnone : ∀ b, s.nx ≤ b → β b = none := fun b hb => (S.hp.fresh b hb).2
        have hH0 : HRel w0 β ρ h00 (s.nx + ops.size) w := by
          refine HRel.lay S.hp (Nat.le_refl _) (by omega) (fun p hp => ?_) hbnone (fun b hb => (S.hp.fresh b (by omega)).1) hlay
          rw [hs.allocs] at hp
          unfold allocsOf at hp
          obtain ⟨j, hj, hj'⟩ := List.mem_filterMap.1 hp
          cases ha : allocOf ops j with
          | none => rw [ha] at hj'; cases hj'
          | some t =>
            rw [ha] at hj'
            simp only [Option.map_some, Option.some.injEq] at hj'
            rw [← hj']
            simpa using hj
        have hH : HRel w0 β ρ h0 (s.nx + ops.size) w := by
          rw [← hh0]
          unfold laidA
          split
          · exact HRel.layB _ hH0 hbnone
          · exact hH0
        have hSof : ∀ k, Sof (Array.replicate ops.size false) k = false := by
          intro k
          unfold Sof
          by_cases hk : k < ops.size <;> simp [hk]
        have D0 : DInv ops σ s.nx s.nt w0 ρ β (Array.replicate ops.size false) β a { w with drawn := w.drawn + 1 } := by
          refine ⟨by simp, fun {j o} _ hj => (by rw [hSof] at hj; cases hj), fun t => ?_, S.size, S.defers, ?_, fun i t _ _ => hbnone _ (by omega), fun _ _ => rfl, Bij.le_refl β⟩
          · rw [tau_none hSof t, hσ0]
            exact S.tm t
          · obtain ⟨m, m1, m2, m3, m4⟩ := first_eff ops (Sof (Array.replicate ops.size false)) ops.size 0 (by omega)
            have hno : ∀ e oe, 0 ≤ e → e < m → ops[e]? = some oe → isEff oe = false := by
              intro e oe a b c
              cases hee : isEff oe with
              | false => rfl
              | true => have := m4 e oe a b c hee; rw [hSof] at this; cases this
            obtain ⟨k1, k2⟩ := C.still 0 m (by omega) m2 hno
            refine ⟨m, m2, m3, fun e oe a b c => m4 e oe (by omega) a b c, ?_, ?_⟩
            · rw [k1, k2, hσ0]; exact hH.drew
            · rw [k2, hσ0]; exact Nat.le_refl _
        refine wp_region_any hm (drawn_any hρ hN hcall C hs (β0 := β) (fun β' a' w' hlow hle hnx S' => ?_) ops.size _ β a _ D0 ?_)
        · subst hlast
          exact hQ β' a' w' ⟨hle, hlow, hnx⟩ S'
        · have : ∀ n, cnt (Sof (Array.replicate ops.size false)) n ≤ n := by
            intro n
            induction n with
            | zero => exact Nat.le_refl _
            | succ n ih => simp only [cnt]; split <;> omega
          exact this _
      · cases h
    · cases h
  · cases h

end
end Go.Abs
