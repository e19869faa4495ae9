import Derived.Test.YtfhcoiogdgfkcaaGreatThrOk
namespace Go.Abs

section
variable (P : Program) (L : Nat) (plan : FuncId → Nat → Plan)

/-! ### the combinators of a code -/
noncomputable def compO : Operand → Opn
  | .tmp t => rT t
  | .const v => (match absV v with | some x => rC x | none => rJ)
  | _ => rJ
noncomputable def compOO : Option Operand → Option Opn
  | some x => some (compO x)
  | none => none
noncomputable def compL : List Operand → List Opn
  | [] => []
  | x :: l => compO x :: compL l
noncomputable def compP : List (Nat × Operand) → List (Nat × Opn)
  | [] => []
  | (i, x) :: l => (i, compO x) :: compP l
noncomputable def compBin (op : BinOp) (t : TypeId) (x y : Opn) : OpT := match P.underlying t, op with
  | some (.int _), .add => xBinF P L fAdd .add t x y
  | some (.int _), .eql => xBinF P L fEql .eql t x y
  | some (.int _), .neq => xBinF P L fNeq .neq t x y
  | some (.int _), .lss => xBinF P L fLss .lss t x y
  | some (.int _), .leq => xBinF P L fLeq .leq t x y
  | some (.int _), .gtr => xBinF P L fGtr .gtr t x y
  | some (.int _), .geq => xBinF P L fGeq .geq t x y
  | _, _ => xBin P L op t x y
noncomputable def compOp (o : Oper) : OpT := match o.op with
  | .move x => xMove (compO x)
  | .assign x => xMove (compO x)
  | .pick c a b => xPick (compO c) (compO a) (compO b)
  | .nilCheck x => xNil (compO x)
  | .binOp op t x y _ => compBin P L op t (compO x) (compO y)
  | .unOp op _ x => (match op with | .not => xNot (compO x) | op => xUn op (compO x))
  | .fieldAddr s x f => (match fieldAt P s f with
    | some (off, u) => (match szOf P u with | some (_ + 1) => xFld off (compO x) | _ => xSlow P L o)
    | none => xSlow P L o)
  | .field s x f => xField P s (compO x) f
  | .indexAddr t x ix => (match P.underlying t with
    | some (.array n e) => (match szOf P e with | some z => xIdxA n z (compO x) (compO ix) | none => xSlow P L o)
    | some (.slice e) => (match szOf P e with | some z => xIdxS z (compO x) (compO ix) | none => xSlow P L o)
    | _ => xSlow P L o)
  | .index t x ix => xIndex P t (compO x) (compO ix)
  | .slice t x lo hi none => xSlice P t (compO x) (compOO lo) (compOO hi)
  | .extract x i => xExtract (compO x) i
  | .build t ps => xBuild P t (compP ps.toList)
  | .load t a => (match aggT P t, szOf P t with
    | some true, some n => xLoadN n (compO a)
    | some false, some 1 => xLoad1 (compO a)
    | _, _ => xSlow P L o)
  | .store t a x => (match szOf P t with | some n => xStore n (compO a) (compO x) | none => xSlow P L o)
  | .alloc t => xAlloc P t
  | .box _ x => xBox (compO x)
  | .call { callee := .builtin .len, args := ⟨[x]⟩, argTypes := ⟨[t]⟩ } => xLen P t (compO x)
  | .call { callee := .value (.func f), args, .. } => xFunc f (compL args.toList)
  | _ => xSlow P L o
noncomputable def compS (ops : Array Oper) (o : Oper) : StepT := match o.guard, o.dst with
  | none, some t => sD t (compOp P L o)
  | none, none => sN (compOp P L o)
  | some (j, w), some t => (match (ops[j]?).bind (·.dst) with
    | some g => sG g w t (compOp P L o)
    | none => sSlow P L ops o)
  | _, _ => sSlow P L ops o
noncomputable def compSs (ops : Array Oper) : List Oper → StepT
  | [] => sEnd
  | o :: l => sThen (compS P L ops o) (compSs ops l)
def plainO (o : Oper) : Bool := match o.op, o.guard with | .alloc _, none => false | _, _ => true
def plainB (ops : Array Oper) (pl : Plan) : Bool := pl.pairs.isEmpty && pl.allocs.isEmpty && ops.toList.all plainO
noncomputable def compC (f : FuncId) : Code → CoT
  | .skip => cSkip
  | .region _ ops false => cReg (compSs P L ops ops.toList)
  | .region id ops true => (match plainB ops (plan f id) with
    | true => cRegD ops.size (compSs P L ops ops.toList)
    | false => cDrawn P L ops (plan f id))
  | .seq a b => cSeq (compC f a) (compC f b)
  | .cond x a b => cCond (compO x) (compC f a) (compC f b)
  | .block id b => cBlock id (compC f b)
  | .loop b => cLoop (compC f b)
  | .exit id => cExit id
  | .ret => cRet
  | _ => cNone
noncomputable def compR : ResultVar → ResT
  | .tmp t => qTmp t
  | .cell a t => (match aggT P t, szOf P t with
    | some true, some n => qAgg a n
    | some false, some 1 => qOne a
    | _, _ => qNo)
noncomputable def compRs : List ResultVar → List ResT
  | [] => []
  | r :: l => compR P r :: compRs l
end

section
variable {P : Program} {L : Nat}

theorem compO_ok (o : Operand) : OpnOk (compO o) o := by
  intro e
  cases o with
  | tmp t => exact rT_eq t e
  | const v =>
    simp only [compO, evO]
    cases absV v <;> rfl
  | global g => rfl
  | func f => rfl
theorem compOO_ok (o : Option Operand) : OptOk (compOO o) o := by
  cases o with
  | none => trivial
  | some x => exact compO_ok x
theorem compL_ok : ∀ l, LsOk (compL l) l
  | [] => .nil
  | x :: l => .cons (compO_ok x) (compL_ok l)
theorem compP_ok : ∀ l, PsOk (compP l) l
  | [] => .nil
  | (_, x) :: l => .cons (compO_ok x) (compP_ok l)
theorem compBin_ok {x y : Opn} {o : Oper} {op : BinOp} {t t' : TypeId} {a b : Operand} (hx : OpnOk x a) (hy : OpnOk y b) (ho : o.op = .binOp op t a b t') : OpOk P L (compBin P L op t x y) o := by
  unfold compBin
  split
  · exact xBinF_ok fAdd_ok hx hy ho
  · exact xBinF_ok fEql_ok hx hy ho
  · exact xBinF_ok fNeq_ok hx hy ho
  · exact xBinF_ok fLss_ok hx hy ho
  · exact xBinF_ok fLeq_ok hx hy ho
  · exact xBinF_ok fGtr_ok hx hy ho
  · exact xBinF_ok fGeq_ok hx hy ho
  · exact xBin_ok hx hy ho

theorem compOp_ok (o : Oper) : OpOk P L (compOp P L o) o := by
  unfold compOp
  split
  · rename_i x ho; exact xMove_ok (compO_ok x) (.inl ho)
  · rename_i x ho; exact xMove_ok (compO_ok x) (.inr ho)
  · rename_i c a b ho; exact xPick_ok (compO_ok c) (compO_ok a) (compO_ok b) ho
  · rename_i x ho; exact xNil_ok (compO_ok x) ho
  · rename_i op t x y t' ho; exact compBin_ok (compO_ok x) (compO_ok y) ho
  · rename_i op t x ho
    split
    · exact xNot_ok (compO_ok x) ho
    · exact xUn_ok (compO_ok x) ho
  · rename_i s x f ho
    split
    · rename_i off u hfa
      split
      · rename_i n hsz; exact xFld_ok hfa hsz (compO_ok x) ho
      · exact xSlow_ok
    · exact xSlow_ok
  · rename_i s x f ho; exact xField_ok (compO_ok x) ho
  · rename_i t x ix ho
    split
    · rename_i n e hu
      split
      · rename_i z hz; exact xIdxA_ok hu hz (compO_ok x) (compO_ok ix) ho
      · exact xSlow_ok
    · rename_i e hu
      split
      · rename_i z hz; exact xIdxS_ok hu hz (compO_ok x) (compO_ok ix) ho
      · exact xSlow_ok
    · exact xSlow_ok
  · rename_i t x ix ho; exact xIndex_ok (compO_ok x) (compO_ok ix) ho
  · rename_i t x lo hi ho; exact xSlice_ok (compO_ok x) (compOO_ok lo) (compOO_ok hi) ho
  · rename_i x i ho; exact xExtract_ok (compO_ok x) ho
  · rename_i t ps ho; exact xBuild_ok (compP_ok ps.toList) ho
  · rename_i t a ho
    split
    · rename_i n hag hsz; exact xLoadN_ok hag hsz (compO_ok a) ho
    · rename_i hag hsz; exact xLoad1_ok hag hsz (compO_ok a) ho
    · exact xSlow_ok
  · rename_i t a x ho
    split
    · rename_i n hsz; exact xStore_ok hsz (compO_ok a) (compO_ok x) ho
    · exact xSlow_ok
  · rename_i t ho; exact xAlloc_ok ho
  · rename_i t x ho; exact xBox_ok (compO_ok x) ho
  · rename_i x t ho; exact xLen_ok (compO_ok x) ho
  · rename_i f args tys ho; exact xFunc_ok (compL_ok args.toList) ho
  · exact xSlow_ok

theorem putF_eq (e : E) (nt t : Nat) (v : V) (h : Tr Blk) (n : Nat) : putF e nt t v h n = (match putT nt e (some t) v with | some tm => some ⟨tm, h, n, nt⟩ | none => none) := by
  unfold putF putT
  rw [putE_eq]
  show Bool.rec (motive := fun _ => Option St) none _ (Nat.blt t nt) = _
  simp only
  cases Nat.blt t nt <;> rfl
theorem wantF_eq {ops : Array Oper} {e : E} {o : Oper} {j : Nat} {w : Bool} {g : Tmp} (hg : o.guard = some (j, w)) (hd : (ops[j]?).bind (·.dst) = some g) : wantF e g w = wantA ops e o := by
  unfold wantF wantA
  rw [hg]
  simp only
  cases hq : ops[j]? with
  | none => rw [hq] at hd; cases hd
  | some q =>
    rw [hq] at hd
    have hd' : q.dst = some g := hd
    simp only [hd']
    rw [rT_eq, onBool_eq, onTup_eq]
    cases evO e (.tmp g) <;> try rfl
    · rename_i b; cases b <;> cases w <;> rfl
    · rename_i l; cases l <;> rfl

def StepOk (P : Program) (L : Nat) (st : StepT) (ops : Array Oper) (o : Oper) : Prop := ∀ call s, st call s = stepA P L call ops o s

theorem compS_ok (ops : Array Oper) (o : Oper) : StepOk P L (compS P L ops o) ops o := by
  intro call s
  obtain ⟨e, h, nx, nt⟩ := s
  have hop := compOp_ok (P := P) (L := L) o e h nx nt call
  cases hg : o.guard with
  | none =>
    have hw : wantA ops e o = some true := by unfold wantA; rw [hg]
    cases hd : o.dst with
    | some t =>
      have hc : compS P L ops o = sD t (compOp P L o) := by unfold compS; rw [hg, hd]
      rw [hc]
      show toF e nt t (compOp P L o e h nx call) = _
      rw [hop]
      unfold stepA
      simp only [hw]
      cases opA P L call o ⟨e, h, nx, nt⟩ with
      | none => rfl
      | some p =>
        obtain ⟨v, h', n⟩ := p
        show putF e nt t v h' n = _
        rw [putF_eq, hd]
        simp only
        cases putT nt e (some t) v <;> rfl
    | none =>
      have hc : compS P L ops o = sN (compOp P L o) := by unfold compS; rw [hg, hd]
      rw [hc]
      show noF e nt (compOp P L o e h nx call) = _
      rw [hop]
      unfold stepA
      simp only [hw]
      cases opA P L call o ⟨e, h, nx, nt⟩ with
      | none => rfl
      | some p =>
        obtain ⟨v, h', n⟩ := p
        rw [hd]; rfl
  | some p =>
    obtain ⟨j, w⟩ := p
    cases hd : o.dst with
    | none =>
      have hc : compS P L ops o = sSlow P L ops o := by unfold compS; rw [hg, hd]
      rw [hc]; rfl
    | some t =>
      cases hgd : (ops[j]?).bind (·.dst) with
      | none =>
        have hc : compS P L ops o = sSlow P L ops o := by unfold compS; rw [hg, hd]; simp only; rw [hgd]
        rw [hc]; rfl
      | some g =>
        have hc : compS P L ops o = sG g w t (compOp P L o) := by unfold compS; rw [hg, hd]; simp only; rw [hgd]
        rw [hc]
        show Option.rec (motive := fun _ => Option St) none (fun w => Bool.rec (putF e nt t .undef h nx) (toF e nt t (compOp P L o e h nx call)) w) (wantF e g w) = _
        rw [wantF_eq (ops := ops) hg hgd, hop]
        unfold stepA
        simp only
        cases wantA ops e o with
        | none => rfl
        | some b =>
          cases b with
          | false => show putF e nt t .undef h nx = _; rw [putF_eq, hd]; simp only; cases putT nt e (some t) .undef <;> rfl
          | true =>
            show toF e nt t (opA P L call o ⟨e, h, nx, nt⟩) = _
            simp only
            cases opA P L call o ⟨e, h, nx, nt⟩ with
            | none => rfl
            | some p =>
              obtain ⟨v, h', n⟩ := p
              show putF e nt t v h' n = _
              rw [putF_eq, hd]
              simp only
              cases putT nt e (some t) v <;> rfl

theorem compSs_ok (ops : Array Oper) : ∀ (l : List Oper) call s, compSs P L ops l call s = stepsA P L call ops l s
  | [], _, _ => rfl
  | o :: l, call, s => by
    show Option.rec (motive := fun _ => Option St) none (fun s' => compSs P L ops l call s') (compS P L ops o call s) = _
    rw [compS_ok ops o call s]
    simp only [stepsA]
    cases stepA P L call ops o s with
    | none => rfl
    | some s' => exact compSs_ok ops l call s'

end
end Go.Abs
