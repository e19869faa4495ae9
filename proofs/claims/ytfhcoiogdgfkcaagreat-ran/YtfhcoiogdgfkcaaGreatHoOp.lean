import Derived.Test.YtfhcoiogdgfkcaaGreatHoOk
namespace Go.Abs

/-! ### the code of an operation -/
def farB (far t : Nat) : Bool := Nat.beq (Nat.land (Nat.shiftRight far t) 1) 1
noncomputable def evK (far : Nat) (ls : Loc) (tm : Tr V) : Operand → V
  | .tmp t => (match farB far t with | true => rdT t tm | false => orJ (ls.look t))
  | .const v => (match absV v with | some x => x | none => .junk)
  | _ => .junk
noncomputable def evKL (far : Nat) (ls : Loc) (tm : Tr V) : List Operand → List V
  | [] => []
  | x :: l => evK far ls tm x :: evKL far ls tm l
noncomputable def evKP (far : Nat) (ls : Loc) (tm : Tr V) : List (Nat × Operand) → List (Nat × V)
  | [] => []
  | (i, x) :: l => (i, evK far ls tm x) :: evKP far ls tm l
noncomputable def evKO (far : Nat) (ls : Loc) (tm : Tr V) : Option Operand → Option V
  | some x => some (evK far ls tm x)
  | none => none
section
variable (P : Program) (L : Nat)
noncomputable def binK (op : BinOp) (t : TypeId) (x y : V) (k : V → Res) : Res := match P.underlying t, op with
  | some (.int .i64), .add => kAdd x y (binV P L .add t x y) k
  | some (.int _), .eql => kEql x y (binV P L .eql t x y) k
  | some (.int _), .neq => kNeq x y (binV P L .neq t x y) k
  | some (.int _), .lss => kLss x y (binV P L .lss t x y) k
  | some (.int _), .leq => kLeq x y (binV P L .leq t x y) k
  | some (.int _), .gtr => kGtr x y (binV P L .gtr t x y) k
  | some (.int _), .geq => kGeq x y (binV P L .geq t x y) k
  | some .string, .eql => kSEq x y (binV P L .eql t x y) k
  | some .string, .neq => kSNe x y (binV P L .neq t x y) k
  | _, _ => bO (binV P L op t x y) k
noncomputable def lenK (t : TypeId) (x : V) (k : V → Res) : Res := match P.underlying t with
  | some .string => kLenS x k
  | some (.slice _) => kLenL x k
  | _ => bO (aLen P t x) k
noncomputable def opK (far : Nat) (o : Oper) (ls : Loc) (tm : Tr V) (h : Hp) (nx : Nat) (call : CallK) (K : KV) : Res := match o.op with
  | .move x => K (evK far ls tm x) h nx
  | .assign x => K (evK far ls tm x) h nx
  | .pick c a b => kPick (evK far ls tm c) (evK far ls tm a) (evK far ls tm b) fun v => K v h nx
  | .nilCheck x => kNil (evK far ls tm x) fun v => K v h nx
  | .binOp op t x y _ => binK P L op t (evK far ls tm x) (evK far ls tm y) fun v => K v h nx
  | .unOp op _ x => (match op with
    | .not => kNot (evK far ls tm x) fun v => K v h nx
    | op => bO (aUn op (evK far ls tm x)) fun v => K v h nx)
  | .fieldAddr s x f => (match fieldAt P s f with
    | some (off, u) => (match szOf P u with | some (_ + 1) => kFld off (evK far ls tm x) fun v => K v h nx | _ => kSlow P L o far ls tm h nx call K)
    | none => kSlow P L o far ls tm h nx call K)
  | .field s x f => bO (aField P s (evK far ls tm x) f) fun v => K v h nx
  | .indexAddr t x ix => (match P.underlying t with
    | some (.array n e) => (match szOf P e with | some z => kIdxA n z (evK far ls tm x) (evK far ls tm ix) fun v => K v h nx | none => kSlow P L o far ls tm h nx call K)
    | some (.slice e) => (match szOf P e with | some z => kIdxS z (evK far ls tm x) (evK far ls tm ix) fun v => K v h nx | none => kSlow P L o far ls tm h nx call K)
    | _ => kSlow P L o far ls tm h nx call K)
  | .index t x ix => (match P.underlying t with
    | some .string => kIx (evK far ls tm x) (evK far ls tm ix) fun v => K v h nx
    | _ => bO (aIndex P t (evK far ls tm x) (evK far ls tm ix)) fun v => K v h nx)
  | .slice t x lo hi none => bO (aSlice P t (evK far ls tm x) (evKO far ls tm lo) (evKO far ls tm hi)) fun v => K v h nx
  | .extract x i => kExt (evK far ls tm x) i fun v => K v h nx
  | .build t ps => bO (aBuild P t (evKP far ls tm ps.toList)) fun v => K v h nx
  | .load t a => (match aggT P t, szOf P t with
    | some true, some n => kLdN n h (evK far ls tm a) fun v => K v h nx
    | some false, some 1 => kLd1 h (evK far ls tm a) fun v => K v h nx
    | _, _ => kSlow P L o far ls tm h nx call K)
  | .store t a x => (match szOf P t with
    | some n => kSt n h (evK far ls tm a) (evK far ls tm x) fun h' => K .undef h' nx
    | none => kSlow P L o far ls tm h nx call K)
  | .alloc t => (match zeroV P t with
    | some _ => kAlloc P t h nx K
    | none => kSlow P L o far ls tm h nx call K)
  | .box _ x => kBox (evK far ls tm x) h nx K
  | .buildSlice t len ps => (match P.underlying t with
    | some (.slice e) => (match zeroV P e, szOf P e with
      | some z, some (n + 1) => (match Nat.ble (len * (n + 1)) 4096 && Nat.beq z.cells.length (n + 1) && Nat.blt 0 len with
        | true => kBs (n + 1) len (repl z.cells len) (evKP far ls tm ps.toList) h nx K
        | false => kSlow P L o far ls tm h nx call K)
      | _, _ => kSlow P L o far ls tm h nx call K)
    | _ => kSlow P L o far ls tm h nx call K)
  | .call { callee := .builtin .len, args := args, argTypes := tys } => (match args.toList, tys.toList with
    | [x], [t] => lenK P t (evK far ls tm x) fun v => K v h nx
    | _, _ => kSlow P L o far ls tm h nx call K)
  | .call { callee := .builtin .append, args := args, argTypes := tys } => (match args.toList, tys.toList with
    | [a, x], [t, t'] => (match P.underlying t with
      | some (.slice e) => (match szOf P e, bytesOf P e, zeroV P e with
        | some (z + 1), some y, some zv => (match Nat.beq t t' && Nat.beq zv.cells.length (z + 1) with
          | true => kApp (z + 1) y (evK far ls tm a) (evK far ls tm x) h nx K
          | false => kSlow P L o far ls tm h nx call K)
        | _, _, _ => kSlow P L o far ls tm h nx call K)
      | _ => kSlow P L o far ls tm h nx call K)
    | _, _ => kSlow P L o far ls tm h nx call K)
  | .call { callee := .value (.func f), args := args, .. } => call f (evKL far ls tm args.toList) h nx K
  | _ => kSlow P L o far ls tm h nx call K
end

/-! ### it does what the operation does -/
section
variable {P : Program} {L : Nat}
theorem evK_eq (far : Nat) (ls : Loc) (tm : Tr V) (o : Operand) : evK far ls tm o = evO ⟨far, ls, tm⟩ o := by
  cases o with
  | tmp t =>
    show (match farB far t with | true => rdT t tm | false => orJ (ls.look t)) = (match (match farB far t with | true => tm.get t | false => ls.look t) with | some v => v | none => V.junk)
    cases farB far t with
    | true => exact rdT_eq t tm
    | false => exact orJ_eq _
  | const v => rfl
  | global g => rfl
  | func f => rfl
theorem evKL_eq (far : Nat) (ls : Loc) (tm : Tr V) : ∀ l, evKL far ls tm l = evL ⟨far, ls, tm⟩ l
  | [] => rfl
  | x :: l => by show evK far ls tm x :: evKL far ls tm l = evO _ x :: evL _ l; rw [evK_eq, evKL_eq far ls tm l]
theorem evKP_eq (far : Nat) (ls : Loc) (tm : Tr V) : ∀ l, evKP far ls tm l = evP ⟨far, ls, tm⟩ l
  | [] => rfl
  | (i, x) :: l => by show (i, evK far ls tm x) :: evKP far ls tm l = (i, evO _ x) :: evP _ l; rw [evK_eq, evKP_eq far ls tm l]
theorem evKO_eq (far : Nat) (ls : Loc) (tm : Tr V) (o : Option Operand) : evKO far ls tm o = o.map (evO ⟨far, ls, tm⟩) := by
  cases o with
  | none => rfl
  | some x => show some (evK far ls tm x) = some (evO _ x); rw [evK_eq]

/-- a call that hands its result to what comes next, and does nothing else with it -/
def CallNat (call : CallK) : Prop := ∀ f args h nx k, call f args h nx k = bR (dir call f args h nx) k

theorem opA_pure {call : CallT} {o : Oper} {s : St} (hr : readOp P s.tm s.hp o.op = none) (he : ∀ f args tys, o.op ≠ .call { callee := .value (.func f), args := args, argTypes := tys }) (hf : effOp P s.tm s.hp s.nx o.op = none) :
    opA P L call o s = ofO s.hp s.nx (pureOp P L s.tm o.op) := by
  have key : ∀ op, o.op = op → (match op with | .call { callee := .value (.func f), args, .. } => call f (evL s.tm args.toList) s.hp s.nx | op => effOp P s.tm s.hp s.nx op) = none := by
    intro op hop
    split
    · exact absurd hop (he _ _ _)
    · rw [← hop]; exact hf
  unfold opA
  cases hp : pureOp P L s.tm o.op with
  | some v => rfl
  | none =>
    simp only [hr]
    first | exact hf | exact key o.op rfl
theorem opA_read {call : CallT} {o : Oper} {s : St} (hp : pureOp P L s.tm o.op = none) (he : ∀ f args tys, o.op ≠ .call { callee := .value (.func f), args := args, argTypes := tys }) (hf : effOp P s.tm s.hp s.nx o.op = none) :
    opA P L call o s = ofO s.hp s.nx (readOp P s.tm s.hp o.op) := by
  have key : ∀ op, o.op = op → (match op with | .call { callee := .value (.func f), args, .. } => call f (evL s.tm args.toList) s.hp s.nx | op => effOp P s.tm s.hp s.nx op) = none := by
    intro op hop
    split
    · exact absurd hop (he _ _ _)
    · rw [← hop]; exact hf
  unfold opA
  simp only [hp]
  cases hrd : readOp P s.tm s.hp o.op with
  | some v => rfl
  | none => first | exact hf | exact key o.op rfl
theorem opA_eff {call : CallT} {o : Oper} {s : St} (hp : pureOp P L s.tm o.op = none) (hr : readOp P s.tm s.hp o.op = none) (he : ∀ f args tys, o.op ≠ .call { callee := .value (.func f), args := args, argTypes := tys }) :
    opA P L call o s = effOp P s.tm s.hp s.nx o.op := by
  have key : ∀ op, o.op = op → (match op with | .call { callee := .value (.func f), args, .. } => call f (evL s.tm args.toList) s.hp s.nx | op => effOp P s.tm s.hp s.nx op) = effOp P s.tm s.hp s.nx o.op := by
    intro op hop
    split
    · exact absurd hop (he _ _ _)
    · rw [← hop]
  unfold opA
  rw [hp, hr]
  exact key o.op rfl

theorem binK_eq (op : BinOp) (t : TypeId) (x y : V) (k : V → Res) : binK P L op t x y k = bO (binV P L op t x y) k := by
  unfold binK
  split
  · exact kAdd_eq x y k
  · exact kEql_eq x y k
  · exact kNeq_eq x y k
  · exact kLss_eq x y k
  · exact kLeq_eq x y k
  · exact kGtr_eq x y k
  · exact kGeq_eq x y k
  · exact kSEq_eq x y k
  · exact kSNe_eq x y k
  · rfl
theorem lenK_eq (t : TypeId) (x : V) (k : V → Res) : lenK P t x k = bO (aLen P t x) k := by
  unfold lenK
  split
  · rename_i hu; exact kLenS_eq hu x k
  · rename_i e hu; exact kLenL_eq hu x k
  · rfl

/-! effects -/
theorem kSt_eq {e : E} {h : Hp} {nx n : Nat} {t : TypeId} {y z : Operand} (hsz : szOf P t = some n) (K : KV) :
    kSt n h (evO e y) (evO e z) (fun h' => K .undef h' nx) = bR (effOp P e h nx (.store t y z)) K := by
  unfold kSt
  rw [onPtr_eq]
  simp only [effOp, hsz]
  cases evO e y <;> try rfl
  rename_i b off
  simp only
  rw [onB_eq]
  cases evO e z <;> first
    | (cases h.get b <;> rfl; done)
    | (rename_i l
       simp only [V.cells, storeAt]
       cases h.get b with
       | none => cases Nat.beq l.length n <;> rfl
       | some bk =>
         show Bool.rec (motive := fun _ => Res) none (Bool.rec (motive := fun _ => Res) none (K .undef (setB (some ⟨bk.n, storeR l off bk.c⟩) h b) nx) (Nat.ble (off + l.length) bk.n)) (Nat.beq l.length n) = _
         rw [storeR_eq, setB_eq]
         simp only
         cases Nat.beq l.length n with
         | false => rfl
         | true => cases Nat.ble (off + l.length) bk.n <;> rfl)
    | (simp only [V.cells, storeAt, List.length_cons, List.length_nil, Nat.zero_add]
       cases h.get b with
       | none => cases Nat.beq 1 n <;> rfl
       | some bk =>
         show Bool.rec (motive := fun _ => Res) none (Bool.rec (motive := fun _ => Res) none (K .undef (setB (some ⟨bk.n, putV _ bk.c off⟩) h b) nx) (Nat.ble (off + 1) bk.n)) (Nat.beq 1 n) = _
         rw [putV_eq, setB_eq]
         simp only
         cases Nat.beq 1 n with
         | false => rfl
         | true => cases Nat.ble (off + 1) bk.n <;> rfl)
theorem kNew_eq (b : Blk) (h : Hp) (nx : Nat) (K : KV) : kNew b h nx K = K (.ptr nx 0) (h.put nx b) (nx + 1) := by
  unfold kNew
  rw [setB_eq]; rfl
theorem kAlloc_eq {e : E} {h : Hp} {nx : Nat} {t : TypeId} (K : KV) : kAlloc P t h nx K = bR (effOp P e h nx (.alloc t)) K := by
  unfold kAlloc
  simp only [effOp]
  cases zeroV P t with
  | none => rfl
  | some z => exact kNew_eq _ h nx K
theorem kBox_eq {e : E} {h : Hp} {nx : Nat} {t : TypeId} {y : Operand} (K : KV) : kBox (evO e y) h nx K = bR (effOp P e h nx (.box t y)) K := by
  unfold kBox
  simp only [effOp]
  cases evO e y <;> first
    | rfl
    | (show kNew (one _) h nx K = _; rw [kNew_eq, one_eq]; rfl)
    | (show kNew (mkB _) h nx K = _; rw [kNew_eq, mkB_eq]; rfl)
theorem kBs_eq {e : E} {h : Hp} {nx n len : Nat} {t el : TypeId} {ps : Array (Nat × Operand)} {z : V} (hu : P.underlying t = some (.slice el)) (hz : zeroV P el = some z) (hs : szOf P el = some (n + 1))
    (hc : (Nat.ble (len * (n + 1)) 4096 && Nat.beq z.cells.length (n + 1) && Nat.blt 0 len) = true) (K : KV) :
    kBs (n + 1) len (repl z.cells len) (evP e ps.toList) h nx K = bR (effOp P e h nx (.buildSlice t len ps)) K := by
  unfold kBs
  simp only [effOp, hu, hz, hs, hc, Bool.true_and]
  cases noTup (evP e ps.toList) with
  | false => rfl
  | true =>
    simp only
    cases fillV (fun i => some (i * (n + 1), n + 1)) (repl z.cells len) (evP e ps.toList) with
    | none => rfl
    | some l =>
      show K (.slice nx 0 len len (n + 1)) (setB (some (mkB l)) h nx) (nx + 1) = _
      rw [setB_eq, mkB_eq]; rfl
theorem kApp_eq {e : E} {h : Hp} {nx z y : Nat} {t t' el : TypeId} {s x : Operand} {args : Array Operand} {tys : Array TypeId} {zv : V} (ha : args.toList = [s, x]) (ht : tys.toList = [t, t'])
    (hu : P.underlying t = some (.slice el)) (hs : szOf P el = some (z + 1)) (hy : bytesOf P el = some y) (hz : zeroV P el = some zv) (hc : (Nat.beq t t' && Nat.beq zv.cells.length (z + 1)) = true) (K : KV) :
    kApp (z + 1) y (evO e s) (evO e x) h nx K = bR (effOp P e h nx (.call { callee := .builtin .append, args := args, argTypes := tys })) K := by
  rw [Bool.and_eq_true] at hc
  unfold kApp
  rw [onSlice_eq]
  simp only [effOp, ha, ht, hu, hs, hy, hz]
  cases evO e x <;> try rfl
  rename_i xb xo n xc xz
  simp only [hc.1, hc.2, Bool.true_and, Bool.and_true]
  show Bool.rec (motive := fun _ => Res) none (onL h xb xo (n * (z + 1)) _) (Nat.blt 0 n) = _
  cases Nat.blt 0 n with
  | false => rfl
  | true =>
    simp only
    rw [onL_eq]
    cases loadAt h xb xo (n * (z + 1)) with
    | none => rfl
    | some new =>
      simp only
      rw [onSl_eq]
      cases evO e s <;> try rfl
      · simp only
        show Bool.rec (motive := fun _ => Res) none (K (.slice nx 0 n n (z + 1)) (setB (some (mkB new)) h nx) (nx + 1)) (Nat.ble (n * y) 1000000 && Nat.ble n 1000000) = _
        rw [setB_eq, mkB_eq]
        cases (Nat.ble (n * y) 1000000 && Nat.ble n 1000000) <;> rfl
      · rename_i b off len cap z'
        simp only
        cases Nat.beq z' (z + 1) with
        | false => rfl
        | true =>
          simp only
          show Bool.rec (motive := fun _ => Res) (onB h b _) (onB h b _) (Nat.ble (len + n) cap) = _
          cases Nat.ble (len + n) cap with
          | true =>
            simp only
            rw [onB_eq]
            unfold storeAt
            cases h.get b with
            | none => rfl
            | some bk =>
              show Bool.rec (motive := fun _ => Res) none (K (.slice b off (len + n) cap (z + 1)) (setB (some ⟨bk.n, storeR new (off + len * (z + 1)) bk.c⟩) h b) nx) (Nat.ble (off + len * (z + 1) + new.length) bk.n) = _
              rw [setB_eq, storeR_eq]
              simp only
              cases Nat.ble (off + len * (z + 1) + new.length) bk.n <;> rfl
          | false =>
            simp only
            rw [onB_eq]
            cases h.get b with
            | none => rfl
            | some bk =>
              show Bool.rec (motive := fun _ => Res) none (K (.slice nx 0 (len + n) (len + n) (z + 1)) (setB (some ⟨bk.n + new.length, storeR new bk.n bk.c⟩) (setB none h b) nx) (nx + 1)) (Nat.beq bk.n (cap * (z + 1)) && Nat.beq off 0 && Nat.ble ((len + n) * y) 1000000 && Nat.ble (len + n) 1000000 && Nat.beq len cap) = _
              rw [setB_eq, setB_eq, storeR_eq]
              simp only
              cases (Nat.beq bk.n (cap * (z + 1)) && Nat.beq off 0 && Nat.ble ((len + n) * y) 1000000 && Nat.ble (len + n) 1000000 && Nat.beq len cap) <;> rfl

theorem kSlow_eq {o : Oper} {far nt : Nat} {ls : Loc} {tm : Tr V} {h : Hp} {nx : Nat} {call : CallK} {K : KV} : kSlow P L o far ls tm h nx call K = bR (opA P L (dir call) o ⟨⟨far, ls, tm⟩, h, nx, nt⟩) K := by
  unfold kSlow
  exact congrArg (fun r => bR r K) (opA_congr (fun _ _ => rfl) rfl rfl)

theorem opK_ok {far nt : Nat} {o : Oper} {ls : Loc} {tm : Tr V} {h : Hp} {nx : Nat} {call : CallK} (hcall : CallNat call) (K : KV) :
    opK P L far o ls tm h nx call K = bR (opA P L (dir call) o ⟨⟨far, ls, tm⟩, h, nx, nt⟩) K := by
  have pure : ∀ {op : Op} {r : Res}, o.op = op → (readOp P ⟨far, ls, tm⟩ h op = none) → (∀ f args tys, op ≠ .call { callee := .value (.func f), args := args, argTypes := tys }) → (effOp P ⟨far, ls, tm⟩ h nx op = none) →
      r = bO (pureOp P L ⟨far, ls, tm⟩ op) (fun v => K v h nx) → r = bR (opA P L (dir call) o ⟨⟨far, ls, tm⟩, h, nx, nt⟩) K := by
    intro op r ho h1 h2 h3 h4
    subst ho
    rw [opA_pure (s := ⟨⟨far, ls, tm⟩, h, nx, nt⟩) h1 h2 h3, bR_ofO]
    exact h4
  have read : ∀ {op : Op} {r : Res}, o.op = op → (pureOp P L ⟨far, ls, tm⟩ op = none) → (∀ f args tys, op ≠ .call { callee := .value (.func f), args := args, argTypes := tys }) → (effOp P ⟨far, ls, tm⟩ h nx op = none) →
      r = bO (readOp P ⟨far, ls, tm⟩ h op) (fun v => K v h nx) → r = bR (opA P L (dir call) o ⟨⟨far, ls, tm⟩, h, nx, nt⟩) K := by
    intro op r ho h1 h2 h3 h4
    subst ho
    rw [opA_read (s := ⟨⟨far, ls, tm⟩, h, nx, nt⟩) h1 h2 h3, bR_ofO]
    exact h4
  have eff : ∀ {op : Op} {r : Res}, o.op = op → (pureOp P L ⟨far, ls, tm⟩ op = none) → (readOp P ⟨far, ls, tm⟩ h op = none) → (∀ f args tys, op ≠ .call { callee := .value (.func f), args := args, argTypes := tys }) →
      r = bR (effOp P ⟨far, ls, tm⟩ h nx op) K → r = bR (opA P L (dir call) o ⟨⟨far, ls, tm⟩, h, nx, nt⟩) K := by
    intro op r ho h1 h2 h3 h4
    subst ho
    rw [opA_eff (s := ⟨⟨far, ls, tm⟩, h, nx, nt⟩) h1 h2 h3]
    exact h4
  unfold opK
  split
  · rename_i x ho; exact pure ho rfl (by intros; simp) rfl (by rw [evK_eq]; rfl)
  · rename_i x ho; exact pure ho rfl (by intros; simp) rfl (by rw [evK_eq]; rfl)
  · rename_i c a b ho; exact pure ho rfl (by intros; simp) rfl (by rw [kPick_eq, evK_eq, evK_eq, evK_eq]; rfl)
  · rename_i x ho; exact pure ho rfl (by intros; simp) rfl (by rw [kNil_eq, evK_eq]; rfl)
  · rename_i op t x y t' ho; exact pure ho rfl (by intros; simp) rfl (by rw [binK_eq, evK_eq, evK_eq]; rfl)
  · rename_i op t x ho
    split
    · exact pure ho rfl (by intros; simp) rfl (by rw [kNot_eq, evK_eq]; rfl)
    · exact pure ho rfl (by intros; simp) rfl (by rw [evK_eq]; rfl)
  · rename_i s x f ho
    split
    · rename_i off u hfa
      split
      · rename_i n hsz; exact pure ho rfl (by intros; simp) rfl (by rw [kFld_eq hfa hsz, evK_eq]; rfl)
      · exact kSlow_eq
    · exact kSlow_eq
  · rename_i s x f ho; exact pure ho rfl (by intros; simp) rfl (by rw [evK_eq]; rfl)
  · rename_i t x ix ho
    split
    · rename_i n e hu
      split
      · rename_i z hz; exact pure ho rfl (by intros; simp) rfl (by rw [kIdxA_eq hu hz, evK_eq, evK_eq]; rfl)
      · exact kSlow_eq
    · rename_i e hu
      split
      · rename_i z hz; exact pure ho rfl (by intros; simp) rfl (by rw [kIdxS_eq hu hz, evK_eq, evK_eq]; rfl)
      · exact kSlow_eq
    · exact kSlow_eq
  · rename_i t x ix ho
    split
    · rename_i hu; exact pure ho rfl (by intros; simp) rfl (by rw [kIx_eq hu, evK_eq, evK_eq]; rfl)
    · exact pure ho rfl (by intros; simp) rfl (by rw [evK_eq, evK_eq]; rfl)
  · rename_i t x lo hi ho; exact pure ho rfl (by intros; simp) rfl (by rw [evK_eq, evKO_eq, evKO_eq]; rfl)
  · rename_i x i ho; exact pure ho rfl (by intros; simp) rfl (by rw [kExt_eq, evK_eq]; rfl)
  · rename_i t ps ho; exact pure ho rfl (by intros; simp) rfl (by rw [evKP_eq]; rfl)
  · rename_i t a ho
    split
    · rename_i n hag hsz
      refine read ho rfl (by intros; simp) rfl ?_
      rw [kLdN_eq, evK_eq]
      simp only [readOp, hag, hsz]
      cases evO ⟨far, ls, tm⟩ a <;> rfl
    · rename_i hag hsz
      refine read ho rfl (by intros; simp) rfl ?_
      rw [kLd1_eq, evK_eq]
      simp only [readOp, hag, hsz]
      cases evO ⟨far, ls, tm⟩ a <;> rfl
    · exact kSlow_eq
  · rename_i t a x ho
    split
    · rename_i n hsz; exact eff ho rfl rfl (by intros; simp) (by rw [evK_eq, evK_eq]; exact kSt_eq hsz K)
    · exact kSlow_eq
  · rename_i t ho
    split
    · exact eff ho rfl rfl (by intros; simp) (kAlloc_eq K)
    · exact kSlow_eq
  · rename_i t x ho; exact eff ho rfl rfl (by intros; simp) (by rw [evK_eq]; exact kBox_eq K)
  · rename_i t len ps ho
    split
    · rename_i e hu
      split
      · rename_i z n hz hs
        split
        · rename_i hc; exact eff ho rfl rfl (by intros; simp) (by rw [evKP_eq]; exact kBs_eq hu hz hs hc K)
        · exact kSlow_eq
      · exact kSlow_eq
    · exact kSlow_eq
  · rename_i args tys ho
    split
    · rename_i x t ha ht
      exact pure ho rfl (by intros; simp) rfl (by rw [lenK_eq, evK_eq]; simp only [pureOp, ha, ht])
    · exact kSlow_eq
  · rename_i args tys ho
    split
    · rename_i a x t t' ha ht
      split
      · rename_i e hu
        split
        · rename_i z y zv hs hy hz
          split
          · rename_i hc
            exact eff ho rfl rfl (by intros; simp) (by rw [evK_eq, evK_eq]; exact kApp_eq ha ht hu hs hy hz hc K)
          · exact kSlow_eq
        · exact kSlow_eq
      · exact kSlow_eq
    · exact kSlow_eq
  · rename_i f args tys ho
    rw [hcall, evKL_eq]
    unfold opA
    rw [ho]
    rfl
  · exact kSlow_eq
end
end Go.Abs
