import Derived.Test.YtfhcoiogdgfkcaaGreatThr
import Derived.Test.YtfhcoiogdgfkcaaGreatSound
namespace Go.Abs

theorem getV_eq : ∀ (t : Tr V) (n : Nat), getV t n = t.get n
  | .nil, n => by cases n <;> rfl
  | .node l v r, 0 => rfl
  | .node l v r, k + 1 => by
    show Nat.rec (motive := fun _ => Option V) (getV l (Nat.div k 2)) (fun _ _ => getV r (Nat.div k 2)) (Nat.mod k 2) = _
    rw [Tr.get_node_succ, getV_eq l, getV_eq r]
    by_cases h : k % 2 = 0
    · rw [if_pos h, show Nat.mod k 2 = 0 from h]; rfl
    · rw [if_neg h, show Nat.mod k 2 = 1 from by have : k % 2 < 2 := Nat.mod_lt _ (by omega); show k % 2 = 1; omega]; rfl
theorem getB_eq : ∀ (t : Tr Blk) (n : Nat), getB t n = t.get n
  | .nil, n => by cases n <;> rfl
  | .node l v r, 0 => rfl
  | .node l v r, k + 1 => by
    show Nat.rec (motive := fun _ => Option Blk) (getB l (Nat.div k 2)) (fun _ _ => getB r (Nat.div k 2)) (Nat.mod k 2) = _
    rw [Tr.get_node_succ, getB_eq l, getB_eq r]
    by_cases h : k % 2 = 0
    · rw [if_pos h, show Nat.mod k 2 = 0 from h]; rfl
    · rw [if_neg h, show Nat.mod k 2 = 1 from by have : k % 2 < 2 := Nat.mod_lt _ (by omega); show k % 2 = 1; omega]; rfl

theorem putV_eq (v : V) : ∀ (f n : Nat) (t : Tr V), putV v f n t = Tr.set v f n t
  | 0, _, _ => rfl
  | f + 1, n, t => by
    have hm : ∀ k, (k % 2 = 0 ∧ Nat.mod k 2 = 0 ∧ Nat.beq (k % 2) 0 = true) ∨ (Nat.mod k 2 = 1 ∧ Nat.beq (k % 2) 0 = false) := by
      intro k
      by_cases h : k % 2 = 0
      · exact .inl ⟨h, h, nbeq_true h⟩
      · exact .inr ⟨by have : k % 2 < 2 := Nat.mod_lt _ (by omega); show k % 2 = 1; omega, nbeq_false h⟩
    cases t with
    | nil =>
      cases n with
      | zero => rfl
      | succ k =>
        show Nat.rec (motive := fun _ => Tr V) (.node (putV v f (Nat.div k 2) .nil) none .nil) (fun _ _ => .node .nil none (putV v f (Nat.div k 2) .nil)) (Nat.mod k 2) = _
        simp only [Tr.set]
        rcases hm k with ⟨_, h1, h2⟩ | ⟨h1, h2⟩
        · rw [h1, h2]; exact congrArg (fun z => Tr.node z none .nil) (putV_eq v f (k / 2) .nil)
        · rw [h1, h2]; exact congrArg (fun z => Tr.node .nil none z) (putV_eq v f (k / 2) .nil)
    | node l x r =>
      cases n with
      | zero => rfl
      | succ k =>
        show Nat.rec (motive := fun _ => Tr V) (.node (putV v f (Nat.div k 2) l) x r) (fun _ _ => .node l x (putV v f (Nat.div k 2) r)) (Nat.mod k 2) = _
        simp only [Tr.set]
        rcases hm k with ⟨_, h1, h2⟩ | ⟨h1, h2⟩
        · rw [h1, h2]; exact congrArg (fun z => Tr.node z x r) (putV_eq v f (k / 2) l)
        · rw [h1, h2]; exact congrArg (fun z => Tr.node l x z) (putV_eq v f (k / 2) r)
theorem putB_eq (v : Blk) : ∀ (f n : Nat) (t : Tr Blk), putB v f n t = Tr.set v f n t
  | 0, _, _ => rfl
  | f + 1, n, t => by
    have hm : ∀ k, (k % 2 = 0 ∧ Nat.mod k 2 = 0 ∧ Nat.beq (k % 2) 0 = true) ∨ (Nat.mod k 2 = 1 ∧ Nat.beq (k % 2) 0 = false) := by
      intro k
      by_cases h : k % 2 = 0
      · exact .inl ⟨h, h, nbeq_true h⟩
      · exact .inr ⟨by have : k % 2 < 2 := Nat.mod_lt _ (by omega); show k % 2 = 1; omega, nbeq_false h⟩
    cases t with
    | nil =>
      cases n with
      | zero => rfl
      | succ k =>
        show Nat.rec (motive := fun _ => Tr Blk) (.node (putB v f (Nat.div k 2) .nil) none .nil) (fun _ _ => .node .nil none (putB v f (Nat.div k 2) .nil)) (Nat.mod k 2) = _
        simp only [Tr.set]
        rcases hm k with ⟨_, h1, h2⟩ | ⟨h1, h2⟩
        · rw [h1, h2]; exact congrArg (fun z => Tr.node z none .nil) (putB_eq v f (k / 2) .nil)
        · rw [h1, h2]; exact congrArg (fun z => Tr.node .nil none z) (putB_eq v f (k / 2) .nil)
    | node l x r =>
      cases n with
      | zero => rfl
      | succ k =>
        show Nat.rec (motive := fun _ => Tr Blk) (.node (putB v f (Nat.div k 2) l) x r) (fun _ _ => .node l x (putB v f (Nat.div k 2) r)) (Nat.mod k 2) = _
        simp only [Tr.set]
        rcases hm k with ⟨_, h1, h2⟩ | ⟨h1, h2⟩
        · rw [h1, h2]; exact congrArg (fun z => Tr.node z x r) (putB_eq v f (k / 2) l)
        · rw [h1, h2]; exact congrArg (fun z => Tr.node l x z) (putB_eq v f (k / 2) r)

theorem lookL_eq : ∀ (ls : Loc) (t : Nat), lookL ls t = ls.look t
  | .nil, _ => rfl
  | .cons t' v r, t => by
    show Bool.rec (motive := fun _ => Option V) (lookL r t) (some v) (Nat.beq t' t) = _
    simp only [Loc.look]
    cases Nat.beq t' t with
    | true => rfl
    | false => exact lookL_eq r t

theorem land_one (n : Nat) : Nat.land n 1 = 0 ∨ Nat.land n 1 = 1 := by
  have h : Nat.land n 1 = n % 2 := Nat.and_one_is_mod n
  rw [h]
  have := Nat.mod_lt n (show 0 < 2 by omega)
  omega

theorem lookF_eq (e : E) (t : Nat) : lookF e t = e.look t := by
  obtain ⟨x, ls, tm⟩ := e
  show Nat.rec (motive := fun _ => Option V) (lookL ls t) (fun _ _ => getV tm t) (Nat.land (Nat.shiftRight x t) 1) = (match Nat.beq (Nat.land (Nat.shiftRight x t) 1) 1 with | true => tm.get t | false => ls.look t)
  rcases land_one (Nat.shiftRight x t) with h | h
  · rw [h]; exact lookL_eq ls t
  · rw [h]; exact getV_eq tm t
theorem putE_eq (e : E) (t : Nat) (v : V) : putE e t v = e.put t v := by
  obtain ⟨x, ls, tm⟩ := e
  show Nat.rec (motive := fun _ => E) ⟨x, .cons t v ls, tm⟩ (fun _ _ => ⟨x, ls, putV v (Nat.succ t) t tm⟩) (Nat.land (Nat.shiftRight x t) 1) = (match Nat.beq (Nat.land (Nat.shiftRight x t) 1) 1 with | true => ⟨x, ls, tm.put t v⟩ | false => ⟨x, .cons t v ls, tm⟩)
  rcases land_one (Nat.shiftRight x t) with h | h
  · rw [h]; rfl
  · rw [h]
    show (⟨x, ls, putV v (Nat.succ t) t tm⟩ : E) = ⟨x, ls, tm.put t v⟩
    rw [putV_eq]; rfl

theorem rT_eq (t : Tmp) (e : E) : rT t e = evO e (.tmp t) := by
  show orJunk (lookF e t) = _
  rw [lookF_eq]
  simp only [evO]
  cases e.look t <;> rfl

theorem loadR_eq : ∀ (n : Nat) (c : Tr V) (off : Nat), loadR n c off = loadN c off n
  | 0, _, _ => rfl
  | n + 1, c, off => by
    show Option.rec (motive := fun _ => Option (List V)) none (fun v => Option.rec (motive := fun _ => Option (List V)) none (fun l => some (v :: l)) (loadR n c (Nat.succ off))) (getV c off) = _
    rw [getV_eq, loadR_eq n]
    simp only [loadN]
    cases c.get off with
    | none => rfl
    | some v => show Option.rec (motive := fun _ => Option (List V)) none (fun l => some (v :: l)) (loadN c (off + 1) n) = _
                cases loadN c (off + 1) n <;> rfl
theorem storeR_eq : ∀ (l : List V) (off : Nat) (c : Tr V), storeR l off c = storeL off c l
  | [], _, _ => rfl
  | v :: l, off, c => by
    show storeR l (Nat.succ off) (putV v (Nat.succ off) off c) = _
    rw [storeR_eq l, putV_eq]; rfl

theorem load1R_eq (h : Tr Blk) (b off : Nat) : load1R h b off = (match loadAt h b off 1 with | some (v :: _) => some v | _ => none) := by
  unfold load1R loadAt
  rw [getB_eq]
  cases h.get b with
  | none => rfl
  | some k =>
    obtain ⟨n, c⟩ := k
    show Bool.rec (motive := fun _ => Option V) none (getV c off) (Nat.ble (Nat.succ off) n) = _
    simp only
    cases hb : Nat.ble (off + 1) n with
    | false => rfl
    | true =>
      show getV c off = _
      rw [getV_eq]
      simp only [loadN]
      cases c.get off <;> rfl
theorem loadAtR_eq (h : Tr Blk) (b off m : Nat) : loadAtR h b off m = (match loadAt h b off m with | some l => some (.agg l) | none => none) := by
  unfold loadAtR loadAt
  rw [getB_eq]
  cases h.get b with
  | none => rfl
  | some k =>
    obtain ⟨n, c⟩ := k
    show Bool.rec (motive := fun _ => Option V) none (Option.rec (motive := fun _ => Option V) none (fun l => some (V.agg l)) (loadR m c off)) (Nat.ble (Nat.add off m) n) = _
    simp only
    rw [loadR_eq]
    cases hb : Nat.ble (off + m) n with
    | false => rfl
    | true =>
      show Option.rec (motive := fun _ => Option V) none (fun l => some (V.agg l)) (loadN c off m) = _
      simp only
      cases loadN c off m <;> rfl
theorem storeAtR_eq (h : Tr Blk) (nx b off : Nat) (l : List V) : storeAtR h nx b off l = (match storeAt h b off l with | some h' => some (V.undef, h', nx) | none => none) := by
  unfold storeAtR storeAt
  rw [getB_eq]
  cases h.get b with
  | none => rfl
  | some k =>
    obtain ⟨n, c⟩ := k
    show Bool.rec (motive := fun _ => Res) none (some (V.undef, putB ⟨n, storeR l off c⟩ (Nat.succ b) b h, nx)) (Nat.ble (Nat.add off l.length) n) = _
    simp only
    rw [storeR_eq, putB_eq]
    cases hb : Nat.ble (off + l.length) n with
    | false => rfl
    | true => rfl
theorem store1R_eq (h : Tr Blk) (nx b off : Nat) (v : V) : store1R h nx b off v = (match storeAt h b off [v] with | some h' => some (V.undef, h', nx) | none => none) := by
  unfold store1R storeAt
  rw [getB_eq]
  cases h.get b with
  | none => rfl
  | some k =>
    obtain ⟨n, c⟩ := k
    show Bool.rec (motive := fun _ => Res) none (some (V.undef, putB ⟨n, putV v (Nat.succ off) off c⟩ (Nat.succ b) b h, nx)) (Nat.ble (Nat.succ off) n) = _
    simp only [List.length_cons, List.length_nil, Nat.zero_add]
    rw [putV_eq, putB_eq]
    cases hb : Nat.ble (off + 1) n with
    | false => rfl
    | true => rfl

/-! ### operands and operations -/
section
variable (P : Program) (L : Nat)

def OpnOk (x : Opn) (o : Operand) : Prop := ∀ e, x e = evO e o
def OpOk (f : OpT) (o : Oper) : Prop := ∀ e h nx nt call, f e h nx call = opA P L call o ⟨e, h, nx, nt⟩

theorem onPtr_eq {α : Type} (x : V) (f : Nat → Nat → α) (e : α) : onPtr x f e = (match x with | .ptr b o => f b o | _ => e) := by cases x <;> rfl
theorem onInt_eq {α : Type} (x : V) (f : IntKind → Int → α) (e : α) : onInt x f e = (match x with | .int k n => f k n | _ => e) := by cases x <;> rfl
theorem onBool_eq {α : Type} (x : V) (f : Bool → α) (e : α) : onBool x f e = (match x with | .bool b => f b | _ => e) := by cases x <;> rfl
theorem onTup_eq {α : Type} (x : V) (f : List V → α) (e : α) : onTup x f e = (match x with | .tup b => f b | _ => e) := by cases x <;> rfl

variable {P L}
/-- an operation that is pure: its value -/
theorem opA_pure {call : CallT} {o : Oper} {s : St} (hr : readOp P s.tm s.hp o.op = none) (he : ∀ f args tys, o.op ≠ .call { callee := .value (.func f), args := args, argTypes := tys }) (hf : effOp P s.tm s.hp s.nx o.op = none) :
    opA P L call o s = ofO s.hp s.nx (pureOp P L s.tm o.op) := by
  have key : ∀ op, o.op = op → (match op with | .call { callee := .value (.func f), args, .. } => call f (evL s.tm args.toList) s.hp s.nx | op => effOp P s.tm s.hp s.nx op) = none := by
    intro op hop
    split
    · exact absurd hop (he _ _ _)
    · rw [← hop]; exact hf
  unfold opA
  cases hp : pureOp P L s.tm o.op with
  | some v => rfl
  | none =>
    simp only [hr]
    first | exact hf | exact key o.op rfl

theorem pure_ok {f : OpT} {o : Oper} (hr : ∀ e h, readOp P e h o.op = none) (he : ∀ g args tys, o.op ≠ .call { callee := .value (.func g), args := args, argTypes := tys }) (hf : ∀ e h nx, effOp P e h nx o.op = none)
    (hp : ∀ e h nx call, f e h nx call = ofO h nx (pureOp P L e o.op)) : OpOk P L f o := by
  intro e h nx nt call
  rw [opA_pure (hr e h) he (hf e h nx)]
  exact hp e h nx call

theorem xMove_ok {x : Opn} {o : Oper} {y : Operand} (hx : OpnOk x y) (ho : o.op = .move y ∨ o.op = .assign y) : OpOk P L (xMove x) o := by
  rcases ho with ho | ho
  · exact pure_ok (fun _ _ => by rw [ho]; rfl) (by rw [ho]; intros; simp) (fun _ _ _ => by rw [ho]; rfl) fun e h nx call => by rw [ho]; show some (x e, h, nx) = _; rw [hx e]; rfl
  · exact pure_ok (fun _ _ => by rw [ho]; rfl) (by rw [ho]; intros; simp) (fun _ _ _ => by rw [ho]; rfl) fun e h nx call => by rw [ho]; show some (x e, h, nx) = _; rw [hx e]; rfl

theorem xPick_ok {c a b : Opn} {o : Oper} {yc ya yb : Operand} (hc : OpnOk c yc) (ha : OpnOk a ya) (hb : OpnOk b yb) (ho : o.op = .pick yc ya yb) : OpOk P L (xPick c a b) o :=
  pure_ok (fun _ _ => by rw [ho]; rfl) (by rw [ho]; intros; simp) (fun _ _ _ => by rw [ho]; rfl) fun e h nx call => by
    rw [ho]
    show onBool (c e) _ _ = ofO h nx (aPick (evO e yc) (evO e ya) (evO e yb))
    rw [hc e, ha e, hb e, onBool_eq]
    unfold aPick
    cases evO e yc <;> try rfl
    rename_i t; cases t <;> rfl

theorem xNil_ok {x : Opn} {o : Oper} {y : Operand} (hx : OpnOk x y) (ho : o.op = .nilCheck y) : OpOk P L (xNil x) o :=
  pure_ok (fun _ _ => by rw [ho]; rfl) (by rw [ho]; intros; simp) (fun _ _ _ => by rw [ho]; rfl) fun e h nx call => by
    rw [ho]
    show onPtr (x e) _ _ = ofO h nx (match evO e y with | .ptr b o => some (.ptr b o) | _ => none)
    rw [hx e, onPtr_eq]
    cases evO e y <;> rfl

theorem xBin_ok {x y : Opn} {o : Oper} {op : BinOp} {t t' : TypeId} {a b : Operand} (hx : OpnOk x a) (hy : OpnOk y b) (ho : o.op = .binOp op t a b t') : OpOk P L (xBin P L op t x y) o :=
  pure_ok (fun _ _ => by rw [ho]; rfl) (by rw [ho]; intros; simp) (fun _ _ _ => by rw [ho]; rfl) fun e h nx call => by
    rw [ho]
    show ofO h nx (binV P L op t (x e) (y e)) = _
    rw [hx e, hy e]; rfl

theorem kIdx_inj {k k' : IntKind} : Nat.beq (kIdx k) (kIdx k') = decide (k = k') := by cases k <;> cases k' <;> rfl

/-- the short answer is the long one's -/
def FOk (f : IntKind → Nat → Nat → Option V) (op : BinOp) : Prop := op ≠ .shr ∧ ∀ k m n, f k m n = intBin op k (.ofNat m) (.ofNat n)

theorem fEql_ok : FOk fEql .eql := ⟨by simp, fun k m n => by
  show some (V.bool (Nat.beq m n)) = some (.bool (Int.ofNat m == Int.ofNat n))
  congr 2
  by_cases h : m = n
  · subst h; simp
  · rw [nbeq_false h]; symm; rw [beq_eq_false_iff_ne]; intro e; exact h (Int.ofNat.inj e)⟩
theorem fNeq_ok : FOk fNeq .neq := ⟨by simp, fun k m n => by
  show some (V.bool (Bool.rec true false (Nat.beq m n))) = some (.bool (Int.ofNat m != Int.ofNat n))
  congr 2
  by_cases h : m = n
  · subst h; simp
  · rw [nbeq_false h]; symm; simp only [bne]; rw [beq_eq_false_iff_ne.2 (fun e => h (Int.ofNat.inj e))]; rfl⟩
theorem ble_dec (m n : Nat) : Nat.ble m n = decide (Int.ofNat m ≤ Int.ofNat n) := by
  by_cases h : m ≤ n
  · rw [Nat.ble_eq_true_of_le h]; symm; exact decide_eq_true (Int.ofNat_le.2 h)
  · have : Nat.ble m n = false := by cases hb : Nat.ble m n with
      | true => exact absurd (Nat.le_of_ble_eq_true hb) h
      | false => rfl
    rw [this]; symm; exact decide_eq_false fun e => h (Int.ofNat_le.1 e)
theorem fLeq_ok : FOk fLeq .leq := ⟨by simp, fun k m n => by show some (V.bool (Nat.ble m n)) = _; rw [ble_dec]; rfl⟩
theorem fGeq_ok : FOk fGeq .geq := ⟨by simp, fun k m n => by show some (V.bool (Nat.ble n m)) = _; rw [ble_dec]; rfl⟩
theorem fLss_ok : FOk fLss .lss := ⟨by simp, fun k m n => by show some (V.bool (Nat.ble (Nat.succ m) n)) = _; rw [ble_dec]; rfl⟩
theorem fGtr_ok : FOk fGtr .gtr := ⟨by simp, fun k m n => by show some (V.bool (Nat.ble (Nat.succ n) m)) = _; rw [ble_dec]; rfl⟩
theorem fAdd_ok : FOk fAdd .add := ⟨by simp, fun k m n => by
  show some (Bool.rec (V.int k (k.wrap (.ofNat (Nat.add m n)))) (add64 (Nat.add m n)) (Nat.beq (kIdx k) 3)) = some (V.int k (k.wrap (Int.ofNat m + Int.ofNat n)))
  congr 1
  cases k <;> try rfl
  show add64 (Nat.add m n) = _
  unfold add64
  cases hb : Nat.ble (Nat.add m n) 9223372036854775807 with
  | false => rfl
  | true =>
    have h1 : m + n ≤ 9223372036854775807 := Nat.le_of_ble_eq_true hb
    show V.int .i64 (.ofNat (m + n)) = V.int .i64 (IntKind.i64.wrap (Int.ofNat m + Int.ofNat n))
    rw [wrap_in .i64 _ (by simp [IntKind.min, IntKind.signed, IntKind.bits]; omega) (by simp; omega)]
    rfl⟩

theorem twoNat_eq {f : IntKind → Nat → Nat → Option V} {op : BinOp} (hf : FOk f op) {t : TypeId} (x y : V) : twoNat x y f (binV P L op t x y) = binV P L op t x y := by
  unfold twoNat
  rw [onInt_eq]
  cases x <;> try rfl
  rename_i k a
  simp only
  rw [onInt_eq]
  cases y <;> try rfl
  rename_i k' b
  simp only
  unfold twoInt
  cases a with
  | negSucc m => rfl
  | ofNat m =>
    cases b with
    | negSucc n => rfl
    | ofNat n =>
      show Bool.rec (motive := fun _ => Option V) _ (f k m n) (Nat.beq (kIdx k) (kIdx k')) = _
      rw [kIdx_inj]
      cases hd : decide (k = k') with
      | false => rfl
      | true =>
        show f k m n = _
        rw [hf.2]
        have hne := hf.1
        unfold binV
        cases op <;> simp only [hd] <;> first | rfl | exact absurd rfl hne

theorem xBinF_ok {f : IntKind → Nat → Nat → Option V} {x y : Opn} {o : Oper} {op : BinOp} {t t' : TypeId} {a b : Operand} (hf : FOk f op) (hx : OpnOk x a) (hy : OpnOk y b) (ho : o.op = .binOp op t a b t') : OpOk P L (xBinF P L f op t x y) o :=
  pure_ok (fun _ _ => by rw [ho]; rfl) (by rw [ho]; intros; simp) (fun _ _ _ => by rw [ho]; rfl) fun e h nx call => by
    rw [ho]
    show ofO h nx (twoNat (x e) (y e) f (binV P L op t (x e) (y e))) = _
    rw [twoNat_eq hf, hx e, hy e]; rfl

theorem xNot_ok {x : Opn} {o : Oper} {t : TypeId} {y : Operand} (hx : OpnOk x y) (ho : o.op = .unOp .not t y) : OpOk P L (xNot x) o :=
  pure_ok (fun _ _ => by rw [ho]; rfl) (by rw [ho]; intros; simp) (fun _ _ _ => by rw [ho]; rfl) fun e h nx call => by
    rw [ho]
    show onBool (x e) _ _ = ofO h nx (aUn .not (evO e y))
    rw [hx e, onBool_eq]
    cases evO e y <;> try rfl
    rename_i b; cases b <;> rfl
theorem xUn_ok {x : Opn} {o : Oper} {op : UnOp} {t : TypeId} {y : Operand} (hx : OpnOk x y) (ho : o.op = .unOp op t y) : OpOk P L (xUn op x) o :=
  pure_ok (fun _ _ => by rw [ho]; rfl) (by rw [ho]; intros; simp) (fun _ _ _ => by rw [ho]; rfl) fun e h nx call => by
    rw [ho]; show ofO h nx (aUn op (x e)) = _; rw [hx e]; rfl

theorem xFld_ok {off u n : Nat} {x : Opn} {o : Oper} {t : TypeId} {y : Operand} {f : Nat} (hfa : fieldAt P t f = some (off, u)) (hsz : szOf P u = some (n + 1)) (hx : OpnOk x y) (ho : o.op = .fieldAddr t y f) : OpOk P L (xFld off x) o :=
  pure_ok (fun _ _ => by rw [ho]; rfl) (by rw [ho]; intros; simp) (fun _ _ _ => by rw [ho]; rfl) fun e h nx call => by
    rw [ho]
    show onPtr (x e) _ _ = ofO h nx (aFieldAddr P t (evO e y) f)
    rw [hx e, onPtr_eq]
    unfold aFieldAddr
    rw [hfa]
    cases evO e y <;> try rfl
    simp only [hsz]; rfl
theorem xField_ok {x : Opn} {o : Oper} {t : TypeId} {y : Operand} {f : Nat} (hx : OpnOk x y) (ho : o.op = .field t y f) : OpOk P L (xField P t x f) o :=
  pure_ok (fun _ _ => by rw [ho]; rfl) (by rw [ho]; intros; simp) (fun _ _ _ => by rw [ho]; rfl) fun e h nx call => by
    rw [ho]; show ofO h nx (aField P t (x e) f) = _; rw [hx e]; rfl

theorem blt_eq (i n : Nat) : Nat.ble (Nat.succ i) n = Nat.blt i n := rfl
theorem xIdxA_ok {n z el : Nat} {x ix : Opn} {o : Oper} {t : TypeId} {y yi : Operand} (hu : P.underlying t = some (.array n el)) (hz : szOf P el = some z) (hx : OpnOk x y) (hi : OpnOk ix yi) (ho : o.op = .indexAddr t y yi) : OpOk P L (xIdxA n z x ix) o :=
  pure_ok (fun _ _ => by rw [ho]; rfl) (by rw [ho]; intros; simp) (fun _ _ _ => by rw [ho]; rfl) fun e h nx call => by
    rw [ho]
    show onInt (ix e) _ _ = ofO h nx (aIndexAddr P t (evO e y) (evO e yi))
    rw [hx e, hi e, onInt_eq]
    unfold aIndexAddr
    cases evO e yi <;> try rfl
    rename_i k i
    cases i with
    | negSucc i => rfl
    | ofNat i =>
      show onPtr (evO e y) _ _ = _
      rw [onPtr_eq, hu]
      cases evO e y <;> try rfl
      simp only [natOf, hz]
      show Bool.rec (motive := fun _ => Res) _ _ (Nat.ble (Nat.succ i) n) = _
      rw [blt_eq]
      cases Nat.blt i n <;> rfl
theorem onSlice_eq {α : Type} (x : V) (f : Nat → Nat → Nat → Nat → Nat → α) (e : α) : onSlice x f e = (match x with | .slice b o l c z => f b o l c z | _ => e) := by cases x <;> rfl
theorem xIdxS_ok {z el : Nat} {x ix : Opn} {o : Oper} {t : TypeId} {y yi : Operand} (hu : P.underlying t = some (.slice el)) (hz : szOf P el = some z) (hx : OpnOk x y) (hi : OpnOk ix yi) (ho : o.op = .indexAddr t y yi) : OpOk P L (xIdxS z x ix) o :=
  pure_ok (fun _ _ => by rw [ho]; rfl) (by rw [ho]; intros; simp) (fun _ _ _ => by rw [ho]; rfl) fun e h nx call => by
    rw [ho]
    show onInt (ix e) _ _ = ofO h nx (aIndexAddr P t (evO e y) (evO e yi))
    rw [hx e, hi e, onInt_eq]
    unfold aIndexAddr
    cases evO e yi <;> try rfl
    rename_i k i
    cases i with
    | negSucc i => rfl
    | ofNat i =>
      show onSlice (evO e y) _ _ = _
      rw [onSlice_eq, hu]
      cases evO e y <;> try rfl
      rename_i b off len cap zz
      simp only [natOf, hz]
      show Bool.rec (motive := fun _ => Res) _ _ (Nat.ble (Nat.succ i) len) = _
      rw [blt_eq]
      cases Nat.blt i len <;> rfl
theorem xIndex_ok {x ix : Opn} {o : Oper} {t : TypeId} {y yi : Operand} (hx : OpnOk x y) (hi : OpnOk ix yi) (ho : o.op = .index t y yi) : OpOk P L (xIndex P t x ix) o :=
  pure_ok (fun _ _ => by rw [ho]; rfl) (by rw [ho]; intros; simp) (fun _ _ _ => by rw [ho]; rfl) fun e h nx call => by
    rw [ho]; show ofO h nx (aIndex P t (x e) (ix e)) = _; rw [hx e, hi e]; rfl
def OptOk (x : Option Opn) (y : Option Operand) : Prop := match x, y with
  | none, none => True
  | some a, some b => OpnOk a b
  | _, _ => False
theorem xSlice_ok {x : Opn} {lo hi : Option Opn} {o : Oper} {t : TypeId} {y : Operand} {ylo yhi : Option Operand} (hx : OpnOk x y) (hl : OptOk lo ylo) (hh : OptOk hi yhi) (ho : o.op = .slice t y ylo yhi none) : OpOk P L (xSlice P t x lo hi) o :=
  pure_ok (fun _ _ => by rw [ho]; rfl) (by rw [ho]; intros; simp) (fun _ _ _ => by rw [ho]; rfl) fun e h nx call => by
    rw [ho]
    show ofO h nx (aSlice P t (x e) (lo.map (· e)) (hi.map (· e))) = ofO h nx (aSlice P t (evO e y) (ylo.map (evO e)) (yhi.map (evO e)))
    have h1 : lo.map (· e) = ylo.map (evO e) := by
      cases lo <;> cases ylo <;> first | rfl | exact hl.elim | (simp only [Option.map_some]; rw [(show OpnOk _ _ from hl) e])
    have h2 : hi.map (· e) = yhi.map (evO e) := by
      cases hi <;> cases yhi <;> first | rfl | exact hh.elim | (simp only [Option.map_some]; rw [(show OpnOk _ _ from hh) e])
    rw [hx e, h1, h2]
theorem nthVR_eq : ∀ (i : Nat) (l : List V), nthVR i l = nthV i l
  | 0, [] => rfl
  | 0, _ :: _ => rfl
  | _ + 1, [] => rfl
  | i + 1, _ :: l => nthVR_eq i l
theorem xExtract_ok {x : Opn} {o : Oper} {y : Operand} {i : Nat} (hx : OpnOk x y) (ho : o.op = .extract y i) : OpOk P L (xExtract x i) o :=
  pure_ok (fun _ _ => by rw [ho]; rfl) (by rw [ho]; intros; simp) (fun _ _ _ => by rw [ho]; rfl) fun e h nx call => by
    rw [ho]
    show onTup (x e) _ _ = ofO h nx (match evO e y with | .tup vs => nthV i vs | _ => none)
    rw [hx e, onTup_eq]
    cases evO e y <;> try rfl
    simp only [nthVR_eq]
inductive PsOk : List (Nat × Opn) → List (Nat × Operand) → Prop
  | nil : PsOk [] []
  | cons {i x y l m} : OpnOk x y → PsOk l m → PsOk ((i, x) :: l) ((i, y) :: m)
theorem rP_eq {l : List (Nat × Opn)} {m : List (Nat × Operand)} (h : PsOk l m) (e : E) : rP l e = evP e m := by
  induction h with
  | nil => rfl
  | @cons i x y l m h1 _ ih => show (i, x e) :: rP l e = (i, evO e y) :: evP e m; rw [ih, h1 e]
theorem xBuild_ok {ps : List (Nat × Opn)} {o : Oper} {t : TypeId} {qs : Array (Nat × Operand)} (hp : PsOk ps qs.toList) (ho : o.op = .build t qs) : OpOk P L (xBuild P t ps) o :=
  pure_ok (fun _ _ => by rw [ho]; rfl) (by rw [ho]; intros; simp) (fun _ _ _ => by rw [ho]; rfl) fun e h nx call => by
    rw [ho]; show ofO h nx (aBuild P t (rP ps e)) = _; rw [rP_eq hp e]; rfl
theorem xLen_ok {x : Opn} {o : Oper} {t : TypeId} {y : Operand} (hx : OpnOk x y) (ho : o.op = .call { callee := .builtin .len, args := #[y], argTypes := #[t] }) : OpOk P L (xLen P t x) o :=
  pure_ok (fun _ _ => by rw [ho]; rfl) (by rw [ho]; intros; simp) (fun _ _ _ => by rw [ho]; rfl) fun e h nx call => by
    rw [ho]; show ofO h nx (aLen P t (x e)) = _; rw [hx e]; rfl

/-! reads -/
theorem read_ok {f : OpT} {o : Oper} (hp : ∀ e, pureOp P L e o.op = none) (he : ∀ g args tys, o.op ≠ .call { callee := .value (.func g), args := args, argTypes := tys }) (hf : ∀ e h nx, effOp P e h nx o.op = none)
    (hr : ∀ e h nx call, f e h nx call = ofO h nx (readOp P e h o.op)) : OpOk P L f o := by
  intro e h nx nt call
  rw [hr]
  have key : ∀ op, o.op = op → (match op with | .call { callee := .value (.func f), args, .. } => call f (evL e args.toList) h nx | op => effOp P e h nx op) = none := by
    intro op hop
    split
    · exact absurd hop (he _ _ _)
    · rw [← hop]; exact hf e h nx
  unfold opA
  simp only [hp]
  cases hrd : readOp P e h o.op with
  | some v => rfl
  | none => symm; first | exact hf e h nx | exact key o.op rfl
theorem xLoad1_ok {a : Opn} {o : Oper} {t : TypeId} {y : Operand} (hag : aggT P t = some false) (hsz : szOf P t = some 1) (ha : OpnOk a y) (ho : o.op = .load t y) : OpOk P L (xLoad1 a) o :=
  read_ok (fun _ => by rw [ho]; rfl) (by rw [ho]; intros; simp) (fun _ _ _ => by rw [ho]; rfl) fun e h nx call => by
    rw [ho]
    show onPtr (a e) _ _ = _
    rw [ha e, onPtr_eq]
    simp only [readOp, hag, hsz]
    cases evO e y <;> try rfl
    rename_i b off
    show ofO h nx (load1R h b off) = _
    rw [load1R_eq]
    simp only
    cases loadAt h b off 1 with
    | none => rfl
    | some l => cases l <;> rfl
theorem xLoadN_ok {n : Nat} {a : Opn} {o : Oper} {t : TypeId} {y : Operand} (hag : aggT P t = some true) (hsz : szOf P t = some n) (ha : OpnOk a y) (ho : o.op = .load t y) : OpOk P L (xLoadN n a) o :=
  read_ok (fun _ => by rw [ho]; rfl) (by rw [ho]; intros; simp) (fun _ _ _ => by rw [ho]; rfl) fun e h nx call => by
    rw [ho]
    show onPtr (a e) _ _ = _
    rw [ha e, onPtr_eq]
    simp only [readOp, hag, hsz]
    cases evO e y <;> try rfl
    rename_i b off
    show ofO h nx (loadAtR h b off n) = _
    rw [loadAtR_eq]
    simp only
    cases loadAt h b off n <;> rfl

/-! effects -/
theorem eff_ok {f : OpT} {o : Oper} (hp : ∀ e, pureOp P L e o.op = none) (hr : ∀ e h, readOp P e h o.op = none) (he : ∀ g args tys, o.op ≠ .call { callee := .value (.func g), args := args, argTypes := tys })
    (hf : ∀ e h nx call, f e h nx call = effOp P e h nx o.op) : OpOk P L f o := by
  intro e h nx nt call
  rw [hf]
  have key : ∀ op, o.op = op → effOp P e h nx o.op = (match op with | .call { callee := .value (.func f), args, .. } => call f (evL e args.toList) h nx | op => effOp P e h nx op) := by
    intro op hop
    split
    · exact absurd hop (he _ _ _)
    · rw [← hop]
  unfold opA
  rw [hp, hr]
  exact key o.op rfl
theorem xStore_ok {n : Nat} {a x : Opn} {o : Oper} {t : TypeId} {y z : Operand} (hsz : szOf P t = some n) (ha : OpnOk a y) (hx : OpnOk x z) (ho : o.op = .store t y z) : OpOk P L (xStore n a x) o :=
  eff_ok (fun _ => by rw [ho]; rfl) (fun _ _ => by rw [ho]; rfl) (by rw [ho]; intros; simp) fun e h nx call => by
    rw [ho]
    show onPtr (a e) _ _ = _
    rw [ha e, hx e, onPtr_eq]
    simp only [effOp, hsz]
    cases evO e y <;> try rfl
    rename_i b off
    simp only
    cases evO e z <;> first
      | rfl
      | (show Bool.rec (motive := fun _ => Res) none (store1R h nx b off _) (Nat.beq 1 n) = _
         simp only [V.cells, List.length_cons, List.length_nil, Nat.zero_add, store1R_eq]
         cases Nat.beq 1 n <;> rfl)
      | (rename_i l
         show Bool.rec (motive := fun _ => Res) none (storeAtR h nx b off l) (Nat.beq l.length n) = _
         simp only [V.cells, storeAtR_eq]
         cases Nat.beq l.length n <;> rfl)
theorem newB_eq (h : Tr Blk) (nx : Nat) (l : List V) : newB h nx l = some (.ptr nx 0, h.put nx (mkBlk l), nx + 1) := by
  unfold newB; rw [putB_eq]; rfl
theorem xAlloc_ok {o : Oper} {t : TypeId} (ho : o.op = .alloc t) : OpOk P L (xAlloc P t) o :=
  eff_ok (fun _ => by rw [ho]; rfl) (fun _ _ => by rw [ho]; rfl) (by rw [ho]; intros; simp) fun e h nx call => by
    rw [ho]
    show Option.rec (motive := fun _ => Res) none (fun z => newB h nx z.cells) (zeroV P t) = _
    simp only [effOp]
    cases zeroV P t with
    | none => rfl
    | some z => exact newB_eq h nx z.cells
theorem newB1_eq (h : Tr Blk) (nx : Nat) (v : V) : newB1 h nx v = some (.ptr nx 0, h.put nx (mkBlk [v]), nx + 1) := by
  unfold newB1; rw [putB_eq]; rfl
theorem xBox_ok {x : Opn} {o : Oper} {t : TypeId} {y : Operand} (hx : OpnOk x y) (ho : o.op = .box t y) : OpOk P L (xBox x) o :=
  eff_ok (fun _ => by rw [ho]; rfl) (fun _ _ => by rw [ho]; rfl) (by rw [ho]; intros; simp) fun e h nx call => by
    rw [ho]
    show onCells (x e) _ _ _ = _
    rw [hx e]
    simp only [effOp]
    cases evO e y <;> first
      | rfl
      | exact newB1_eq h nx _
      | exact newB_eq h nx _
theorem xSlow_ok {o : Oper} : OpOk P L (xSlow P L o) o := by
  intro e h nx nt call
  show opA P L call o ⟨e, h, nx, 0⟩ = opA P L call o ⟨e, h, nx, nt⟩
  exact opA_congr (fun _ _ => rfl) rfl rfl
inductive LsOk : List Opn → List Operand → Prop
  | nil : LsOk [] []
  | cons {x y l m} : OpnOk x y → LsOk l m → LsOk (x :: l) (y :: m)
theorem rL_eq {l : List Opn} {m : List Operand} (h : LsOk l m) (e : E) : rL l e = evL e m := by
  induction h with
  | nil => rfl
  | cons h1 _ ih => show _ :: rL _ e = _ :: evL e _; rw [ih, h1 e]
theorem xFunc_ok {f : FuncId} {l : List Opn} {o : Oper} {args : Array Operand} {tys : Array TypeId} (hl : LsOk l args.toList) (ho : o.op = .call { callee := .value (.func f), args := args, argTypes := tys }) : OpOk P L (xFunc f l) o := by
  intro e h nx nt call
  show call f (rL l e) h nx = _
  rw [rL_eq hl e]
  unfold opA
  rw [ho]
  rfl

end
end Go.Abs
