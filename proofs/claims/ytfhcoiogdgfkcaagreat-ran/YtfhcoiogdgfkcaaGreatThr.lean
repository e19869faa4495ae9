import Derived.Test.YtfhcoiogdgfkcaaGreatAbs
namespace Go.Abs

/-! the evaluator as a program of combinators: no code is looked at when it runs -/
abbrev Res := Option (V × Tr Blk × Nat)
abbrev CallT := FuncId → List V → Tr Blk → Nat → Res
abbrev Opn := E → V
abbrev OpT := E → Tr Blk → Nat → CallT → Res
abbrev StepT := CallT → St → Option St
abbrev Out := Option (Ex × St)
/-- the calls, how often a loop may turn, the state -/
abbrev CoT := CallT → Nat → St → Out

noncomputable def getV (t : Tr V) : Nat → Option V :=
  Tr.rec (motive := fun _ => Nat → Option V) (fun _ => none) (fun _ v _ gl gr n => Nat.rec v (fun k _ => Nat.rec (gl (Nat.div k 2)) (fun _ _ => gr (Nat.div k 2)) (Nat.mod k 2)) n) t
noncomputable def getB (t : Tr Blk) : Nat → Option Blk :=
  Tr.rec (motive := fun _ => Nat → Option Blk) (fun _ => none) (fun _ v _ gl gr n => Nat.rec v (fun k _ => Nat.rec (gl (Nat.div k 2)) (fun _ _ => gr (Nat.div k 2)) (Nat.mod k 2)) n) t
noncomputable def putB (b : Blk) (f : Nat) : Nat → Tr Blk → Tr Blk :=
  Nat.rec (motive := fun _ => Nat → Tr Blk → Tr Blk) (fun _ t => t) (fun _ ih n t =>
    Tr.rec (motive := fun _ => Tr Blk)
      (Nat.rec (.node .nil (some b) .nil) (fun k _ => Nat.rec (.node (ih (Nat.div k 2) .nil) none .nil) (fun _ _ => .node .nil none (ih (Nat.div k 2) .nil)) (Nat.mod k 2)) n)
      (fun l x r _ _ => Nat.rec (.node l (some b) r) (fun k _ => Nat.rec (.node (ih (Nat.div k 2) l) x r) (fun _ _ => .node l x (ih (Nat.div k 2) r)) (Nat.mod k 2)) n) t) f
noncomputable def putV (b : V) (f : Nat) : Nat → Tr V → Tr V :=
  Nat.rec (motive := fun _ => Nat → Tr V → Tr V) (fun _ t => t) (fun _ ih n t =>
    Tr.rec (motive := fun _ => Tr V)
      (Nat.rec (.node .nil (some b) .nil) (fun k _ => Nat.rec (.node (ih (Nat.div k 2) .nil) none .nil) (fun _ _ => .node .nil none (ih (Nat.div k 2) .nil)) (Nat.mod k 2)) n)
      (fun l x r _ _ => Nat.rec (.node l (some b) r) (fun k _ => Nat.rec (.node (ih (Nat.div k 2) l) x r) (fun _ _ => .node l x (ih (Nat.div k 2) r)) (Nat.mod k 2)) n) t) f

noncomputable def lookL (ls : Loc) : Nat → Option V := Loc.rec (motive := fun _ => Nat → Option V) (fun _ => none) (fun t' v _ ih t => Bool.rec (ih t) (some v) (Nat.beq t' t)) ls
noncomputable def lookF (e : E) (t : Nat) : Option V := E.rec (motive := fun _ => Option V) (fun x ls tm => Nat.rec (motive := fun _ => Option V) (lookL ls t) (fun _ _ => getV tm t) (Nat.land (Nat.shiftRight x t) 1)) e
noncomputable def putE (e : E) (t : Nat) (v : V) : E := E.rec (motive := fun _ => E) (fun x ls tm => Nat.rec (motive := fun _ => E) ⟨x, .cons t v ls, tm⟩ (fun _ _ => ⟨x, ls, putV v (Nat.succ t) t tm⟩) (Nat.land (Nat.shiftRight x t) 1)) e
noncomputable def orJunk (o : Option V) : V := Option.rec .junk (fun v => v) o
noncomputable def rT (t : Tmp) : Opn := fun e => orJunk (lookF e t)
noncomputable def kV (v : Value) : V := Option.rec .junk (fun x => x) (absV v)
noncomputable def rK (v : Value) : Opn := fun _ => kV v
noncomputable def rJ : Opn := fun _ => .junk
noncomputable def rC (v : V) : Opn := fun _ => v
noncomputable def rL (l : List Opn) : E → List V := List.rec (motive := fun _ => E → List V) (fun _ => []) (fun x _ ih e => x e :: ih e) l
noncomputable def rP (l : List (Nat × Opn)) : E → List (Nat × V) := List.rec (motive := fun _ => E → List (Nat × V)) (fun _ => []) (fun p _ ih e => (p.1, p.2 e) :: ih e) l

noncomputable def loadR (n : Nat) : Tr V → Nat → Option (List V) :=
  Nat.rec (motive := fun _ => Tr V → Nat → Option (List V)) (fun _ _ => some []) (fun _ ih c off => Option.rec none (fun v => Option.rec none (fun l => some (v :: l)) (ih c (Nat.succ off))) (getV c off)) n
noncomputable def storeR (l : List V) : Nat → Tr V → Tr V :=
  List.rec (motive := fun _ => Nat → Tr V → Tr V) (fun _ c => c) (fun v _ ih off c => ih (Nat.succ off) (putV v (Nat.succ off) off c)) l
noncomputable def onBlk {α : Type} (k : Blk) (f : Nat → Tr V → α) : α := Blk.rec (motive := fun _ => α) f k
noncomputable def load1R (h : Tr Blk) (b off : Nat) : Option V :=
  Option.rec none (fun k => Blk.rec (motive := fun _ => Option V) (fun n c => Bool.rec none (getV c off) (Nat.ble (Nat.succ off) n)) k) (getB h b)
noncomputable def loadAtR (h : Tr Blk) (b off m : Nat) : Option V :=
  Option.rec none (fun k => Blk.rec (motive := fun _ => Option V) (fun n c => Bool.rec none (Option.rec none (fun l => some (.agg l)) (loadR m c off)) (Nat.ble (Nat.add off m) n)) k) (getB h b)
noncomputable def store1R (h : Tr Blk) (nx b off : Nat) (v : V) : Res :=
  Option.rec none (fun k => Blk.rec (motive := fun _ => Res) (fun n c => Bool.rec none (some (.undef, putB ⟨n, putV v (Nat.succ off) off c⟩ (Nat.succ b) b h, nx)) (Nat.ble (Nat.succ off) n)) k) (getB h b)
noncomputable def storeAtR (h : Tr Blk) (nx b off : Nat) (l : List V) : Res :=
  Option.rec none (fun k => Blk.rec (motive := fun _ => Res) (fun n c => Bool.rec none (some (.undef, putB ⟨n, storeR l off c⟩ (Nat.succ b) b h, nx)) (Nat.ble (Nat.add off l.length) n)) k) (getB h b)

noncomputable def ofO (h : Tr Blk) (nx : Nat) (o : Option V) : Res := Option.rec none (fun v => some (v, h, nx)) o

noncomputable def onPtr {α : Type} (x : V) : (Nat → Nat → α) → α → α :=
  V.casesOn (motive_1 := fun _ => (Nat → Nat → α) → α → α) x (fun _ _ e => e) (fun _ _ _ e => e) (fun _ _ _ e => e) (fun _ _ e => e) (fun _ e => e) (fun b o k _ => k b o) (fun _ e => e) (fun _ _ _ _ _ _ e => e) (fun _ _ e => e) (fun _ _ e => e) (fun _ _ e => e) (fun _ e => e)
noncomputable def onInt {α : Type} (x : V) : (IntKind → Int → α) → α → α :=
  V.casesOn (motive_1 := fun _ => (IntKind → Int → α) → α → α) x (fun _ _ e => e) (fun k n f _ => f k n) (fun _ _ _ e => e) (fun _ _ e => e) (fun _ e => e) (fun _ _ _ e => e) (fun _ e => e) (fun _ _ _ _ _ _ e => e) (fun _ _ e => e) (fun _ _ e => e) (fun _ _ e => e) (fun _ e => e)
noncomputable def onBool {α : Type} (x : V) : (Bool → α) → α → α :=
  V.casesOn (motive_1 := fun _ => (Bool → α) → α → α) x (fun b f _ => f b) (fun _ _ _ e => e) (fun _ _ _ e => e) (fun _ _ e => e) (fun _ e => e) (fun _ _ _ e => e) (fun _ e => e) (fun _ _ _ _ _ _ e => e) (fun _ _ e => e) (fun _ _ e => e) (fun _ _ e => e) (fun _ e => e)
noncomputable def onSlice {α : Type} (x : V) : (Nat → Nat → Nat → Nat → Nat → α) → α → α :=
  V.casesOn (motive_1 := fun _ => (Nat → Nat → Nat → Nat → Nat → α) → α → α) x (fun _ _ e => e) (fun _ _ _ e => e) (fun _ _ _ e => e) (fun _ _ e => e) (fun _ e => e) (fun _ _ _ e => e) (fun _ e => e) (fun b o l c z f _ => f b o l c z) (fun _ _ e => e) (fun _ _ e => e) (fun _ _ e => e) (fun _ e => e)
noncomputable def onTup {α : Type} (x : V) : (List V → α) → α → α :=
  V.casesOn (motive_1 := fun _ => (List V → α) → α → α) x (fun _ _ e => e) (fun _ _ _ e => e) (fun _ _ _ e => e) (fun _ _ e => e) (fun _ e => e) (fun _ _ _ e => e) (fun _ e => e) (fun _ _ _ _ _ _ e => e) (fun _ _ e => e) (fun l f _ => f l) (fun _ _ e => e) (fun _ e => e)
noncomputable def onCells {α : Type} (x : V) : (List V → α) → α → α → α :=
  V.casesOn (motive_1 := fun _ => (List V → α) → α → α → α) x (fun _ _ e _ => e) (fun _ _ _ e _ => e) (fun _ _ _ e _ => e) (fun _ _ e _ => e) (fun _ e _ => e) (fun _ _ _ e _ => e) (fun _ e _ => e) (fun _ _ _ _ _ _ e _ => e) (fun l f _ _ => f l) (fun _ _ _ b => b) (fun _ _ e _ => e) (fun _ _ b => b)

noncomputable def kIdx (k : IntKind) : Nat := IntKind.rec 0 1 2 3 4 5 6 7 k
noncomputable def wrapF (k : IntKind) (n : Nat) : V :=
  Nat.rec (motive := fun _ => V) (Bool.rec (.int k (k.wrap (.ofNat n))) (.int k (.ofNat n)) (Nat.ble n 127)) (fun _ _ => .int k (k.wrap (.ofNat n))) (Nat.sub n 127)
noncomputable def addF (k : IntKind) (n : Nat) : V := Bool.rec (.int k (k.wrap (.ofNat n))) (.int k (.ofNat n)) (Nat.ble n 127)
noncomputable def add64 (n : Nat) : V := Bool.rec (.int .i64 (IntKind.i64.wrap (.ofNat n))) (.int .i64 (.ofNat n)) (Nat.ble n 9223372036854775807)

/-- two numbers that are not negative, of one kind -/
noncomputable def twoInt (k k' : IntKind) (a b : Int) (f : IntKind → Nat → Nat → Option V) (e : Option V) : Option V :=
  Int.rec (motive := fun _ => Option V) (fun m => Int.rec (motive := fun _ => Option V) (fun n => Bool.rec e (f k m n) (Nat.beq (kIdx k) (kIdx k'))) (fun _ => e) b) (fun _ => e) a
noncomputable def twoNat (x y : V) (f : IntKind → Nat → Nat → Option V) (e : Option V) : Option V :=
  onInt x (fun k a => onInt y (fun k' b => twoInt k k' a b f e) e) e
noncomputable def fAdd (k : IntKind) (m n : Nat) : Option V := some (Bool.rec (.int k (k.wrap (.ofNat (Nat.add m n)))) (add64 (Nat.add m n)) (Nat.beq (kIdx k) 3))
noncomputable def fEql (_ : IntKind) (m n : Nat) : Option V := some (.bool (Nat.beq m n))
noncomputable def fNeq (_ : IntKind) (m n : Nat) : Option V := some (.bool (Bool.rec true false (Nat.beq m n)))
noncomputable def fLss (_ : IntKind) (m n : Nat) : Option V := some (.bool (Nat.ble (Nat.succ m) n))
noncomputable def fLeq (_ : IntKind) (m n : Nat) : Option V := some (.bool (Nat.ble m n))
noncomputable def fGtr (_ : IntKind) (m n : Nat) : Option V := some (.bool (Nat.ble (Nat.succ n) m))
noncomputable def fGeq (_ : IntKind) (m n : Nat) : Option V := some (.bool (Nat.ble n m))

noncomputable def nthVR (i : Nat) : List V → Option V :=
  Nat.rec (motive := fun _ => List V → Option V) (fun l => List.rec none (fun x _ _ => some x) l) (fun _ ih l => List.rec none (fun _ t _ => ih t) l) i

section
variable (P : Program) (L : Nat)
noncomputable def xMove (x : Opn) : OpT := fun e h nx _ => some (x e, h, nx)
noncomputable def xPick (c a b : Opn) : OpT := fun e h nx _ => onBool (c e) (fun t => Bool.rec (some (b e, h, nx)) (some (a e, h, nx)) t) none
noncomputable def xNil (x : Opn) : OpT := fun e h nx _ => onPtr (x e) (fun b o => some (.ptr b o, h, nx)) none
noncomputable def xBinF (f : IntKind → Nat → Nat → Option V) (op : BinOp) (t : TypeId) (x y : Opn) : OpT := fun e h nx _ => ofO h nx (twoNat (x e) (y e) f (binV P L op t (x e) (y e)))
noncomputable def xBin (op : BinOp) (t : TypeId) (x y : Opn) : OpT := fun e h nx _ => ofO h nx (binV P L op t (x e) (y e))
noncomputable def xNot (x : Opn) : OpT := fun e h nx _ => onBool (x e) (fun t => some (.bool (Bool.rec true false t), h, nx)) none
noncomputable def xUn (op : UnOp) (x : Opn) : OpT := fun e h nx _ => ofO h nx (aUn op (x e))
/-- 'o': where the field lies -/
noncomputable def xFld (o : Nat) (x : Opn) : OpT := fun e h nx _ => onPtr (x e) (fun b off => some (.ptr b (Nat.add off o), h, nx)) none
noncomputable def xField (t : TypeId) (x : Opn) (f : Nat) : OpT := fun e h nx _ => ofO h nx (aField P t (x e) f)
/-- an array of n elements of z cells; a slice of such -/
noncomputable def atN (h : Tr Blk) (nx b off n z i : Nat) : Res := Bool.rec none (some (.ptr b (Nat.add off (Nat.mul i z)), h, nx)) (Nat.ble (Nat.succ i) n)
noncomputable def xIdxA (n z : Nat) (x ix : Opn) : OpT := fun e h nx _ => onInt (ix e) (fun _ i => Int.rec (motive := fun _ => Res) (fun i => onPtr (x e) (fun b off => atN h nx b off n z i) none) (fun _ => none) i) none
noncomputable def xIdxS (z : Nat) (x ix : Opn) : OpT := fun e h nx _ => onInt (ix e) (fun _ i => Int.rec (motive := fun _ => Res) (fun i => onSlice (x e) (fun b off len _ _ => atN h nx b off len z i) none) (fun _ => none) i) none
noncomputable def xIndex (t : TypeId) (x ix : Opn) : OpT := fun e h nx _ => ofO h nx (aIndex P t (x e) (ix e))
noncomputable def xSlice (t : TypeId) (x : Opn) (lo hi : Option Opn) : OpT := fun e h nx _ => ofO h nx (aSlice P t (x e) (lo.map (· e)) (hi.map (· e)))
noncomputable def xExtract (x : Opn) (i : Nat) : OpT := fun e h nx _ => onTup (x e) (fun l => ofO h nx (nthVR i l)) none
noncomputable def xBuild (t : TypeId) (ps : List (Nat × Opn)) : OpT := fun e h nx _ => ofO h nx (aBuild P t (rP ps e))
noncomputable def xLoad1 (a : Opn) : OpT := fun e h nx _ => onPtr (a e) (fun b off => ofO h nx (load1R h b off)) none
noncomputable def xLoadN (n : Nat) (a : Opn) : OpT := fun e h nx _ => onPtr (a e) (fun b off => ofO h nx (loadAtR h b off n)) none
noncomputable def xStore (n : Nat) (a x : Opn) : OpT := fun e h nx _ => onPtr (a e) (fun b off =>
  onCells (x e) (fun l => Bool.rec none (storeAtR h nx b off l) (Nat.beq l.length n)) (Bool.rec none (store1R h nx b off (x e)) (Nat.beq 1 n)) none) none
noncomputable def newB (h : Tr Blk) (nx : Nat) (l : List V) : Res := some (.ptr nx 0, putB (mkBlk l) (Nat.succ nx) nx h, Nat.succ nx)
noncomputable def newB1 (h : Tr Blk) (nx : Nat) (v : V) : Res := some (.ptr nx 0, putB ⟨1, .node .nil (some v) .nil⟩ (Nat.succ nx) nx h, Nat.succ nx)
noncomputable def xAlloc (t : TypeId) : OpT := fun _ h nx _ => Option.rec none (fun z => newB h nx z.cells) (zeroV P t)
noncomputable def xBox (x : Opn) : OpT := fun e h nx _ => onCells (x e) (fun l => newB h nx l) (newB1 h nx (x e)) none
noncomputable def xLen (t : TypeId) (x : Opn) : OpT := fun e h nx _ => ofO h nx (aLen P t (x e))
noncomputable def xEff (op : Op) : OpT := fun e h nx _ => effOp P e h nx op
noncomputable def xSlow (o : Oper) : OpT := fun e h nx call => opA P L call o ⟨e, h, nx, 0⟩
noncomputable def xFunc (f : FuncId) (args : List Opn) : OpT := fun e h nx call => call f (rL args e) h nx

/-! steps -/
noncomputable def putF (e : E) (nt t : Nat) (v : V) (h : Tr Blk) (n : Nat) : Option St := Bool.rec none (some ⟨putE e t v, h, n, nt⟩) (Nat.ble (Nat.succ t) nt)
noncomputable def toF (e : E) (nt t : Nat) (r : Res) : Option St := Option.rec none (fun p => Prod.rec (fun v q => Prod.rec (fun h n => putF e nt t v h n) q) p) r
noncomputable def noF (e : E) (nt : Nat) (r : Res) : Option St := Option.rec none (fun p => Prod.rec (fun _ q => Prod.rec (fun h n => some ⟨e, h, n, nt⟩) q) p) r
noncomputable def sD (t : Tmp) (op : OpT) : StepT := fun call s => St.rec (fun e h nx nt => toF e nt t (op e h nx call)) s
noncomputable def sN (op : OpT) : StepT := fun call s => St.rec (fun e h nx nt => noF e nt (op e h nx call)) s
/-- guarded by the temporary g -/
noncomputable def wantF (e : E) (g : Tmp) (want : Bool) : Option Bool := onBool (rT g e) (fun b => some (Bool.rec (Bool.rec true false want) want b)) (onTup (rT g e) (fun l => List.rec (some false) (fun _ _ _ => none) l) none)
noncomputable def sG (g : Tmp) (want : Bool) (t : Tmp) (op : OpT) : StepT := fun call s => St.rec (fun e h nx nt => Option.rec none (fun w => Bool.rec (putF e nt t .undef h nx) (toF e nt t (op e h nx call)) w) (wantF e g want)) s
noncomputable def sSlow (ops : Array Oper) (o : Oper) : StepT := fun call s => stepA P L call ops o s
noncomputable def sEnd : StepT := fun _ s => some s
noncomputable def sThen (a b : StepT) : StepT := fun call s => Option.rec none (fun s' => b call s') (a call s)

/-! code -/
noncomputable def anewF (e : E) : E := E.rec (fun x _ tm => ⟨x, .nil, tm⟩) e
noncomputable def cReg (st : StepT) : CoT := fun call _ s => St.rec (fun e h nx nt => Option.rec none (fun s' => some (.normal, s')) (st call ⟨anewF e, h, nx, nt⟩)) s
/-- a region that draws its order and has nothing loose: 'm' operations -/
noncomputable def cRegD (m : Nat) (st : StepT) : CoT := fun call _ s => St.rec (fun e h nx nt => Option.rec none (fun s' => some (.normal, s')) (st call ⟨anewF e, h, Nat.add nx m, nt⟩)) s
noncomputable def cDrawn (ops : Array Oper) (pl : Plan) : CoT := fun call _ s => St.rec (fun e h nx nt => Option.rec none (fun s' => some (.normal, s')) (drawnA P L call ops pl ⟨anewF e, h, nx, nt⟩)) s
noncomputable def cSkip : CoT := fun _ _ s => some (.normal, s)
noncomputable def cExit (id : Nat) : CoT := fun _ _ s => some (.exit id, s)
noncomputable def cRet : CoT := fun _ _ s => some (.ret, s)
noncomputable def cNone : CoT := fun _ _ _ => none
noncomputable def cSeq (a b : CoT) : CoT := fun call n s => Option.rec none (fun p => Prod.rec (fun e s => Ex.rec (motive := fun _ => Out) (b call n s) (fun i => some (.exit i, s)) (some (.ret, s)) e) p) (a call n s)
noncomputable def cCond (x : Opn) (a b : CoT) : CoT := fun call n s => St.rec (fun e h nx nt => onBool (x e) (fun t => Bool.rec (b call n ⟨e, h, nx, nt⟩) (a call n ⟨e, h, nx, nt⟩) t) none) s
noncomputable def cBlock (id : Nat) (a : CoT) : CoT := fun call n s => Option.rec none (fun p => Prod.rec (fun e s => Ex.rec (motive := fun _ => Out) (some (.normal, s)) (fun i => Bool.rec (some (.exit i, s)) (some (.normal, s)) (Nat.beq i id)) (some (.ret, s)) e) p) (a call n s)
noncomputable def loopF (a : St → Out) (n : Nat) : St → Out := Nat.rec (motive := fun _ => St → Out) (fun _ => none) (fun _ ih s => Option.rec none (fun p => Prod.rec (fun e s => Ex.rec (motive := fun _ => Out) (ih s) (fun i => some (.exit i, s)) (some (.ret, s)) e) p) (a s)) n
noncomputable def cLoop (a : CoT) : CoT := fun call n s => loopF (a call n) n s

/-! functions -/
abbrev ResT := E → Tr Blk → Option V
noncomputable def qTmp (t : Tmp) : ResT := fun e _ => some (rT t e)
noncomputable def qOne (a : Tmp) : ResT := fun e h => onPtr (rT a e) (fun b off => load1R h b off) none
noncomputable def qAgg (a n : Nat) : ResT := fun e h => onPtr (rT a e) (fun b off => loadAtR h b off n) none
noncomputable def qNo : ResT := fun _ _ => none
structure FnT where
  nt : Nat
  far : Nat
  body : CoT
  res : List ResT
noncomputable def resF (l : List ResT) : E → Tr Blk → Option (List V) :=
  List.rec (motive := fun _ => E → Tr Blk → Option (List V)) (fun _ _ => some []) (fun r _ ih e h => Option.rec none (fun v => Option.rec none (fun vs => some (v :: vs)) (ih e h)) (r e h)) l
noncomputable def tupF (h : Tr Blk) (nx : Nat) (vs : List V) : Res := Bool.rec none (some (.tup vs, h, nx)) (noTupV vs)
noncomputable def packF (h : Tr Blk) (nx : Nat) (vs : List V) : Res := List.rec (motive := fun _ => Res) (tupF h nx []) (fun v t _ => List.rec (motive := fun _ => Res) (some (v, h, nx)) (fun _ _ _ => tupF h nx vs) t) vs
noncomputable def giveF (res : List ResT) (s : St) : Res := St.rec (fun e h nx _ => Option.rec none (fun vs => packF h nx vs) (resF res e h)) s
noncomputable def backF (res : List ResT) (r : Out) : Res := Option.rec none (fun p => Prod.rec (fun e s => Ex.rec (motive := fun _ => Res) (giveF res s) (fun _ => none) (giveF res s) e) p) r
noncomputable def argsE (l : List V) : Nat → E → E := List.rec (motive := fun _ => Nat → E → E) (fun _ e => e) (fun v _ ih i e => ih (Nat.succ i) (putE e i v)) l
noncomputable def goF (ih : CallT) (turns : Nat) (args : List V) (h : Tr Blk) (nx : Nat) (fn : FnT) : Res :=
  FnT.rec (motive := fun _ => Res) (fun nt far body res => Bool.rec none (backF res (body ih turns ⟨argsE args 0 ⟨far, .nil, .nil⟩, h, nx, nt⟩)) (Nat.ble args.length nt)) fn
/-- 'depth': how deep calls may go; 'turns': how often a loop may turn -/
noncomputable def callF (fns : FuncId → Option FnT) (orc : FuncId → List V → Option V) (turns depth : Nat) : CallT :=
  Nat.rec (motive := fun _ => CallT) (fun _ _ _ _ => none) (fun _ ih f args h nx => Option.rec (Option.rec none (fun fn => goF ih turns args h nx fn) (fns f)) (fun v => some (v, h, nx)) (orc f args)) depth
end
end Go.Abs
