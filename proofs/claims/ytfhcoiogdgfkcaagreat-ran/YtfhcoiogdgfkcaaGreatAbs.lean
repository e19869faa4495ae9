import Derived.Calls
import Derived.Orders
import Derived.KernelRfl
namespace Go.Abs

/-! stores: full trees of 2^4, 2^9 and 2^16 leaves behind one another, and a list for what lies beyond -/
structure N (β : Type) where
  l : β
  r : β
def T (α : Type) : Nat → Type
  | 0 => Option α
  | d + 1 => N (T α d)
def T.nil {α : Type} : (d : Nat) → T α d
  | 0 => none
  | d + 1 => ⟨T.nil d, T.nil d⟩
def T.get {α : Type} : (d : Nat) → T α d → Nat → Option α
  | 0, t, _ => t
  | d + 1, t, n => match Nat.ble (2 ^ d) n with
    | true => T.get d (N.r (β := T α d) t) (n - 2 ^ d)
    | false => T.get d (N.l (β := T α d) t) n
def T.set {α : Type} (v : Option α) : (d : Nat) → T α d → Nat → T α d
  | 0, _, _ => v
  | d + 1, t, n => match Nat.ble (2 ^ d) n with
    | true => N.mk (β := T α d) (N.l (β := T α d) t) (T.set v d (N.r (β := T α d) t) (n - 2 ^ d))
    | false => N.mk (β := T α d) (T.set v d (N.l (β := T α d) t) n) (N.r (β := T α d) t)
structure Tr (α : Type) where
  s : T α 4
  m : T α 9
  b : T α 16
  z : List (Nat × Option α)
def Tr.nil {α : Type} : Tr α := ⟨T.nil 4, T.nil 9, T.nil 16, []⟩
def lookZ {α : Type} : List (Nat × Option α) → Nat → Option α
  | [], _ => none
  | (k, v) :: l, n => match Nat.beq k n with
    | true => v
    | false => lookZ l n
def Tr.get {α : Type} (t : Tr α) (n : Nat) : Option α := match Nat.ble 16 n with
  | false => T.get 4 t.s n
  | true => match Nat.ble 528 n with
    | false => T.get 9 t.m (n - 16)
    | true => match Nat.ble 66064 n with
      | false => T.get 16 t.b (n - 528)
      | true => lookZ t.z n
def Tr.set {α : Type} (v : Option α) (t : Tr α) (n : Nat) : Tr α := match Nat.ble 16 n with
  | false => ⟨T.set v 4 t.s n, t.m, t.b, t.z⟩
  | true => match Nat.ble 528 n with
    | false => ⟨t.s, T.set v 9 t.m (n - 16), t.b, t.z⟩
    | true => match Nat.ble 66064 n with
      | false => ⟨t.s, t.m, T.set v 16 t.b (n - 528), t.z⟩
      | true => ⟨t.s, t.m, t.b, (n, v) :: t.z⟩
def Tr.put {α : Type} (t : Tr α) (n : Nat) (v : α) : Tr α := t.set (some v) n
def Tr.cutAt {α : Type} (t : Tr α) (n : Nat) : Tr α := t.set none n

/-! symbolic integers -/
structure Form where
  a0 : Int
  a1 : Int
  a2 : Int
  a3 : Int
  k : Int
  m : Nat
  k2 : Int
  deriving DecidableEq, Repr

/-- the number of digits -/
abbrev Cls := Nat
def loD (L i : Nat) : Int := match Nat.beq (i + 1) L with | true => (match Nat.beq L 1 with | true => 0 | false => 1) | false => 0
def hiD (L i : Nat) : Int := match Nat.ble L i with | true => 0 | false => 9

def tmin (L i : Nat) (a : Int) : Int := if 0 ≤ a then a * loD L i else a * hiD L i
def tmax (L i : Nat) (a : Int) : Int := if 0 ≤ a then a * hiD L i else a * loD L i
def Form.lo (L : Nat) (f : Form) : Int :=
  if f.m = 0 then tmin L 0 f.a0 + tmin L 1 f.a1 + tmin L 2 f.a2 + tmin L 3 f.a3 + f.k else f.k2
def Form.hi (L : Nat) (f : Form) : Int :=
  if f.m = 0 then tmax L 0 f.a0 + tmax L 1 f.a1 + tmax L 2 f.a2 + tmax L 3 f.a3 + f.k else f.k2 + (f.m - 1)

inductive V where
  | bool (b : Bool)
  | int (k : IntKind) (n : Int)
  | sym (k : IntKind) (f : Form)
  | str (s : List Nat)
  | nilp
  | ptr (b off : Nat)
  | nils
  | slice (b off len cap z : Nat)
  | agg (cs : List V)
  | tup (vs : List V)
  | raw (i : Nat)
  | junk
  deriving Inhabited, Repr

structure Blk where
  n : Nat
  c : Tr V

/-- the temporaries: those that outlive their region in a trie, the others in a list that each region begins anew -/
inductive Loc where
  | nil
  | cons (t : Nat) (v : V) (r : Loc)
def Loc.look : Loc → Nat → Option V
  | .nil, _ => none
  | .cons t' v r, t => match Nat.beq t' t with
    | true => some v
    | false => r.look t
structure E where
  x : Nat
  ls : Loc
  tm : Tr V
def E.far (e : E) (t : Nat) : Bool := Nat.beq (Nat.land (Nat.shiftRight e.x t) 1) 1
def E.look (e : E) (t : Nat) : Option V := match e.far t with
  | true => e.tm.get t
  | false => e.ls.look t
def E.put (e : E) (t : Nat) (v : V) : E := match e.far t with
  | true => ⟨e.x, e.ls, e.tm.put t v⟩
  | false => ⟨e.x, .cons t v e.ls, e.tm⟩
def E.anew (e : E) : E := ⟨e.x, .nil, e.tm⟩
def E.of (x : Nat) : E := ⟨x, .nil, .nil⟩

structure St where
  tm : E
  hp : Tr Blk
  nx : Nat
  nt : Nat

/-- what stands in a temporary that holds nothing -/
def V.undef : V := .tup []

inductive Ex where
  | normal
  | exit (id : Nat)
  | ret

def Form.ofInt (n : Int) : Form := ⟨0, 0, 0, 0, n, 0, 0⟩
def mkV (L : Nat) (k : IntKind) (f : Form) : Option V :=
  match decide (k.min ≤ f.lo L) && decide (f.hi L ≤ k.max) with
  | true => (match f with
    | ⟨.ofNat 0, .ofNat 0, .ofNat 0, .ofNat 0, n, 0, _⟩ => some (.int k n)
    | _ => some (.sym k f))
  | false => none

def Form.add (f g : Form) : Option Form :=
  match f.m, g.m with
  | 0, 0 => some ⟨f.a0 + g.a0, f.a1 + g.a1, f.a2 + g.a2, f.a3 + g.a3, f.k + g.k, 0, 0⟩
  | _ + 1, 0 => if g.a0 = 0 ∧ g.a1 = 0 ∧ g.a2 = 0 ∧ g.a3 = 0 then some { f with k2 := f.k2 + g.k } else none
  | 0, _ + 1 => if f.a0 = 0 ∧ f.a1 = 0 ∧ f.a2 = 0 ∧ f.a3 = 0 then some { g with k2 := g.k2 + f.k } else none
  | _, _ => none
def Form.neg (f : Form) : Option Form :=
  match f.m with
  | 0 => some ⟨-f.a0, -f.a1, -f.a2, -f.a3, -f.k, 0, 0⟩
  | _ => none
def Form.sub (f g : Form) : Option Form := match g.neg with | some h => f.add h | none => none
def Form.mul (f g : Form) : Option Form :=
  if f.m = 0 ∧ g.m = 0 then
    if g.a0 = 0 ∧ g.a1 = 0 ∧ g.a2 = 0 ∧ g.a3 = 0 then some ⟨f.a0 * g.k, f.a1 * g.k, f.a2 * g.k, f.a3 * g.k, f.k * g.k, 0, 0⟩
    else if f.a0 = 0 ∧ f.a1 = 0 ∧ f.a2 = 0 ∧ f.a3 = 0 then some ⟨g.a0 * f.k, g.a1 * f.k, g.a2 * f.k, g.a3 * f.k, g.k * f.k, 0, 0⟩
    else none
  else none
/-- what is left of a linear form modulo 'm' -/
def cut (m a : Int) : Int := if a % m = 0 then 0 else a
def Form.remLin (L : Nat) (f : Form) (m : Nat) : Option Form :=
  if 0 ≤ f.lo L then
    let g : Form := ⟨cut m f.a0, cut m f.a1, cut m f.a2, cut m f.a3, f.k % m, 0, 0⟩
    if f.hi L < m then some f
    else if 0 ≤ g.lo L ∧ g.hi L < m then some g
    else if 0 ≤ g.lo L then some { g with m := m }
    else none
  else none
def Form.rem (L : Nat) (f : Form) (m : Nat) : Option Form :=
  match f.m with
  | 0 => f.remLin L m
  | _ => if f.m = m ∧ 0 ≤ f.k2 then Form.remLin L ⟨f.a0, f.a1, f.a2, f.a3, f.k + f.k2, 0, 0⟩ m else none
def Form.quo (L : Nat) (f : Form) (m : Nat) : Option Form :=
  if f.m = 0 ∧ 0 ≤ f.lo L then
    let g : Form := ⟨cut m f.a0, cut m f.a1, cut m f.a2, cut m f.a3, f.k % m, 0, 0⟩
    if 0 ≤ g.lo L ∧ g.hi L < m then some ⟨(f.a0 - g.a0) / m, (f.a1 - g.a1) / m, (f.a2 - g.a2) / m, (f.a3 - g.a3) / m, (f.k - g.k) / m, 0, 0⟩ else none
  else none

/-- three-valued comparison: some lt/eq/gt if sure -/
def Form.cmp (L : Nat) (f g : Form) : Option Ordering :=
  if f = g then some .eq
  else match f.sub g with
    | some d => if d.m = 0 then (if d.hi L < 0 then some .lt else if 0 < d.lo L then some .gt else if d.lo L = 0 ∧ d.hi L = 0 then some .eq else none)
        else (if f.hi L < g.lo L then some .lt else if g.hi L < f.lo L then some .gt else none)
    | none => if f.hi L < g.lo L then some .lt else if g.hi L < f.lo L then some .gt else none
/-- the ways in which an undecided comparison may still be answered -/
def Form.leS (L : Nat) (f g : Form) : Option Bool := -- f ≤ g
  match f.sub g with
  | some d => if d.m = 0 then (if d.hi L ≤ 0 then some true else if 0 < d.lo L then some false else none)
      else (if f.hi L ≤ g.lo L then some true else if g.hi L < f.lo L then some false else none)
  | none => if f.hi L ≤ g.lo L then some true else if g.hi L < f.lo L then some false else none
def Form.eqS (L : Nat) (f g : Form) : Option Bool :=
  if f = g then some true
  else if f.hi L < g.lo L ∨ g.hi L < f.lo L then some false
  else match f.sub g with
    | some d => if d.m = 0 ∧ (d.hi L < 0 ∨ 0 < d.lo L) then some false else none
    | none => none

def symBin (L : Nat) (op : BinOp) (k : IntKind) (f g : Form) : Option V :=
  match op with
  | .add => match f.add g with | some h => mkV L k h | none => none
  | .sub => match f.sub g with | some h => mkV L k h | none => none
  | .mul => match f.mul g with | some h => mkV L k h | none => none
  | .rem => (match g with
    | ⟨.ofNat 0, .ofNat 0, .ofNat 0, .ofNat 0, .ofNat (n + 1), 0, _⟩ => (match f.rem L (n + 1) with | some h => mkV L k h | none => none)
    | _ => none)
  | .quo => (match g with
    | ⟨.ofNat 0, .ofNat 0, .ofNat 0, .ofNat 0, .ofNat (n + 1), 0, _⟩ => (match f.quo L (n + 1) with | some h => mkV L k h | none => none)
    | _ => none)
  | .eql => match f.eqS L g with | some b => some (.bool b) | none => none
  | .neq => match f.eqS L g with | some b => some (.bool !b) | none => none
  | .leq => match f.leS L g with | some b => some (.bool b) | none => none
  | .geq => match g.leS L f with | some b => some (.bool b) | none => none
  | .lss => match g.leS L f with | some b => some (.bool !b) | none => none
  | .gtr => match f.leS L g with | some b => some (.bool !b) | none => none
  | _ => none

def intBin (op : BinOp) (k : IntKind) (a b : Int) : Option V :=
  match op with
  | .add => some (.int k (k.wrap (a + b)))
  | .sub => some (.int k (k.wrap (a - b)))
  | .mul => some (.int k (k.wrap (a * b)))
  | .quo => if b = 0 then none else some (.int k (k.wrap (a.tdiv b)))
  | .rem => if b = 0 then none else some (.int k (a.tmod b))
  | .and => some (.int k (k.wrap (BitVec.ofInt k.bits a &&& BitVec.ofInt k.bits b).toNat))
  | .eql => some (.bool (a == b))
  | .neq => some (.bool (a != b))
  | .lss => some (.bool (decide (a < b)))
  | .leq => some (.bool (decide (a ≤ b)))
  | .gtr => some (.bool (decide (a > b)))
  | .geq => some (.bool (decide (a ≥ b)))
  | _ => none

/-- strings: codes below 256 are bytes; 256 + i is the i-th digit's sign -/
def strEq : List Nat → List Nat → Option Bool
  | [], [] => some true
  | [], _ :: _ => some false
  | _ :: _, [] => some false
  | a :: x, b :: y =>
    match Nat.beq a b with
    | true => strEq x y
    | false =>
      match Nat.blt a 256 && Nat.blt b 256 with
      | true => some false
      | false =>
        match (Nat.blt a 48 || (Nat.blt 57 a && Nat.blt a 256)) || (Nat.blt b 48 || (Nat.blt 57 b && Nat.blt b 256)) with
        | true => some false
        | false => match strEq x y with
          | some false => some false
          | _ => none

def digitForm (i : Nat) : Form := match i with
  | 0 => ⟨1, 0, 0, 0, 48, 0, 0⟩ | 1 => ⟨0, 1, 0, 0, 48, 0, 0⟩ | 2 => ⟨0, 0, 1, 0, 48, 0, 0⟩ | _ => ⟨0, 0, 0, 1, 48, 0, 0⟩
def byteV (c : Nat) : V := match Nat.blt c 256 with
  | true => .int .u8 (.ofNat c)
  | false => .sym .u8 (digitForm (c - 256))
def byteCode : V → Option Nat
  | .int .u8 (.ofNat n) => if n < 256 then some n else none
  | .sym .u8 f => if f = digitForm 0 then some 256 else if f = digitForm 1 then some 257 else if f = digitForm 2 then some 258 else if f = digitForm 3 then some 259 else none
  | _ => none

def absC : Value → Option V
  | .bool b => some (.bool b)
  | .int k n => some (.int k n)
  | .string s => some (.str (s.data.toList.map (·.toNat)))
  | .pointer none => some .nilp
  | .slice none 0 0 => some .nils
  | _ => none
def absL : List Value → Option (List V)
  | [] => some []
  | v :: l => match absC v with
    | some x => (match absL l with | some y => some (x :: y) | none => none)
    | none => none
def absV : Value → Option V
  | .agg cs => match absL cs.toList with | some l => some (.agg l) | none => none
  | v => absC v

variable (P : Program) (L : Nat)

def szOf (t : TypeId) : Option Nat := match P.info? t with | some i => some i.size | none => none
def bytesOf (t : TypeId) : Option Nat := match P.info? t with | some i => some i.bytes | none => none
def aggT (t : TypeId) : Option Bool := match P.underlying t with
  | some (.struct _) | some (.array _ _) => some true
  | some _ => some false
  | none => none
def zeroV (t : TypeId) : Option V := match P.info? t with
  | some i => (match i.zero with | some v => absV v | none => none)
  | none => none
def V.cells : V → List V
  | .agg l => l
  | v => [v]
def fieldAt (t : TypeId) (f : Nat) : Option (Nat × TypeId) := match P.underlying t with
  | some (.struct fs) => (match fs[f]? with | some x => some (x.offset, x.type) | none => none)
  | _ => none

def takeN : Nat → List V → Option (List V)
  | 0, _ => some []
  | _ + 1, [] => none
  | n + 1, x :: l => match takeN n l with | some y => some (x :: y) | none => none
def dropN : Nat → List V → List V
  | 0, l => l
  | _ + 1, [] => []
  | n + 1, _ :: l => dropN n l
def partOf (t : TypeId) (cs : List V) (off : Nat) : Option V :=
  match aggT P t, szOf P t with
  | some true, some n => (match takeN n (dropN off cs) with | some l => some (.agg l) | none => none)
  | some false, some _ => (match dropN off cs with | v :: _ => some v | [] => none)
  | _, _ => none

/-- cells -/
def loadN (c : Tr V) (off : Nat) : Nat → Option (List V)
  | 0 => some []
  | n + 1 => match c.get off with
    | some v => (match loadN c (off + 1) n with | some l => some (v :: l) | none => none)
    | none => none
def storeL (off : Nat) (c : Tr V) : List V → Tr V
  | [] => c
  | v :: l => storeL (off + 1) (c.put off v) l
def mkBlk (l : List V) : Blk := ⟨l.length, storeL 0 .nil l⟩

/-- a block with cells behind its last -/
def grown (k : Blk) (l : List V) : Blk := ⟨k.n + l.length, storeL k.n k.c l⟩

def loadAt (h : Tr Blk) (b off n : Nat) : Option (List V) := match h.get b with
  | some k => (match Nat.ble (off + n) k.n with | true => loadN k.c off n | false => none)
  | none => none
def storeAt (h : Tr Blk) (b off : Nat) (l : List V) : Option (Tr Blk) := match h.get b with
  | some k => (match Nat.ble (off + l.length) k.n with | true => some (h.put b ⟨k.n, storeL off k.c l⟩) | false => none)
  | none => none

def setAt : List V → Nat → List V → List V
  | cs, 0, p => p ++ dropN p.length cs
  | [], _ + 1, _ => []
  | c :: cs, n + 1, p => c :: setAt cs n p
def fillV (place : Nat → Option (Nat × Nat)) (cells : List V) : List (Nat × V) → Option (List V)
  | [] => some cells
  | (i, v) :: rest => match place i with
    | none => none
    | some (off, size) =>
      match Nat.beq v.cells.length size && Nat.ble (off + size) cells.length with
      | true => fillV place (setAt cells off v.cells) rest
      | false => none
def repl (z : List V) : Nat → List V
  | 0 => []
  | n + 1 => z ++ repl z n

def eqF (xs ys : List V) : List Field → Option Bool
  | [] => some true
  | f :: fs => match dropN f.offset xs, dropN f.offset ys, P.underlying f.type with
    | .int k a :: _, .int k' b :: _, some (.int _) => (match decide (k = k') with
      | true => (match decide (a = b) with | true => eqF xs ys fs | false => some false)
      | false => none)
    | .str a :: _, .str b :: _, some .string => (match strEq a b with
      | some true => eqF xs ys fs
      | some false => some false
      | none => none)
    | .bool a :: _, .bool b :: _, some .bool => (match a == b with | true => eqF xs ys fs | false => some false)
    | _, _, _ => none
def flatS (t : TypeId) : Option (List Field) := match P.underlying t with
  | some (.struct fs) => (match P.stoodInHeld t || P.eqGuardType P.depth t || fs.toList.any fun f => f.name == "_" with
    | true => none
    | false => some fs.toList)
  | _ => none
def ptrT (t : TypeId) : Bool := match P.underlying t with
  | some (.pointer _) => true
  | _ => false

def binV (op : BinOp) (t : TypeId) (x y : V) : Option V :=
  match x, y with
  | .int k a, .int k' b => (match op with
    | .shr => (match decide (0 ≤ b) with | true => some (.int k (a.fdiv (2 ^ min b.toNat k.bits))) | false => none)
    | _ => (match decide (k = k') with | true => intBin op k a b | false => none))
  | .sym k f, .int k' b => (match decide (k = k') with | true => symBin L op k f (.ofInt b) | false => none)
  | .int k a, .sym k' g => (match decide (k = k') with | true => symBin L op k (.ofInt a) g | false => none)
  | .sym k f, .sym k' g => (match decide (k = k') with | true => symBin L op k f g | false => none)
  | .str a, .str b => (match op with
    | .add => (match Nat.ble (a.length + b.length) 1000000 with | true => some (.str (a ++ b)) | false => none)
    | .eql => (match strEq a b with | some r => some (.bool r) | none => none)
    | .neq => (match strEq a b with | some r => some (.bool !r) | none => none)
    | _ => none)
  | .nilp, .nilp => (match ptrT P t, op with | true, .eql => some (.bool true) | true, .neq => some (.bool false) | _, _ => none)
  | .nilp, .ptr _ _ => (match ptrT P t, op with | true, .eql => some (.bool false) | true, .neq => some (.bool true) | _, _ => none)
  | .ptr _ _, .nilp => (match ptrT P t, op with | true, .eql => some (.bool false) | true, .neq => some (.bool true) | _, _ => none)
  | .agg a, .agg b => (match flatS P t with
    | some fs => (match op with
      | .eql => (match eqF P a b fs with | some r => some (.bool r) | none => none)
      | .neq => (match eqF P a b fs with | some r => some (.bool !r) | none => none)
      | _ => none)
    | none => none)
  | _, _ => none

def natOf : V → Option Nat
  | .int _ (.ofNat n) => some n
  | _ => none

def evO (tm : E) : Operand → V
  | .tmp t => match tm.look t with | some v => v | none => .junk
  | .const v => match absV v with | some x => x | none => .junk
  | _ => .junk
def evL (tm : E) : List Operand → List V
  | [] => []
  | x :: l => evO tm x :: evL tm l
def evP (tm : E) : List (Nat × Operand) → List (Nat × V)
  | [] => []
  | (i, x) :: l => (i, evO tm x) :: evP tm l

def bound (x : Option V) (d most : Nat) : Option Nat := match x with
  | none => some d
  | some v => match natOf v with
    | some n => (match Nat.ble n most with | true => some n | false => none)
    | none => none
def dropS : Nat → List Nat → List Nat
  | 0, l => l
  | _ + 1, [] => []
  | n + 1, _ :: l => dropS n l
def takeS : Nat → List Nat → List Nat
  | 0, _ => []
  | _ + 1, [] => []
  | n + 1, x :: l => x :: takeS n l
def nthS : Nat → List Nat → Option Nat
  | _, [] => none
  | 0, x :: _ => some x
  | n + 1, _ :: l => nthS n l
def nthV : Nat → List V → Option V
  | _, [] => none
  | 0, x :: _ => some x
  | n + 1, _ :: l => nthV n l

def aPick (c a b : V) : Option V := match c with
  | .bool true => some a
  | .bool false => some b
  | _ => none
def placesL : List Field → Option (List (Nat × Nat))
  | [] => some []
  | f :: fs => match szOf P f.type with
    | some n => (match placesL fs with | some l => some ((f.offset, n) :: l) | none => none)
    | none => none
def placesT (t : TypeId) : Option (List (Nat × Nat)) := match P.underlying t with
  | some (.struct fs) => placesL P fs.toList
  | _ => none
def nthP : Nat → List (Nat × Nat) → Option (Nat × Nat)
  | _, [] => none
  | 0, x :: _ => some x
  | n + 1, _ :: l => nthP n l
def noTup : List (Nat × V) → Bool
  | [] => true
  | (_, .tup _) :: _ => false
  | (_, .junk) :: _ => false
  | _ :: l => noTup l
def aBuild (t : TypeId) (parts : List (Nat × V)) : Option V := match zeroV P t, noTup parts with
  | some z, true => (match P.underlying t with
    | some (.struct _) => (match placesT P t with
      | some ps => (match fillV (fun i => nthP i ps) z.cells parts with | some l => some (.agg l) | none => none)
      | none => none)
    | some (.array _ e) => (match szOf P e with
      | some n => (match fillV (fun i => some (i * n, n)) z.cells parts with | some l => some (.agg l) | none => none)
      | none => none)
    | _ => none)
  | _, _ => none
def aUn (op : UnOp) (x : V) : Option V := match op, x with
  | .not, .bool b => some (.bool !b)
  | .neg, .int k n => some (.int k (k.wrap (0 - n)))
  | _, _ => none
def aConv (s d : TypeId) (x : V) : Option V := match P.underlying s, P.underlying d, x with
  | some _, some (.int k), .int _ n => some (.int k (k.wrap n))
  | some _, some (.int k), .sym _ f => mkV L k f
  | _, _, _ => none
def aSlice (t : TypeId) (x : V) (lo hi : Option V) : Option V := match P.underlying t, x with
  | some .string, .str s => (match bound hi s.length s.length with
    | some h => (match bound lo 0 h with
      | some l => some (.str (takeS (h - l) (dropS l s)))
      | none => none)
    | none => none)
  | some (.slice e), .slice b off len cap z => (match bound hi len len, szOf P e with
    | some h, some z' => (match bound lo 0 h with
      | some l => (match Nat.blt l cap && Nat.beq z z' && Nat.ble len cap with
        | true => some (.slice b (off + l * z) (h - l) (cap - l) z)
        | false => (match Nat.beq l h && Nat.ble len cap with
          | true => some (.slice b off 0 0 0)
          | false => none))
      | none => none)
    | _, _ => none)
  | some (.array n e), .ptr b off => (match bound hi n n, szOf P e with
    | some h, some z => (match bound lo 0 h with
      | some l => (match Nat.blt l n with
        | true => some (.slice b (off + l * z) (h - l) (h - l) 0)
        | false => none)
      | none => none)
    | _, _ => none)
  | _, _ => none
def aFieldAddr (s : TypeId) (x : V) (f : Nat) : Option V := match fieldAt P s f, x with
  | some (o, u), .ptr b off => (match szOf P u with | some (_ + 1) => some (.ptr b (off + o)) | _ => none)
  | _, _ => none
def aField (s : TypeId) (x : V) (f : Nat) : Option V := match fieldAt P s f, x with
  | some (o, u), .agg cs => partOf P u cs o
  | _, _ => none
def aIndexAddr (t : TypeId) (x ix : V) : Option V := match natOf ix, x, P.underlying t with
  | some i, .ptr b off, some (.array n e) => (match Nat.blt i n, szOf P e with | true, some z => some (.ptr b (off + i * z)) | _, _ => none)
  | some i, .slice b off len _ _, some (.slice e) => (match Nat.blt i len, szOf P e with | true, some z => some (.ptr b (off + i * z)) | _, _ => none)
  | _, _, _ => none
def aIndex (t : TypeId) (x ix : V) : Option V := match natOf ix, x, P.underlying t with
  | some i, .str s, some .string => (match nthS i s with | some c => some (byteV c) | none => none)
  | _, _, _ => none
def aLen (t : TypeId) (x : V) : Option V := match P.underlying t, x with
  | some .string, .str s => some (.int .i64 (.ofNat s.length))
  | some (.slice _), .slice _ _ n _ _ => some (.int .i64 (.ofNat n))
  | some (.slice _), .nils => some (.int .i64 0)
  | some (.array n _), _ => some (.int .i64 (.ofNat n))
  | some (.pointer a), _ => (match P.underlying a with | some (.array n _) => some (.int .i64 (.ofNat n)) | _ => none)
  | _, _ => none

/-- operations that look at the temporaries alone -/
def pureOp (tm : E) (op : Op) : Option V :=
  match op with
  | .move x | .assign x => some (evO tm x)
  | .pick c a b => aPick (evO tm c) (evO tm a) (evO tm b)
  | .build t parts => aBuild P t (evP tm parts.toList)
  | .nilCheck x => (match evO tm x with | .ptr b o => some (.ptr b o) | _ => none)
  | .binOp op t x y _ => binV P L op t (evO tm x) (evO tm y)
  | .unOp op _ x => aUn op (evO tm x)
  | .convert s d x => aConv P L s d (evO tm x)
  | .slice t x lo hi none => aSlice P t (evO tm x) (lo.map (evO tm)) (hi.map (evO tm))
  | .fieldAddr s x f => aFieldAddr P s (evO tm x) f
  | .field s x f => aField P s (evO tm x) f
  | .indexAddr t x ix => aIndexAddr P t (evO tm x) (evO tm ix)
  | .index t x ix => aIndex P t (evO tm x) (evO tm ix)
  | .extract x i => (match evO tm x with | .tup vs => nthV i vs | _ => none)
  | .call { callee := .builtin .len, args, argTypes } => (match args.toList, argTypes.toList with
    | [x], [t] => aLen P t (evO tm x)
    | _, _ => none)
  | _ => none

def codesOf : List V → Option (List Nat)
  | [] => some []
  | x :: l => match byteCode x with
    | some c => (match codesOf l with | some y => some (c :: y) | none => none)
    | none => none

/-- operations that read the heap besides -/
def readOp (tm : E) (h : Tr Blk) (op : Op) : Option V :=
  match op with
  | .load t a => (match evO tm a, aggT P t, szOf P t with
    | .ptr b off, some true, some n => (match loadAt h b off n with | some l => some (.agg l) | none => none)
    | .ptr b off, some false, some 1 => (match loadAt h b off 1 with | some (v :: _) => some v | _ => none)
    | _, _, _ => none)
  | .convert s d x => (match P.underlying s, P.underlying d, evO tm x with
    | some (.slice e), some .string, .slice b off len _ z => (match P.underlying e, Nat.blt 0 (len + z) with
      | some (.int .u8), true => (match loadAt h b off len with
        | some l => (match codesOf l with | some s => some (.str s) | none => none)
        | none => none)
      | _, _ => none)
    | _, _, _ => none)
  | _ => none

def lenV : V → Option Nat
  | .slice _ _ n _ _ => some n
  | .nils => some 0
  | .str s => some s.length
  | _ => none

/-- operations that turn the heap: the value, the heap, the next number -/
def effOp (tm : E) (h : Tr Blk) (nx : Nat) (op : Op) : Option (V × Tr Blk × Nat) :=
  match op with
  | .alloc t => (match zeroV P t with | some z => some (.ptr nx 0, h.put nx (mkBlk z.cells), nx + 1) | none => none)
  | .box _ x => (match evO tm x with
    | .tup _ => none
    | .junk => none
    | v => some (.ptr nx 0, h.put nx (mkBlk v.cells), nx + 1))
  | .buildSlice t len parts => (match P.underlying t with
    | some (.slice e) => (match zeroV P e, szOf P e with
      | some z, some (n + 1) => (match Nat.ble (len * (n + 1)) 4096 && Nat.beq z.cells.length (n + 1) && Nat.blt 0 len && noTup (evP tm parts.toList) with
        | true => (match fillV (fun i => some (i * (n + 1), n + 1)) (repl z.cells len) (evP tm parts.toList) with
          | some l => some (.slice nx 0 len len (n + 1), h.put nx (mkBlk l), nx + 1)
          | none => none)
        | false => none)
      | _, _ => none)
    | _ => none)
  | .makeSlice t l c => (match P.underlying t, natOf (evO tm l), natOf (evO tm c) with
    | some (.slice e), some len, some cap => (match zeroV P e, szOf P e, bytesOf P e with
      | some z, some (n + 1), some y => (match Nat.ble len cap && Nat.ble (cap * y) 1000000 && Nat.beq z.cells.length (n + 1) && Nat.ble cap 1000000 with
        | true => some (.slice nx 0 len cap (n + 1), h.put nx (mkBlk (repl z.cells cap)), nx + 1)
        | false => none)
      | _, _, _ => none)
    | _, _, _ => none)
  | .store t a x => (match evO tm a, evO tm x, szOf P t with
    | .ptr _ _, .tup _, _ => none
    | .ptr _ _, .junk, _ => none
    | .ptr b off, v, some n => (match Nat.beq v.cells.length n with
      | true => (match storeAt h b off v.cells with | some h' => some (.undef, h', nx) | none => none)
      | false => none)
    | _, _, _ => none)
  | .call { callee := .builtin .append, args, argTypes } => (match args.toList, argTypes.toList with
    | [s, x], [t, t'] => (match P.underlying t with
      | some (.slice e) => (match szOf P e, bytesOf P e, zeroV P e, evO tm x with
        | some (z + 1), some y, some zv, .slice xb xo n _ _ => (match Nat.beq t t' && Nat.blt 0 n && Nat.beq zv.cells.length (z + 1), loadAt h xb xo (n * (z + 1)) with
          | true, some new => (match evO tm s with
            | .nils => (match Nat.ble (n * y) 1000000 && Nat.ble n 1000000 with
              | true => some (.slice nx 0 n n (z + 1), h.put nx (mkBlk new), nx + 1)
              | false => none)
            | .slice b off len cap z' => (match Nat.beq z' (z + 1) with
              | true => (match Nat.ble (len + n) cap with
                | true => (match storeAt h b (off + len * (z + 1)) new with | some h' => some (.slice b off (len + n) cap (z + 1), h', nx) | none => none)
                | false => (match h.get b with
                  | some k => (match Nat.beq k.n (cap * (z + 1)) && Nat.beq off 0 && Nat.ble ((len + n) * y) 1000000 && Nat.ble (len + n) 1000000 && Nat.beq len cap with
                    | true => some (.slice nx 0 (len + n) (len + n) (z + 1), (h.cutAt b).put nx (grown k new), nx + 1)
                    | false => none)
                  | none => none))
              | false => none)
            | _ => none)
          | _, _ => none)
        | _, _, _, _ => none)
      | _ => none)
    | _, _ => none)
  | .call { callee := .builtin .copy, args, argTypes } => (match args.toList, argTypes.toList with
    | [d, x], t :: _ => (match P.underlying t with
      | some (.slice e) => (match szOf P e, lenV (evO tm d), lenV (evO tm x) with
        | some z, some n, some k => (match evO tm d, evO tm x with
          | .slice b off _ _ dz, .slice xb xo _ _ xz => (match Nat.blt 0 (n + dz) && Nat.blt 0 (k + xz), loadAt h xb xo (Nat.min k n * z) with
            | true, some new => (match storeAt h b off new with | some h' => some (.int .i64 (.ofNat (Nat.min k n)), h', nx) | none => none)
            | _, _ => none)
          | _, _ => none)
        | _, _, _ => none)
      | _ => none)
    | _, _ => none)
  | _ => none

def putT (nt : Nat) (tm : E) (d : Option Tmp) (v : V) : Option E := match d with
  | some t => (match Nat.blt t nt with | true => some (tm.put t v) | false => none)
  | none => some tm

def wantA (ops : Array Oper) (tm : E) (o : Oper) : Option Bool := match o.guard with
  | none => some true
  | some (j, want) => match ops[j]? with
    | some q => (match q.dst with
      | some t => (match evO tm (.tmp t) with
        | .bool b => some (b == want)
        | .tup [] => some false
        | _ => none)
      | none => some false)
    | none => some false

/-- what one operation yields: the value, the heap, the next number -/
def opA (call : FuncId → List V → Tr Blk → Nat → Option (V × Tr Blk × Nat)) (o : Oper) (s : St) : Option (V × Tr Blk × Nat) :=
  match pureOp P L s.tm o.op with
  | some v => some (v, s.hp, s.nx)
  | none => match readOp P s.tm s.hp o.op with
    | some v => some (v, s.hp, s.nx)
    | none => match o.op with
      | .call { callee := .value (.func f), args, .. } => call f (evL s.tm args.toList) s.hp s.nx
      | op => effOp P s.tm s.hp s.nx op

/-- one operation -/
def stepA (call : FuncId → List V → Tr Blk → Nat → Option (V × Tr Blk × Nat)) (ops : Array Oper) (o : Oper) (s : St) : Option St :=
  match wantA ops s.tm o with
  | none => none
  | some false => (match putT s.nt s.tm o.dst .undef with | some tm => some ⟨tm, s.hp, s.nx, s.nt⟩ | none => none)
  | some true => (match opA P L call o s with
    | some (v, h, n) => (match putT s.nt s.tm o.dst v with | some tm => some ⟨tm, h, n, s.nt⟩ | none => none)
    | none => none)
def stepsA (call : FuncId → List V → Tr Blk → Nat → Option (V × Tr Blk × Nat)) (ops : Array Oper) : List Oper → St → Option St
  | [], s => some s
  | o :: l, s => match stepA P L call ops o s with
    | some s' => stepsA call ops l s'
    | none => none

/-! regions that draw their order -/
structure Plan where
  pairs : List (Nat × Nat)
  allocs : List (Nat × TypeId)

def sameC : V → V → Bool
  | .bool a, .bool b => a == b
  | .int k a, .int k' b => decide (k = k') && decide (a = b)
  | .sym k f, .sym k' g => decide (k = k') && decide (f = g)
  | .str a, .str b => decide (a = b)
  | .nilp, .nilp => true
  | .ptr b o, .ptr b' o' => Nat.beq b b' && Nat.beq o o'
  | .nils, .nils => true
  | .slice b o l c z, .slice b' o' l' c' z' => Nat.beq b b' && Nat.beq o o' && Nat.beq l l' && Nat.beq c c' && Nat.beq z z'
  | .raw i, .raw j => Nat.beq i j
  | _, _ => false
def sameCs : List V → List V → Bool
  | [], [] => true
  | x :: l, y :: m => sameC x y && sameCs l m
  | _, _ => false
def sameA : V → V → Bool
  | .agg l, .agg m => sameCs l m
  | x, y => sameC x y

def holdsL (c : Tr V) : Nat → List V → Bool
  | _, [] => true
  | i, x :: l => match c.get i with
    | some y => (match sameC x y with | true => holdsL c (i + 1) l | false => false)
    | none => false
def isZero (h : Tr Blk) (b : Nat) (l : List V) : Bool := match h.get b with
  | some k => (match Nat.beq k.n l.length with | true => holdsL k.c 0 l | false => false)
  | none => false

/-- what an operation that only reads (or finds the block that was laid for it) yields -/
def rdOp (base k : Nat) (tm : E) (h : Tr Blk) (op : Op) : Option V := match op with
  | .alloc t => (match zeroV P t with
    | some z => (match isZero h (base + k) z.cells with | true => some (.ptr (base + k) 0) | false => none)
    | none => none)
  | .makeSlice t l c => (match P.underlying t, natOf (evO tm l), natOf (evO tm c) with
    | some (.slice e), some len, some cap => (match zeroV P e, szOf P e, bytesOf P e with
      | some z, some (n + 1), some y => (match Nat.ble len cap && Nat.ble (cap * y) 1000000 && Nat.beq z.cells.length (n + 1) && Nat.ble cap 1000000 && isZero h (base + k) (repl z.cells cap) with
        | true => some (.slice (base + k) 0 len cap (n + 1))
        | false => none)
      | _, _, _ => none)
    | _, _, _ => none)
  | op => readOp P tm h op

def stepD (call : FuncId → List V → Tr Blk → Nat → Option (V × Tr Blk × Nat)) (ops : Array Oper) (base k : Nat) (o : Oper) (s : St) : Option St :=
  match o.op, o.guard with
  | .alloc t, none => (match rdOp P base k s.tm s.hp (.alloc t) with
    | some v => (match putT s.nt s.tm o.dst v with | some tm => some ⟨tm, s.hp, s.nx, s.nt⟩ | none => none)
    | none => none)
  | .makeSlice t l c, none => (match rdOp P base k s.tm s.hp (.makeSlice t l c) with
    | some v => (match putT s.nt s.tm o.dst v with | some tm => some ⟨tm, s.hp, s.nx, s.nt⟩ | none => none)
    | none => none)
  | _, _ => stepA P L call ops o s
/-- the blocks of the slices that the region makes, found by a run in the text's order -/
def makesA (call : FuncId → List V → Tr Blk → Nat → Option (V × Tr Blk × Nat)) (ops : Array Oper) : Nat → List Oper → St → List (Nat × Blk)
  | _, [], _ => []
  | k, o :: l, s => match stepA P L call ops o s with
    | some s' => (match o.op, o.guard, s'.hp.get s.nx with
      | .makeSlice .., none, some b => (k, b) :: makesA call ops (k + 1) l s'
      | _, _, _ => makesA call ops (k + 1) l s')
    | none => []
def layB (base m : Nat) (h : Tr Blk) : List (Nat × Blk) → Tr Blk
  | [] => h
  | (i, b) :: l => match Nat.blt i m with
    | true => layB base m (h.put (base + i) b) l
    | false => layB base m h l
def isMake (o : Oper) : Bool := match o.op, o.guard with | .makeSlice .., none => true | _, _ => false
def stepsD (call : FuncId → List V → Tr Blk → Nat → Option (V × Tr Blk × Nat)) (ops : Array Oper) (base : Nat) : Nat → List Oper → St → Option (List St)
  | _, [], s => some [s]
  | k, o :: l, s => match stepD P L call ops base k o s with
    | some s' => (match stepsD call ops base (k + 1) l s' with | some tr => some (s :: tr) | none => none)
    | none => none
def layA (base : Nat) (h : Tr Blk) : List (Nat × TypeId) → Option (Tr Blk)
  | [] => some h
  | (i, t) :: l => match zeroV P t with
    | some z => layA base (h.put (base + i) (mkBlk z.cells)) l
    | none => none
def nthT : Nat → List St → Option St
  | _, [] => none
  | 0, x :: _ => some x
  | n + 1, _ :: l => nthT n l
def pairOk (ops : Array Oper) (base : Nat) (tr : List St) (p : Nat × Nat) : Bool :=
  match ops[p.1]?, nthT p.1 tr, nthT p.2 tr, nthT (p.2 + 1) tr with
  | some o, some si, some se, some se' => (match wantA ops si.tm o with
    | some false => true
    | some true => (match pureOp P L si.tm o.op with
      | some _ => true
      | none => (match rdOp P base p.1 si.tm si.hp o.op, rdOp P base p.1 si.tm se.hp o.op, rdOp P base p.1 si.tm se'.hp o.op with
        | some a, some b, some c => sameA a b && sameA a c
        | _, _, _ => false))
    | none => false)
  | _, _, _, _ => false
def lastT : List St → Option St
  | [] => none
  | [s] => some s
  | _ :: l => lastT l
def laidA (call : FuncId → List V → Tr Blk → Nat → Option (V × Tr Blk × Nat)) (ops : Array Oper) (s : St) (h : Tr Blk) : Tr Blk := match ops.toList.any isMake with
  | true => layB s.nx ops.size h (makesA P L call ops 0 ops.toList s)
  | false => h
def drawnA (call : FuncId → List V → Tr Blk → Nat → Option (V × Tr Blk × Nat)) (ops : Array Oper) (pl : Plan) (s : St) : Option St :=
  match layA P s.nx s.hp pl.allocs with
  | some h => (match stepsD P L call ops s.nx 0 ops.toList ⟨s.tm, laidA P L call ops s h, s.nx + ops.size, s.nt⟩ with
    | some tr => (match pl.pairs.all (pairOk P L ops s.nx tr) with
      | true => lastT tr
      | false => none)
    | none => none)
  | none => none

/-- the region's own shape -/
def effB : Op → Bool
  | .store .. | .box .. | .buildSlice .. | .makeSlice .. => true
  | .call { callee := .builtin .len, .. } => false
  | .call _ => true
  | _ => false
def isEff (o : Oper) : Bool := match o.op with
  | .alloc _ => o.guard.isSome
  | .makeSlice .. => o.guard.isSome
  | op => effB op
def isRd (o : Oper) : Bool := match o.op with
  | .alloc _ => o.guard.isNone
  | .makeSlice .. => o.guard.isNone
  | .load .. | .convert .. => true
  | _ => false
def bitOf (m : Array Nat) (j i : Nat) : Bool := (m.getD j 0).testBit i
def edgesOk (ops : Array Oper) : Bool := (List.range ops.size).all fun j => match ops[j]? with
  | some o => o.after.all fun e => !Region.binds .any e || decide (e.on < j)
  | none => true
def masksOk (ops : Array Oper) (m : Array Nat) : Bool := (List.range ops.size).all fun j => match ops[j]? with
  | some o => (List.range j).all fun i => !bitOf m j i || o.after.any fun e => Region.binds .any e && (e.on == i || (bitOf m e.on i && decide (i < e.on)))
  | none => true
def looseOk (ops : Array Oper) (m : Array Nat) (pl : Plan) : Bool := (List.range ops.size).all fun j => (List.range j).all fun i => match ops[i]?, ops[j]? with
  | some x, some y => bitOf m j i || (x.apart ops y && !(isEff x && isEff y) && (!(isRd x && isEff y) || pl.pairs.contains (i, j)) && (!(isEff x && isRd y) || pl.pairs.contains (j, i)))
  | _, _ => true
def allocOf (ops : Array Oper) (j : Nat) : Option TypeId := match ops[j]? with
  | some o => (match o.op, o.guard with | .alloc t, none => some t | .makeSlice t _ _, none => some t | _, _ => none)
  | none => none
def allocsOf (ops : Array Oper) : List (Nat × TypeId) := (List.range ops.size).filterMap fun j => (allocOf ops j).map fun t => (j, t)
def regOk (ops : Array Oper) (pl : Plan) : Bool := edgesOk ops && masksOk ops (Region.before ops) && looseOk ops (Region.before ops) pl && decide (pl.allocs = allocsOf ops)

def tmOf (i : Nat) (tm : E) : List V → E
  | [] => tm
  | v :: l => tmOf (i + 1) (tm.put i v) l

def resV (tm : E) (h : Tr Blk) : ResultVar → Option V
  | .tmp t => some (evO tm (.tmp t))
  | .cell a t => (match evO tm (.tmp a), aggT P t, szOf P t with
    | .ptr b off, some true, some n => (match loadAt h b off n with | some l => some (.agg l) | none => none)
    | .ptr b off, some false, some 1 => (match loadAt h b off 1 with | some (v :: _) => some v | _ => none)
    | _, _, _ => none)
def resL (tm : E) (h : Tr Blk) : List ResultVar → Option (List V)
  | [] => some []
  | r :: l => match resV P tm h r with
    | some v => (match resL tm h l with | some vs => some (v :: vs) | none => none)
    | none => none

def noTupV : List V → Bool
  | [] => true
  | .tup _ :: _ => false
  | .junk :: _ => false
  | _ :: l => noTupV l

/-- every region of the code that draws its order has the shape that its plan says -/
def planB (plan : FuncId → Nat → Plan) (f : FuncId) : Code → Bool
  | .region id ops true => regOk ops (plan f id)
  | .seq a b => planB plan f a && planB plan f b
  | .cond _ a b => planB plan f a && planB plan f b
  | .block _ b => planB plan f b
  | .loop b => planB plan f b
  | _ => true

def exec (plan : FuncId → Nat → Plan) (far : FuncId → Nat) (orc : FuncId → List V → Option V) : Nat → FuncId → Code → St → Option (Ex × St)
  | 0, _, _, _ => none
  | n + 1, fc, c, s => match c with
    | .skip => some (.normal, s)
    | .region id ops d => (match (match d with | true => drawnA P L | false => fun call ops _ s => stepsA P L call ops ops.toList s) (fun f args h nx =>
          match orc f args with
          | some v => some (v, h, nx)
          | none => match P.funcs[f]? with
          | some fn => (match fn.body with
            | some b => (match Nat.ble args.length fn.ntmps with | false => none | true => match exec plan far orc n f b ⟨tmOf 0 (.of (far f)) args, h, nx, fn.ntmps⟩ with
              | some (.exit _, _) => none
              | some (_, s') => (match resL P s'.tm s'.hp fn.results.toList with
                | some [v] => some (v, s'.hp, s'.nx)
                | some vs => (match noTupV vs with | true => some (.tup vs, s'.hp, s'.nx) | false => none)
                | none => none)
              | none => none)
            | none => none)
          | none => none) ops (plan fc id) ⟨s.tm.anew, s.hp, s.nx, s.nt⟩ with
      | some s' => some (.normal, s')
      | none => none)
    | .seq a b => (match exec plan far orc n fc a s with
      | some (.normal, s') => exec plan far orc n fc b s'
      | r => r)
    | .cond x a b => (match evO s.tm x with
      | .bool true => exec plan far orc n fc a s
      | .bool false => exec plan far orc n fc b s
      | _ => none)
    | .block id b => (match exec plan far orc n fc b s with
      | some (.exit i, s') => (match Nat.beq i id with | true => some (.normal, s') | false => some (.exit i, s'))
      | r => r)
    | .loop b => (match exec plan far orc n fc b s with
      | some (.normal, s') => exec plan far orc n fc (.loop b) s'
      | r => r)
    | .exit id => some (.exit id, s)
    | .ret => some (.ret, s)
    | _ => none

end Go.Abs
