import Derived.Test.YtmohklalmohilaaGreatExec
import Derived.Still
namespace Go.Abs

section
variable {P : Program} {L : Nat}

theorem evP_congr {tm tm' : E} : ∀ (l : List (Nat × Operand)), (∀ x ∈ l.map (·.2), evO tm x = evO tm' x) → evP tm l = evP tm' l
  | [], _ => rfl
  | (i, x) :: l, h => by
    simp only [evP]
    rw [h x (by simp), evP_congr l fun y hy => h y (by simp at hy ⊢; exact .inr hy)]
theorem evL_congr {tm tm' : E} : ∀ (l : List Operand), (∀ x ∈ l, evO tm x = evO tm' x) → evL tm l = evL tm' l
  | [], _ => rfl
  | x :: l, h => by
    simp only [evL]
    rw [h x (by simp), evL_congr l fun y hy => h y (by simp [hy])]

def Same (tm tm' : E) (op : Op) : Prop := ∀ x ∈ op.operands, evO tm x = evO tm' x

theorem pureOp_congr {tm tm' : E} {op : Op} (h : Same tm tm' op) : pureOp P L tm op = pureOp P L tm' op := by
  unfold Same at h
  cases op <;> simp only [Op.operands] at h <;> try rfl
  case move x => simp only [pureOp, h x (by simp)]
  case assign x => simp only [pureOp, h x (by simp)]
  case pick c a b => simp only [pureOp, h c (by simp), h a (by simp), h b (by simp)]
  case build t ps => simp only [pureOp]; rw [evP_congr ps.toList fun x hx => h x (by simpa using hx)]
  case nilCheck x => simp only [pureOp, h x (by simp)]
  case binOp op t x y t' => simp only [pureOp, h x (by simp), h y (by simp)]
  case unOp op t x => simp only [pureOp, h x (by simp)]
  case convert s d x => simp only [pureOp, h x (by simp)]
  case slice t x lo hi mx =>
    cases mx with
    | some m => rfl
    | none =>
      have h1 : lo.map (evO tm) = lo.map (evO tm') := by cases lo with
        | none => rfl
        | some y => simp only [Option.map_some]; rw [h y (by simp)]
      have h2 : hi.map (evO tm) = hi.map (evO tm') := by cases hi with
        | none => rfl
        | some y => simp only [Option.map_some]; rw [h y (by simp)]
      simp only [pureOp, h x (by simp), h1, h2]
  case fieldAddr s x f => simp only [pureOp, h x (by simp)]
  case field s x f => simp only [pureOp, h x (by simp)]
  case indexAddr t x i => simp only [pureOp, h x (by simp), h i (by simp)]
  case index t x i => simp only [pureOp, h x (by simp), h i (by simp)]
  case extract x i => simp only [pureOp, h x (by simp)]
  case call c =>
    obtain ⟨callee, args, tys⟩ := c
    cases callee with
    | builtin b =>
      cases b <;> try rfl
      simp only [pureOp]
      split
      · rename_i x t hx ht
        rw [h x (by simp [Call.operands]; rw [← Array.mem_toList_iff, hx]; simp)]
      · rfl
    | value f => rfl
    | invoke r m => rfl

theorem readOp_congr {tm tm' : E} {hp : Tr Blk} {op : Op} (h : Same tm tm' op) : readOp P tm hp op = readOp P tm' hp op := by
  unfold Same at h
  cases op <;> simp only [Op.operands] at h <;> try rfl
  case load t a => simp only [readOp, h a (by simp)]
  case convert s d x => simp only [readOp, h x (by simp)]

theorem effOp_congr {tm tm' : E} {hp : Tr Blk} {nx : Nat} {op : Op} (h : Same tm tm' op) : effOp P tm hp nx op = effOp P tm' hp nx op := by
  unfold Same at h
  cases op <;> simp only [Op.operands] at h <;> try rfl
  case box t x => simp only [effOp, h x (by simp)]
  case buildSlice t n ps => simp only [effOp]; rw [evP_congr ps.toList fun x hx => h x (by simpa using hx)]
  case makeSlice t l c => simp only [effOp, h l (by simp), h c (by simp)]
  case store t a x => simp only [effOp, h a (by simp), h x (by simp)]
  case call c =>
    obtain ⟨callee, args, tys⟩ := c
    cases callee with
    | builtin b =>
      have e : ∀ z, z ∈ args.toList → evO tm z = evO tm' z := fun z hz => h z (by simp [Call.operands]; simpa using hz)
      cases b <;> try rfl
      · simp only [effOp]
        split
        · rename_i x y t t' hx ht
          rw [hx] at e
          rw [e x (by simp), e y (by simp)]
        · rfl
      · simp only [effOp]
        split
        · rename_i x y t t' hx ht
          rw [hx] at e
          rw [e x (by simp), e y (by simp)]
        · rfl
    | value f => rfl
    | invoke r m => rfl

theorem opA_congr {call : FuncId → List V → Tr Blk → Nat → Option (V × Tr Blk × Nat)} {o : Oper} {s s' : St} (h : Same s.tm s'.tm o.op) (h1 : s.hp = s'.hp) (h2 : s.nx = s'.nx) :
    opA P L call o s = opA P L call o s' := by
  unfold opA
  rw [pureOp_congr h, readOp_congr h, h1, h2]
  split
  · rfl
  · split
    · rfl
    · split
      · rename_i f args tys hop
        rw [evL_congr args.toList fun x hx => h x (by rw [hop]; simp [Op.operands, Call.operands]; exact .inr (by simpa using hx))]
      · rw [effOp_congr h]

theorem sameC_eq {x y : V} (h : sameC x y = true) : x = y := by
  unfold sameC at h
  split at h <;> first
    | rfl
    | (simp only [Bool.and_eq_true, Nat.beq_eq, decide_eq_true_eq, beq_iff_eq] at h; simp_all; done)
    | (cases h; done)
theorem sameCs_eq : ∀ {l m : List V}, sameCs l m = true → l = m
  | [], [], _ => rfl
  | [], _ :: _, h => by simp [sameCs] at h
  | _ :: _, [], h => by simp [sameCs] at h
  | x :: l, y :: m, h => by
    simp only [sameCs, Bool.and_eq_true] at h
    rw [sameC_eq h.1, sameCs_eq h.2]
theorem sameA_eq {x y : V} (h : sameA x y = true) : x = y := by
  unfold sameA at h
  split at h
  · rw [sameCs_eq h]
  · exact sameC_eq h

theorem holdsL_get {c : Tr V} : ∀ {l : List V} {i : Nat}, holdsL c i l = true → ∀ j, j < l.length → c.get (i + j) = l[j]?
  | [], i, _, j, hj => by simp at hj
  | x :: l, i, h, j, hj => by
    simp only [holdsL] at h
    split at h
    · rename_i y hy
      split at h
      · rename_i hs
        have := sameC_eq hs
        subst this
        cases j with
        | zero => simpa using hy
        | succ j =>
          have := holdsL_get h j (by simpa using hj)
          rw [show i + (j + 1) = i + 1 + j by omega, this]
          simp
      · cases h
    · cases h

end
end Go.Abs
