import Derived.Test.YtfhcoiogdgfkcaaGreatAbs
import Derived.RowKit3
import Derived.Laws.Sem
import Derived.Laws.Cells
import Derived.Laws.World
import Derived.Laws.Append
namespace Go.Abs

theorem nbeq_false {a b : Nat} (h : a ≠ b) : Nat.beq a b = false := by
  cases hb : Nat.beq a b with
  | true => exact absurd (Nat.eq_of_beq_eq_true hb) h
  | false => rfl
theorem nbeq_true {a b : Nat} (h : a = b) : Nat.beq a b = true := by subst h; exact Nat.beq_refl a
theorem half_inj {k n : Nat} (h1 : k % 2 = n % 2) (h2 : k / 2 = n / 2) : k = n := by omega

theorem Tr.get_nil {α : Type} (m : Nat) : (Tr.nil : Tr α).get m = none := by cases m <;> rfl
theorem Tr.get_node_zero {α : Type} (l r : Tr α) (v : Option α) : (Tr.node l v r).get 0 = v := rfl
theorem Tr.get_node_succ {α : Type} (l r : Tr α) (v : Option α) (k : Nat) : (Tr.node l v r).get (k + 1) = if k % 2 = 0 then l.get (k / 2) else r.get (k / 2) := by
  show (match Nat.beq (k % 2) 0 with | true => l.get (k / 2) | false => r.get (k / 2)) = _
  by_cases h : k % 2 = 0
  · simp [h]
  · simp [h, nbeq_false h]

theorem Tr.get_set {α : Type} (v : α) : ∀ (f n : Nat) (t : Tr α) (m : Nat), n < f → (Tr.set v f n t).get m = if m = n then some v else t.get m
  | 0, _, _, _, h => absurd h (Nat.not_lt_zero _)
  | f + 1, 0, .nil, m, _ => by
    cases m with
    | zero => rfl
    | succ m => simp [Tr.set, Tr.get_node_succ, Tr.get_nil]
  | f + 1, 0, .node l x r, m, _ => by
    cases m with
    | zero => rfl
    | succ m => simp [Tr.set, Tr.get_node_succ]
  | f + 1, k + 1, t, m, h => by
    have hk : k / 2 < f := by omega
    have ih := fun (t : Tr α) (m : Nat) => Tr.get_set v f (k / 2) t m hk
    by_cases hp : k % 2 = 0
    · have hb : Nat.beq (k % 2) 0 = true := nbeq_true hp
      cases t with
      | nil =>
        simp only [Tr.set, hb]
        cases m with
        | zero => simp [Tr.get_node_zero, Tr.get_nil]
        | succ m =>
          simp only [Tr.get_node_succ, Tr.get_nil, ih]
          by_cases hm : m % 2 = 0
          · simp only [hm, if_true]
            by_cases he : m / 2 = k / 2
            · have : m = k := half_inj (by omega) he
              simp [this]
            · have : m ≠ k := fun e => he (by rw [e])
              simp [this, he]
          · have : m ≠ k := fun e => hm (by rw [e]; exact hp)
            simp [hm, this]
      | node l x r =>
        simp only [Tr.set, hb]
        cases m with
        | zero => simp [Tr.get_node_zero]
        | succ m =>
          simp only [Tr.get_node_succ, ih]
          by_cases hm : m % 2 = 0
          · simp only [hm, if_true]
            by_cases he : m / 2 = k / 2
            · have : m = k := half_inj (by omega) he
              simp [this]
            · have : m ≠ k := fun e => he (by rw [e])
              simp [this, he]
          · have : m ≠ k := fun e => hm (by rw [e]; exact hp)
            simp [hm, this]
    · have hb : Nat.beq (k % 2) 0 = false := nbeq_false hp
      cases t with
      | nil =>
        simp only [Tr.set, hb]
        cases m with
        | zero => simp [Tr.get_node_zero, Tr.get_nil]
        | succ m =>
          simp only [Tr.get_node_succ, Tr.get_nil, ih]
          by_cases hm : m % 2 = 0
          · have : m ≠ k := fun e => hp (by rw [← e]; exact hm)
            simp [hm, this]
          · simp only [hm, if_false]
            by_cases he : m / 2 = k / 2
            · have : m = k := half_inj (by omega) he
              simp [this]
            · have : m ≠ k := fun e => he (by rw [e])
              simp [this, he]
      | node l x r =>
        simp only [Tr.set, hb]
        cases m with
        | zero => simp [Tr.get_node_zero]
        | succ m =>
          simp only [Tr.get_node_succ, ih]
          by_cases hm : m % 2 = 0
          · have : m ≠ k := fun e => hp (by rw [← e]; exact hm)
            simp [hm, this]
          · simp only [hm, if_false]
            by_cases he : m / 2 = k / 2
            · have : m = k := half_inj (by omega) he
              simp [this]
            · have : m ≠ k := fun e => he (by rw [e])
              simp [this, he]

theorem Tr.get_del {α : Type} : ∀ (f n : Nat) (t : Tr α) (m : Nat), n < f → (Tr.del f n t).get m = if m = n then none else t.get m
  | 0, _, _, _, h => absurd h (Nat.not_lt_zero _)
  | f + 1, n, .nil, m, _ => by simp [Tr.del, Tr.get_nil]
  | f + 1, 0, .node l x r, m, _ => by
    cases m with
    | zero => rfl
    | succ m => simp [Tr.del, Tr.get_node_succ]
  | f + 1, k + 1, .node l x r, m, h => by
    have hk : k / 2 < f := by omega
    have ih := fun (t : Tr α) (m : Nat) => Tr.get_del f (k / 2) t m hk
    by_cases hp : k % 2 = 0
    · have hb : Nat.beq (k % 2) 0 = true := nbeq_true hp
      simp only [Tr.del, hb]
      cases m with
      | zero => simp [Tr.get_node_zero]
      | succ m =>
        simp only [Tr.get_node_succ, ih]
        by_cases hm : m % 2 = 0
        · simp only [hm, if_true]
          by_cases he : m / 2 = k / 2
          · have : m = k := half_inj (by omega) he
            simp [this]
          · have : m ≠ k := fun e => he (by rw [e])
            simp [this, he]
        · have : m ≠ k := fun e => hm (by rw [e]; exact hp)
          simp [hm, this]
    · have hb : Nat.beq (k % 2) 0 = false := nbeq_false hp
      simp only [Tr.del, hb]
      cases m with
      | zero => simp [Tr.get_node_zero]
      | succ m =>
        simp only [Tr.get_node_succ, ih]
        by_cases hm : m % 2 = 0
        · have : m ≠ k := fun e => hp (by rw [← e]; exact hm)
          simp [hm, this]
        · simp only [hm, if_false]
          by_cases he : m / 2 = k / 2
          · have : m = k := half_inj (by omega) he
            simp [this]
          · have : m ≠ k := fun e => he (by rw [e])
            simp [this, he]

theorem Tr.get_put {α : Type} (t : Tr α) (n : Nat) (v : α) (m : Nat) : (t.put n v).get m = if m = n then some v else t.get m :=
  Tr.get_set v (n + 1) n t m (Nat.lt_succ_self n)
theorem Tr.get_cutAt {α : Type} (t : Tr α) (n m : Nat) : (t.cutAt n).get m = if m = n then none else t.get m :=
  Tr.get_del (n + 1) n t m (Nat.lt_succ_self n)

/-! ### what the symbols stand for -/
structure Env where
  d : Nat → Int
  raw : Nat → Int

def Env.ok (ρ : Env) (L : Nat) : Prop := ∀ i, i < 4 → loD L i ≤ ρ.d i ∧ ρ.d i ≤ hiD L i

def Form.lin (ρ : Env) (f : Form) : Int := f.a0 * ρ.d 0 + f.a1 * ρ.d 1 + f.a2 * ρ.d 2 + f.a3 * ρ.d 3 + f.k
def Form.val (ρ : Env) (f : Form) : Int := if f.m = 0 then f.lin ρ else f.k2 + f.lin ρ % f.m

def byteAt (ρ : Env) (c : Nat) : UInt8 := if c < 256 then UInt8.ofNat c else UInt8.ofNat (48 + ρ.d (c - 256)).toNat

abbrev Bij := Nat → Option (Nat × Nat)

def CRel (β : Bij) (ρ : Env) : V → Value → Prop
  | .bool b, v => v = .bool b
  | .int k n, v => v = .int k n
  | .sym k f, v => v = .int k (f.val ρ)
  | .raw i, v => v = .int .i64 (ρ.raw i)
  | .str s, v => (∀ c ∈ s, c < 260) ∧ v = .string ⟨(s.map (byteAt ρ)).toArray⟩
  | .nilp, v => v = .pointer none
  | .ptr b off, v => ∃ c sz, β b = some (c, sz) ∧ v = .pointer (some ⟨c, off, none⟩)
  | .nils, v => v = .slice none 0 0
  | .slice b off len cap z, v => ∃ c sz cap', β b = some (c, sz) ∧ cap ≤ cap' ∧ (z = 0 ∨ off + cap' * z ≤ sz) ∧ v = .slice (some ⟨c, off, none⟩) len cap'
  | _, _ => False

inductive LRel (β : Bij) (ρ : Env) : List V → List Value → Prop
  | nil : LRel β ρ [] []
  | cons {x v l vs} : CRel β ρ x v → LRel β ρ l vs → LRel β ρ (x :: l) (v :: vs)

def ARel (β : Bij) (ρ : Env) : V → Value → Prop
  | .agg l, v => ∃ cs : Array Value, v = .agg cs ∧ LRel β ρ l cs.toList
  | x, v => CRel β ρ x v

inductive ALRel (β : Bij) (ρ : Env) : List V → List Value → Prop
  | nil : ALRel β ρ [] []
  | cons {x v l vs} : ARel β ρ x v → ALRel β ρ l vs → ALRel β ρ (x :: l) (v :: vs)

def VRel (β : Bij) (ρ : Env) : V → Value → Prop
  | .tup l, v => ∃ vs : Array Value, v = .tuple vs ∧ ALRel β ρ l vs.toList
  | .junk, _ => True
  | x, v => ARel β ρ x v

def Bij.le (β β' : Bij) : Prop := ∀ b x, β b = some x → β' b = some x
theorem Bij.le_refl (β : Bij) : β.le β := fun _ _ h => h
theorem Bij.le_trans {a b c : Bij} (h : a.le b) (h' : b.le c) : a.le c := fun _ _ h1 => h' _ _ (h _ _ h1)

theorem CRel.mono {β β' : Bij} {ρ : Env} (hb : β.le β') {x : V} {v : Value} (h : CRel β ρ x v) : CRel β' ρ x v := by
  cases x <;> simp only [CRel] at h ⊢ <;> first
    | exact h
    | (obtain ⟨c, sz, h1, h2⟩ := h; exact ⟨c, sz, hb _ _ h1, h2⟩)
    | (obtain ⟨c, sz, cap, h1, h2⟩ := h; exact ⟨c, sz, cap, hb _ _ h1, h2⟩)
theorem LRel.mono {β β' : Bij} {ρ : Env} (hb : β.le β') {x : List V} {v : List Value} (h : LRel β ρ x v) : LRel β' ρ x v := by
  induction h with
  | nil => exact .nil
  | cons h1 _ ih => exact .cons (h1.mono hb) ih
theorem ARel.eq_c {β : Bij} {ρ : Env} {x : V} (hx : ∀ l, x ≠ .agg l) (v : Value) : ARel β ρ x v = CRel β ρ x v := by
  cases x <;> first | rfl | exact absurd rfl (hx _)
theorem VRel.eq_a {β : Bij} {ρ : Env} {x : V} (hx : ∀ l, x ≠ .tup l) (hj : x ≠ .junk) (v : Value) : VRel β ρ x v = ARel β ρ x v := by
  cases x <;> first | rfl | exact absurd rfl (hx _) | exact absurd rfl hj
theorem V.agg_or (x : V) : (∃ l, x = .agg l) ∨ ∀ l, x ≠ .agg l := by
  cases x <;> first | exact .inl ⟨_, rfl⟩ | (right; intro l h; cases h)
theorem V.tup_or (x : V) : (∃ l, x = .tup l) ∨ x = .junk ∨ ((∀ l, x ≠ .tup l) ∧ x ≠ .junk) := by
  cases x <;> first | exact .inl ⟨_, rfl⟩ | exact .inr (.inl rfl) | exact .inr (.inr ⟨fun l h => (by cases h), fun h => (by cases h)⟩)
theorem ARel.mono {β β' : Bij} {ρ : Env} (hb : β.le β') {x : V} {v : Value} (h : ARel β ρ x v) : ARel β' ρ x v := by
  rcases x.agg_or with ⟨l, rfl⟩ | hx
  · obtain ⟨cs, h1, h2⟩ := h; exact ⟨cs, h1, h2.mono hb⟩
  · rw [ARel.eq_c hx] at h ⊢; exact h.mono hb
theorem ALRel.mono {β β' : Bij} {ρ : Env} (hb : β.le β') {x : List V} {v : List Value} (h : ALRel β ρ x v) : ALRel β' ρ x v := by
  induction h with
  | nil => exact .nil
  | cons h1 _ ih => exact .cons (h1.mono hb) ih
theorem VRel.mono {β β' : Bij} {ρ : Env} (hb : β.le β') {x : V} {v : Value} (h : VRel β ρ x v) : VRel β' ρ x v := by
  rcases x.tup_or with ⟨l, rfl⟩ | rfl | ⟨hx, hj⟩
  · obtain ⟨cs, h1, h2⟩ := h; exact ⟨cs, h1, h2.mono hb⟩
  · trivial
  · rw [VRel.eq_a hx hj] at h ⊢; exact h.mono hb

theorem LRel.length {β : Bij} {ρ : Env} {x : List V} {v : List Value} (h : LRel β ρ x v) : x.length = v.length := by
  induction h with
  | nil => rfl
  | cons _ _ ih => simp [ih]
theorem LRel.get {β : Bij} {ρ : Env} {x : List V} {v : List Value} (h : LRel β ρ x v) : ∀ (i : Nat) (a : V), x[i]? = some a → ∃ b, v[i]? = some b ∧ CRel β ρ a b := by
  induction h with
  | nil => intro i a h; simp at h
  | cons h1 _ ih =>
    intro i a h
    cases i with
    | zero => simp at h; subst h; exact ⟨_, rfl, h1⟩
    | succ i => simpa using ih i a (by simpa using h)
theorem LRel.append {β : Bij} {ρ : Env} {x : List V} {v : List Value} {y : List V} {u : List Value} (h : LRel β ρ x v) (h' : LRel β ρ y u) : LRel β ρ (x ++ y) (v ++ u) := by
  induction h with
  | nil => exact h'
  | cons h1 _ ih => exact .cons h1 ih

/-- the value of one cell is no aggregate and no tuple -/
theorem CRel.cells {β : Bij} {ρ : Env} {x : V} {v : Value} (h : CRel β ρ x v) : v.cells = #[v] := by
  cases x <;> simp only [CRel] at h <;> first
    | (subst h; rfl)
    | (obtain ⟨_, rfl⟩ := h; rfl)
    | (obtain ⟨c, sz, _, rfl⟩ := h; rfl)
    | (obtain ⟨c, sz, cap, _, _, _, rfl⟩ := h; rfl)
    | exact h.elim
theorem CRel.one {β : Bij} {ρ : Env} {x : V} {v : Value} (h : CRel β ρ x v) : v.oneCell' = true := by
  cases x <;> simp only [CRel] at h <;> first
    | (subst h; rfl)
    | (obtain ⟨_, rfl⟩ := h; rfl)
    | (obtain ⟨c, sz, _, rfl⟩ := h; rfl)
    | (obtain ⟨c, sz, cap, _, _, _, rfl⟩ := h; rfl)
    | exact h.elim
theorem ARel.cells {β : Bij} {ρ : Env} {x : V} {v : Value} (h : ARel β ρ x v) : LRel β ρ x.cells v.cells.toList := by
  rcases x.agg_or with ⟨l, rfl⟩ | hx
  · obtain ⟨cs, rfl, h2⟩ := h; exact h2
  · rw [ARel.eq_c hx] at h
    rw [h.cells]
    have : x.cells = [x] := by cases x <;> first | rfl | exact absurd rfl (hx _)
    rw [this]; exact .cons h .nil
/-- everything but a tuple -/
theorem VRel.arel {β : Bij} {ρ : Env} {x : V} {v : Value} (hx : ∀ l, x ≠ .tup l) (hj : x ≠ .junk) (h : VRel β ρ x v) : ARel β ρ x v := by rw [VRel.eq_a hx hj] at h; exact h
theorem ARel.vrel {β : Bij} {ρ : Env} {x : V} {v : Value} (h : ARel β ρ x v) : VRel β ρ x v := by
  rcases x.tup_or with ⟨l, rfl⟩ | rfl | ⟨hx, hj⟩
  · exact (show False from h).elim
  · trivial
  · rw [VRel.eq_a hx hj]; exact h
theorem CRel.arel {β : Bij} {ρ : Env} {x : V} {v : Value} (h : CRel β ρ x v) : ARel β ρ x v := by
  rcases x.agg_or with ⟨l, rfl⟩ | hx
  · exact (show False from h).elim
  · rw [ARel.eq_c hx]; exact h
theorem CRel.vrel {β : Bij} {ρ : Env} {x : V} {v : Value} (h : CRel β ρ x v) : VRel β ρ x v := h.arel.vrel
theorem VRel.undef {β : Bij} {ρ : Env} : VRel β ρ .undef Go.undef := ⟨#[], rfl, .nil⟩

end Go.Abs
