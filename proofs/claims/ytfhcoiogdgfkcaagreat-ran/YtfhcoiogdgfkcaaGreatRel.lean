import Derived.Test.YtfhcoiogdgfkcaaGreatAbs
import Derived.RowKit3
import Derived.Laws.Sem
import Derived.Laws.Cells
import Derived.Laws.World
import Derived.Laws.Append
namespace Go.Abs

theorem nbeq_false {a b : Nat} (h : a ≠ b) : Nat.beq a b = false := by
  cases hb : Nat.beq a b with
  | true => exact absurd (Nat.eq_of_beq_eq_true hb) h
  | false => rfl
theorem nbeq_true {a b : Nat} (h : a = b) : Nat.beq a b = true := by subst h; exact Nat.beq_refl a
theorem nble_true {a b : Nat} (h : a ≤ b) : Nat.ble a b = true := Nat.ble_eq_true_of_le h
theorem nble_false {a b : Nat} (h : b < a) : Nat.ble a b = false := by
  cases hb : Nat.ble a b with
  | true => exact absurd (Nat.le_of_ble_eq_true hb) (by omega)
  | false => rfl

theorem T.get_nil {α : Type} : ∀ (d m : Nat), T.get d (T.nil d : T α d) m = none
  | 0, _ => rfl
  | d + 1, m => by
    show (match Nat.ble (2 ^ d) m with | true => T.get d (T.nil d) (m - 2 ^ d) | false => T.get d (T.nil d) m) = none
    rw [T.get_nil d, T.get_nil d]
    cases Nat.ble (2 ^ d) m <;> rfl
theorem T.get_set {α : Type} (v : Option α) : ∀ (d : Nat) (t : T α d) (n m : Nat), n < 2 ^ d → m < 2 ^ d → T.get d (T.set v d t n) m = if m = n then v else T.get d t m
  | 0, t, n, m, hn, hm => by
    have : m = n := by omega
    rw [if_pos this]; rfl
  | d + 1, t, n, m, hn, hm => by
    have e : 2 ^ (d + 1) = 2 ^ d + 2 ^ d := by rw [Nat.pow_succ]; omega
    by_cases h1 : 2 ^ d ≤ n
    · have hs : T.set v (d + 1) t n = N.mk (β := T α d) (N.l (β := T α d) t) (T.set v d (N.r (β := T α d) t) (n - 2 ^ d)) := by simp only [T.set, nble_true h1]; rfl
      rw [hs]
      by_cases h2 : 2 ^ d ≤ m
      · show (match Nat.ble (2 ^ d) m with | true => T.get d (T.set v d (N.r (β := T α d) t) (n - 2 ^ d)) (m - 2 ^ d) | false => T.get d (N.l (β := T α d) t) m) = if m = n then v else (match Nat.ble (2 ^ d) m with | true => T.get d (N.r (β := T α d) t) (m - 2 ^ d) | false => T.get d (N.l (β := T α d) t) m)
        simp only [nble_true h2]
        rw [T.get_set v d _ _ _ (by omega) (by omega)]
        by_cases h3 : m = n
        · rw [if_pos h3, if_pos (by omega)]
        · rw [if_neg h3, if_neg (by omega)]
      · show (match Nat.ble (2 ^ d) m with | true => T.get d (T.set v d (N.r (β := T α d) t) (n - 2 ^ d)) (m - 2 ^ d) | false => T.get d (N.l (β := T α d) t) m) = if m = n then v else (match Nat.ble (2 ^ d) m with | true => T.get d (N.r (β := T α d) t) (m - 2 ^ d) | false => T.get d (N.l (β := T α d) t) m)
        simp only [nble_false (by omega : m < 2 ^ d)]
        rw [if_neg (by omega)]
    · have hs : T.set v (d + 1) t n = N.mk (β := T α d) (T.set v d (N.l (β := T α d) t) n) (N.r (β := T α d) t) := by simp only [T.set, nble_false (by omega : n < 2 ^ d)]; rfl
      rw [hs]
      by_cases h2 : 2 ^ d ≤ m
      · show (match Nat.ble (2 ^ d) m with | true => T.get d (N.r (β := T α d) t) (m - 2 ^ d) | false => T.get d (T.set v d (N.l (β := T α d) t) n) m) = if m = n then v else (match Nat.ble (2 ^ d) m with | true => T.get d (N.r (β := T α d) t) (m - 2 ^ d) | false => T.get d (N.l (β := T α d) t) m)
        simp only [nble_true h2]
        rw [if_neg (by omega)]
      · show (match Nat.ble (2 ^ d) m with | true => T.get d (N.r (β := T α d) t) (m - 2 ^ d) | false => T.get d (T.set v d (N.l (β := T α d) t) n) m) = if m = n then v else (match Nat.ble (2 ^ d) m with | true => T.get d (N.r (β := T α d) t) (m - 2 ^ d) | false => T.get d (N.l (β := T α d) t) m)
        simp only [nble_false (by omega : m < 2 ^ d)]
        rw [T.get_set v d _ _ _ (by omega) (by omega)]

theorem pow16 : (2 : Nat) ^ 16 = 65536 := by decide
theorem T.get_set16 {α : Type} (v : Option α) (t : T α 16) {n m : Nat} (hn : n < 65536) (hm : m < 65536) : T.get 16 (T.set v 16 t n) m = if m = n then v else T.get 16 t m :=
  T.get_set v 16 t n m (by rw [pow16]; exact hn) (by rw [pow16]; exact hm)

theorem Tr.get_s {α : Type} (t : Tr α) {n : Nat} (h : n < 16) : t.get n = T.get 4 t.s n := by unfold Tr.get; simp only [nble_false h]
theorem Tr.get_m {α : Type} (t : Tr α) {n : Nat} (h : 16 ≤ n) (h' : n < 528) : t.get n = T.get 9 t.m (n - 16) := by unfold Tr.get; simp only [nble_true h, nble_false h']
theorem Tr.get_b {α : Type} (t : Tr α) {n : Nat} (h : 528 ≤ n) (h' : n < 66064) : t.get n = T.get 16 t.b (n - 528) := by unfold Tr.get; simp only [nble_true (by omega : 16 ≤ n), nble_true h, nble_false h']
theorem Tr.get_z {α : Type} (t : Tr α) {n : Nat} (h : 66064 ≤ n) : t.get n = lookZ t.z n := by unfold Tr.get; simp only [nble_true (by omega : 16 ≤ n), nble_true (by omega : 528 ≤ n), nble_true h]
theorem Tr.set_s {α : Type} (v : Option α) (t : Tr α) {n : Nat} (h : n < 16) : t.set v n = ⟨T.set v 4 t.s n, t.m, t.b, t.z⟩ := by unfold Tr.set; simp only [nble_false h]
theorem Tr.set_m {α : Type} (v : Option α) (t : Tr α) {n : Nat} (h : 16 ≤ n) (h' : n < 528) : t.set v n = ⟨t.s, T.set v 9 t.m (n - 16), t.b, t.z⟩ := by unfold Tr.set; simp only [nble_true h, nble_false h']
theorem Tr.set_b {α : Type} (v : Option α) (t : Tr α) {n : Nat} (h : 528 ≤ n) (h' : n < 66064) : t.set v n = ⟨t.s, t.m, T.set v 16 t.b (n - 528), t.z⟩ := by unfold Tr.set; simp only [nble_true (by omega : 16 ≤ n), nble_true h, nble_false h']
theorem Tr.set_z {α : Type} (v : Option α) (t : Tr α) {n : Nat} (h : 66064 ≤ n) : t.set v n = ⟨t.s, t.m, t.b, (n, v) :: t.z⟩ := by unfold Tr.set; simp only [nble_true (by omega : 16 ≤ n), nble_true (by omega : 528 ≤ n), nble_true h]

theorem Tr.get_nil {α : Type} (m : Nat) : (Tr.nil : Tr α).get m = none := by
  unfold Tr.get Tr.nil
  simp only [T.get_nil, lookZ]
  cases Nat.ble 16 m <;> cases Nat.ble 528 m <;> cases Nat.ble 66064 m <;> rfl
theorem Tr.get_set {α : Type} (v : Option α) (t : Tr α) (n m : Nat) : (t.set v n).get m = if m = n then v else t.get m := by
  by_cases n1 : n < 16
  · rw [Tr.set_s v t n1]
    by_cases m1 : m < 16
    · rw [Tr.get_s _ m1, Tr.get_s t m1]; exact T.get_set v 4 t.s n m n1 m1
    · rw [if_neg (by omega)]
      by_cases m2 : m < 528
      · rw [Tr.get_m _ (by omega) m2, Tr.get_m t (by omega) m2]
      · by_cases m3 : m < 66064
        · rw [Tr.get_b _ (by omega) m3, Tr.get_b t (by omega) m3]
        · rw [Tr.get_z _ (by omega), Tr.get_z t (by omega)]
  · by_cases n2 : n < 528
    · rw [Tr.set_m v t (by omega) n2]
      by_cases m1 : m < 16
      · rw [if_neg (by omega), Tr.get_s _ m1, Tr.get_s t m1]
      · by_cases m2 : m < 528
        · rw [Tr.get_m _ (by omega) m2, Tr.get_m t (by omega) m2]
          refine (T.get_set v 9 t.m (n - 16) (m - 16) (by omega) (by omega)).trans ?_
          by_cases e : m = n
          · rw [if_pos e, if_pos (by omega)]
          · rw [if_neg e, if_neg (by omega)]
        · rw [if_neg (by omega)]
          by_cases m3 : m < 66064
          · rw [Tr.get_b _ (by omega) m3, Tr.get_b t (by omega) m3]
          · rw [Tr.get_z _ (by omega), Tr.get_z t (by omega)]
    · by_cases n3 : n < 66064
      · rw [Tr.set_b v t (by omega) n3]
        by_cases m1 : m < 16
        · rw [if_neg (by omega), Tr.get_s _ m1, Tr.get_s t m1]
        · by_cases m2 : m < 528
          · rw [if_neg (by omega), Tr.get_m _ (by omega) m2, Tr.get_m t (by omega) m2]
          · by_cases m3 : m < 66064
            · rw [Tr.get_b _ (by omega) m3, Tr.get_b t (by omega) m3]
              have key := T.get_set16 v t.b (n := n - 528) (m := m - 528) (by omega) (by omega)
              dsimp only
              rw [key]
              by_cases e : m = n
              · rw [if_pos e, if_pos (by omega)]
              · rw [if_neg e, if_neg (by omega)]
            · rw [if_neg (by omega), Tr.get_z _ (by omega), Tr.get_z t (by omega)]
      · rw [Tr.set_z v t (by omega)]
        by_cases m1 : m < 16
        · rw [if_neg (by omega), Tr.get_s _ m1, Tr.get_s t m1]
        · by_cases m2 : m < 528
          · rw [if_neg (by omega), Tr.get_m _ (by omega) m2, Tr.get_m t (by omega) m2]
          · by_cases m3 : m < 66064
            · rw [if_neg (by omega), Tr.get_b _ (by omega) m3, Tr.get_b t (by omega) m3]
            · rw [Tr.get_z _ (by omega), Tr.get_z t (by omega)]
              simp only [lookZ]
              by_cases e : m = n
              · rw [if_pos e, nbeq_true e.symm]
              · rw [if_neg e, nbeq_false (Ne.symm e)]

theorem Tr.get_put {α : Type} (t : Tr α) (n : Nat) (v : α) (m : Nat) : (t.put n v).get m = if m = n then some v else t.get m := Tr.get_set (some v) t n m
theorem Tr.get_cutAt {α : Type} (t : Tr α) (n m : Nat) : (t.cutAt n).get m = if m = n then none else t.get m := Tr.get_set none t n m

/-! ### what the symbols stand for -/
structure Env where
  d : Nat → Int
  raw : Nat → Int

def Env.ok (ρ : Env) (L : Nat) : Prop := ∀ i, i < 4 → loD L i ≤ ρ.d i ∧ ρ.d i ≤ hiD L i

def Form.lin (ρ : Env) (f : Form) : Int := f.a0 * ρ.d 0 + f.a1 * ρ.d 1 + f.a2 * ρ.d 2 + f.a3 * ρ.d 3 + f.k
def Form.val (ρ : Env) (f : Form) : Int := if f.m = 0 then f.lin ρ else f.k2 + f.lin ρ % f.m

def byteAt (ρ : Env) (c : Nat) : UInt8 := if c < 256 then UInt8.ofNat c else UInt8.ofNat (48 + ρ.d (c - 256)).toNat

abbrev Bij := Nat → Option (Nat × Nat)

def CRel (β : Bij) (ρ : Env) : V → Value → Prop
  | .bool b, v => v = .bool b
  | .int k n, v => v = .int k n
  | .sym k f, v => v = .int k (f.val ρ)
  | .raw i, v => v = .int .i64 (ρ.raw i)
  | .str s, v => (∀ c ∈ s, c < 260) ∧ v = .string ⟨(s.map (byteAt ρ)).toArray⟩
  | .nilp, v => v = .pointer none
  | .ptr b off, v => ∃ c sz, β b = some (c, sz) ∧ v = .pointer (some ⟨c, off, none⟩)
  | .nils, v => v = .slice none 0 0
  | .slice b off len cap z, v => ∃ c sz cap', β b = some (c, sz) ∧ cap ≤ cap' ∧ (z = 0 ∨ off + cap' * z ≤ sz) ∧ ∃ o, (o = off ∨ (len = 0 ∧ z = 0)) ∧ v = .slice (some ⟨c, o, none⟩) len cap'
  | _, _ => False

inductive LRel (β : Bij) (ρ : Env) : List V → List Value → Prop
  | nil : LRel β ρ [] []
  | cons {x v l vs} : CRel β ρ x v → LRel β ρ l vs → LRel β ρ (x :: l) (v :: vs)

def ARel (β : Bij) (ρ : Env) : V → Value → Prop
  | .agg l, v => ∃ cs : Array Value, v = .agg cs ∧ LRel β ρ l cs.toList
  | x, v => CRel β ρ x v

inductive ALRel (β : Bij) (ρ : Env) : List V → List Value → Prop
  | nil : ALRel β ρ [] []
  | cons {x v l vs} : ARel β ρ x v → ALRel β ρ l vs → ALRel β ρ (x :: l) (v :: vs)

def VRel (β : Bij) (ρ : Env) : V → Value → Prop
  | .tup l, v => ∃ vs : Array Value, v = .tuple vs ∧ ALRel β ρ l vs.toList
  | .junk, _ => True
  | x, v => ARel β ρ x v

def Bij.le (β β' : Bij) : Prop := ∀ b x, β b = some x → β' b = some x
theorem Bij.le_refl (β : Bij) : β.le β := fun _ _ h => h
theorem Bij.le_trans {a b c : Bij} (h : a.le b) (h' : b.le c) : a.le c := fun _ _ h1 => h' _ _ (h _ _ h1)

theorem CRel.mono {β β' : Bij} {ρ : Env} (hb : β.le β') {x : V} {v : Value} (h : CRel β ρ x v) : CRel β' ρ x v := by
  cases x <;> simp only [CRel] at h ⊢ <;> first
    | exact h
    | (obtain ⟨c, sz, h1, h2⟩ := h; exact ⟨c, sz, hb _ _ h1, h2⟩)
    | (obtain ⟨c, sz, cap, h1, h2⟩ := h; exact ⟨c, sz, cap, hb _ _ h1, h2⟩)
theorem LRel.mono {β β' : Bij} {ρ : Env} (hb : β.le β') {x : List V} {v : List Value} (h : LRel β ρ x v) : LRel β' ρ x v := by
  induction h with
  | nil => exact .nil
  | cons h1 _ ih => exact .cons (h1.mono hb) ih
theorem ARel.eq_c {β : Bij} {ρ : Env} {x : V} (hx : ∀ l, x ≠ .agg l) (v : Value) : ARel β ρ x v = CRel β ρ x v := by
  cases x <;> first | rfl | exact absurd rfl (hx _)
theorem VRel.eq_a {β : Bij} {ρ : Env} {x : V} (hx : ∀ l, x ≠ .tup l) (hj : x ≠ .junk) (v : Value) : VRel β ρ x v = ARel β ρ x v := by
  cases x <;> first | rfl | exact absurd rfl (hx _) | exact absurd rfl hj
theorem V.agg_or (x : V) : (∃ l, x = .agg l) ∨ ∀ l, x ≠ .agg l := by
  cases x <;> first | exact .inl ⟨_, rfl⟩ | (right; intro l h; cases h)
theorem V.tup_or (x : V) : (∃ l, x = .tup l) ∨ x = .junk ∨ ((∀ l, x ≠ .tup l) ∧ x ≠ .junk) := by
  cases x <;> first | exact .inl ⟨_, rfl⟩ | exact .inr (.inl rfl) | exact .inr (.inr ⟨fun l h => (by cases h), fun h => (by cases h)⟩)
theorem ARel.mono {β β' : Bij} {ρ : Env} (hb : β.le β') {x : V} {v : Value} (h : ARel β ρ x v) : ARel β' ρ x v := by
  rcases x.agg_or with ⟨l, rfl⟩ | hx
  · obtain ⟨cs, h1, h2⟩ := h; exact ⟨cs, h1, h2.mono hb⟩
  · rw [ARel.eq_c hx] at h ⊢; exact h.mono hb
theorem ALRel.mono {β β' : Bij} {ρ : Env} (hb : β.le β') {x : List V} {v : List Value} (h : ALRel β ρ x v) : ALRel β' ρ x v := by
  induction h with
  | nil => exact .nil
  | cons h1 _ ih => exact .cons (h1.mono hb) ih
theorem VRel.mono {β β' : Bij} {ρ : Env} (hb : β.le β') {x : V} {v : Value} (h : VRel β ρ x v) : VRel β' ρ x v := by
  rcases x.tup_or with ⟨l, rfl⟩ | rfl | ⟨hx, hj⟩
  · obtain ⟨cs, h1, h2⟩ := h; exact ⟨cs, h1, h2.mono hb⟩
  · trivial
  · rw [VRel.eq_a hx hj] at h ⊢; exact h.mono hb

theorem LRel.length {β : Bij} {ρ : Env} {x : List V} {v : List Value} (h : LRel β ρ x v) : x.length = v.length := by
  induction h with
  | nil => rfl
  | cons _ _ ih => simp [ih]
theorem LRel.get {β : Bij} {ρ : Env} {x : List V} {v : List Value} (h : LRel β ρ x v) : ∀ (i : Nat) (a : V), x[i]? = some a → ∃ b, v[i]? = some b ∧ CRel β ρ a b := by
  induction h with
  | nil => intro i a h; simp at h
  | cons h1 _ ih =>
    intro i a h
    cases i with
    | zero => simp at h; subst h; exact ⟨_, rfl, h1⟩
    | succ i => simpa using ih i a (by simpa using h)
theorem LRel.append {β : Bij} {ρ : Env} {x : List V} {v : List Value} {y : List V} {u : List Value} (h : LRel β ρ x v) (h' : LRel β ρ y u) : LRel β ρ (x ++ y) (v ++ u) := by
  induction h with
  | nil => exact h'
  | cons h1 _ ih => exact .cons h1 ih

/-- the value of one cell is no aggregate and no tuple -/
theorem CRel.cells {β : Bij} {ρ : Env} {x : V} {v : Value} (h : CRel β ρ x v) : v.cells = #[v] := by
  cases x <;> simp only [CRel] at h <;> first
    | (subst h; rfl)
    | (obtain ⟨_, rfl⟩ := h; rfl)
    | (obtain ⟨c, sz, _, rfl⟩ := h; rfl)
    | (obtain ⟨c, sz, cap, _, _, _, o, _, rfl⟩ := h; rfl)
    | exact h.elim
theorem CRel.one {β : Bij} {ρ : Env} {x : V} {v : Value} (h : CRel β ρ x v) : v.oneCell' = true := by
  cases x <;> simp only [CRel] at h <;> first
    | (subst h; rfl)
    | (obtain ⟨_, rfl⟩ := h; rfl)
    | (obtain ⟨c, sz, _, rfl⟩ := h; rfl)
    | (obtain ⟨c, sz, cap, _, _, _, o, _, rfl⟩ := h; rfl)
    | exact h.elim
theorem ARel.cells {β : Bij} {ρ : Env} {x : V} {v : Value} (h : ARel β ρ x v) : LRel β ρ x.cells v.cells.toList := by
  rcases x.agg_or with ⟨l, rfl⟩ | hx
  · obtain ⟨cs, rfl, h2⟩ := h; exact h2
  · rw [ARel.eq_c hx] at h
    rw [h.cells]
    have : x.cells = [x] := by cases x <;> first | rfl | exact absurd rfl (hx _)
    rw [this]; exact .cons h .nil
/-- everything but a tuple -/
theorem VRel.arel {β : Bij} {ρ : Env} {x : V} {v : Value} (hx : ∀ l, x ≠ .tup l) (hj : x ≠ .junk) (h : VRel β ρ x v) : ARel β ρ x v := by rw [VRel.eq_a hx hj] at h; exact h
theorem ARel.vrel {β : Bij} {ρ : Env} {x : V} {v : Value} (h : ARel β ρ x v) : VRel β ρ x v := by
  rcases x.tup_or with ⟨l, rfl⟩ | rfl | ⟨hx, hj⟩
  · exact (show False from h).elim
  · trivial
  · rw [VRel.eq_a hx hj]; exact h
theorem CRel.arel {β : Bij} {ρ : Env} {x : V} {v : Value} (h : CRel β ρ x v) : ARel β ρ x v := by
  rcases x.agg_or with ⟨l, rfl⟩ | hx
  · exact (show False from h).elim
  · rw [ARel.eq_c hx]; exact h
theorem CRel.vrel {β : Bij} {ρ : Env} {x : V} {v : Value} (h : CRel β ρ x v) : VRel β ρ x v := h.arel.vrel
theorem VRel.undef {β : Bij} {ρ : Env} : VRel β ρ .undef Go.undef := ⟨#[], rfl, .nil⟩

end Go.Abs
