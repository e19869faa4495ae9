import Derived.Test.YtfhcoiogdgfkcaaGreatHo
import Derived.Test.YtfhcoiogdgfkcaaGreatSound
namespace Go.Abs

theorem T.get_succ {α : Type} (d : Nat) (t : T α (d + 1)) (n : Nat) : T.get (d + 1) t n = (match Nat.ble (2 ^ d) n with | true => T.get d (N.r (β := T α d) t) (n - 2 ^ d) | false => T.get d (N.l (β := T α d) t) n) := rfl
theorem T.set_succ {α : Type} (v : Option α) (d : Nat) (t : T α (d + 1)) (n : Nat) : T.set v (d + 1) t n = (match Nat.ble (2 ^ d) n with | true => N.mk (β := T α d) (N.l (β := T α d) t) (T.set v d (N.r (β := T α d) t) (n - 2 ^ d)) | false => N.mk (β := T α d) (T.set v d (N.l (β := T α d) t) n) (N.r (β := T α d) t)) := rfl
theorem pow2_0 : (2 : Nat) ^ 0 = 1 := by decide
theorem pow2_1 : (2 : Nat) ^ 1 = 2 := by decide
theorem pow2_2 : (2 : Nat) ^ 2 = 4 := by decide
theorem pow2_3 : (2 : Nat) ^ 3 = 8 := by decide
theorem pow2_4 : (2 : Nat) ^ 4 = 16 := by decide
theorem pow2_5 : (2 : Nat) ^ 5 = 32 := by decide
theorem pow2_6 : (2 : Nat) ^ 6 = 64 := by decide
theorem pow2_7 : (2 : Nat) ^ 7 = 128 := by decide
theorem pow2_8 : (2 : Nat) ^ 8 = 256 := by decide
theorem pow2_9 : (2 : Nat) ^ 9 = 512 := by decide
theorem pow2_10 : (2 : Nat) ^ 10 = 1024 := by decide
theorem pow2_11 : (2 : Nat) ^ 11 = 2048 := by decide
theorem pow2_12 : (2 : Nat) ^ 12 = 4096 := by decide
theorem pow2_13 : (2 : Nat) ^ 13 = 8192 := by decide
theorem pow2_14 : (2 : Nat) ^ 14 = 16384 := by decide
theorem pow2_15 : (2 : Nat) ^ 15 = 32768 := by decide
theorem gV0_eq (t : T V 0) (n : Nat) : gV0 t n = T.get 0 t n := rfl
theorem sV0_eq (v : Option V) (t : T V 0) (n : Nat) : sV0 v t n = T.set v 0 t n := rfl
theorem gV1_eq (t : T V 1) (n : Nat) : gV1 t n = T.get 1 t n := by
  refine Eq.trans ?_ (T.get_succ 0 t n).symm
  rw [pow2_0]
  show Bool.rec (motive := fun _ => Option V) (gV0 (N.l (β := T V 0) t) n) (gV0 (N.r (β := T V 0) t) (Nat.sub n (nat_lit 1))) (Nat.ble (nat_lit 1) n) = _
  rw [gV0_eq, gV0_eq]
  cases Nat.ble (nat_lit 1) n <;> rfl
theorem sV1_eq (v : Option V) (t : N (T V 0)) (n : Nat) : sV1 v t n = T.set v 1 t n := by
  obtain ⟨l, r⟩ := t
  refine Eq.trans ?_ (T.set_succ v 0 (N.mk (β := T V 0) l r) n).symm
  rw [pow2_0]
  show Bool.rec (motive := fun _ => N (T V 0)) (N.mk (β := T V 0) (sV0 v l n) r) (N.mk (β := T V 0) l (sV0 v r (Nat.sub n (nat_lit 1)))) (Nat.ble (nat_lit 1) n) = _
  rw [show sV0 v l n = T.set v 0 l n from sV0_eq v l n, show sV0 v r (Nat.sub n (nat_lit 1)) = T.set v 0 r (Nat.sub n (nat_lit 1)) from sV0_eq v r (Nat.sub n (nat_lit 1))]
  cases Nat.ble (nat_lit 1) n <;> rfl
theorem gV2_eq (t : T V 2) (n : Nat) : gV2 t n = T.get 2 t n := by
  refine Eq.trans ?_ (T.get_succ 1 t n).symm
  rw [pow2_1]
  show Bool.rec (motive := fun _ => Option V) (gV1 (N.l (β := T V 1) t) n) (gV1 (N.r (β := T V 1) t) (Nat.sub n (nat_lit 2))) (Nat.ble (nat_lit 2) n) = _
  rw [gV1_eq, gV1_eq]
  cases Nat.ble (nat_lit 2) n <;> rfl
theorem sV2_eq (v : Option V) (t : N (T V 1)) (n : Nat) : sV2 v t n = T.set v 2 t n := by
  obtain ⟨l, r⟩ := t
  refine Eq.trans ?_ (T.set_succ v 1 (N.mk (β := T V 1) l r) n).symm
  rw [pow2_1]
  show Bool.rec (motive := fun _ => N (T V 1)) (N.mk (β := T V 1) (sV1 v l n) r) (N.mk (β := T V 1) l (sV1 v r (Nat.sub n (nat_lit 2)))) (Nat.ble (nat_lit 2) n) = _
  rw [show sV1 v l n = T.set v 1 l n from sV1_eq v l n, show sV1 v r (Nat.sub n (nat_lit 2)) = T.set v 1 r (Nat.sub n (nat_lit 2)) from sV1_eq v r (Nat.sub n (nat_lit 2))]
  cases Nat.ble (nat_lit 2) n <;> rfl
theorem gV3_eq (t : T V 3) (n : Nat) : gV3 t n = T.get 3 t n := by
  refine Eq.trans ?_ (T.get_succ 2 t n).symm
  rw [pow2_2]
  show Bool.rec (motive := fun _ => Option V) (gV2 (N.l (β := T V 2) t) n) (gV2 (N.r (β := T V 2) t) (Nat.sub n (nat_lit 4))) (Nat.ble (nat_lit 4) n) = _
  rw [gV2_eq, gV2_eq]
  cases Nat.ble (nat_lit 4) n <;> rfl
theorem sV3_eq (v : Option V) (t : N (T V 2)) (n : Nat) : sV3 v t n = T.set v 3 t n := by
  obtain ⟨l, r⟩ := t
  refine Eq.trans ?_ (T.set_succ v 2 (N.mk (β := T V 2) l r) n).symm
  rw [pow2_2]
  show Bool.rec (motive := fun _ => N (T V 2)) (N.mk (β := T V 2) (sV2 v l n) r) (N.mk (β := T V 2) l (sV2 v r (Nat.sub n (nat_lit 4)))) (Nat.ble (nat_lit 4) n) = _
  rw [show sV2 v l n = T.set v 2 l n from sV2_eq v l n, show sV2 v r (Nat.sub n (nat_lit 4)) = T.set v 2 r (Nat.sub n (nat_lit 4)) from sV2_eq v r (Nat.sub n (nat_lit 4))]
  cases Nat.ble (nat_lit 4) n <;> rfl
theorem gV4_eq (t : T V 4) (n : Nat) : gV4 t n = T.get 4 t n := by
  refine Eq.trans ?_ (T.get_succ 3 t n).symm
  rw [pow2_3]
  show Bool.rec (motive := fun _ => Option V) (gV3 (N.l (β := T V 3) t) n) (gV3 (N.r (β := T V 3) t) (Nat.sub n (nat_lit 8))) (Nat.ble (nat_lit 8) n) = _
  rw [gV3_eq, gV3_eq]
  cases Nat.ble (nat_lit 8) n <;> rfl
theorem sV4_eq (v : Option V) (t : N (T V 3)) (n : Nat) : sV4 v t n = T.set v 4 t n := by
  obtain ⟨l, r⟩ := t
  refine Eq.trans ?_ (T.set_succ v 3 (N.mk (β := T V 3) l r) n).symm
  rw [pow2_3]
  show Bool.rec (motive := fun _ => N (T V 3)) (N.mk (β := T V 3) (sV3 v l n) r) (N.mk (β := T V 3) l (sV3 v r (Nat.sub n (nat_lit 8)))) (Nat.ble (nat_lit 8) n) = _
  rw [show sV3 v l n = T.set v 3 l n from sV3_eq v l n, show sV3 v r (Nat.sub n (nat_lit 8)) = T.set v 3 r (Nat.sub n (nat_lit 8)) from sV3_eq v r (Nat.sub n (nat_lit 8))]
  cases Nat.ble (nat_lit 8) n <;> rfl
theorem gV5_eq (t : T V 5) (n : Nat) : gV5 t n = T.get 5 t n := by
  refine Eq.trans ?_ (T.get_succ 4 t n).symm
  rw [pow2_4]
  show Bool.rec (motive := fun _ => Option V) (gV4 (N.l (β := T V 4) t) n) (gV4 (N.r (β := T V 4) t) (Nat.sub n (nat_lit 16))) (Nat.ble (nat_lit 16) n) = _
  rw [gV4_eq, gV4_eq]
  cases Nat.ble (nat_lit 16) n <;> rfl
theorem sV5_eq (v : Option V) (t : N (T V 4)) (n : Nat) : sV5 v t n = T.set v 5 t n := by
  obtain ⟨l, r⟩ := t
  refine Eq.trans ?_ (T.set_succ v 4 (N.mk (β := T V 4) l r) n).symm
  rw [pow2_4]
  show Bool.rec (motive := fun _ => N (T V 4)) (N.mk (β := T V 4) (sV4 v l n) r) (N.mk (β := T V 4) l (sV4 v r (Nat.sub n (nat_lit 16)))) (Nat.ble (nat_lit 16) n) = _
  rw [show sV4 v l n = T.set v 4 l n from sV4_eq v l n, show sV4 v r (Nat.sub n (nat_lit 16)) = T.set v 4 r (Nat.sub n (nat_lit 16)) from sV4_eq v r (Nat.sub n (nat_lit 16))]
  cases Nat.ble (nat_lit 16) n <;> rfl
theorem gV6_eq (t : T V 6) (n : Nat) : gV6 t n = T.get 6 t n := by
  refine Eq.trans ?_ (T.get_succ 5 t n).symm
  rw [pow2_5]
  show Bool.rec (motive := fun _ => Option V) (gV5 (N.l (β := T V 5) t) n) (gV5 (N.r (β := T V 5) t) (Nat.sub n (nat_lit 32))) (Nat.ble (nat_lit 32) n) = _
  rw [gV5_eq, gV5_eq]
  cases Nat.ble (nat_lit 32) n <;> rfl
theorem sV6_eq (v : Option V) (t : N (T V 5)) (n : Nat) : sV6 v t n = T.set v 6 t n := by
  obtain ⟨l, r⟩ := t
  refine Eq.trans ?_ (T.set_succ v 5 (N.mk (β := T V 5) l r) n).symm
  rw [pow2_5]
  show Bool.rec (motive := fun _ => N (T V 5)) (N.mk (β := T V 5) (sV5 v l n) r) (N.mk (β := T V 5) l (sV5 v r (Nat.sub n (nat_lit 32)))) (Nat.ble (nat_lit 32) n) = _
  rw [show sV5 v l n = T.set v 5 l n from sV5_eq v l n, show sV5 v r (Nat.sub n (nat_lit 32)) = T.set v 5 r (Nat.sub n (nat_lit 32)) from sV5_eq v r (Nat.sub n (nat_lit 32))]
  cases Nat.ble (nat_lit 32) n <;> rfl
theorem gV7_eq (t : T V 7) (n : Nat) : gV7 t n = T.get 7 t n := by
  refine Eq.trans ?_ (T.get_succ 6 t n).symm
  rw [pow2_6]
  show Bool.rec (motive := fun _ => Option V) (gV6 (N.l (β := T V 6) t) n) (gV6 (N.r (β := T V 6) t) (Nat.sub n (nat_lit 64))) (Nat.ble (nat_lit 64) n) = _
  rw [gV6_eq, gV6_eq]
  cases Nat.ble (nat_lit 64) n <;> rfl
theorem sV7_eq (v : Option V) (t : N (T V 6)) (n : Nat) : sV7 v t n = T.set v 7 t n := by
  obtain ⟨l, r⟩ := t
  refine Eq.trans ?_ (T.set_succ v 6 (N.mk (β := T V 6) l r) n).symm
  rw [pow2_6]
  show Bool.rec (motive := fun _ => N (T V 6)) (N.mk (β := T V 6) (sV6 v l n) r) (N.mk (β := T V 6) l (sV6 v r (Nat.sub n (nat_lit 64)))) (Nat.ble (nat_lit 64) n) = _
  rw [show sV6 v l n = T.set v 6 l n from sV6_eq v l n, show sV6 v r (Nat.sub n (nat_lit 64)) = T.set v 6 r (Nat.sub n (nat_lit 64)) from sV6_eq v r (Nat.sub n (nat_lit 64))]
  cases Nat.ble (nat_lit 64) n <;> rfl
theorem gV8_eq (t : T V 8) (n : Nat) : gV8 t n = T.get 8 t n := by
  refine Eq.trans ?_ (T.get_succ 7 t n).symm
  rw [pow2_7]
  show Bool.rec (motive := fun _ => Option V) (gV7 (N.l (β := T V 7) t) n) (gV7 (N.r (β := T V 7) t) (Nat.sub n (nat_lit 128))) (Nat.ble (nat_lit 128) n) = _
  rw [gV7_eq, gV7_eq]
  cases Nat.ble (nat_lit 128) n <;> rfl
theorem sV8_eq (v : Option V) (t : N (T V 7)) (n : Nat) : sV8 v t n = T.set v 8 t n := by
  obtain ⟨l, r⟩ := t
  refine Eq.trans ?_ (T.set_succ v 7 (N.mk (β := T V 7) l r) n).symm
  rw [pow2_7]
  show Bool.rec (motive := fun _ => N (T V 7)) (N.mk (β := T V 7) (sV7 v l n) r) (N.mk (β := T V 7) l (sV7 v r (Nat.sub n (nat_lit 128)))) (Nat.ble (nat_lit 128) n) = _
  rw [show sV7 v l n = T.set v 7 l n from sV7_eq v l n, show sV7 v r (Nat.sub n (nat_lit 128)) = T.set v 7 r (Nat.sub n (nat_lit 128)) from sV7_eq v r (Nat.sub n (nat_lit 128))]
  cases Nat.ble (nat_lit 128) n <;> rfl
theorem gV9_eq (t : T V 9) (n : Nat) : gV9 t n = T.get 9 t n := by
  refine Eq.trans ?_ (T.get_succ 8 t n).symm
  rw [pow2_8]
  show Bool.rec (motive := fun _ => Option V) (gV8 (N.l (β := T V 8) t) n) (gV8 (N.r (β := T V 8) t) (Nat.sub n (nat_lit 256))) (Nat.ble (nat_lit 256) n) = _
  rw [gV8_eq, gV8_eq]
  cases Nat.ble (nat_lit 256) n <;> rfl
theorem sV9_eq (v : Option V) (t : N (T V 8)) (n : Nat) : sV9 v t n = T.set v 9 t n := by
  obtain ⟨l, r⟩ := t
  refine Eq.trans ?_ (T.set_succ v 8 (N.mk (β := T V 8) l r) n).symm
  rw [pow2_8]
  show Bool.rec (motive := fun _ => N (T V 8)) (N.mk (β := T V 8) (sV8 v l n) r) (N.mk (β := T V 8) l (sV8 v r (Nat.sub n (nat_lit 256)))) (Nat.ble (nat_lit 256) n) = _
  rw [show sV8 v l n = T.set v 8 l n from sV8_eq v l n, show sV8 v r (Nat.sub n (nat_lit 256)) = T.set v 8 r (Nat.sub n (nat_lit 256)) from sV8_eq v r (Nat.sub n (nat_lit 256))]
  cases Nat.ble (nat_lit 256) n <;> rfl
theorem gB0_eq (t : T Blk 0) (n : Nat) : gB0 t n = T.get 0 t n := rfl
theorem sB0_eq (v : Option Blk) (t : T Blk 0) (n : Nat) : sB0 v t n = T.set v 0 t n := rfl
theorem gB1_eq (t : T Blk 1) (n : Nat) : gB1 t n = T.get 1 t n := by
  refine Eq.trans ?_ (T.get_succ 0 t n).symm
  rw [pow2_0]
  show Bool.rec (motive := fun _ => Option Blk) (gB0 (N.l (β := T Blk 0) t) n) (gB0 (N.r (β := T Blk 0) t) (Nat.sub n (nat_lit 1))) (Nat.ble (nat_lit 1) n) = _
  rw [gB0_eq, gB0_eq]
  cases Nat.ble (nat_lit 1) n <;> rfl
theorem sB1_eq (v : Option Blk) (t : N (T Blk 0)) (n : Nat) : sB1 v t n = T.set v 1 t n := by
  obtain ⟨l, r⟩ := t
  refine Eq.trans ?_ (T.set_succ v 0 (N.mk (β := T Blk 0) l r) n).symm
  rw [pow2_0]
  show Bool.rec (motive := fun _ => N (T Blk 0)) (N.mk (β := T Blk 0) (sB0 v l n) r) (N.mk (β := T Blk 0) l (sB0 v r (Nat.sub n (nat_lit 1)))) (Nat.ble (nat_lit 1) n) = _
  rw [show sB0 v l n = T.set v 0 l n from sB0_eq v l n, show sB0 v r (Nat.sub n (nat_lit 1)) = T.set v 0 r (Nat.sub n (nat_lit 1)) from sB0_eq v r (Nat.sub n (nat_lit 1))]
  cases Nat.ble (nat_lit 1) n <;> rfl
theorem gB2_eq (t : T Blk 2) (n : Nat) : gB2 t n = T.get 2 t n := by
  refine Eq.trans ?_ (T.get_succ 1 t n).symm
  rw [pow2_1]
  show Bool.rec (motive := fun _ => Option Blk) (gB1 (N.l (β := T Blk 1) t) n) (gB1 (N.r (β := T Blk 1) t) (Nat.sub n (nat_lit 2))) (Nat.ble (nat_lit 2) n) = _
  rw [gB1_eq, gB1_eq]
  cases Nat.ble (nat_lit 2) n <;> rfl
theorem sB2_eq (v : Option Blk) (t : N (T Blk 1)) (n : Nat) : sB2 v t n = T.set v 2 t n := by
  obtain ⟨l, r⟩ := t
  refine Eq.trans ?_ (T.set_succ v 1 (N.mk (β := T Blk 1) l r) n).symm
  rw [pow2_1]
  show Bool.rec (motive := fun _ => N (T Blk 1)) (N.mk (β := T Blk 1) (sB1 v l n) r) (N.mk (β := T Blk 1) l (sB1 v r (Nat.sub n (nat_lit 2)))) (Nat.ble (nat_lit 2) n) = _
  rw [show sB1 v l n = T.set v 1 l n from sB1_eq v l n, show sB1 v r (Nat.sub n (nat_lit 2)) = T.set v 1 r (Nat.sub n (nat_lit 2)) from sB1_eq v r (Nat.sub n (nat_lit 2))]
  cases Nat.ble (nat_lit 2) n <;> rfl
theorem gB3_eq (t : T Blk 3) (n : Nat) : gB3 t n = T.get 3 t n := by
  refine Eq.trans ?_ (T.get_succ 2 t n).symm
  rw [pow2_2]
  show Bool.rec (motive := fun _ => Option Blk) (gB2 (N.l (β := T Blk 2) t) n) (gB2 (N.r (β := T Blk 2) t) (Nat.sub n (nat_lit 4))) (Nat.ble (nat_lit 4) n) = _
  rw [gB2_eq, gB2_eq]
  cases Nat.ble (nat_lit 4) n <;> rfl
theorem sB3_eq (v : Option Blk) (t : N (T Blk 2)) (n : Nat) : sB3 v t n = T.set v 3 t n := by
  obtain ⟨l, r⟩ := t
  refine Eq.trans ?_ (T.set_succ v 2 (N.mk (β := T Blk 2) l r) n).symm
  rw [pow2_2]
  show Bool.rec (motive := fun _ => N (T Blk 2)) (N.mk (β := T Blk 2) (sB2 v l n) r) (N.mk (β := T Blk 2) l (sB2 v r (Nat.sub n (nat_lit 4)))) (Nat.ble (nat_lit 4) n) = _
  rw [show sB2 v l n = T.set v 2 l n from sB2_eq v l n, show sB2 v r (Nat.sub n (nat_lit 4)) = T.set v 2 r (Nat.sub n (nat_lit 4)) from sB2_eq v r (Nat.sub n (nat_lit 4))]
  cases Nat.ble (nat_lit 4) n <;> rfl
theorem gB4_eq (t : T Blk 4) (n : Nat) : gB4 t n = T.get 4 t n := by
  refine Eq.trans ?_ (T.get_succ 3 t n).symm
  rw [pow2_3]
  show Bool.rec (motive := fun _ => Option Blk) (gB3 (N.l (β := T Blk 3) t) n) (gB3 (N.r (β := T Blk 3) t) (Nat.sub n (nat_lit 8))) (Nat.ble (nat_lit 8) n) = _
  rw [gB3_eq, gB3_eq]
  cases Nat.ble (nat_lit 8) n <;> rfl
theorem sB4_eq (v : Option Blk) (t : N (T Blk 3)) (n : Nat) : sB4 v t n = T.set v 4 t n := by
  obtain ⟨l, r⟩ := t
  refine Eq.trans ?_ (T.set_succ v 3 (N.mk (β := T Blk 3) l r) n).symm
  rw [pow2_3]
  show Bool.rec (motive := fun _ => N (T Blk 3)) (N.mk (β := T Blk 3) (sB3 v l n) r) (N.mk (β := T Blk 3) l (sB3 v r (Nat.sub n (nat_lit 8)))) (Nat.ble (nat_lit 8) n) = _
  rw [show sB3 v l n = T.set v 3 l n from sB3_eq v l n, show sB3 v r (Nat.sub n (nat_lit 8)) = T.set v 3 r (Nat.sub n (nat_lit 8)) from sB3_eq v r (Nat.sub n (nat_lit 8))]
  cases Nat.ble (nat_lit 8) n <;> rfl
theorem gB5_eq (t : T Blk 5) (n : Nat) : gB5 t n = T.get 5 t n := by
  refine Eq.trans ?_ (T.get_succ 4 t n).symm
  rw [pow2_4]
  show Bool.rec (motive := fun _ => Option Blk) (gB4 (N.l (β := T Blk 4) t) n) (gB4 (N.r (β := T Blk 4) t) (Nat.sub n (nat_lit 16))) (Nat.ble (nat_lit 16) n) = _
  rw [gB4_eq, gB4_eq]
  cases Nat.ble (nat_lit 16) n <;> rfl
theorem sB5_eq (v : Option Blk) (t : N (T Blk 4)) (n : Nat) : sB5 v t n = T.set v 5 t n := by
  obtain ⟨l, r⟩ := t
  refine Eq.trans ?_ (T.set_succ v 4 (N.mk (β := T Blk 4) l r) n).symm
  rw [pow2_4]
  show Bool.rec (motive := fun _ => N (T Blk 4)) (N.mk (β := T Blk 4) (sB4 v l n) r) (N.mk (β := T Blk 4) l (sB4 v r (Nat.sub n (nat_lit 16)))) (Nat.ble (nat_lit 16) n) = _
  rw [show sB4 v l n = T.set v 4 l n from sB4_eq v l n, show sB4 v r (Nat.sub n (nat_lit 16)) = T.set v 4 r (Nat.sub n (nat_lit 16)) from sB4_eq v r (Nat.sub n (nat_lit 16))]
  cases Nat.ble (nat_lit 16) n <;> rfl
theorem gB6_eq (t : T Blk 6) (n : Nat) : gB6 t n = T.get 6 t n := by
  refine Eq.trans ?_ (T.get_succ 5 t n).symm
  rw [pow2_5]
  show Bool.rec (motive := fun _ => Option Blk) (gB5 (N.l (β := T Blk 5) t) n) (gB5 (N.r (β := T Blk 5) t) (Nat.sub n (nat_lit 32))) (Nat.ble (nat_lit 32) n) = _
  rw [gB5_eq, gB5_eq]
  cases Nat.ble (nat_lit 32) n <;> rfl
theorem sB6_eq (v : Option Blk) (t : N (T Blk 5)) (n : Nat) : sB6 v t n = T.set v 6 t n := by
  obtain ⟨l, r⟩ := t
  refine Eq.trans ?_ (T.set_succ v 5 (N.mk (β := T Blk 5) l r) n).symm
  rw [pow2_5]
  show Bool.rec (motive := fun _ => N (T Blk 5)) (N.mk (β := T Blk 5) (sB5 v l n) r) (N.mk (β := T Blk 5) l (sB5 v r (Nat.sub n (nat_lit 32)))) (Nat.ble (nat_lit 32) n) = _
  rw [show sB5 v l n = T.set v 5 l n from sB5_eq v l n, show sB5 v r (Nat.sub n (nat_lit 32)) = T.set v 5 r (Nat.sub n (nat_lit 32)) from sB5_eq v r (Nat.sub n (nat_lit 32))]
  cases Nat.ble (nat_lit 32) n <;> rfl
theorem gB7_eq (t : T Blk 7) (n : Nat) : gB7 t n = T.get 7 t n := by
  refine Eq.trans ?_ (T.get_succ 6 t n).symm
  rw [pow2_6]
  show Bool.rec (motive := fun _ => Option Blk) (gB6 (N.l (β := T Blk 6) t) n) (gB6 (N.r (β := T Blk 6) t) (Nat.sub n (nat_lit 64))) (Nat.ble (nat_lit 64) n) = _
  rw [gB6_eq, gB6_eq]
  cases Nat.ble (nat_lit 64) n <;> rfl
theorem sB7_eq (v : Option Blk) (t : N (T Blk 6)) (n : Nat) : sB7 v t n = T.set v 7 t n := by
  obtain ⟨l, r⟩ := t
  refine Eq.trans ?_ (T.set_succ v 6 (N.mk (β := T Blk 6) l r) n).symm
  rw [pow2_6]
  show Bool.rec (motive := fun _ => N (T Blk 6)) (N.mk (β := T Blk 6) (sB6 v l n) r) (N.mk (β := T Blk 6) l (sB6 v r (Nat.sub n (nat_lit 64)))) (Nat.ble (nat_lit 64) n) = _
  rw [show sB6 v l n = T.set v 6 l n from sB6_eq v l n, show sB6 v r (Nat.sub n (nat_lit 64)) = T.set v 6 r (Nat.sub n (nat_lit 64)) from sB6_eq v r (Nat.sub n (nat_lit 64))]
  cases Nat.ble (nat_lit 64) n <;> rfl
theorem gB8_eq (t : T Blk 8) (n : Nat) : gB8 t n = T.get 8 t n := by
  refine Eq.trans ?_ (T.get_succ 7 t n).symm
  rw [pow2_7]
  show Bool.rec (motive := fun _ => Option Blk) (gB7 (N.l (β := T Blk 7) t) n) (gB7 (N.r (β := T Blk 7) t) (Nat.sub n (nat_lit 128))) (Nat.ble (nat_lit 128) n) = _
  rw [gB7_eq, gB7_eq]
  cases Nat.ble (nat_lit 128) n <;> rfl
theorem sB8_eq (v : Option Blk) (t : N (T Blk 7)) (n : Nat) : sB8 v t n = T.set v 8 t n := by
  obtain ⟨l, r⟩ := t
  refine Eq.trans ?_ (T.set_succ v 7 (N.mk (β := T Blk 7) l r) n).symm
  rw [pow2_7]
  show Bool.rec (motive := fun _ => N (T Blk 7)) (N.mk (β := T Blk 7) (sB7 v l n) r) (N.mk (β := T Blk 7) l (sB7 v r (Nat.sub n (nat_lit 128)))) (Nat.ble (nat_lit 128) n) = _
  rw [show sB7 v l n = T.set v 7 l n from sB7_eq v l n, show sB7 v r (Nat.sub n (nat_lit 128)) = T.set v 7 r (Nat.sub n (nat_lit 128)) from sB7_eq v r (Nat.sub n (nat_lit 128))]
  cases Nat.ble (nat_lit 128) n <;> rfl
theorem gB9_eq (t : T Blk 9) (n : Nat) : gB9 t n = T.get 9 t n := by
  refine Eq.trans ?_ (T.get_succ 8 t n).symm
  rw [pow2_8]
  show Bool.rec (motive := fun _ => Option Blk) (gB8 (N.l (β := T Blk 8) t) n) (gB8 (N.r (β := T Blk 8) t) (Nat.sub n (nat_lit 256))) (Nat.ble (nat_lit 256) n) = _
  rw [gB8_eq, gB8_eq]
  cases Nat.ble (nat_lit 256) n <;> rfl
theorem sB9_eq (v : Option Blk) (t : N (T Blk 8)) (n : Nat) : sB9 v t n = T.set v 9 t n := by
  obtain ⟨l, r⟩ := t
  refine Eq.trans ?_ (T.set_succ v 8 (N.mk (β := T Blk 8) l r) n).symm
  rw [pow2_8]
  show Bool.rec (motive := fun _ => N (T Blk 8)) (N.mk (β := T Blk 8) (sB8 v l n) r) (N.mk (β := T Blk 8) l (sB8 v r (Nat.sub n (nat_lit 256)))) (Nat.ble (nat_lit 256) n) = _
  rw [show sB8 v l n = T.set v 8 l n from sB8_eq v l n, show sB8 v r (Nat.sub n (nat_lit 256)) = T.set v 8 r (Nat.sub n (nat_lit 256)) from sB8_eq v r (Nat.sub n (nat_lit 256))]
  cases Nat.ble (nat_lit 256) n <;> rfl
theorem gB10_eq (t : T Blk 10) (n : Nat) : gB10 t n = T.get 10 t n := by
  refine Eq.trans ?_ (T.get_succ 9 t n).symm
  rw [pow2_9]
  show Bool.rec (motive := fun _ => Option Blk) (gB9 (N.l (β := T Blk 9) t) n) (gB9 (N.r (β := T Blk 9) t) (Nat.sub n (nat_lit 512))) (Nat.ble (nat_lit 512) n) = _
  rw [gB9_eq, gB9_eq]
  cases Nat.ble (nat_lit 512) n <;> rfl
theorem sB10_eq (v : Option Blk) (t : N (T Blk 9)) (n : Nat) : sB10 v t n = T.set v 10 t n := by
  obtain ⟨l, r⟩ := t
  refine Eq.trans ?_ (T.set_succ v 9 (N.mk (β := T Blk 9) l r) n).symm
  rw [pow2_9]
  show Bool.rec (motive := fun _ => N (T Blk 9)) (N.mk (β := T Blk 9) (sB9 v l n) r) (N.mk (β := T Blk 9) l (sB9 v r (Nat.sub n (nat_lit 512)))) (Nat.ble (nat_lit 512) n) = _
  rw [show sB9 v l n = T.set v 9 l n from sB9_eq v l n, show sB9 v r (Nat.sub n (nat_lit 512)) = T.set v 9 r (Nat.sub n (nat_lit 512)) from sB9_eq v r (Nat.sub n (nat_lit 512))]
  cases Nat.ble (nat_lit 512) n <;> rfl
theorem gB11_eq (t : T Blk 11) (n : Nat) : gB11 t n = T.get 11 t n := by
  refine Eq.trans ?_ (T.get_succ 10 t n).symm
  rw [pow2_10]
  show Bool.rec (motive := fun _ => Option Blk) (gB10 (N.l (β := T Blk 10) t) n) (gB10 (N.r (β := T Blk 10) t) (Nat.sub n (nat_lit 1024))) (Nat.ble (nat_lit 1024) n) = _
  rw [gB10_eq, gB10_eq]
  cases Nat.ble (nat_lit 1024) n <;> rfl
theorem sB11_eq (v : Option Blk) (t : N (T Blk 10)) (n : Nat) : sB11 v t n = T.set v 11 t n := by
  obtain ⟨l, r⟩ := t
  refine Eq.trans ?_ (T.set_succ v 10 (N.mk (β := T Blk 10) l r) n).symm
  rw [pow2_10]
  show Bool.rec (motive := fun _ => N (T Blk 10)) (N.mk (β := T Blk 10) (sB10 v l n) r) (N.mk (β := T Blk 10) l (sB10 v r (Nat.sub n (nat_lit 1024)))) (Nat.ble (nat_lit 1024) n) = _
  rw [show sB10 v l n = T.set v 10 l n from sB10_eq v l n, show sB10 v r (Nat.sub n (nat_lit 1024)) = T.set v 10 r (Nat.sub n (nat_lit 1024)) from sB10_eq v r (Nat.sub n (nat_lit 1024))]
  cases Nat.ble (nat_lit 1024) n <;> rfl
theorem gB12_eq (t : T Blk 12) (n : Nat) : gB12 t n = T.get 12 t n := by
  refine Eq.trans ?_ (T.get_succ 11 t n).symm
  rw [pow2_11]
  show Bool.rec (motive := fun _ => Option Blk) (gB11 (N.l (β := T Blk 11) t) n) (gB11 (N.r (β := T Blk 11) t) (Nat.sub n (nat_lit 2048))) (Nat.ble (nat_lit 2048) n) = _
  rw [gB11_eq, gB11_eq]
  cases Nat.ble (nat_lit 2048) n <;> rfl
theorem sB12_eq (v : Option Blk) (t : N (T Blk 11)) (n : Nat) : sB12 v t n = T.set v 12 t n := by
  obtain ⟨l, r⟩ := t
  refine Eq.trans ?_ (T.set_succ v 11 (N.mk (β := T Blk 11) l r) n).symm
  rw [pow2_11]
  show Bool.rec (motive := fun _ => N (T Blk 11)) (N.mk (β := T Blk 11) (sB11 v l n) r) (N.mk (β := T Blk 11) l (sB11 v r (Nat.sub n (nat_lit 2048)))) (Nat.ble (nat_lit 2048) n) = _
  rw [show sB11 v l n = T.set v 11 l n from sB11_eq v l n, show sB11 v r (Nat.sub n (nat_lit 2048)) = T.set v 11 r (Nat.sub n (nat_lit 2048)) from sB11_eq v r (Nat.sub n (nat_lit 2048))]
  cases Nat.ble (nat_lit 2048) n <;> rfl
theorem gB13_eq (t : T Blk 13) (n : Nat) : gB13 t n = T.get 13 t n := by
  refine Eq.trans ?_ (T.get_succ 12 t n).symm
  rw [pow2_12]
  show Bool.rec (motive := fun _ => Option Blk) (gB12 (N.l (β := T Blk 12) t) n) (gB12 (N.r (β := T Blk 12) t) (Nat.sub n (nat_lit 4096))) (Nat.ble (nat_lit 4096) n) = _
  rw [gB12_eq, gB12_eq]
  cases Nat.ble (nat_lit 4096) n <;> rfl
theorem sB13_eq (v : Option Blk) (t : N (T Blk 12)) (n : Nat) : sB13 v t n = T.set v 13 t n := by
  obtain ⟨l, r⟩ := t
  refine Eq.trans ?_ (T.set_succ v 12 (N.mk (β := T Blk 12) l r) n).symm
  rw [pow2_12]
  show Bool.rec (motive := fun _ => N (T Blk 12)) (N.mk (β := T Blk 12) (sB12 v l n) r) (N.mk (β := T Blk 12) l (sB12 v r (Nat.sub n (nat_lit 4096)))) (Nat.ble (nat_lit 4096) n) = _
  rw [show sB12 v l n = T.set v 12 l n from sB12_eq v l n, show sB12 v r (Nat.sub n (nat_lit 4096)) = T.set v 12 r (Nat.sub n (nat_lit 4096)) from sB12_eq v r (Nat.sub n (nat_lit 4096))]
  cases Nat.ble (nat_lit 4096) n <;> rfl
theorem gB14_eq (t : T Blk 14) (n : Nat) : gB14 t n = T.get 14 t n := by
  refine Eq.trans ?_ (T.get_succ 13 t n).symm
  rw [pow2_13]
  show Bool.rec (motive := fun _ => Option Blk) (gB13 (N.l (β := T Blk 13) t) n) (gB13 (N.r (β := T Blk 13) t) (Nat.sub n (nat_lit 8192))) (Nat.ble (nat_lit 8192) n) = _
  rw [gB13_eq, gB13_eq]
  cases Nat.ble (nat_lit 8192) n <;> rfl
theorem sB14_eq (v : Option Blk) (t : N (T Blk 13)) (n : Nat) : sB14 v t n = T.set v 14 t n := by
  obtain ⟨l, r⟩ := t
  refine Eq.trans ?_ (T.set_succ v 13 (N.mk (β := T Blk 13) l r) n).symm
  rw [pow2_13]
  show Bool.rec (motive := fun _ => N (T Blk 13)) (N.mk (β := T Blk 13) (sB13 v l n) r) (N.mk (β := T Blk 13) l (sB13 v r (Nat.sub n (nat_lit 8192)))) (Nat.ble (nat_lit 8192) n) = _
  rw [show sB13 v l n = T.set v 13 l n from sB13_eq v l n, show sB13 v r (Nat.sub n (nat_lit 8192)) = T.set v 13 r (Nat.sub n (nat_lit 8192)) from sB13_eq v r (Nat.sub n (nat_lit 8192))]
  cases Nat.ble (nat_lit 8192) n <;> rfl
theorem gB15_eq (t : T Blk 15) (n : Nat) : gB15 t n = T.get 15 t n := by
  refine Eq.trans ?_ (T.get_succ 14 t n).symm
  rw [pow2_14]
  show Bool.rec (motive := fun _ => Option Blk) (gB14 (N.l (β := T Blk 14) t) n) (gB14 (N.r (β := T Blk 14) t) (Nat.sub n (nat_lit 16384))) (Nat.ble (nat_lit 16384) n) = _
  rw [gB14_eq, gB14_eq]
  cases Nat.ble (nat_lit 16384) n <;> rfl
theorem sB15_eq (v : Option Blk) (t : N (T Blk 14)) (n : Nat) : sB15 v t n = T.set v 15 t n := by
  obtain ⟨l, r⟩ := t
  refine Eq.trans ?_ (T.set_succ v 14 (N.mk (β := T Blk 14) l r) n).symm
  rw [pow2_14]
  show Bool.rec (motive := fun _ => N (T Blk 14)) (N.mk (β := T Blk 14) (sB14 v l n) r) (N.mk (β := T Blk 14) l (sB14 v r (Nat.sub n (nat_lit 16384)))) (Nat.ble (nat_lit 16384) n) = _
  rw [show sB14 v l n = T.set v 14 l n from sB14_eq v l n, show sB14 v r (Nat.sub n (nat_lit 16384)) = T.set v 14 r (Nat.sub n (nat_lit 16384)) from sB14_eq v r (Nat.sub n (nat_lit 16384))]
  cases Nat.ble (nat_lit 16384) n <;> rfl
theorem gB16_eq (t : T Blk 16) (n : Nat) : gB16 t n = T.get 16 t n := by
  refine Eq.trans ?_ (T.get_succ 15 t n).symm
  rw [pow2_15]
  show Bool.rec (motive := fun _ => Option Blk) (gB15 (N.l (β := T Blk 15) t) n) (gB15 (N.r (β := T Blk 15) t) (Nat.sub n (nat_lit 32768))) (Nat.ble (nat_lit 32768) n) = _
  rw [gB15_eq, gB15_eq]
  cases Nat.ble (nat_lit 32768) n <;> rfl
theorem sB16_eq (v : Option Blk) (t : N (T Blk 15)) (n : Nat) : sB16 v t n = T.set v 16 t n := by
  obtain ⟨l, r⟩ := t
  refine Eq.trans ?_ (T.set_succ v 15 (N.mk (β := T Blk 15) l r) n).symm
  rw [pow2_15]
  show Bool.rec (motive := fun _ => N (T Blk 15)) (N.mk (β := T Blk 15) (sB15 v l n) r) (N.mk (β := T Blk 15) l (sB15 v r (Nat.sub n (nat_lit 32768)))) (Nat.ble (nat_lit 32768) n) = _
  rw [show sB15 v l n = T.set v 15 l n from sB15_eq v l n, show sB15 v r (Nat.sub n (nat_lit 32768)) = T.set v 15 r (Nat.sub n (nat_lit 32768)) from sB15_eq v r (Nat.sub n (nat_lit 32768))]
  cases Nat.ble (nat_lit 32768) n <;> rfl
theorem getV_eq (t : Tr V) (n : Nat) : getV t n = t.get n := by
  show Bool.rec (motive := fun _ => Option V) (gV4 t.s n) (Bool.rec (motive := fun _ => Option V) (gV9 t.m (n - 16)) (Tr.get t n) (Nat.ble 528 n)) (Nat.ble 16 n) = _
  rw [gV4_eq, gV9_eq]
  cases h1 : Nat.ble 16 n with
  | false => show T.get 4 t.s n = _; unfold Tr.get; simp only [h1]
  | true =>
    cases h2 : Nat.ble 528 n with
    | false => show T.get 9 t.m (n - 16) = _; unfold Tr.get; simp only [h1, h2]
    | true => rfl
theorem getB_eq (t : Hp) (n : Nat) : getB t n = t.get n := by
  show Bool.rec (motive := fun _ => Option Blk) (gB4 t.s n) (Bool.rec (motive := fun _ => Option Blk) (gB9 t.m (n - 16)) (Bool.rec (motive := fun _ => Option Blk) (gB16 t.b (n - 528)) (Tr.get t n) (Nat.ble 66064 n)) (Nat.ble 528 n)) (Nat.ble 16 n) = _
  rw [gB4_eq, gB9_eq, gB16_eq]
  cases h1 : Nat.ble 16 n with
  | false => show T.get 4 t.s n = _; unfold Tr.get; simp only [h1]
  | true =>
    cases h2 : Nat.ble 528 n with
    | false => show T.get 9 t.m (n - 16) = _; unfold Tr.get; simp only [h1, h2]
    | true =>
      cases h3 : Nat.ble 66064 n with
      | false => show T.get 16 t.b (n - 528) = _; unfold Tr.get; simp only [h1, h2, h3]
      | true => rfl
theorem putV_eq (v : V) (t : Tr V) (n : Nat) : putV v t n = t.put n v := by
  obtain ⟨s, m, b, z⟩ := t
  show Bool.rec (motive := fun _ => Tr V) ⟨sV4 (some v) s n, m, b, z⟩ (Bool.rec (motive := fun _ => Tr V) ⟨s, sV9 (some v) m (n - 16), b, z⟩ (Tr.set (some v) ⟨s, m, b, z⟩ n) (Nat.ble 528 n)) (Nat.ble 16 n) = Tr.set (some v) ⟨s, m, b, z⟩ n
  rw [show sV4 (some v) s n = T.set (some v) 4 s n from sV4_eq (some v) s n, show sV9 (some v) m (n - 16) = T.set (some v) 9 m (n - 16) from sV9_eq (some v) m (n - 16)]
  cases h1 : Nat.ble 16 n with
  | false => unfold Tr.set; simp only [h1]
  | true =>
    cases h2 : Nat.ble 528 n with
    | false => unfold Tr.set; simp only [h1, h2]
    | true => rfl
theorem setB_eq (v : Option Blk) (t : Hp) (n : Nat) : setB v t n = t.set v n := by
  obtain ⟨s, m, b, z⟩ := t
  show Bool.rec (motive := fun _ => Hp) ⟨sB4 v s n, m, b, z⟩ (Bool.rec (motive := fun _ => Hp) ⟨s, sB9 v m (n - 16), b, z⟩ (Bool.rec (motive := fun _ => Hp) ⟨s, m, sB16 v b (n - 528), z⟩ (Tr.set v ⟨s, m, b, z⟩ n) (Nat.ble 66064 n)) (Nat.ble 528 n)) (Nat.ble 16 n) = Tr.set v ⟨s, m, b, z⟩ n
  rw [show sB4 v s n = T.set v 4 s n from sB4_eq v s n, show sB9 v m (n - 16) = T.set v 9 m (n - 16) from sB9_eq v m (n - 16), show sB16 v b (n - 528) = T.set v 16 b (n - 528) from sB16_eq v b (n - 528)]
  cases h1 : Nat.ble 16 n with
  | false => unfold Tr.set; simp only [h1]
  | true =>
    cases h2 : Nat.ble 528 n with
    | false => unfold Tr.set; simp only [h1, h2]
    | true =>
      cases h3 : Nat.ble 66064 n with
      | false => unfold Tr.set; simp only [h1, h2, h3]
      | true => rfl
theorem orJ_eq (o : Option V) : orJ o = (match o with | some v => v | none => .junk) := by cases o <;> rfl
theorem gT_eq (t : Nat) (tm : Tr V) : gT t tm = (match tm.get t with | some v => v | none => .junk) := by
  show orJ (getV tm t) = _
  rw [getV_eq, orJ_eq]
theorem wT_eq (t : Nat) (v : V) (tm : Tr V) : wT t v tm = tm.put t v := putV_eq v tm t
theorem g0_eq (tm : Tr V) : g0 tm = gT 0 tm := rfl
theorem g1_eq (tm : Tr V) : g1 tm = gT 1 tm := rfl
theorem g2_eq (tm : Tr V) : g2 tm = gT 2 tm := rfl
theorem g3_eq (tm : Tr V) : g3 tm = gT 3 tm := rfl
theorem g4_eq (tm : Tr V) : g4 tm = gT 4 tm := rfl
theorem g5_eq (tm : Tr V) : g5 tm = gT 5 tm := rfl
theorem g6_eq (tm : Tr V) : g6 tm = gT 6 tm := rfl
theorem g7_eq (tm : Tr V) : g7 tm = gT 7 tm := rfl
theorem g8_eq (tm : Tr V) : g8 tm = gT 8 tm := rfl
theorem g9_eq (tm : Tr V) : g9 tm = gT 9 tm := rfl
theorem g10_eq (tm : Tr V) : g10 tm = gT 10 tm := rfl
theorem g11_eq (tm : Tr V) : g11 tm = gT 11 tm := rfl
theorem g12_eq (tm : Tr V) : g12 tm = gT 12 tm := rfl
theorem g13_eq (tm : Tr V) : g13 tm = gT 13 tm := rfl
theorem g14_eq (tm : Tr V) : g14 tm = gT 14 tm := rfl
theorem g15_eq (tm : Tr V) : g15 tm = gT 15 tm := rfl
theorem w0_eq (v : V) (tm : Tr V) : w0 v tm = wT 0 v tm := rfl
theorem w1_eq (v : V) (tm : Tr V) : w1 v tm = wT 1 v tm := rfl
theorem w2_eq (v : V) (tm : Tr V) : w2 v tm = wT 2 v tm := rfl
theorem w3_eq (v : V) (tm : Tr V) : w3 v tm = wT 3 v tm := rfl
theorem w4_eq (v : V) (tm : Tr V) : w4 v tm = wT 4 v tm := rfl
theorem w5_eq (v : V) (tm : Tr V) : w5 v tm = wT 5 v tm := rfl
theorem w6_eq (v : V) (tm : Tr V) : w6 v tm = wT 6 v tm := rfl
theorem w7_eq (v : V) (tm : Tr V) : w7 v tm = wT 7 v tm := rfl
theorem w8_eq (v : V) (tm : Tr V) : w8 v tm = wT 8 v tm := rfl
theorem w9_eq (v : V) (tm : Tr V) : w9 v tm = wT 9 v tm := rfl
theorem w10_eq (v : V) (tm : Tr V) : w10 v tm = wT 10 v tm := rfl
theorem w11_eq (v : V) (tm : Tr V) : w11 v tm = wT 11 v tm := rfl
theorem w12_eq (v : V) (tm : Tr V) : w12 v tm = wT 12 v tm := rfl
theorem w13_eq (v : V) (tm : Tr V) : w13 v tm = wT 13 v tm := rfl
theorem w14_eq (v : V) (tm : Tr V) : w14 v tm = wT 14 v tm := rfl
theorem w15_eq (v : V) (tm : Tr V) : w15 v tm = wT 15 v tm := rfl
theorem rdT_eq (t : Nat) (tm : Tr V) : rdT t tm = (match tm.get t with | some v => v | none => .junk) := by
  rw [← gT_eq]
  unfold rdT
  split <;> first
    | rfl
    | exact g0_eq tm
    | exact g1_eq tm
    | exact g2_eq tm
    | exact g3_eq tm
    | exact g4_eq tm
    | exact g5_eq tm
    | exact g6_eq tm
    | exact g7_eq tm
    | exact g8_eq tm
    | exact g9_eq tm
    | exact g10_eq tm
    | exact g11_eq tm
    | exact g12_eq tm
    | exact g13_eq tm
    | exact g14_eq tm
    | exact g15_eq tm
theorem wrT_eq (t : Nat) (v : V) (tm : Tr V) : wrT t v tm = tm.put t v := by
  rw [← wT_eq]
  unfold wrT
  split <;> first
    | rfl
    | exact w0_eq v tm
    | exact w1_eq v tm
    | exact w2_eq v tm
    | exact w3_eq v tm
    | exact w4_eq v tm
    | exact w5_eq v tm
    | exact w6_eq v tm
    | exact w7_eq v tm
    | exact w8_eq v tm
    | exact w9_eq v tm
    | exact w10_eq v tm
    | exact w11_eq v tm
    | exact w12_eq v tm
    | exact w13_eq v tm
    | exact w14_eq v tm
    | exact w15_eq v tm

end Go.Abs
