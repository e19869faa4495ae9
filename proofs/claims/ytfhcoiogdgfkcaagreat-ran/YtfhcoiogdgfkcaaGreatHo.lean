import Derived.Test.YtfhcoiogdgfkcaaGreatAbs
namespace Go.Abs

/-! the evaluator as a program of functions that take what comes next: no code is looked at when it runs -/
abbrev Hp := Tr Blk
abbrev Res := Option (V × Hp × Nat)
abbrev CallT := FuncId → List V → Hp → Nat → Res
abbrev KV := V → Hp → Nat → Res
abbrev KE := Tr V → Hp → Nat → Res
abbrev CallK := FuncId → List V → Hp → Nat → KV → Res
abbrev CoK := CallK → Nat → KE → (Nat → KE) → KE → KE

/-! stores, level by level -/
noncomputable def gV0 (t : T V 0) (_ : Nat) : Option V := t
noncomputable def sV0 (v : Option V) (_ : T V 0) (_ : Nat) : T V 0 := v
noncomputable def gV1 (t : T V 1) (n : Nat) : Option V := Bool.rec (gV0 (N.l (β := T V 0) t) n) (gV0 (N.r (β := T V 0) t) (Nat.sub n (nat_lit 1))) (Nat.ble (nat_lit 1) n)
noncomputable def sV1 (v : Option V) (t : T V 1) (n : Nat) : T V 1 := N.rec (β := T V 0) (motive := fun _ => T V 1) (fun l r => Bool.rec (motive := fun _ => T V 1) (N.mk (β := T V 0) (sV0 v l n) r) (N.mk (β := T V 0) l (sV0 v r (Nat.sub n (nat_lit 1)))) (Nat.ble (nat_lit 1) n)) t
noncomputable def gV2 (t : T V 2) (n : Nat) : Option V := Bool.rec (gV1 (N.l (β := T V 1) t) n) (gV1 (N.r (β := T V 1) t) (Nat.sub n (nat_lit 2))) (Nat.ble (nat_lit 2) n)
noncomputable def sV2 (v : Option V) (t : T V 2) (n : Nat) : T V 2 := N.rec (β := T V 1) (motive := fun _ => T V 2) (fun l r => Bool.rec (motive := fun _ => T V 2) (N.mk (β := T V 1) (sV1 v l n) r) (N.mk (β := T V 1) l (sV1 v r (Nat.sub n (nat_lit 2)))) (Nat.ble (nat_lit 2) n)) t
noncomputable def gV3 (t : T V 3) (n : Nat) : Option V := Bool.rec (gV2 (N.l (β := T V 2) t) n) (gV2 (N.r (β := T V 2) t) (Nat.sub n (nat_lit 4))) (Nat.ble (nat_lit 4) n)
noncomputable def sV3 (v : Option V) (t : T V 3) (n : Nat) : T V 3 := N.rec (β := T V 2) (motive := fun _ => T V 3) (fun l r => Bool.rec (motive := fun _ => T V 3) (N.mk (β := T V 2) (sV2 v l n) r) (N.mk (β := T V 2) l (sV2 v r (Nat.sub n (nat_lit 4)))) (Nat.ble (nat_lit 4) n)) t
noncomputable def gV4 (t : T V 4) (n : Nat) : Option V := Bool.rec (gV3 (N.l (β := T V 3) t) n) (gV3 (N.r (β := T V 3) t) (Nat.sub n (nat_lit 8))) (Nat.ble (nat_lit 8) n)
noncomputable def sV4 (v : Option V) (t : T V 4) (n : Nat) : T V 4 := N.rec (β := T V 3) (motive := fun _ => T V 4) (fun l r => Bool.rec (motive := fun _ => T V 4) (N.mk (β := T V 3) (sV3 v l n) r) (N.mk (β := T V 3) l (sV3 v r (Nat.sub n (nat_lit 8)))) (Nat.ble (nat_lit 8) n)) t
noncomputable def gV5 (t : T V 5) (n : Nat) : Option V := Bool.rec (gV4 (N.l (β := T V 4) t) n) (gV4 (N.r (β := T V 4) t) (Nat.sub n (nat_lit 16))) (Nat.ble (nat_lit 16) n)
noncomputable def sV5 (v : Option V) (t : T V 5) (n : Nat) : T V 5 := N.rec (β := T V 4) (motive := fun _ => T V 5) (fun l r => Bool.rec (motive := fun _ => T V 5) (N.mk (β := T V 4) (sV4 v l n) r) (N.mk (β := T V 4) l (sV4 v r (Nat.sub n (nat_lit 16)))) (Nat.ble (nat_lit 16) n)) t
noncomputable def gV6 (t : T V 6) (n : Nat) : Option V := Bool.rec (gV5 (N.l (β := T V 5) t) n) (gV5 (N.r (β := T V 5) t) (Nat.sub n (nat_lit 32))) (Nat.ble (nat_lit 32) n)
noncomputable def sV6 (v : Option V) (t : T V 6) (n : Nat) : T V 6 := N.rec (β := T V 5) (motive := fun _ => T V 6) (fun l r => Bool.rec (motive := fun _ => T V 6) (N.mk (β := T V 5) (sV5 v l n) r) (N.mk (β := T V 5) l (sV5 v r (Nat.sub n (nat_lit 32)))) (Nat.ble (nat_lit 32) n)) t
noncomputable def gV7 (t : T V 7) (n : Nat) : Option V := Bool.rec (gV6 (N.l (β := T V 6) t) n) (gV6 (N.r (β := T V 6) t) (Nat.sub n (nat_lit 64))) (Nat.ble (nat_lit 64) n)
noncomputable def sV7 (v : Option V) (t : T V 7) (n : Nat) : T V 7 := N.rec (β := T V 6) (motive := fun _ => T V 7) (fun l r => Bool.rec (motive := fun _ => T V 7) (N.mk (β := T V 6) (sV6 v l n) r) (N.mk (β := T V 6) l (sV6 v r (Nat.sub n (nat_lit 64)))) (Nat.ble (nat_lit 64) n)) t
noncomputable def gV8 (t : T V 8) (n : Nat) : Option V := Bool.rec (gV7 (N.l (β := T V 7) t) n) (gV7 (N.r (β := T V 7) t) (Nat.sub n (nat_lit 128))) (Nat.ble (nat_lit 128) n)
noncomputable def sV8 (v : Option V) (t : T V 8) (n : Nat) : T V 8 := N.rec (β := T V 7) (motive := fun _ => T V 8) (fun l r => Bool.rec (motive := fun _ => T V 8) (N.mk (β := T V 7) (sV7 v l n) r) (N.mk (β := T V 7) l (sV7 v r (Nat.sub n (nat_lit 128)))) (Nat.ble (nat_lit 128) n)) t
noncomputable def gV9 (t : T V 9) (n : Nat) : Option V := Bool.rec (gV8 (N.l (β := T V 8) t) n) (gV8 (N.r (β := T V 8) t) (Nat.sub n (nat_lit 256))) (Nat.ble (nat_lit 256) n)
noncomputable def sV9 (v : Option V) (t : T V 9) (n : Nat) : T V 9 := N.rec (β := T V 8) (motive := fun _ => T V 9) (fun l r => Bool.rec (motive := fun _ => T V 9) (N.mk (β := T V 8) (sV8 v l n) r) (N.mk (β := T V 8) l (sV8 v r (Nat.sub n (nat_lit 256)))) (Nat.ble (nat_lit 256) n)) t
noncomputable def gB0 (t : T Blk 0) (_ : Nat) : Option Blk := t
noncomputable def sB0 (v : Option Blk) (_ : T Blk 0) (_ : Nat) : T Blk 0 := v
noncomputable def gB1 (t : T Blk 1) (n : Nat) : Option Blk := Bool.rec (gB0 (N.l (β := T Blk 0) t) n) (gB0 (N.r (β := T Blk 0) t) (Nat.sub n (nat_lit 1))) (Nat.ble (nat_lit 1) n)
noncomputable def sB1 (v : Option Blk) (t : T Blk 1) (n : Nat) : T Blk 1 := N.rec (β := T Blk 0) (motive := fun _ => T Blk 1) (fun l r => Bool.rec (motive := fun _ => T Blk 1) (N.mk (β := T Blk 0) (sB0 v l n) r) (N.mk (β := T Blk 0) l (sB0 v r (Nat.sub n (nat_lit 1)))) (Nat.ble (nat_lit 1) n)) t
noncomputable def gB2 (t : T Blk 2) (n : Nat) : Option Blk := Bool.rec (gB1 (N.l (β := T Blk 1) t) n) (gB1 (N.r (β := T Blk 1) t) (Nat.sub n (nat_lit 2))) (Nat.ble (nat_lit 2) n)
noncomputable def sB2 (v : Option Blk) (t : T Blk 2) (n : Nat) : T Blk 2 := N.rec (β := T Blk 1) (motive := fun _ => T Blk 2) (fun l r => Bool.rec (motive := fun _ => T Blk 2) (N.mk (β := T Blk 1) (sB1 v l n) r) (N.mk (β := T Blk 1) l (sB1 v r (Nat.sub n (nat_lit 2)))) (Nat.ble (nat_lit 2) n)) t
noncomputable def gB3 (t : T Blk 3) (n : Nat) : Option Blk := Bool.rec (gB2 (N.l (β := T Blk 2) t) n) (gB2 (N.r (β := T Blk 2) t) (Nat.sub n (nat_lit 4))) (Nat.ble (nat_lit 4) n)
noncomputable def sB3 (v : Option Blk) (t : T Blk 3) (n : Nat) : T Blk 3 := N.rec (β := T Blk 2) (motive := fun _ => T Blk 3) (fun l r => Bool.rec (motive := fun _ => T Blk 3) (N.mk (β := T Blk 2) (sB2 v l n) r) (N.mk (β := T Blk 2) l (sB2 v r (Nat.sub n (nat_lit 4)))) (Nat.ble (nat_lit 4) n)) t
noncomputable def gB4 (t : T Blk 4) (n : Nat) : Option Blk := Bool.rec (gB3 (N.l (β := T Blk 3) t) n) (gB3 (N.r (β := T Blk 3) t) (Nat.sub n (nat_lit 8))) (Nat.ble (nat_lit 8) n)
noncomputable def sB4 (v : Option Blk) (t : T Blk 4) (n : Nat) : T Blk 4 := N.rec (β := T Blk 3) (motive := fun _ => T Blk 4) (fun l r => Bool.rec (motive := fun _ => T Blk 4) (N.mk (β := T Blk 3) (sB3 v l n) r) (N.mk (β := T Blk 3) l (sB3 v r (Nat.sub n (nat_lit 8)))) (Nat.ble (nat_lit 8) n)) t
noncomputable def gB5 (t : T Blk 5) (n : Nat) : Option Blk := Bool.rec (gB4 (N.l (β := T Blk 4) t) n) (gB4 (N.r (β := T Blk 4) t) (Nat.sub n (nat_lit 16))) (Nat.ble (nat_lit 16) n)
noncomputable def sB5 (v : Option Blk) (t : T Blk 5) (n : Nat) : T Blk 5 := N.rec (β := T Blk 4) (motive := fun _ => T Blk 5) (fun l r => Bool.rec (motive := fun _ => T Blk 5) (N.mk (β := T Blk 4) (sB4 v l n) r) (N.mk (β := T Blk 4) l (sB4 v r (Nat.sub n (nat_lit 16)))) (Nat.ble (nat_lit 16) n)) t
noncomputable def gB6 (t : T Blk 6) (n : Nat) : Option Blk := Bool.rec (gB5 (N.l (β := T Blk 5) t) n) (gB5 (N.r (β := T Blk 5) t) (Nat.sub n (nat_lit 32))) (Nat.ble (nat_lit 32) n)
noncomputable def sB6 (v : Option Blk) (t : T Blk 6) (n : Nat) : T Blk 6 := N.rec (β := T Blk 5) (motive := fun _ => T Blk 6) (fun l r => Bool.rec (motive := fun _ => T Blk 6) (N.mk (β := T Blk 5) (sB5 v l n) r) (N.mk (β := T Blk 5) l (sB5 v r (Nat.sub n (nat_lit 32)))) (Nat.ble (nat_lit 32) n)) t
noncomputable def gB7 (t : T Blk 7) (n : Nat) : Option Blk := Bool.rec (gB6 (N.l (β := T Blk 6) t) n) (gB6 (N.r (β := T Blk 6) t) (Nat.sub n (nat_lit 64))) (Nat.ble (nat_lit 64) n)
noncomputable def sB7 (v : Option Blk) (t : T Blk 7) (n : Nat) : T Blk 7 := N.rec (β := T Blk 6) (motive := fun _ => T Blk 7) (fun l r => Bool.rec (motive := fun _ => T Blk 7) (N.mk (β := T Blk 6) (sB6 v l n) r) (N.mk (β := T Blk 6) l (sB6 v r (Nat.sub n (nat_lit 64)))) (Nat.ble (nat_lit 64) n)) t
noncomputable def gB8 (t : T Blk 8) (n : Nat) : Option Blk := Bool.rec (gB7 (N.l (β := T Blk 7) t) n) (gB7 (N.r (β := T Blk 7) t) (Nat.sub n (nat_lit 128))) (Nat.ble (nat_lit 128) n)
noncomputable def sB8 (v : Option Blk) (t : T Blk 8) (n : Nat) : T Blk 8 := N.rec (β := T Blk 7) (motive := fun _ => T Blk 8) (fun l r => Bool.rec (motive := fun _ => T Blk 8) (N.mk (β := T Blk 7) (sB7 v l n) r) (N.mk (β := T Blk 7) l (sB7 v r (Nat.sub n (nat_lit 128)))) (Nat.ble (nat_lit 128) n)) t
noncomputable def gB9 (t : T Blk 9) (n : Nat) : Option Blk := Bool.rec (gB8 (N.l (β := T Blk 8) t) n) (gB8 (N.r (β := T Blk 8) t) (Nat.sub n (nat_lit 256))) (Nat.ble (nat_lit 256) n)
noncomputable def sB9 (v : Option Blk) (t : T Blk 9) (n : Nat) : T Blk 9 := N.rec (β := T Blk 8) (motive := fun _ => T Blk 9) (fun l r => Bool.rec (motive := fun _ => T Blk 9) (N.mk (β := T Blk 8) (sB8 v l n) r) (N.mk (β := T Blk 8) l (sB8 v r (Nat.sub n (nat_lit 256)))) (Nat.ble (nat_lit 256) n)) t
noncomputable def gB10 (t : T Blk 10) (n : Nat) : Option Blk := Bool.rec (gB9 (N.l (β := T Blk 9) t) n) (gB9 (N.r (β := T Blk 9) t) (Nat.sub n (nat_lit 512))) (Nat.ble (nat_lit 512) n)
noncomputable def sB10 (v : Option Blk) (t : T Blk 10) (n : Nat) : T Blk 10 := N.rec (β := T Blk 9) (motive := fun _ => T Blk 10) (fun l r => Bool.rec (motive := fun _ => T Blk 10) (N.mk (β := T Blk 9) (sB9 v l n) r) (N.mk (β := T Blk 9) l (sB9 v r (Nat.sub n (nat_lit 512)))) (Nat.ble (nat_lit 512) n)) t
noncomputable def gB11 (t : T Blk 11) (n : Nat) : Option Blk := Bool.rec (gB10 (N.l (β := T Blk 10) t) n) (gB10 (N.r (β := T Blk 10) t) (Nat.sub n (nat_lit 1024))) (Nat.ble (nat_lit 1024) n)
noncomputable def sB11 (v : Option Blk) (t : T Blk 11) (n : Nat) : T Blk 11 := N.rec (β := T Blk 10) (motive := fun _ => T Blk 11) (fun l r => Bool.rec (motive := fun _ => T Blk 11) (N.mk (β := T Blk 10) (sB10 v l n) r) (N.mk (β := T Blk 10) l (sB10 v r (Nat.sub n (nat_lit 1024)))) (Nat.ble (nat_lit 1024) n)) t
noncomputable def gB12 (t : T Blk 12) (n : Nat) : Option Blk := Bool.rec (gB11 (N.l (β := T Blk 11) t) n) (gB11 (N.r (β := T Blk 11) t) (Nat.sub n (nat_lit 2048))) (Nat.ble (nat_lit 2048) n)
noncomputable def sB12 (v : Option Blk) (t : T Blk 12) (n : Nat) : T Blk 12 := N.rec (β := T Blk 11) (motive := fun _ => T Blk 12) (fun l r => Bool.rec (motive := fun _ => T Blk 12) (N.mk (β := T Blk 11) (sB11 v l n) r) (N.mk (β := T Blk 11) l (sB11 v r (Nat.sub n (nat_lit 2048)))) (Nat.ble (nat_lit 2048) n)) t
noncomputable def gB13 (t : T Blk 13) (n : Nat) : Option Blk := Bool.rec (gB12 (N.l (β := T Blk 12) t) n) (gB12 (N.r (β := T Blk 12) t) (Nat.sub n (nat_lit 4096))) (Nat.ble (nat_lit 4096) n)
noncomputable def sB13 (v : Option Blk) (t : T Blk 13) (n : Nat) : T Blk 13 := N.rec (β := T Blk 12) (motive := fun _ => T Blk 13) (fun l r => Bool.rec (motive := fun _ => T Blk 13) (N.mk (β := T Blk 12) (sB12 v l n) r) (N.mk (β := T Blk 12) l (sB12 v r (Nat.sub n (nat_lit 4096)))) (Nat.ble (nat_lit 4096) n)) t
noncomputable def gB14 (t : T Blk 14) (n : Nat) : Option Blk := Bool.rec (gB13 (N.l (β := T Blk 13) t) n) (gB13 (N.r (β := T Blk 13) t) (Nat.sub n (nat_lit 8192))) (Nat.ble (nat_lit 8192) n)
noncomputable def sB14 (v : Option Blk) (t : T Blk 14) (n : Nat) : T Blk 14 := N.rec (β := T Blk 13) (motive := fun _ => T Blk 14) (fun l r => Bool.rec (motive := fun _ => T Blk 14) (N.mk (β := T Blk 13) (sB13 v l n) r) (N.mk (β := T Blk 13) l (sB13 v r (Nat.sub n (nat_lit 8192)))) (Nat.ble (nat_lit 8192) n)) t
noncomputable def gB15 (t : T Blk 15) (n : Nat) : Option Blk := Bool.rec (gB14 (N.l (β := T Blk 14) t) n) (gB14 (N.r (β := T Blk 14) t) (Nat.sub n (nat_lit 16384))) (Nat.ble (nat_lit 16384) n)
noncomputable def sB15 (v : Option Blk) (t : T Blk 15) (n : Nat) : T Blk 15 := N.rec (β := T Blk 14) (motive := fun _ => T Blk 15) (fun l r => Bool.rec (motive := fun _ => T Blk 15) (N.mk (β := T Blk 14) (sB14 v l n) r) (N.mk (β := T Blk 14) l (sB14 v r (Nat.sub n (nat_lit 16384)))) (Nat.ble (nat_lit 16384) n)) t
noncomputable def gB16 (t : T Blk 16) (n : Nat) : Option Blk := Bool.rec (gB15 (N.l (β := T Blk 15) t) n) (gB15 (N.r (β := T Blk 15) t) (Nat.sub n (nat_lit 32768))) (Nat.ble (nat_lit 32768) n)
noncomputable def sB16 (v : Option Blk) (t : T Blk 16) (n : Nat) : T Blk 16 := N.rec (β := T Blk 15) (motive := fun _ => T Blk 16) (fun l r => Bool.rec (motive := fun _ => T Blk 16) (N.mk (β := T Blk 15) (sB15 v l n) r) (N.mk (β := T Blk 15) l (sB15 v r (Nat.sub n (nat_lit 32768)))) (Nat.ble (nat_lit 32768) n)) t
noncomputable def getV (t : Tr V) (n : Nat) : Option V := Bool.rec (gV4 (Tr.s t) n) (Bool.rec (gV9 (Tr.m t) (Nat.sub n (nat_lit 16))) (Tr.get t n) (Nat.ble (nat_lit 528) n)) (Nat.ble (nat_lit 16) n)
noncomputable def getB (t : Hp) (n : Nat) : Option Blk := Bool.rec (gB4 (Tr.s t) n) (Bool.rec (gB9 (Tr.m t) (Nat.sub n (nat_lit 16))) (Bool.rec (gB16 (Tr.b t) (Nat.sub n (nat_lit 528))) (Tr.get t n) (Nat.ble (nat_lit 66064) n)) (Nat.ble (nat_lit 528) n)) (Nat.ble (nat_lit 16) n)
noncomputable def putV (v : V) (t : Tr V) (n : Nat) : Tr V := Tr.rec (motive := fun _ => Tr V) (fun s m b z => Bool.rec (motive := fun _ => Tr V) ⟨sV4 (some v) s n, m, b, z⟩ (Bool.rec (motive := fun _ => Tr V) ⟨s, sV9 (some v) m (Nat.sub n (nat_lit 16)), b, z⟩ (Tr.set (some v) ⟨s, m, b, z⟩ n) (Nat.ble (nat_lit 528) n)) (Nat.ble (nat_lit 16) n)) t
noncomputable def setB (v : Option Blk) (t : Hp) (n : Nat) : Hp := Tr.rec (motive := fun _ => Hp) (fun s m b z => Bool.rec (motive := fun _ => Hp) ⟨sB4 v s n, m, b, z⟩ (Bool.rec (motive := fun _ => Hp) ⟨s, sB9 v m (Nat.sub n (nat_lit 16)), b, z⟩ (Bool.rec (motive := fun _ => Hp) ⟨s, m, sB16 v b (Nat.sub n (nat_lit 528)), z⟩ (Tr.set v ⟨s, m, b, z⟩ n) (Nat.ble (nat_lit 66064) n)) (Nat.ble (nat_lit 528) n)) (Nat.ble (nat_lit 16) n)) t

/-! the temporaries that outlive their region: the first sixteen by their place -/
noncomputable def orJ (o : Option V) : V := Option.rec .junk (fun v => v) o
noncomputable def gT (t : Nat) (tm : Tr V) : V := orJ (getV tm t)
noncomputable def wT (t : Nat) (v : V) (tm : Tr V) : Tr V := putV v tm t
noncomputable def g0 (tm : Tr V) : V := orJ (N.l (β := T V 0) (N.l (β := T V 1) (N.l (β := T V 2) (N.l (β := T V 3) (Tr.s tm)))))
noncomputable def g1 (tm : Tr V) : V := orJ (N.r (β := T V 0) (N.l (β := T V 1) (N.l (β := T V 2) (N.l (β := T V 3) (Tr.s tm)))))
noncomputable def g2 (tm : Tr V) : V := orJ (N.l (β := T V 0) (N.r (β := T V 1) (N.l (β := T V 2) (N.l (β := T V 3) (Tr.s tm)))))
noncomputable def g3 (tm : Tr V) : V := orJ (N.r (β := T V 0) (N.r (β := T V 1) (N.l (β := T V 2) (N.l (β := T V 3) (Tr.s tm)))))
noncomputable def g4 (tm : Tr V) : V := orJ (N.l (β := T V 0) (N.l (β := T V 1) (N.r (β := T V 2) (N.l (β := T V 3) (Tr.s tm)))))
noncomputable def g5 (tm : Tr V) : V := orJ (N.r (β := T V 0) (N.l (β := T V 1) (N.r (β := T V 2) (N.l (β := T V 3) (Tr.s tm)))))
noncomputable def g6 (tm : Tr V) : V := orJ (N.l (β := T V 0) (N.r (β := T V 1) (N.r (β := T V 2) (N.l (β := T V 3) (Tr.s tm)))))
noncomputable def g7 (tm : Tr V) : V := orJ (N.r (β := T V 0) (N.r (β := T V 1) (N.r (β := T V 2) (N.l (β := T V 3) (Tr.s tm)))))
noncomputable def g8 (tm : Tr V) : V := orJ (N.l (β := T V 0) (N.l (β := T V 1) (N.l (β := T V 2) (N.r (β := T V 3) (Tr.s tm)))))
noncomputable def g9 (tm : Tr V) : V := orJ (N.r (β := T V 0) (N.l (β := T V 1) (N.l (β := T V 2) (N.r (β := T V 3) (Tr.s tm)))))
noncomputable def g10 (tm : Tr V) : V := orJ (N.l (β := T V 0) (N.r (β := T V 1) (N.l (β := T V 2) (N.r (β := T V 3) (Tr.s tm)))))
noncomputable def g11 (tm : Tr V) : V := orJ (N.r (β := T V 0) (N.r (β := T V 1) (N.l (β := T V 2) (N.r (β := T V 3) (Tr.s tm)))))
noncomputable def g12 (tm : Tr V) : V := orJ (N.l (β := T V 0) (N.l (β := T V 1) (N.r (β := T V 2) (N.r (β := T V 3) (Tr.s tm)))))
noncomputable def g13 (tm : Tr V) : V := orJ (N.r (β := T V 0) (N.l (β := T V 1) (N.r (β := T V 2) (N.r (β := T V 3) (Tr.s tm)))))
noncomputable def g14 (tm : Tr V) : V := orJ (N.l (β := T V 0) (N.r (β := T V 1) (N.r (β := T V 2) (N.r (β := T V 3) (Tr.s tm)))))
noncomputable def g15 (tm : Tr V) : V := orJ (N.r (β := T V 0) (N.r (β := T V 1) (N.r (β := T V 2) (N.r (β := T V 3) (Tr.s tm)))))
noncomputable def w0 (v : V) (tm : Tr V) : Tr V := Tr.rec (motive := fun _ => Tr V) (fun s m b z => ⟨N.rec (β := T V 3) (motive := fun _ => T V 4) (fun l4 r4 => N.mk (β := T V 3) (N.rec (β := T V 2) (motive := fun _ => T V 3) (fun l3 r3 => N.mk (β := T V 2) (N.rec (β := T V 1) (motive := fun _ => T V 2) (fun l2 r2 => N.mk (β := T V 1) (N.rec (β := T V 0) (motive := fun _ => T V 1) (fun _ r1 => N.mk (β := T V 0) (some v) r1) l2) r2) l3) r3) l4) r4) s, m, b, z⟩) tm
noncomputable def w1 (v : V) (tm : Tr V) : Tr V := Tr.rec (motive := fun _ => Tr V) (fun s m b z => ⟨N.rec (β := T V 3) (motive := fun _ => T V 4) (fun l4 r4 => N.mk (β := T V 3) (N.rec (β := T V 2) (motive := fun _ => T V 3) (fun l3 r3 => N.mk (β := T V 2) (N.rec (β := T V 1) (motive := fun _ => T V 2) (fun l2 r2 => N.mk (β := T V 1) (N.rec (β := T V 0) (motive := fun _ => T V 1) (fun l1 _ => N.mk (β := T V 0) l1 (some v)) l2) r2) l3) r3) l4) r4) s, m, b, z⟩) tm
noncomputable def w2 (v : V) (tm : Tr V) : Tr V := Tr.rec (motive := fun _ => Tr V) (fun s m b z => ⟨N.rec (β := T V 3) (motive := fun _ => T V 4) (fun l4 r4 => N.mk (β := T V 3) (N.rec (β := T V 2) (motive := fun _ => T V 3) (fun l3 r3 => N.mk (β := T V 2) (N.rec (β := T V 1) (motive := fun _ => T V 2) (fun l2 r2 => N.mk (β := T V 1) l2 (N.rec (β := T V 0) (motive := fun _ => T V 1) (fun _ r1 => N.mk (β := T V 0) (some v) r1) r2)) l3) r3) l4) r4) s, m, b, z⟩) tm
noncomputable def w3 (v : V) (tm : Tr V) : Tr V := Tr.rec (motive := fun _ => Tr V) (fun s m b z => ⟨N.rec (β := T V 3) (motive := fun _ => T V 4) (fun l4 r4 => N.mk (β := T V 3) (N.rec (β := T V 2) (motive := fun _ => T V 3) (fun l3 r3 => N.mk (β := T V 2) (N.rec (β := T V 1) (motive := fun _ => T V 2) (fun l2 r2 => N.mk (β := T V 1) l2 (N.rec (β := T V 0) (motive := fun _ => T V 1) (fun l1 _ => N.mk (β := T V 0) l1 (some v)) r2)) l3) r3) l4) r4) s, m, b, z⟩) tm
noncomputable def w4 (v : V) (tm : Tr V) : Tr V := Tr.rec (motive := fun _ => Tr V) (fun s m b z => ⟨N.rec (β := T V 3) (motive := fun _ => T V 4) (fun l4 r4 => N.mk (β := T V 3) (N.rec (β := T V 2) (motive := fun _ => T V 3) (fun l3 r3 => N.mk (β := T V 2) l3 (N.rec (β := T V 1) (motive := fun _ => T V 2) (fun l2 r2 => N.mk (β := T V 1) (N.rec (β := T V 0) (motive := fun _ => T V 1) (fun _ r1 => N.mk (β := T V 0) (some v) r1) l2) r2) r3)) l4) r4) s, m, b, z⟩) tm
noncomputable def w5 (v : V) (tm : Tr V) : Tr V := Tr.rec (motive := fun _ => Tr V) (fun s m b z => ⟨N.rec (β := T V 3) (motive := fun _ => T V 4) (fun l4 r4 => N.mk (β := T V 3) (N.rec (β := T V 2) (motive := fun _ => T V 3) (fun l3 r3 => N.mk (β := T V 2) l3 (N.rec (β := T V 1) (motive := fun _ => T V 2) (fun l2 r2 => N.mk (β := T V 1) (N.rec (β := T V 0) (motive := fun _ => T V 1) (fun l1 _ => N.mk (β := T V 0) l1 (some v)) l2) r2) r3)) l4) r4) s, m, b, z⟩) tm
noncomputable def w6 (v : V) (tm : Tr V) : Tr V := Tr.rec (motive := fun _ => Tr V) (fun s m b z => ⟨N.rec (β := T V 3) (motive := fun _ => T V 4) (fun l4 r4 => N.mk (β := T V 3) (N.rec (β := T V 2) (motive := fun _ => T V 3) (fun l3 r3 => N.mk (β := T V 2) l3 (N.rec (β := T V 1) (motive := fun _ => T V 2) (fun l2 r2 => N.mk (β := T V 1) l2 (N.rec (β := T V 0) (motive := fun _ => T V 1) (fun _ r1 => N.mk (β := T V 0) (some v) r1) r2)) r3)) l4) r4) s, m, b, z⟩) tm
noncomputable def w7 (v : V) (tm : Tr V) : Tr V := Tr.rec (motive := fun _ => Tr V) (fun s m b z => ⟨N.rec (β := T V 3) (motive := fun _ => T V 4) (fun l4 r4 => N.mk (β := T V 3) (N.rec (β := T V 2) (motive := fun _ => T V 3) (fun l3 r3 => N.mk (β := T V 2) l3 (N.rec (β := T V 1) (motive := fun _ => T V 2) (fun l2 r2 => N.mk (β := T V 1) l2 (N.rec (β := T V 0) (motive := fun _ => T V 1) (fun l1 _ => N.mk (β := T V 0) l1 (some v)) r2)) r3)) l4) r4) s, m, b, z⟩) tm
noncomputable def w8 (v : V) (tm : Tr V) : Tr V := Tr.rec (motive := fun _ => Tr V) (fun s m b z => ⟨N.rec (β := T V 3) (motive := fun _ => T V 4) (fun l4 r4 => N.mk (β := T V 3) l4 (N.rec (β := T V 2) (motive := fun _ => T V 3) (fun l3 r3 => N.mk (β := T V 2) (N.rec (β := T V 1) (motive := fun _ => T V 2) (fun l2 r2 => N.mk (β := T V 1) (N.rec (β := T V 0) (motive := fun _ => T V 1) (fun _ r1 => N.mk (β := T V 0) (some v) r1) l2) r2) l3) r3) r4)) s, m, b, z⟩) tm
noncomputable def w9 (v : V) (tm : Tr V) : Tr V := Tr.rec (motive := fun _ => Tr V) (fun s m b z => ⟨N.rec (β := T V 3) (motive := fun _ => T V 4) (fun l4 r4 => N.mk (β := T V 3) l4 (N.rec (β := T V 2) (motive := fun _ => T V 3) (fun l3 r3 => N.mk (β := T V 2) (N.rec (β := T V 1) (motive := fun _ => T V 2) (fun l2 r2 => N.mk (β := T V 1) (N.rec (β := T V 0) (motive := fun _ => T V 1) (fun l1 _ => N.mk (β := T V 0) l1 (some v)) l2) r2) l3) r3) r4)) s, m, b, z⟩) tm
noncomputable def w10 (v : V) (tm : Tr V) : Tr V := Tr.rec (motive := fun _ => Tr V) (fun s m b z => ⟨N.rec (β := T V 3) (motive := fun _ => T V 4) (fun l4 r4 => N.mk (β := T V 3) l4 (N.rec (β := T V 2) (motive := fun _ => T V 3) (fun l3 r3 => N.mk (β := T V 2) (N.rec (β := T V 1) (motive := fun _ => T V 2) (fun l2 r2 => N.mk (β := T V 1) l2 (N.rec (β := T V 0) (motive := fun _ => T V 1) (fun _ r1 => N.mk (β := T V 0) (some v) r1) r2)) l3) r3) r4)) s, m, b, z⟩) tm
noncomputable def w11 (v : V) (tm : Tr V) : Tr V := Tr.rec (motive := fun _ => Tr V) (fun s m b z => ⟨N.rec (β := T V 3) (motive := fun _ => T V 4) (fun l4 r4 => N.mk (β := T V 3) l4 (N.rec (β := T V 2) (motive := fun _ => T V 3) (fun l3 r3 => N.mk (β := T V 2) (N.rec (β := T V 1) (motive := fun _ => T V 2) (fun l2 r2 => N.mk (β := T V 1) l2 (N.rec (β := T V 0) (motive := fun _ => T V 1) (fun l1 _ => N.mk (β := T V 0) l1 (some v)) r2)) l3) r3) r4)) s, m, b, z⟩) tm
noncomputable def w12 (v : V) (tm : Tr V) : Tr V := Tr.rec (motive := fun _ => Tr V) (fun s m b z => ⟨N.rec (β := T V 3) (motive := fun _ => T V 4) (fun l4 r4 => N.mk (β := T V 3) l4 (N.rec (β := T V 2) (motive := fun _ => T V 3) (fun l3 r3 => N.mk (β := T V 2) l3 (N.rec (β := T V 1) (motive := fun _ => T V 2) (fun l2 r2 => N.mk (β := T V 1) (N.rec (β := T V 0) (motive := fun _ => T V 1) (fun _ r1 => N.mk (β := T V 0) (some v) r1) l2) r2) r3)) r4)) s, m, b, z⟩) tm
noncomputable def w13 (v : V) (tm : Tr V) : Tr V := Tr.rec (motive := fun _ => Tr V) (fun s m b z => ⟨N.rec (β := T V 3) (motive := fun _ => T V 4) (fun l4 r4 => N.mk (β := T V 3) l4 (N.rec (β := T V 2) (motive := fun _ => T V 3) (fun l3 r3 => N.mk (β := T V 2) l3 (N.rec (β := T V 1) (motive := fun _ => T V 2) (fun l2 r2 => N.mk (β := T V 1) (N.rec (β := T V 0) (motive := fun _ => T V 1) (fun l1 _ => N.mk (β := T V 0) l1 (some v)) l2) r2) r3)) r4)) s, m, b, z⟩) tm
noncomputable def w14 (v : V) (tm : Tr V) : Tr V := Tr.rec (motive := fun _ => Tr V) (fun s m b z => ⟨N.rec (β := T V 3) (motive := fun _ => T V 4) (fun l4 r4 => N.mk (β := T V 3) l4 (N.rec (β := T V 2) (motive := fun _ => T V 3) (fun l3 r3 => N.mk (β := T V 2) l3 (N.rec (β := T V 1) (motive := fun _ => T V 2) (fun l2 r2 => N.mk (β := T V 1) l2 (N.rec (β := T V 0) (motive := fun _ => T V 1) (fun _ r1 => N.mk (β := T V 0) (some v) r1) r2)) r3)) r4)) s, m, b, z⟩) tm
noncomputable def w15 (v : V) (tm : Tr V) : Tr V := Tr.rec (motive := fun _ => Tr V) (fun s m b z => ⟨N.rec (β := T V 3) (motive := fun _ => T V 4) (fun l4 r4 => N.mk (β := T V 3) l4 (N.rec (β := T V 2) (motive := fun _ => T V 3) (fun l3 r3 => N.mk (β := T V 2) l3 (N.rec (β := T V 1) (motive := fun _ => T V 2) (fun l2 r2 => N.mk (β := T V 1) l2 (N.rec (β := T V 0) (motive := fun _ => T V 1) (fun l1 _ => N.mk (β := T V 0) l1 (some v)) r2)) r3)) r4)) s, m, b, z⟩) tm

noncomputable def rdT (t : Nat) : Tr V → V := match t with
  | 0 => g0 | 1 => g1 | 2 => g2 | 3 => g3 | 4 => g4 | 5 => g5 | 6 => g6 | 7 => g7 | 8 => g8 | 9 => g9 | 10 => g10 | 11 => g11 | 12 => g12 | 13 => g13 | 14 => g14 | 15 => g15 | t => gT t
noncomputable def wrT (t : Nat) : V → Tr V → Tr V := match t with
  | 0 => w0 | 1 => w1 | 2 => w2 | 3 => w3 | 4 => w4 | 5 => w5 | 6 => w6 | 7 => w7 | 8 => w8 | 9 => w9 | 10 => w10 | 11 => w11 | 12 => w12 | 13 => w13 | 14 => w14 | 15 => w15 | t => wT t

/-! what a value is -/
noncomputable def onPtr (x : V) (f : Nat → Nat → Res) (e : Res) : Res := V.rec (motive_1 := fun _ => (Nat → Nat → Res) → (Res) → Res) (motive_2 := fun _ => PUnit) (fun _ _ e => e) (fun _ _ _ e => e) (fun _ _ _ e => e) (fun _ _ e => e) (fun _ e => e) (fun a0 a1 f _ => f a0 a1) (fun _ e => e) (fun _ _ _ _ _ _ e => e) (fun _ _ _ e => e) (fun _ _ _ e => e) (fun _ _ e => e) (fun _ e => e) PUnit.unit (fun _ _ _ _ => PUnit.unit) x f e
noncomputable def onInt (x : V) (f : IntKind → Int → Res) (e : Res) : Res := V.rec (motive_1 := fun _ => (IntKind → Int → Res) → (Res) → Res) (motive_2 := fun _ => PUnit) (fun _ _ e => e) (fun a0 a1 f _ => f a0 a1) (fun _ _ _ e => e) (fun _ _ e => e) (fun _ e => e) (fun _ _ _ e => e) (fun _ e => e) (fun _ _ _ _ _ _ e => e) (fun _ _ _ e => e) (fun _ _ _ e => e) (fun _ _ e => e) (fun _ e => e) PUnit.unit (fun _ _ _ _ => PUnit.unit) x f e
noncomputable def onBool (x : V) (f : Bool → Res) (e : Res) : Res := V.rec (motive_1 := fun _ => (Bool → Res) → (Res) → Res) (motive_2 := fun _ => PUnit) (fun a0 f _ => f a0) (fun _ _ _ e => e) (fun _ _ _ e => e) (fun _ _ e => e) (fun _ e => e) (fun _ _ _ e => e) (fun _ e => e) (fun _ _ _ _ _ _ e => e) (fun _ _ _ e => e) (fun _ _ _ e => e) (fun _ _ e => e) (fun _ e => e) PUnit.unit (fun _ _ _ _ => PUnit.unit) x f e
noncomputable def onStr (x : V) (f : List Nat → Res) (e : Res) : Res := V.rec (motive_1 := fun _ => (List Nat → Res) → (Res) → Res) (motive_2 := fun _ => PUnit) (fun _ _ e => e) (fun _ _ _ e => e) (fun _ _ _ e => e) (fun a0 f _ => f a0) (fun _ e => e) (fun _ _ _ e => e) (fun _ e => e) (fun _ _ _ _ _ _ e => e) (fun _ _ _ e => e) (fun _ _ _ e => e) (fun _ _ e => e) (fun _ e => e) PUnit.unit (fun _ _ _ _ => PUnit.unit) x f e
noncomputable def onTup (x : V) (f : List V → Res) (e : Res) : Res := V.rec (motive_1 := fun _ => (List V → Res) → (Res) → Res) (motive_2 := fun _ => PUnit) (fun _ _ e => e) (fun _ _ _ e => e) (fun _ _ _ e => e) (fun _ _ e => e) (fun _ e => e) (fun _ _ _ e => e) (fun _ e => e) (fun _ _ _ _ _ _ e => e) (fun _ _ _ e => e) (fun a0 _ f _ => f a0) (fun _ _ e => e) (fun _ e => e) PUnit.unit (fun _ _ _ _ => PUnit.unit) x f e
noncomputable def onSlice (x : V) (f : Nat → Nat → Nat → Nat → Nat → Res) (e : Res) : Res := V.rec (motive_1 := fun _ => (Nat → Nat → Nat → Nat → Nat → Res) → (Res) → Res) (motive_2 := fun _ => PUnit) (fun _ _ e => e) (fun _ _ _ e => e) (fun _ _ _ e => e) (fun _ _ e => e) (fun _ e => e) (fun _ _ _ e => e) (fun _ e => e) (fun a0 a1 a2 a3 a4 f _ => f a0 a1 a2 a3 a4) (fun _ _ _ e => e) (fun _ _ _ e => e) (fun _ _ e => e) (fun _ e => e) PUnit.unit (fun _ _ _ _ => PUnit.unit) x f e
noncomputable def onSl (x : V) (f : Nat → Nat → Nat → Nat → Nat → Res) (e : Res) (b : Res) : Res := V.rec (motive_1 := fun _ => (Nat → Nat → Nat → Nat → Nat → Res) → (Res) → (Res) → Res) (motive_2 := fun _ => PUnit) (fun _ _ _ b => b) (fun _ _ _ _ b => b) (fun _ _ _ _ b => b) (fun _ _ _ b => b) (fun _ _ b => b) (fun _ _ _ _ b => b) (fun _ e _ => e) (fun a0 a1 a2 a3 a4 f _ _ => f a0 a1 a2 a3 a4) (fun _ _ _ _ b => b) (fun _ _ _ _ b => b) (fun _ _ _ b => b) (fun _ _ b => b) PUnit.unit (fun _ _ _ _ => PUnit.unit) x f e b
noncomputable def onCells (x : V) (f : List V → Res) (e : Res) (b : Res) : Res := V.rec (motive_1 := fun _ => (List V → Res) → (Res) → (Res) → Res) (motive_2 := fun _ => PUnit) (fun _ _ e _ => e) (fun _ _ _ e _ => e) (fun _ _ _ e _ => e) (fun _ _ e _ => e) (fun _ e _ => e) (fun _ _ _ e _ => e) (fun _ e _ => e) (fun _ _ _ _ _ _ e _ => e) (fun a0 _ f _ _ => f a0) (fun _ _ _ _ b => b) (fun _ _ e _ => e) (fun _ _ b => b) PUnit.unit (fun _ _ _ _ => PUnit.unit) x f e b
noncomputable def kIdx (k : IntKind) : Nat := IntKind.rec 0 1 2 3 4 5 6 7 k
noncomputable def bO (o : Option V) (k : V → Res) : Res := Option.rec none k o

/-! operations -/
noncomputable def twoK (x y : V) (f : Nat → Nat → Res) (e : Res) : Res :=
  onInt x (fun k a => onInt y (fun k' b => Int.rec (motive := fun _ => Res) (fun m => Int.rec (motive := fun _ => Res) (fun n => Bool.rec e (f m n) (Nat.beq (kIdx k) (kIdx k'))) (fun _ => e) b) (fun _ => e) a) e) e
noncomputable def twoI (x y : V) (f : Nat → Nat → Res) (e : Res) : Res :=
  onInt x (fun k a => onInt y (fun k' b => Int.rec (motive := fun _ => Res) (fun m => Int.rec (motive := fun _ => Res) (fun n => Bool.rec e (Bool.rec e (f m n) (Nat.beq (kIdx k) 3)) (Nat.beq (kIdx k) (kIdx k'))) (fun _ => e) b) (fun _ => e) a) e) e
noncomputable def kAdd (x y : V) (e : Option V) (k : V → Res) : Res := twoI x y (fun m n => Bool.rec (bO e k) (k (.int .i64 (.ofNat (Nat.add m n)))) (Nat.ble (Nat.add m n) 9223372036854775807)) (bO e k)
noncomputable def kEql (x y : V) (e : Option V) (k : V → Res) : Res := twoK x y (fun m n => k (.bool (Nat.beq m n))) (bO e k)
noncomputable def kNeq (x y : V) (e : Option V) (k : V → Res) : Res := twoK x y (fun m n => k (.bool (Bool.rec true false (Nat.beq m n)))) (bO e k)
noncomputable def kLss (x y : V) (e : Option V) (k : V → Res) : Res := twoK x y (fun m n => k (.bool (Nat.ble (Nat.succ m) n))) (bO e k)
noncomputable def kLeq (x y : V) (e : Option V) (k : V → Res) : Res := twoK x y (fun m n => k (.bool (Nat.ble m n))) (bO e k)
noncomputable def kGtr (x y : V) (e : Option V) (k : V → Res) : Res := twoK x y (fun m n => k (.bool (Nat.ble (Nat.succ n) m))) (bO e k)
noncomputable def kGeq (x y : V) (e : Option V) (k : V → Res) : Res := twoK x y (fun m n => k (.bool (Nat.ble n m))) (bO e k)
noncomputable def strF (a : List Nat) : List Nat → Option Bool := List.rec (motive := fun _ => List Nat → Option Bool)
  (fun b => List.rec (some true) (fun _ _ _ => some false) b)
  (fun c x ih b => List.rec (some false) (fun d y _ => Bool.rec (strEq (c :: x) (d :: y)) (ih y) (Nat.beq c d)) b) a
noncomputable def kSEq (x y : V) (e : Option V) (k : V → Res) : Res := onStr x (fun a => onStr y (fun b => Option.rec none (fun r => k (.bool r)) (strF a b)) (bO e k)) (bO e k)
noncomputable def kSNe (x y : V) (e : Option V) (k : V → Res) : Res := onStr x (fun a => onStr y (fun b => Option.rec none (fun r => k (.bool (Bool.rec true false r))) (strF a b)) (bO e k)) (bO e k)
noncomputable def kPick (c a b : V) (k : V → Res) : Res := onBool c (fun t => k (Bool.rec b a t)) none
noncomputable def kNil (x : V) (k : V → Res) : Res := onPtr x (fun b o => k (.ptr b o)) none
noncomputable def kNot (x : V) (k : V → Res) : Res := onBool x (fun t => k (.bool (Bool.rec true false t))) none
noncomputable def kFld (o : Nat) (x : V) (k : V → Res) : Res := onPtr x (fun b off => k (.ptr b (Nat.add off o))) none
noncomputable def kIdxA (n z : Nat) (x ix : V) (k : V → Res) : Res := onInt ix (fun _ i => Int.rec (motive := fun _ => Res) (fun i => onPtr x (fun b off => Bool.rec none (k (.ptr b (Nat.add off (Nat.mul i z)))) (Nat.ble (Nat.succ i) n)) none) (fun _ => none) i) none
noncomputable def kIdxS (z : Nat) (x ix : V) (k : V → Res) : Res := onInt ix (fun _ i => Int.rec (motive := fun _ => Res) (fun i => onSlice x (fun b off len _ _ => Bool.rec none (k (.ptr b (Nat.add off (Nat.mul i z)))) (Nat.ble (Nat.succ i) len)) none) (fun _ => none) i) none
noncomputable def tl8 (l : List Nat) : List Nat := List.tail (List.tail (List.tail (List.tail (List.tail (List.tail (List.tail (List.tail l)))))))
noncomputable def dr8 (s : List Nat) (k : Nat) : List Nat := Nat.rec (motive := fun _ => List Nat) s (fun _ ih => tl8 ih) k
noncomputable def nthR (i : Nat) : List Nat → Option Nat :=
  Nat.rec (motive := fun _ => List Nat → Option Nat) (fun l => List.rec none (fun x _ _ => some x) l) (fun _ ih l => List.rec none (fun _ t _ => ih t) l) i
noncomputable def kIx (x ix : V) (k : V → Res) : Res := onInt ix (fun _ i => Int.rec (motive := fun _ => Res) (fun i => onStr x (fun s => Option.rec none (fun c => k (byteV c)) (nthR (Nat.mod i 8) (dr8 s (Nat.div i 8)))) none) (fun _ => none) i) none
noncomputable def kLenS (x : V) (k : V → Res) : Res := onStr x (fun s => k (.int .i64 (.ofNat s.length))) none
noncomputable def kLenL (x : V) (k : V → Res) : Res := onSl x (fun _ _ n _ _ => k (.int .i64 (.ofNat n))) (k (.int .i64 (.ofNat 0))) none
noncomputable def nthVR (i : Nat) : List V → Option V :=
  Nat.rec (motive := fun _ => List V → Option V) (fun l => List.rec none (fun x _ _ => some x) l) (fun _ ih l => List.rec none (fun _ t _ => ih t) l) i
noncomputable def kExt (x : V) (i : Nat) (k : V → Res) : Res := onTup x (fun l => bO (nthVR i l) k) none
/-! cells -/
noncomputable def loadR (n : Nat) : Tr V → Nat → Option (List V) :=
  Nat.rec (motive := fun _ => Tr V → Nat → Option (List V)) (fun _ _ => some []) (fun _ ih c off => Option.rec none (fun v => Option.rec none (fun l => some (v :: l)) (ih c (Nat.succ off))) (getV c off)) n
noncomputable def storeR (l : List V) : Nat → Tr V → Tr V :=
  List.rec (motive := fun _ => Nat → Tr V → Tr V) (fun _ c => c) (fun v _ ih off c => ih (Nat.succ off) (putV v c off)) l
noncomputable def mkB (l : List V) : Blk := ⟨l.length, storeR l 0 .nil⟩
noncomputable def one (x : V) : Blk := ⟨1, ⟨N.mk (β := T V 3) (N.mk (β := T V 2) (N.mk (β := T V 1) (N.mk (β := T V 0) (some x) (T.nil 0)) (T.nil 1)) (T.nil 2)) (T.nil 3), T.nil 9, T.nil 16, []⟩⟩
noncomputable def onB (h : Hp) (b : Nat) (f : Nat → Tr V → Res) : Res := Option.rec none (fun k => Blk.rec (motive := fun _ => Res) f k) (getB h b)
noncomputable def kLd1 (h : Hp) (a : V) (k : V → Res) : Res := onPtr a (fun b off => onB h b (fun n c => Bool.rec none (bO (getV c off) k) (Nat.ble (Nat.succ off) n))) none
noncomputable def kLdN (m : Nat) (h : Hp) (a : V) (k : V → Res) : Res := onPtr a (fun b off => onB h b (fun n c => Bool.rec none (Option.rec none (fun l => k (.agg l)) (loadR m c off)) (Nat.ble (Nat.add off m) n))) none
noncomputable def kSt (n : Nat) (h : Hp) (a x : V) (k : Hp → Res) : Res := onPtr a (fun b off => onB h b (fun m c =>
  onCells x (fun l => Bool.rec none (Bool.rec none (k (setB (some ⟨m, storeR l off c⟩) h b)) (Nat.ble (Nat.add off l.length) m)) (Nat.beq l.length n))
    (Bool.rec none (Bool.rec none (k (setB (some ⟨m, putV x c off⟩) h b)) (Nat.ble (Nat.succ off) m)) (Nat.beq 1 n)) none)) none
noncomputable def kNew (b : Blk) (h : Hp) (nx : Nat) (k : KV) : Res := k (.ptr nx 0) (setB (some b) h nx) (Nat.succ nx)
noncomputable def kBox (x : V) (h : Hp) (nx : Nat) (k : KV) : Res := onCells x (fun l => kNew (mkB l) h nx k) (kNew (one x) h nx k) none
/-- a slice's cells -/
noncomputable def onL (h : Hp) (b off m : Nat) (f : List V → Res) : Res := onB h b (fun n c => Bool.rec none (Option.rec none f (loadR m c off)) (Nat.ble (Nat.add off m) n))
noncomputable def kApp (z y : Nat) (s x : V) (h : Hp) (nx : Nat) (k : KV) : Res :=
  onSlice x (fun xb xo n _ _ => Bool.rec none (onL h xb xo (Nat.mul n z) (fun new =>
    onSl s (fun b off len cap z' => Bool.rec none (Bool.rec
        (onB h b (fun m c => Bool.rec none (k (.slice nx 0 (Nat.add len n) (Nat.add len n) z) (setB (some ⟨Nat.add m new.length, storeR new m c⟩) (setB none h b) nx) (Nat.succ nx))
          (Nat.beq m (Nat.mul cap z) && Nat.beq off 0 && Nat.ble (Nat.mul (Nat.add len n) y) 1000000 && Nat.ble (Nat.add len n) 1000000 && Nat.beq len cap)))
        (onB h b (fun m c => Bool.rec none (k (.slice b off (Nat.add len n) cap z) (setB (some ⟨m, storeR new (Nat.add off (Nat.mul len z)) c⟩) h b) nx) (Nat.ble (Nat.add (Nat.add off (Nat.mul len z)) new.length) m)))
        (Nat.ble (Nat.add len n) cap)) (Nat.beq z' z))
      (Bool.rec none (k (.slice nx 0 n n z) (setB (some (mkB new)) h nx) (Nat.succ nx)) (Nat.ble (Nat.mul n y) 1000000 && Nat.ble n 1000000)) none)) (Nat.ble 1 n)) none
noncomputable def kBs (n1 len : Nat) (zs : List V) (ps : List (Nat × V)) (h : Hp) (nx : Nat) (k : KV) : Res :=
  Bool.rec none (Option.rec none (fun l => k (.slice nx 0 len len n1) (setB (some (mkB l)) h nx) (Nat.succ nx)) (fillV (fun i => some (i * n1, n1)) zs ps)) (noTup ps)
noncomputable def retK (v : V) (h : Hp) (nx : Nat) : Res := some (v, h, nx)
noncomputable def dir (call : CallK) : CallT := fun f args h nx => call f args h nx retK
noncomputable def bR (r : Res) (k : KV) : Res := Option.rec none (fun p => Prod.rec (fun v q => Prod.rec (fun h n => k v h n) q) p) r
/-- guarded -/
noncomputable def kG (g : V) (want : Bool) (op : KV → Res) (h : Hp) (nx : Nat) (k : KV) : Res :=
  onBool g (fun b => Bool.rec (Bool.rec (op k) (k .undef h nx) want) (Bool.rec (k .undef h nx) (op k) want) b) (onTup g (fun l => List.rec (k .undef h nx) (fun _ _ _ => none) l) none)
noncomputable def wF (tm : Tr V) (k : Tr V → Res) : Res := k tm

/-! code -/
noncomputable def cReg (r : CallK → KE → KE) : CoK := fun call _ kn _ _ => r call kn
noncomputable def cRegD (m : Nat) (r : CallK → KE → KE) : CoK := fun call _ kn _ _ tm h nx => r call kn tm h (Nat.add nx m)
noncomputable def cSkip : CoK := fun _ _ kn _ _ => kn
noncomputable def cExit (id : Nat) : CoK := fun _ _ _ ke _ => ke id
noncomputable def cRet : CoK := fun _ _ _ _ kr => kr
noncomputable def cNone : CoK := fun _ _ _ _ _ _ _ _ => none
noncomputable def cSeq (a b : CoK) : CoK := fun call n kn ke kr => a call n (b call n kn ke kr) ke kr
noncomputable def cCond (x : Tr V → V) (a b : CoK) : CoK := fun call n kn ke kr tm h nx => onBool (x tm) (fun t => Bool.rec (motive := fun _ => CoK) b a t call n kn ke kr tm h nx) none
noncomputable def cBlock (id : Nat) (a : CoK) : CoK := fun call n kn ke kr => a call n kn (fun i => Bool.rec (ke i) kn (Nat.beq i id)) kr
noncomputable def loopK (a : KE → KE) (n : Nat) : KE := Nat.rec (motive := fun _ => KE) (fun _ _ _ => none) (fun _ ih => a ih) n
noncomputable def cLoop (a : CoK) : CoK := fun call n _ ke kr => loopK (fun ih => a call n ih ke kr) n
section
variable (P : Program) (L : Nat)
noncomputable def kAlloc (t : TypeId) (h : Hp) (nx : Nat) (k : KV) : Res := Option.rec none (fun z => kNew (mkBlk z.cells) h nx k) (zeroV P t)
noncomputable def kSlow (o : Oper) (far : Nat) (ls : Loc) (tm : Tr V) (h : Hp) (nx : Nat) (call : CallK) (k : KV) : Res := bR (opA P L (dir call) o ⟨⟨far, ls, tm⟩, h, nx, 0⟩) k
noncomputable def cSlow (far nt : Nat) (ops : Array Oper) (pl : Plan) : CoK := fun call _ kn _ _ tm h nx =>
  Option.rec none (fun s => St.rec (fun e h nx _ => E.rec (motive := fun _ => Res) (fun _ _ tm => kn tm h nx) e) s) (drawnA P L (dir call) ops pl ⟨⟨far, .nil, tm⟩, h, nx, nt⟩)
end
/-! functions -/
abbrev ResK := Tr V → Hp → (V → Res) → Res
structure FnK where
  np : Nat
  body : CoK
  res : List ResK
noncomputable def qTmp (g : Tr V → V) : ResK := fun tm _ k => k (g tm)
noncomputable def qOne (g : Tr V → V) : ResK := fun tm h k => kLd1 h (g tm) k
noncomputable def qAgg (g : Tr V → V) (n : Nat) : ResK := fun tm h k => kLdN n h (g tm) k
noncomputable def qNo : ResK := fun _ _ _ => none
noncomputable def argsT (l : List V) : Nat → Tr V → Tr V := List.rec (motive := fun _ => Nat → Tr V → Tr V) (fun _ e => e) (fun v _ ih i e => ih (Nat.succ i) (putV v e i)) l
noncomputable def four (a b c d : Option V) : Tr V := ⟨N.mk (β := T V 3) (N.mk (β := T V 2) (N.mk (β := T V 1) (N.mk (β := T V 0) a b) (N.mk (β := T V 0) c d)) (T.nil 2)) (T.nil 3), T.nil 9, T.nil 16, []⟩
noncomputable def argsF (l : List V) : Tr V :=
  List.rec (motive := fun _ => Tr V) .nil (fun a l _ =>
    List.rec (motive := fun _ => Tr V) (four (some a) none none none) (fun b l _ =>
      List.rec (motive := fun _ => Tr V) (four (some a) (some b) none none) (fun c l _ =>
        List.rec (motive := fun _ => Tr V) (four (some a) (some b) (some c) none) (fun d l _ => argsT l 4 (four (some a) (some b) (some c) (some d))) l) l) l) l
noncomputable def resK (l : List ResK) : Tr V → Hp → (List V → Res) → Res :=
  List.rec (motive := fun _ => Tr V → Hp → (List V → Res) → Res) (fun _ _ k => k []) (fun r _ ih tm h k => r tm h (fun v => ih tm h (fun vs => k (v :: vs)))) l
noncomputable def giveK (res : List ResK) (k : KV) : KE := fun tm h nx =>
  List.rec (motive := fun _ => Res) (k (.tup []) h nx) (fun r l _ => List.rec (motive := fun _ => Res) (r tm h (fun v => k v h nx)) (fun _ _ _ => resK res tm h (fun vs => Bool.rec none (k (.tup vs) h nx) (noTupV vs))) l) res
noncomputable def goK (ih : CallK) (turns : Nat) (args : List V) (h : Hp) (nx : Nat) (k : KV) (fn : FnK) : Res :=
  FnK.rec (motive := fun _ => Res) (fun np body res => Bool.rec none (body ih turns (giveK res k) (fun _ _ _ _ => none) (giveK res k) (argsF args) h nx) (Nat.ble args.length np)) fn
noncomputable def callK (fns : FuncId → Option FnK) (orc : FuncId → List V → Option V) (turns depth : Nat) : CallK :=
  Nat.rec (motive := fun _ => CallK) (fun _ _ _ _ _ => none) (fun _ ih f args h nx k => Option.rec (Option.rec none (fun fn => goK ih turns args h nx k fn) (fns f)) (fun v => k v h nx) (orc f args)) depth
end Go.Abs
