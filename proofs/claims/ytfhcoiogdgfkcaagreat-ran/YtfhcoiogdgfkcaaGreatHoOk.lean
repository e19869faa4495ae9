import Derived.Test.YtfhcoiogdgfkcaaGreatHoEq
namespace Go.Abs

theorem onPtr_eq (x : V) (f : Nat → Nat → Res) (e : Res) : onPtr x f e = (match x with | .ptr b o => f b o | _ => e) := by cases x <;> rfl
theorem onInt_eq (x : V) (f : IntKind → Int → Res) (e : Res) : onInt x f e = (match x with | .int k n => f k n | _ => e) := by cases x <;> rfl
theorem onBool_eq (x : V) (f : Bool → Res) (e : Res) : onBool x f e = (match x with | .bool b => f b | _ => e) := by cases x <;> rfl
theorem onStr_eq (x : V) (f : List Nat → Res) (e : Res) : onStr x f e = (match x with | .str s => f s | _ => e) := by cases x <;> rfl
theorem onTup_eq (x : V) (f : List V → Res) (e : Res) : onTup x f e = (match x with | .tup b => f b | _ => e) := by cases x <;> rfl
theorem onSlice_eq (x : V) (f : Nat → Nat → Nat → Nat → Nat → Res) (e : Res) : onSlice x f e = (match x with | .slice b o l c z => f b o l c z | _ => e) := by cases x <;> rfl
theorem onSl_eq (x : V) (f : Nat → Nat → Nat → Nat → Nat → Res) (e b : Res) : onSl x f e b = (match x with | .slice b o l c z => f b o l c z | .nils => e | _ => b) := by cases x <;> rfl

/-! ### binding -/
theorem bO_none (k : V → Res) : bO none k = none := rfl
theorem bO_some (v : V) (k : V → Res) : bO (some v) k = k v := rfl
theorem bR_none (k : KV) : bR none k = none := rfl
theorem bR_some (v : V) (h : Hp) (nx : Nat) (k : KV) : bR (some (v, h, nx)) k = k v h nx := rfl
theorem bR_ret (r : Res) : bR r retK = r := by
  cases r with
  | none => rfl
  | some p => obtain ⟨v, h, n⟩ := p; rfl
noncomputable def ofO (h : Hp) (nx : Nat) (o : Option V) : Res := Option.rec none (fun v => some (v, h, nx)) o
theorem bR_ofO (h : Hp) (nx : Nat) (o : Option V) (k : KV) : bR (ofO h nx o) k = bO o fun v => k v h nx := by cases o <;> rfl

section
variable {P : Program} {L : Nat}

/-! ### values -/
theorem kPick_eq (c a b : V) (k : V → Res) : kPick c a b k = bO (aPick c a b) k := by
  unfold kPick aPick
  rw [onBool_eq]
  cases c <;> try rfl
  rename_i t; cases t <;> rfl
theorem kNil_eq (x : V) (k : V → Res) : kNil x k = bO (match x with | .ptr b o => some (.ptr b o) | _ => none) k := by
  unfold kNil
  rw [onPtr_eq]
  cases x <;> rfl
theorem kNot_eq (x : V) (k : V → Res) : kNot x k = bO (aUn .not x) k := by
  unfold kNot
  rw [onBool_eq]
  cases x <;> try rfl
  rename_i b; cases b <;> rfl
theorem kFld_eq {off u n f : Nat} {t : TypeId} (hfa : fieldAt P t f = some (off, u)) (hsz : szOf P u = some (n + 1)) (x : V) (k : V → Res) : kFld off x k = bO (aFieldAddr P t x f) k := by
  unfold kFld aFieldAddr
  rw [onPtr_eq, hfa]
  cases x <;> try rfl
  simp only [hsz]; rfl
theorem blt_eq (i n : Nat) : Nat.ble (Nat.succ i) n = Nat.blt i n := rfl
theorem kIdxA_eq {n z el : Nat} {t : TypeId} (hu : P.underlying t = some (.array n el)) (hz : szOf P el = some z) (x ix : V) (k : V → Res) : kIdxA n z x ix k = bO (aIndexAddr P t x ix) k := by
  unfold kIdxA aIndexAddr
  rw [onInt_eq, hu]
  cases ix <;> try rfl
  rename_i kd i
  cases i with
  | negSucc i => rfl
  | ofNat i =>
    show onPtr x _ _ = _
    rw [onPtr_eq]
    cases x <;> try rfl
    simp only [natOf, hz]
    show Bool.rec (motive := fun _ => Res) _ _ (Nat.ble (Nat.succ i) n) = _
    rw [blt_eq]
    cases Nat.blt i n <;> rfl
theorem kIdxS_eq {z el : Nat} {t : TypeId} (hu : P.underlying t = some (.slice el)) (hz : szOf P el = some z) (x ix : V) (k : V → Res) : kIdxS z x ix k = bO (aIndexAddr P t x ix) k := by
  unfold kIdxS aIndexAddr
  rw [onInt_eq, hu]
  cases ix <;> try rfl
  rename_i kd i
  cases i with
  | negSucc i => rfl
  | ofNat i =>
    show onSlice x _ _ = _
    rw [onSlice_eq]
    cases x <;> try rfl
    rename_i b off len cap zz
    simp only [natOf, hz]
    show Bool.rec (motive := fun _ => Res) _ _ (Nat.ble (Nat.succ i) len) = _
    rw [blt_eq]
    cases Nat.blt i len <;> rfl
theorem nthR_eq : ∀ (i : Nat) (l : List Nat), nthR i l = nthS i l
  | 0, [] => rfl
  | 0, _ :: _ => rfl
  | _ + 1, [] => rfl
  | i + 1, _ :: l => nthR_eq i l
theorem nthS_tail : ∀ (i : Nat) (l : List Nat), nthS i l.tail = nthS (i + 1) l
  | 0, [] => rfl
  | _ + 1, [] => rfl
  | 0, [_] => rfl
  | 0, _ :: _ :: _ => rfl
  | _ + 1, _ :: _ => rfl
theorem nthS_dr8 (s : List Nat) : ∀ (k i : Nat), nthS i (dr8 s k) = nthS (i + 8 * k) s
  | 0, i => rfl
  | k + 1, i => by
    show nthS i (tl8 (dr8 s k)) = _
    unfold tl8
    simp only [nthS_tail]
    rw [nthS_dr8 s k]
    congr 1
    omega
theorem kIx_eq {t : TypeId} (hu : P.underlying t = some .string) (x ix : V) (k : V → Res) : kIx x ix k = bO (aIndex P t x ix) k := by
  unfold kIx aIndex
  rw [onInt_eq, hu]
  cases ix <;> try rfl
  rename_i kd i
  cases i with
  | negSucc i => rfl
  | ofNat i =>
    show onStr x _ _ = _
    rw [onStr_eq]
    cases x <;> try rfl
    rename_i s
    simp only [natOf]
    rw [nthR_eq, nthS_dr8, show Nat.mod i 8 + 8 * Nat.div i 8 = i from Nat.mod_add_div i 8]
    cases nthS i s <;> rfl
theorem kLenS_eq {t : TypeId} (hu : P.underlying t = some .string) (x : V) (k : V → Res) : kLenS x k = bO (aLen P t x) k := by
  unfold kLenS aLen
  rw [onStr_eq, hu]
  cases x <;> rfl
theorem kLenL_eq {t e : TypeId} (hu : P.underlying t = some (.slice e)) (x : V) (k : V → Res) : kLenL x k = bO (aLen P t x) k := by
  unfold kLenL aLen
  rw [onSl_eq, hu]
  cases x <;> rfl
theorem nthVR_eq : ∀ (i : Nat) (l : List V), nthVR i l = nthV i l
  | 0, [] => rfl
  | 0, _ :: _ => rfl
  | _ + 1, [] => rfl
  | i + 1, _ :: l => nthVR_eq i l
theorem kExt_eq (x : V) (i : Nat) (k : V → Res) : kExt x i k = bO (match x with | .tup vs => nthV i vs | _ => none) k := by
  unfold kExt
  rw [onTup_eq]
  cases x <;> try rfl
  simp only [nthVR_eq]

/-! ### numbers -/
theorem kIdx_inj {k k' : IntKind} : Nat.beq (kIdx k) (kIdx k') = decide (k = k') := by cases k <;> cases k' <;> rfl
theorem ble_dec (m n : Nat) : Nat.ble m n = decide (Int.ofNat m ≤ Int.ofNat n) := by
  by_cases h : m ≤ n
  · rw [Nat.ble_eq_true_of_le h]; symm; exact decide_eq_true (Int.ofNat_le.2 h)
  · rw [nble_false (by omega)]; symm; exact decide_eq_false fun e => h (Int.ofNat_le.1 e)
theorem twoK_eq {op : BinOp} {t : TypeId} {g : Nat → Nat → Bool} (hne : op ≠ .shr) (hg : ∀ k m n, intBin op k (.ofNat m) (.ofNat n) = some (.bool (g m n))) (x y : V) (k : V → Res) :
    twoK x y (fun m n => k (.bool (g m n))) (bO (binV P L op t x y) k) = bO (binV P L op t x y) k := by
  unfold twoK
  rw [onInt_eq]
  cases x <;> try rfl
  rename_i kd a
  simp only
  rw [onInt_eq]
  cases y <;> try rfl
  rename_i k' b
  simp only
  cases a with
  | negSucc m => rfl
  | ofNat m =>
    cases b with
    | negSucc n => rfl
    | ofNat n =>
      show Bool.rec (motive := fun _ => Res) _ (k (.bool (g m n))) (Nat.beq (kIdx kd) (kIdx k')) = _
      rw [kIdx_inj]
      cases hd : decide (kd = k') with
      | false => rfl
      | true =>
        show k (.bool (g m n)) = _
        have : binV P L op t (.int kd (.ofNat m)) (.int k' (.ofNat n)) = some (.bool (g m n)) := by
          rw [← hg kd m n]
          unfold binV
          cases op <;> simp only [hd] <;> first | rfl | exact absurd rfl hne
        rw [this]; rfl
theorem kEql_eq {t : TypeId} (x y : V) (k : V → Res) : kEql x y (binV P L .eql t x y) k = bO (binV P L .eql t x y) k :=
  twoK_eq (op := .eql) (g := fun m n => Nat.beq m n) (by simp) (fun _ m n => by
    show some (V.bool (Int.ofNat m == Int.ofNat n)) = some (.bool (Nat.beq m n))
    congr 2
    by_cases h : m = n
    · subst h; simp
    · rw [nbeq_false h, beq_eq_false_iff_ne]; intro e; exact h (Int.ofNat.inj e)) x y k
theorem kNeq_eq {t : TypeId} (x y : V) (k : V → Res) : kNeq x y (binV P L .neq t x y) k = bO (binV P L .neq t x y) k :=
  twoK_eq (op := .neq) (g := fun m n => Bool.rec (motive := fun _ => Bool) true false (Nat.beq m n)) (by simp) (fun _ m n => by
    show some (V.bool (Int.ofNat m != Int.ofNat n)) = some (.bool (Bool.rec (motive := fun _ => Bool) true false (Nat.beq m n)))
    congr 2
    by_cases h : m = n
    · subst h; simp
    · rw [nbeq_false h]; simp only [bne]; rw [beq_eq_false_iff_ne.2 (fun e => h (Int.ofNat.inj e))]; rfl) x y k
theorem kLeq_eq {t : TypeId} (x y : V) (k : V → Res) : kLeq x y (binV P L .leq t x y) k = bO (binV P L .leq t x y) k :=
  twoK_eq (op := .leq) (g := fun m n => Nat.ble m n) (by simp) (fun _ m n => by rw [ble_dec]; rfl) x y k
theorem kGeq_eq {t : TypeId} (x y : V) (k : V → Res) : kGeq x y (binV P L .geq t x y) k = bO (binV P L .geq t x y) k :=
  twoK_eq (op := .geq) (g := fun m n => Nat.ble n m) (by simp) (fun _ m n => by rw [ble_dec]; rfl) x y k
theorem kLss_eq {t : TypeId} (x y : V) (k : V → Res) : kLss x y (binV P L .lss t x y) k = bO (binV P L .lss t x y) k :=
  twoK_eq (op := .lss) (g := fun m n => Nat.ble (Nat.succ m) n) (by simp) (fun _ m n => by rw [ble_dec]; rfl) x y k
theorem kGtr_eq {t : TypeId} (x y : V) (k : V → Res) : kGtr x y (binV P L .gtr t x y) k = bO (binV P L .gtr t x y) k :=
  twoK_eq (op := .gtr) (g := fun m n => Nat.ble (Nat.succ n) m) (by simp) (fun _ m n => by rw [ble_dec]; rfl) x y k
theorem kAdd_eq {t : TypeId} (x y : V) (k : V → Res) : kAdd x y (binV P L .add t x y) k = bO (binV P L .add t x y) k := by
  unfold kAdd twoI
  rw [onInt_eq]
  cases x <;> try rfl
  rename_i kd a
  simp only
  rw [onInt_eq]
  cases y <;> try rfl
  rename_i k' b
  simp only
  cases a with
  | negSucc m => rfl
  | ofNat m =>
    cases b with
    | negSucc n => rfl
    | ofNat n =>
      show Bool.rec (motive := fun _ => Res) (bO (binV P L .add t (.int kd (.ofNat m)) (.int k' (.ofNat n))) k) (Bool.rec (motive := fun _ => Res) (bO (binV P L .add t (.int kd (.ofNat m)) (.int k' (.ofNat n))) k) (Bool.rec (motive := fun _ => Res) (bO (binV P L .add t (.int kd (.ofNat m)) (.int k' (.ofNat n))) k) (k (.int .i64 (.ofNat (Nat.add m n)))) (Nat.ble (Nat.add m n) 9223372036854775807)) (Nat.beq (kIdx kd) 3)) (Nat.beq (kIdx kd) (kIdx k')) = bO (binV P L .add t (.int kd (.ofNat m)) (.int k' (.ofNat n))) k
      rw [kIdx_inj]
      cases hd : decide (kd = k') with
      | false => rfl
      | true =>
        cases hk : Nat.beq (kIdx kd) 3 with
        | false => rfl
        | true =>
          cases hb : Nat.ble (Nat.add m n) 9223372036854775807 with
          | false => rfl
          | true =>
            have hki : kd = .i64 := by cases kd <;> first | rfl | (cases hk; done)
            subst hki
            have h1 : m + n ≤ 9223372036854775807 := Nat.le_of_ble_eq_true hb
            show k (.int .i64 (.ofNat (m + n))) = _
            have : binV P L .add t (.int .i64 (.ofNat m)) (.int k' (.ofNat n)) = some (.int .i64 (.ofNat (m + n))) := by
              unfold binV
              simp only [hd]
              show some (V.int .i64 (IntKind.i64.wrap (Int.ofNat m + Int.ofNat n))) = _
              rw [wrap_in .i64 _ (by simp [IntKind.min, IntKind.signed, IntKind.bits]; omega) (by simp; omega)]
              rfl
            rw [this]; rfl
theorem strF_eq : ∀ (a b : List Nat), strF a b = strEq a b
  | [], [] => rfl
  | [], _ :: _ => rfl
  | _ :: _, [] => rfl
  | c :: x, d :: y => by
    show Bool.rec (motive := fun _ => Option Bool) (strEq (c :: x) (d :: y)) (strF x y) (Nat.beq c d) = _
    cases hb : Nat.beq c d with
    | false => rfl
    | true =>
      show strF x y = _
      rw [strF_eq x y]
      simp only [strEq, hb]
theorem kSEq_eq {t : TypeId} (x y : V) (k : V → Res) : kSEq x y (binV P L .eql t x y) k = bO (binV P L .eql t x y) k := by
  unfold kSEq
  rw [onStr_eq]
  cases x <;> try rfl
  rename_i a
  simp only
  rw [onStr_eq]
  cases y <;> try rfl
  rename_i b
  simp only [strF_eq]
  unfold binV
  simp only
  cases strEq a b <;> rfl
theorem kSNe_eq {t : TypeId} (x y : V) (k : V → Res) : kSNe x y (binV P L .neq t x y) k = bO (binV P L .neq t x y) k := by
  unfold kSNe
  rw [onStr_eq]
  cases x <;> try rfl
  rename_i a
  simp only
  rw [onStr_eq]
  cases y <;> try rfl
  rename_i b
  simp only [strF_eq]
  unfold binV
  simp only
  cases strEq a b with
  | none => rfl
  | some r => cases r <;> rfl

/-! ### cells -/
theorem loadR_eq : ∀ (n : Nat) (c : Tr V) (off : Nat), loadR n c off = loadN c off n
  | 0, _, _ => rfl
  | n + 1, c, off => by
    show Option.rec (motive := fun _ => Option (List V)) none (fun v => Option.rec (motive := fun _ => Option (List V)) none (fun l => some (v :: l)) (loadR n c (Nat.succ off))) (getV c off) = _
    rw [getV_eq, loadR_eq n]
    simp only [loadN]
    cases c.get off with
    | none => rfl
    | some v => show Option.rec (motive := fun _ => Option (List V)) none (fun l => some (v :: l)) (loadN c (off + 1) n) = _
                cases loadN c (off + 1) n <;> rfl
theorem storeR_eq : ∀ (l : List V) (off : Nat) (c : Tr V), storeR l off c = storeL off c l
  | [], _, _ => rfl
  | v :: l, off, c => by
    show storeR l (Nat.succ off) (putV v c off) = _
    rw [storeR_eq l, putV_eq]; rfl
theorem mkB_eq (l : List V) : mkB l = mkBlk l := by
  unfold mkB mkBlk
  rw [storeR_eq]
theorem one_eq (x : V) : one x = mkBlk [x] := rfl
theorem onB_eq (h : Hp) (b : Nat) (f : Nat → Tr V → Res) : onB h b f = (match h.get b with | some k => f k.n k.c | none => none) := by
  unfold onB
  rw [getB_eq]
  cases h.get b <;> rfl
theorem onL_eq (h : Hp) (b off m : Nat) (f : List V → Res) : onL h b off m f = (match loadAt h b off m with | some l => f l | none => none) := by
  unfold onL loadAt
  rw [onB_eq]
  cases h.get b with
  | none => rfl
  | some k =>
    simp only [loadR_eq]
    show Bool.rec (motive := fun _ => Res) none _ (Nat.ble (off + m) k.n) = _
    cases Nat.ble (off + m) k.n with
    | false => rfl
    | true => cases loadN k.c off m <;> rfl
theorem kLd1_eq (h : Hp) (a : V) (k : V → Res) : kLd1 h a k = bO (match a with | .ptr b off => (match loadAt h b off 1 with | some (v :: _) => some v | _ => none) | _ => none) k := by
  unfold kLd1
  rw [onPtr_eq]
  cases a <;> try rfl
  rename_i b off
  simp only
  unfold loadAt
  rw [onB_eq]
  cases h.get b with
  | none => rfl
  | some bk =>
    show Bool.rec (motive := fun _ => Res) none (bO (getV bk.c off) k) (Nat.ble (off + 1) bk.n) = _
    simp only [getV_eq]
    cases Nat.ble (off + 1) bk.n with
    | false => rfl
    | true =>
      simp only [loadN]
      cases bk.c.get off <;> rfl
theorem kLdN_eq (m : Nat) (h : Hp) (a : V) (k : V → Res) : kLdN m h a k = bO (match a with | .ptr b off => (match loadAt h b off m with | some l => some (.agg l) | none => none) | _ => none) k := by
  unfold kLdN
  rw [onPtr_eq]
  cases a <;> try rfl
  rename_i b off
  simp only
  unfold loadAt
  rw [onB_eq]
  cases h.get b with
  | none => rfl
  | some bk =>
    simp only [loadR_eq]
    show Bool.rec (motive := fun _ => Res) none _ (Nat.ble (off + m) bk.n) = _
    cases Nat.ble (off + m) bk.n with
    | false => rfl
    | true => simp only; cases loadN bk.c off m <;> rfl
end
end Go.Abs
