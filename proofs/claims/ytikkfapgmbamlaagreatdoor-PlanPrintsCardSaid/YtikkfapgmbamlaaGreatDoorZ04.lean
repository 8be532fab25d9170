/- Several texts in one: Ld Lm Le Lf Lh En -/
import Derived.Test.YtikkfapgmbamlaaGreatDoorZ03
import Derived.Test.YtikkfapgmbamlaaGreatDoorZ01
section
/- The walk of label.Parse: for every text. -/
namespace Go.Proofs.YtikkfapgmbamlaaGreatDoor.La
open Go.RowKit Ut
set_option maxRecDepth 100000

/-- the category of a byte, as the code reckons it -/
def catOf (b : UInt8) : Int := wrap64 (wrap64 (b.toNat : Int) - 97)
/-- the label of a text, as the code reads it on from v -/
def pz : Int → List UInt8 → Option Int
  | v, [] => some v
  | v, b :: r => if catOf b < 0 ∨ 8 ≤ catOf b then none else if wrap64 (2 ^ (catOf b).toNat) ≤ v then none else pz (bits .or .i64 v (wrap64 (2 ^ (catOf b).toNat))) r

theorem pz_low (v : Int) (b : UInt8) (r : List UInt8) (h : catOf b < 0) : pz v (b :: r) = none := by
  unfold pz; rw [if_pos (Or.inl h)]
theorem pz_high (v : Int) (b : UInt8) (r : List UInt8) (h : 8 ≤ catOf b) : pz v (b :: r) = none := by
  unfold pz; rw [if_pos (Or.inr h)]
theorem pz_stop (v : Int) (b : UInt8) (r : List UInt8) (h : wrap64 (2 ^ (catOf b).toNat) ≤ v) : pz v (b :: r) = none := by
  unfold pz; rw [if_pos h]; split <;> rfl
theorem pz_on (v : Int) (b : UInt8) (r : List UInt8) (h0 : 0 ≤ catOf b) (h1 : catOf b < 8) (h : v < wrap64 (2 ^ (catOf b).toNat)) :
    pz v (b :: r) = pz (bits .or .i64 v (wrap64 (2 ^ (catOf b).toNat))) r := by
  rw [pz, if_neg (by omega), if_neg (by omega)]

/-- what Parse returns of a text that is not the dash -/
def parseP (l : List UInt8) : Int × Int :=
  match pz 0 l with
  | some v => if v == 0 then (0, 6) else (v, 0)
  | none => (0, 6)
def parseV (l : List UInt8) : Value := .tuple #[.int .i64 (parseP l).1, .int .i64 (parseP l).2]
theorem parseV_none (l : List UInt8) (h : pz 0 l = none) : parseV l = .tuple #[.int .i64 0, .int .i64 6] := by unfold parseV parseP; rw [h]
theorem parseV_zero (l : List UInt8) (v : Int) (h : pz 0 l = some v) (hv : (v == 0) = true) : parseV l = .tuple #[.int .i64 0, .int .i64 6] := by unfold parseV parseP; rw [h]; simp only [hv]; rfl
theorem parseV_some (l : List UInt8) (v : Int) (h : pz 0 l = some v) (hv : (v == 0) = false) : parseV l = .tuple #[.int .i64 v, .int .i64 0] := by unfold parseV parseP; rw [h]; simp only [hv]; rfl

theorem pz_drop (v : Int) (s : ByteArray) (k : Nat) (h : k < s.size) : pz v (s.data.toList.drop k) = pz v (s[k] :: s.data.toList.drop (k + 1)) := by
  rw [List.drop_eq_getElem_cons (by simpa using h)]
  rfl

theorem pz_end (v : Int) (s : ByteArray) : pz v (s.data.toList.drop s.size) = some v := by
  rw [List.drop_of_length_le (by simp)]
  rfl

theorem parse_dash (s : ByteArray) (hd : (s.toList == [45]) = true) (w : World) :
    Calls Tryz.prog 86 #[.string s] w fun e w' => e = .returned (.tuple #[.int .i64 0, .int .i64 0]) ∧ w = w' := by
  go_enter Tryz.func86, Tryz.ntmps86
  go_wp2
  go_ret2
  exact ⟨rfl, rfl⟩

theorem parse_else (s : ByteArray) (hs : s.size ≤ maxLen) (hd : (s.toList == [45]) = false) (w : World) :
    Calls Tryz.prog 86 #[.string s] w fun e w' => e = .returned (parseV s.data.toList) ∧ w = w' := by
  unfold maxLen at hs
  go_enter Tryz.func86, Tryz.ntmps86
  go_wp2
  clear hd
  go_loop [4, 11] (fun x i => ∃ (k : Nat) (v : Int), k ≤ s.size ∧ i = .int .i64 k ∧ x = .int .i64 v ∧ pz 0 s.data.toList = pz v (s.data.toList.drop k)) (fun _ i => s.size - (intOf i).toNat)
  case atStart => exact ⟨0, 0, Nat.zero_le _, rfl, rfl, rfl⟩
  case round =>
    obtain ⟨k, v, hk, rfl, rfl, hp⟩ := hrel
    have HP := Lib.hid hp
    clear hp
    by_cases hlt : k < s.size
    · have HD := Lib.hid (pz_drop v s k hlt)
      by_cases h1 : wrap64 (wrap64 (s[k].toNat : Int) - 97) < 0
      · go_wp2
        go_ret2
        exact ⟨congrArg Ending.returned (parseV_none _ (HP.out.trans (HD.out.trans (pz_low _ _ _ h1)))).symm, rfl⟩
      · by_cases h2 : 8 ≤ wrap64 (wrap64 (s[k].toNat : Int) - 97)
        · go_wp2
          go_ret2
          exact ⟨congrArg Ending.returned (parseV_none _ (HP.out.trans (HD.out.trans (pz_high _ _ _ h2)))).symm, rfl⟩
        · by_cases h3 : wrap64 (2 ^ (wrap64 (wrap64 (s[k].toNat : Int) - 97)).toNat) ≤ v
          · go_wp2
            go_ret2
            exact ⟨congrArg Ending.returned (parseV_none _ (HP.out.trans (HD.out.trans (pz_stop _ _ _ h3)))).symm, rfl⟩
          · have HS := Lib.hid (pz_on v s[k] (s.data.toList.drop (k + 1)) (by unfold catOf; omega) (by unfold catOf; omega) (by unfold catOf; omega))
            go_wp2
            go_round
            case rel => exact ⟨k + 1, _, by omega, by go_num, rfl, HP.out.trans (HD.out.trans HS.out)⟩
            case measure => simp [intOf]; omega
    · obtain rfl : k = s.size := by omega
      have HE : Hid (pz 0 s.data.toList = some v) := Lib.hid (HP.out.trans (pz_end v s))
      cases hv : (v == 0)
      · have HV := Lib.hid hv
        go_wp2
        go_ret2
        exact ⟨congrArg Ending.returned (parseV_some _ v HE.out HV.out).symm, rfl⟩
      · have HV := Lib.hid hv
        go_wp2
        go_ret2
        exact ⟨congrArg Ending.returned (parseV_zero _ v HE.out HV.out).symm, rfl⟩
end Go.Proofs.YtikkfapgmbamlaaGreatDoor.La
end
section
/- Plain facts on labels as numbers below 256: what 'together' gives, in bits; no walk. -/
namespace Go.Proofs.YtikkfapgmbamlaaGreatDoor.La
open Go.RowKit
set_option maxRecDepth 100000

theorem wraps_i64 (n : Int) (h₀ : 0 ≤ n) (h₁ : n < 2 ^ 8) : IntKind.i64.wrap n = n := by rw [IntKind.wrap_i64]; omega

theorem bits_and_l (n m : Nat) (hn : n < 256) (hm : m < 256) : bits .and .i64 n m = ((n &&& m : Nat) : Int) := (bits_nat .i64 8 (by decide) wraps_i64 n m hn hm).1
theorem bits_or_l (n m : Nat) (hn : n < 256) (hm : m < 256) : bits .or .i64 n m = ((n ||| m : Nat) : Int) := (bits_nat .i64 8 (by decide) wraps_i64 n m hn hm).2

/-- what is in n alone -/
def andN (n m : Nat) : Nat := n ^^^ (n &&& m)
theorem tb_andN (n m i : Nat) : (andN n m).testBit i = (n.testBit i && !m.testBit i) := by
  unfold andN
  rw [Nat.testBit_xor, Nat.testBit_and]
  cases n.testBit i <;> cases m.testBit i <;> rfl
theorem andN_lt (n m : Nat) (hn : n < 256) (hm : m < 256) : andN n m < 256 := Nat.xor_lt_two_pow (n := 8) hn (Nat.and_lt_two_pow (n := 8) _ hm)

theorem bits_andNot_l (n m : Nat) (hn : n < 256) (hm : m < 256) : bits .andNot .i64 n m = ((andN n m : Nat) : Int) := by
  have e : (BitVec.ofInt 64 (n : Int) &&& ~~~ (BitVec.ofInt 64 (m : Int))).toNat = andN n m := by
    rw [BitVec.ofInt_natCast, BitVec.ofInt_natCast]
    apply Nat.eq_of_testBit_eq
    intro i
    rw [tb_andN, BitVec.testBit_toNat, BitVec.getLsbD_and, BitVec.getLsbD_not, BitVec.getLsbD_ofNat, BitVec.getLsbD_ofNat]
    by_cases h : i < 64
    · simp [h]
    · have h1 : n.testBit i = false := Nat.testBit_lt_two_pow (Nat.lt_of_lt_of_le hn (show 2 ^ 8 ≤ 2 ^ i from Nat.pow_le_pow_right (by decide) (by omega)))
      simp [h, h1]
  show IntKind.i64.wrap ((BitVec.ofInt 64 (n : Int) &&& ~~~ (BitVec.ofInt 64 (m : Int))).toNat : Int) = _
  rw [e]
  have := andN_lt n m hn hm
  exact wraps_i64 _ (by omega) (by omega)

theorem isL_nat (n : Nat) (h : n < 256) : isL n = true := by unfold isL; simp; omega
theorem isL_ex (a : Int) (h : isL a = true) : ∃ n : Nat, n < 256 ∧ a = n := by
  unfold isL at h
  simp at h
  exact ⟨a.toNat, by omega, by omega⟩

def minusZ (a b : Int) : Int := orNo (togP .andNot a [b])
def flowsZ (a b : Int) : Bool := minusZ a b == 0
def joinZ (l : List Int) : Int := orNo (togP .or 0 l)
def meetZ (l : List Int) : Int := orNo (togP .and 255 l)

theorem tog_step (op : BinOp) (x s : Int) (r : List Int) (h : isL s = true) : tog op x (s :: r) = tog op (bits op .i64 x s) r := by rw [tog, h]; rfl
theorem tog_stop (op : BinOp) (x s : Int) (r : List Int) (h : isL s = false) : tog op x (s :: r) = none := by rw [tog, h]; rfl
theorem togP_yes (op : BinOp) (first : Int) (l : List Int) (v : Int) (h0 : isL first = true) (h : tog op first l = some v) : togP op first l = (v, true) := by
  unfold togP; rw [h, h0]; rfl
theorem togP_no (op : BinOp) (first : Int) (l : List Int) (h : tog op first l = none) : togP op first l = (0, false) := by
  unfold togP; rw [h]; cases isL first <;> rfl

theorem minusZ_nat (n m : Nat) (hn : n < 256) (hm : m < 256) : minusZ n m = (andN n m : Nat) := by
  unfold minusZ
  rw [togP_yes _ _ _ _ (isL_nat n hn) (tog_step _ _ _ _ (isL_nat m hm)), bits_andNot_l n m hn hm]
  rfl
theorem minusZ_left (a b : Int) (h : isL a = false) : minusZ a b = -1 := by
  unfold minusZ togP; rw [h]; rfl
theorem minusZ_right (a b : Int) (h : isL b = false) : minusZ a b = -1 := by
  unfold minusZ
  rw [togP_no _ _ _ (tog_stop _ _ _ _ h)]; rfl
theorem flowsZ_left (a b : Int) (h : isL a = false) : flowsZ a b = false := by unfold flowsZ; rw [minusZ_left a b h]; rfl
theorem flowsZ_right (a b : Int) (h : isL b = false) : flowsZ a b = false := by unfold flowsZ; rw [minusZ_right a b h]; rfl

theorem flowsZ_nat (n m : Nat) (hn : n < 256) (hm : m < 256) : flowsZ n m = true ↔ ∀ i, n.testBit i = true → m.testBit i = true := by
  unfold flowsZ
  rw [minusZ_nat n m hn hm]
  have e : (((andN n m : Nat) : Int) == 0) = true ↔ andN n m = 0 := by
    rw [beq_iff_eq]; omega
  rw [e]
  constructor
  · intro h i hi
    have := tb_andN n m i
    rw [h, Nat.zero_testBit, hi] at this
    simpa using this.symm
  · intro h
    apply Nat.eq_of_testBit_eq
    intro i
    rw [tb_andN, Nat.zero_testBit]
    cases hi : n.testBit i
    · rfl
    · rw [h i hi]; rfl

theorem flowsZ_self (n : Nat) (hn : n < 256) : flowsZ n n = true := (flowsZ_nat n n hn hn).2 fun _ h => h
theorem flowsZ_anti (n m : Nat) (hn : n < 256) (hm : m < 256) (h1 : flowsZ n m = true) (h2 : flowsZ m n = true) : n = m := by
  rw [flowsZ_nat n m hn hm] at h1
  rw [flowsZ_nat m n hm hn] at h2
  apply Nat.eq_of_testBit_eq
  intro i
  cases h : n.testBit i
  · cases k : m.testBit i
    · rfl
    · rw [h2 i k] at h; cases h
  · exact (h1 i h).symm
theorem flowsZ_trans (n m p : Nat) (hn : n < 256) (hm : m < 256) (hp : p < 256) (h1 : flowsZ n m = true) (h2 : flowsZ m p = true) : flowsZ n p = true := by
  rw [flowsZ_nat n m hn hm] at h1
  rw [flowsZ_nat m p hm hp] at h2
  exact (flowsZ_nat n p hn hp).2 fun i h => h2 i (h1 i h)

theorem bits_or_zero (n : Nat) (hn : n < 256) : bits .or .i64 0 n = n := by have := bits_or_l 0 n (by omega) hn; simpa using this
theorem and_255 (n : Nat) (hn : n < 256) : 255 &&& n = n := by
  rw [Nat.and_comm]
  have := Nat.and_two_pow_sub_one_eq_mod n 8
  simp at this
  rw [this]; omega
theorem bits_and_255 (n : Nat) (hn : n < 256) : bits .and .i64 255 n = n := by
  have := bits_and_l 255 n (by omega) hn
  rw [and_255 n hn] at this
  simpa using this
theorem joinZ_two (n m : Nat) (hn : n < 256) (hm : m < 256) : joinZ [(n : Int), (m : Int)] = ((n ||| m : Nat) : Int) := by
  unfold joinZ
  rw [togP_yes .or 0 [(n : Int), (m : Int)] ((n ||| m : Nat) : Int) rfl (by rw [tog_step _ _ _ _ (isL_nat n hn), tog_step _ _ _ _ (isL_nat m hm), bits_or_zero n hn, bits_or_l n m hn hm]; rfl)]
  rfl
theorem meetZ_two (n m : Nat) (hn : n < 256) (hm : m < 256) : meetZ [(n : Int), (m : Int)] = ((n &&& m : Nat) : Int) := by
  unfold meetZ
  rw [togP_yes .and 255 [(n : Int), (m : Int)] ((n &&& m : Nat) : Int) rfl (by rw [tog_step _ _ _ _ (isL_nat n hn), tog_step _ _ _ _ (isL_nat m hm), bits_and_255 n hn, bits_and_l n m hn hm]; rfl)]
  rfl

theorem or_lt (n m : Nat) (hn : n < 256) (hm : m < 256) : n ||| m < 256 := Nat.or_lt_two_pow (n := 8) hn hm
theorem and_lt (n m : Nat) (hm : m < 256) : n &&& m < 256 := Nat.and_lt_two_pow (n := 8) _ hm

theorem flows_up (n m : Nat) (hn : n < 256) (hm : m < 256) : flowsZ n (n ||| m : Nat) = true :=
  (flowsZ_nat n _ hn (or_lt n m hn hm)).2 fun i h => by rw [Nat.testBit_or, h]; rfl
theorem flows_up' (n m : Nat) (hn : n < 256) (hm : m < 256) : flowsZ m (n ||| m : Nat) = true :=
  (flowsZ_nat m _ hm (or_lt n m hn hm)).2 fun i h => by rw [Nat.testBit_or, h]; simp
theorem flows_down (n m : Nat) (hn : n < 256) (hm : m < 256) : flowsZ (n &&& m : Nat) n = true :=
  (flowsZ_nat _ n (and_lt n m hm) hn).2 fun i h => by rw [Nat.testBit_and] at h; simp at h; exact h.1
theorem flows_down' (n m : Nat) (hm : m < 256) : flowsZ (n &&& m : Nat) m = true :=
  (flowsZ_nat _ m (and_lt n m hm) hm).2 fun i h => by rw [Nat.testBit_and] at h; simp at h; exact h.2
theorem flows_least (n m p : Nat) (hn : n < 256) (hm : m < 256) (hp : p < 256) : flowsZ (n ||| m : Nat) p = (flowsZ n p && flowsZ m p) := by
  rw [Bool.eq_iff_iff, Bool.and_eq_true, flowsZ_nat _ p (or_lt n m hn hm) hp, flowsZ_nat n p hn hp, flowsZ_nat m p hm hp]
  constructor
  · intro h; exact ⟨fun i k => h i (by rw [Nat.testBit_or, k]; rfl), fun i k => h i (by rw [Nat.testBit_or, k]; simp)⟩
  · rintro ⟨h1, h2⟩ i k
    rw [Nat.testBit_or, Bool.or_eq_true] at k
    exact k.elim (h1 i) (h2 i)
theorem flows_greatest (n m p : Nat) (hn : n < 256) (hm : m < 256) (hp : p < 256) : flowsZ p (n &&& m : Nat) = (flowsZ p n && flowsZ p m) := by
  rw [Bool.eq_iff_iff, Bool.and_eq_true, flowsZ_nat p _ hp (and_lt n m hm), flowsZ_nat p n hp hn, flowsZ_nat p m hp hm]
  constructor
  · intro h
    have h' : ∀ i, p.testBit i = true → n.testBit i = true ∧ m.testBit i = true := fun i k => by have := h i k; rw [Nat.testBit_and, Bool.and_eq_true] at this; exact this
    exact ⟨fun i k => (h' i k).1, fun i k => (h' i k).2⟩
  · rintro ⟨h1, h2⟩ i k
    rw [Nat.testBit_and, h1 i k, h2 i k]; rfl
theorem minus_or (n m : Nat) : andN n m ||| (n &&& m) = n := by
  apply Nat.eq_of_testBit_eq
  intro i
  rw [Nat.testBit_or, tb_andN, Nat.testBit_and]
  cases n.testBit i <;> cases m.testBit i <;> rfl

/-- how many categories -/
def pop (n : Nat) : Nat := (n.testBit 0).toNat + (n.testBit 1).toNat + (n.testBit 2).toNat + (n.testBit 3).toNat + (n.testBit 4).toNat + (n.testBit 5).toNat + (n.testBit 6).toNat + (n.testBit 7).toNat
theorem tb_sum (n m i : Nat) : ((n ||| m).testBit i).toNat + ((n &&& m).testBit i).toNat = (n.testBit i).toNat + (m.testBit i).toNat := by
  rw [Nat.testBit_or, Nat.testBit_and]
  cases n.testBit i <;> cases m.testBit i <;> rfl
theorem pop_sum (n m : Nat) : pop (n ||| m) + pop (n &&& m) = pop n + pop m := by
  unfold pop
  have h0 := tb_sum n m 0
  have h1 := tb_sum n m 1
  have h2 := tb_sum n m 2
  have h3 := tb_sum n m 3
  have h4 := tb_sum n m 4
  have h5 := tb_sum n m 5
  have h6 := tb_sum n m 6
  have h7 := tb_sum n m 7
  omega
theorem pop_le (n : Nat) : pop n ≤ 8 := by
  unfold pop
  have h : ∀ b : Bool, b.toNat ≤ 1 := by decide
  have h0 := h (n.testBit 0)
  have h1 := h (n.testBit 1)
  have h2 := h (n.testBit 2)
  have h3 := h (n.testBit 3)
  have h4 := h (n.testBit 4)
  have h5 := h (n.testBit 5)
  have h6 := h (n.testBit 6)
  have h7 := h (n.testBit 7)
  omega
end Go.Proofs.YtikkfapgmbamlaaGreatDoor.La
end
section
/- The contracts of label's calls in their plain names, Count, and 'awake'. -/
namespace Go.Proofs.YtikkfapgmbamlaaGreatDoor.La
open Go.RowKit Ut
set_option maxRecDepth 100000

theorem minus_any (a b : Int) (B : Nat) (w : World) (hB : B ≤ w.heap.size) :
    Calls Tryz.prog 83 #[.int .i64 a, .int .i64 b] w fun e w' => e = .returned (.int .i64 (minusZ a b)) ∧ Below B w w' :=
  (minus_raw a b w).mono fun _ _ ⟨he, hb⟩ => ⟨he, hb.mono hB⟩
theorem flows_any (a b : Int) (B : Nat) (w : World) (hB : B ≤ w.heap.size) :
    Calls Tryz.prog 69 #[.int .i64 a, .int .i64 b] w fun e w' => e = .returned (.bool (flowsZ a b)) ∧ Below B w w' :=
  (flows_raw a b w).mono fun _ _ ⟨he, hb⟩ => ⟨he, hb.mono hB⟩

theorem lets_five : strOfNums (lets 5 8) = ⟨#[97, 99]⟩ := by decide +kernel
theorem text_five (B : Nat) (w : World) (hB : B ≤ w.heap.size) :
    Calls Tryz.prog 52 #[.int .i64 5] w fun e w' => e = .returned (.tuple #[.string ⟨#[97, 99]⟩, .int .i64 0]) ∧ Below B w w' :=
  (text_good 5 rfl rfl B w hB).mono fun _ _ ⟨he, hb⟩ => ⟨he.trans (by rw [lets_five]), hb⟩

theorem flows_15 : flowsZ 1 5 = true := by decide +kernel
theorem flows_25 : flowsZ 2 5 = false := by decide +kernel

/-! The same, carried on from a world 'w0' in which the walk began: for walks with many calls. -/
theorem flows_keep (a b : Int) {B : Nat} {w0 w : World} (hB : B ≤ w0.heap.size) (h : Below B w0 w) :
    Calls Tryz.prog 69 #[.int .i64 a, .int .i64 b] w fun e w' => e = .returned (.bool (flowsZ a b)) ∧ Below B w0 w' :=
  (flows_any a b B w (Nat.le_trans hB h.size)).mono fun _ _ ⟨he, hb⟩ => ⟨he, h.trans hb⟩
theorem minus_keep (a b : Int) {B : Nat} {w0 w : World} (hB : B ≤ w0.heap.size) (h : Below B w0 w) :
    Calls Tryz.prog 83 #[.int .i64 a, .int .i64 b] w fun e w' => e = .returned (.int .i64 (minusZ a b)) ∧ Below B w0 w' :=
  (minus_any a b B w (Nat.le_trans hB h.size)).mono fun _ _ ⟨he, hb⟩ => ⟨he, h.trans hb⟩
end Go.Proofs.YtikkfapgmbamlaaGreatDoor.La
end
section
/- Text and Parse together: every label's text is read as that label; plain facts and contracts. -/
namespace Go.Proofs.YtikkfapgmbamlaaGreatDoor.La
open Go.RowKit Ut
set_option maxRecDepth 100000

/-- the text of a label -/
def textB (l : Int) : ByteArray := if l == 0 then ⟨#[45]⟩ else strOfNums (lets l 8)
/-- what Parse returns of any text -/
def parseF (l : List UInt8) : Int × Int := if l == [45] then (0, 0) else parseP l

theorem text_any (l : Int) (h : isL l = true) {B : Nat} {w0 w : World} (hB : B ≤ w0.heap.size) (hb : Below B w0 w) :
    Calls Tryz.prog 52 #[.int .i64 l] w fun e w' => e = .returned (.tuple #[.string (textB l), .int .i64 0]) ∧ Below B w0 w' := by
  cases h0 : (l == 0)
  · refine (text_good l h h0 B w (Nat.le_trans hB hb.size)).mono fun e w' ⟨he, hb'⟩ => ⟨he.trans ?_, hb.trans hb'⟩
    unfold textB; rw [h0]; rfl
  · obtain rfl : l = 0 := by simpa using h0
    exact (text_zero w).mono fun e w' ⟨he, hw⟩ => ⟨he, hw ▸ hb⟩

theorem parse_any (s : ByteArray) (hs : s.size ≤ maxLen) (w : World) :
    Calls Tryz.prog 86 #[.string s] w fun e w' => e = .returned (.tuple #[.int .i64 (parseF s.data.toList).1, .int .i64 (parseF s.data.toList).2]) ∧ w = w' := by
  have e0 : s.toList = s.data.toList := ByteArray.toList_eq s
  cases h0 : (s.toList == [45])
  · refine (parse_else s hs h0 w).mono fun e w' ⟨he, hw⟩ => ⟨he.trans ?_, hw⟩
    unfold parseF parseV; rw [← e0, h0]; rfl
  · refine (parse_dash s h0 w).mono fun e w' ⟨he, hw⟩ => ⟨he.trans ?_, hw⟩
    unfold parseF; rw [← e0, h0]; rfl

/-- every label's text is read as that label -/
theorem parse_text_all : (List.range 256).all (fun n => parseF (textB n).data.toList == ((n : Int), 0)) = true := by decide +kernel
theorem parse_text (n : Nat) (h : n < 256) : parseF (textB n).data.toList = ((n : Int), 0) := by
  have := List.all_eq_true.1 parse_text_all n (List.mem_range.2 h)
  simpa using this
theorem textB_inj (n m : Nat) (hn : n < 256) (hm : m < 256) (h : (textB n).data.toList = (textB m).data.toList) : n = m := by
  have h1 := parse_text n hn
  rw [h, parse_text m hm] at h1
  have := congrArg Prod.fst h1
  simp at this
  omega
theorem textB_size (l : Int) : (textB l).size ≤ 8 := by
  unfold textB
  split
  · decide
  · rw [strOfNums_size]; exact lets_le l 8

theorem parse_keep (n : Nat) (hn : n < 256) {B : Nat} {w0 w : World} (hb : Below B w0 w) :
    Calls Tryz.prog 86 #[.string (textB n)] w fun e w' => e = .returned (.tuple #[.int .i64 (n : Int), .int .i64 0]) ∧ Below B w0 w' := by
  refine (parse_any (textB n) (by have := textB_size n; unfold maxLen; omega) w).mono fun e w' ⟨he, hw⟩ => ⟨he.trans ?_, hw ▸ hb⟩
  rw [parse_text n hn]

end Go.Proofs.YtikkfapgmbamlaaGreatDoor.La
end
section
/- The document's Text and Parse of layer 1, and that label's agree with them; the walk of hermitagelaw01.LabelTexts. -/
namespace Go.Proofs.YtikkfapgmbamlaaGreatDoor.La
open Go.RowKit Ut
set_option maxRecDepth 100000

/-- the letters of a label as bytes -/
def lb (n : Nat) : List UInt8 := (strOfNums (lets n 8)).data.toList
theorem lb_all : (List.range 8).all (fun c => (List.range 256).all fun v => !decide (v < 2 ^ c) || (bits .or .i64 (v : Int) (wrap64 (2 ^ c)) == ((v ||| 2 ^ c : Nat) : Int) && lb (v ||| 2 ^ c) == lb v ++ [UInt8.ofNat (97 + c)])) = true := by decide +kernel
theorem lb_on (c v : Nat) (hc : c < 8) (hv : v < 256) (h : v < 2 ^ c) : bits .or .i64 (v : Int) (wrap64 (2 ^ c)) = ((v ||| 2 ^ c : Nat) : Int) ∧ lb (v ||| 2 ^ c) = lb v ++ [UInt8.ofNat (97 + c)] := by
  have := List.all_eq_true.1 (List.all_eq_true.1 lb_all c (List.mem_range.2 hc)) v (List.mem_range.2 hv)
  simpa [h] using this
theorem wrap_all : (List.range 8).all (fun c => wrap64 (2 ^ c) == ((2 ^ c : Nat) : Int)) = true := by decide +kernel
theorem wrap_pow (c : Nat) (hc : c < 8) : wrap64 (2 ^ c) = ((2 ^ c : Nat) : Int) := by
  have := List.all_eq_true.1 wrap_all c (List.mem_range.2 hc)
  simpa using this
theorem cat_nat (b : UInt8) (h0 : 0 ≤ catOf b) (h1 : catOf b < 8) : ∃ c : Nat, c < 8 ∧ catOf b = c ∧ b = UInt8.ofNat (97 + c) := by
  have hb := b.toNat_lt
  have e : catOf b = (b.toNat : Int) - 97 := by
    unfold catOf
    have e1 : wrap64 (b.toNat : Int) = (b.toNat : Int) := IntWalk.wrap64_in _ (by omega)
    rw [e1]
    exact IntWalk.wrap64_in _ (by omega)
  refine ⟨b.toNat - 97, by omega, by omega, ?_⟩
  rw [show 97 + (b.toNat - 97) = b.toNat by omega]
  simp

theorem pz_text : ∀ (r : List UInt8) (v : Nat) (m : Int), v < 256 → pz v r = some m → ∃ n : Nat, n < 256 ∧ m = n ∧ lb n = lb v ++ r
  | [], v, m, hv, h => by
    simp only [pz, Option.some.injEq] at h
    exact ⟨v, hv, h.symm, by simp⟩
  | b :: r, v, m, hv, h => by
    rw [pz] at h
    split at h
    · cases h
    · rename_i k1
      split at h
      · cases h
      · rename_i k2
        obtain ⟨c, hc, e, hb⟩ := cat_nat b (by omega) (by omega)
        rw [e, Int.toNat_natCast, wrap_pow c hc] at k2
        have hvc : v < 2 ^ c := by
          have : ¬ (((2 ^ c : Nat) : Int) ≤ (v : Int)) := k2
          omega
        obtain ⟨l1, l2⟩ := lb_on c v hc hv hvc
        rw [e, Int.toNat_natCast, l1] at h
        have hlt : v ||| 2 ^ c < 256 := or_lt v (2 ^ c) hv (Nat.pow_lt_pow_right (by decide) (show c < 8 from hc))
        obtain ⟨n, hn, hm, hl⟩ := pz_text r (v ||| 2 ^ c) m hlt h
        exact ⟨n, hn, hm, by rw [hl, l2, hb]; simp⟩

theorem parseF_text (s : List UInt8) : parseF s = (0, 6) ∨ ∃ n : Nat, n < 256 ∧ (textB n).data.toList = s := by
  unfold parseF
  cases h : (s == [45])
  · show (parseP s = (0, 6) ∨ _)
    unfold parseP
    cases k : pz 0 s with
    | none => exact .inl rfl
    | some m =>
      obtain ⟨n, hn, rfl, hl⟩ := pz_text s 0 m (by omega) k
      cases z : ((n : Int) == 0)
      · refine .inr ⟨n, hn, ?_⟩
        have e0 : lb 0 = [] := by decide +kernel
        rw [e0] at hl
        unfold textB
        rw [z]
        exact hl
      · exact .inl (if_pos z)
  · refine .inr ⟨0, by omega, ?_⟩
    have : s = [45] := by simpa using h
    rw [this]; rfl

theorem parseF_none (s : List UInt8) (h : ∀ n : Nat, n < 256 → (textB n).data.toList ≠ s) : parseF s = (0, 6) :=
  (parseF_text s).elim id fun ⟨n, hn, e⟩ => absurd e (h n hn)
theorem parseF_some (s : List UInt8) (n : Nat) (hn : n < 256) (h : (textB n).data.toList = s) : parseF s = ((n : Int), 0) := h ▸ parse_text n hn

theorem refIs_any (l : Int) (w : World) :
    Calls Tryz.prog 62 #[.int .i64 l] w fun e w' => e = .returned (.bool (isL l)) ∧ w = w' := by
  go_enter Tryz.func62, Tryz.ntmps62
  go_wp2
  all_goals
    go_ret
    refine ⟨congrArg (fun b => Ending.returned (.bool b)) ?_, rfl⟩
    unfold isL
    first | (simp; omega) | (simp [*]; done) | (simp [*]; omega)

/-- is category k in l, as both programs ask it -/
def hasZ (l : Int) (k : Nat) : Bool := bits .and .i64 (l / 2 ^ k) 1 == 1
theorem refHas_any (l : Int) (k : Nat) (hk : k ≤ 8) (w : World) :
    Calls Tryz.prog 63 #[.int .i64 l, .int .i64 k] w fun e w' => e = .returned (.bool (hasZ l k)) ∧ w = w' := by
  go_enter Tryz.func63, Tryz.ntmps63
  go_wp2
  go_ret
  exact ⟨rfl, rfl⟩

theorem refText_bad (l : Int) (h : isL l = false) (w : World) :
    Calls Tryz.prog 28 #[.int .i64 l] w fun e w' => e = .returned (.tuple #[.string ByteArray.empty, .int .i64 1]) ∧ w = w' := by
  go_enter Tryz.func28, Tryz.ntmps28
  go_wp2_with (go_at_call 62; refine (refIs_any _ _).mono ?_; rintro e w' ⟨rfl, rfl⟩)
  go_ret2
  exact ⟨rfl, rfl⟩
theorem refText_zero (w : World) :
    Calls Tryz.prog 28 #[.int .i64 0] w fun e w' => e = .returned (.tuple #[.string ⟨#[45]⟩, .int .i64 0]) ∧ w = w' := by
  have h : isL 0 = true := rfl
  go_enter Tryz.func28, Tryz.ntmps28
  go_wp2_with (go_at_call 62; refine (refIs_any _ _).mono ?_; rintro e w' ⟨rfl, rfl⟩)
  go_ret2
  exact ⟨rfl, rfl⟩
theorem refText_good (l : Int) (h : isL l = true) (h0 : (l == 0) = false) (B : Nat) (w : World) (hB : B ≤ w.heap.size) :
    Calls Tryz.prog 28 #[.int .i64 l] w fun e w' => e = .returned (.tuple #[.string (strOfNums (lets l 8)), .int .i64 0]) ∧ Below B w w' := by
  obtain ⟨i0, hi, hz0, hz1, hz2⟩ := info_parts info_u8
  go_enter Tryz.func28, Tryz.ntmps28
  go_wp2_with (go_at_call 62; refine (refIs_any _ _).mono ?_; rintro e w' ⟨rfl, rfl⟩)
  go_loopw [4, 5] (fun v i wr => ∃ k : Nat, k ≤ 8 ∧ i = .int .i64 k ∧ wr.ownsRow B 5 1 v (lets l k).length ((lets l k).map (Value.int .u8)) ∧ Below B w wr) (fun _ i _ => 8 - (intOf i).toNat)
  case atStart => exact ⟨0, Nat.zero_le _, rfl, World.ownsRow_nil _ _ _ _, Below.refl _ _⟩
  case round =>
    obtain ⟨k, hk, rfl, hown, hbel⟩ := hrel
    have hbs := Nat.le_trans hB hbel.size
    have hll := lets_le l k
    by_cases hlt : k < 8
    · cases hy : hasZ l k
      · have HY := Lib.hid hy
        go_wp2_with (go_at_call 63; refine (refHas_any _ _ hk _).mono ?_; rintro e w' ⟨rfl, rfl⟩)
        go_roundw
        case rel => exact ⟨k + 1, by omega, by go_num, by unfold lets; rw [show (bits .and .i64 (l / 2 ^ k) 1 == 1) = false from HY.out]; exact hown, hbel⟩
        case measure => simp [intOf]; omega
      · have HY := Lib.hid hy
        go_wp2_with (first | (go_at_call 63; refine (refHas_any _ _ hk _).mono ?_; rintro e w' ⟨rfl, rfl⟩) | (at_builtin; refine wpList_append_own _ rfl _ _ 39 rfl B 5 i0 (.int .u8 0) 1 1 Tryz.underlying39 hi hz0 hz1 hz2 rfl (by decide) _ _ _ rfl (hown.alloc _) ⟨wr.heap.size, 0, none⟩ 1 1 [.int .u8 (97 + k)] rfl rfl ?c1 ?c2 ?c3 ?c4 ?c5 ?_))
        case c1 => exact cell_one_new _ _ _
        case c2 => intro u hu; simp at hu; subst hu; rfl
        case c3 => unfold maxLen; omega
        case c4 => omega
        case c5 => simp; omega
        · intro v' w1 hown' hgrow _
          have hb1 : Below B w w1 := (hbel.alloc hbs _).grown hgrow (by simp; omega) (fun q hq => (hown.lt q hq).1)
          have ho1 : w1.ownsRow B 5 1 v' (lets l (k + 1)).length ((lets l (k + 1)).map (Value.int .u8)) := by
            have e : lets l (k + 1) = lets l k ++ [97 + (k : Int)] := by
              show (if _ then _ else _) = _
              rw [show (bits .and .i64 (l / 2 ^ k) 1 == 1) = true from HY.out]; rfl
            rw [e]
            simpa using hown'
          clear hown' hgrow hown hbel
          go_wp2
          go_roundw
          case rel => exact ⟨k + 1, by omega, by go_num, ho1, hb1⟩
          case measure => simp [intOf]; omega
    · obtain rfl : k = 8 := by omega
      have hcv := run_convert_own (P := Tryz.prog) (dst := 9) Tryz.underlying39 Tryz.underlying5 Tryz.underlying9 hown
      go_wp2
      go_ret2
      exact ⟨rfl, hbel⟩

theorem refText_any (l : Int) (h : isL l = true) {B : Nat} {w0 w : World} (hB : B ≤ w0.heap.size) (hb : Below B w0 w) :
    Calls Tryz.prog 28 #[.int .i64 l] w fun e w' => e = .returned (.tuple #[.string (textB l), .int .i64 0]) ∧ Below B w0 w' := by
  cases h0 : (l == 0)
  · refine (refText_good l h h0 B w (Nat.le_trans hB hb.size)).mono fun e w' ⟨he, hb'⟩ => ⟨he.trans ?_, hb.trans hb'⟩
    unfold textB; rw [h0]; rfl
  · obtain rfl : l = 0 := by simpa using h0
    exact (refText_zero w).mono fun e w' ⟨he, hw⟩ => ⟨he, hw ▸ hb⟩

end Go.Proofs.YtikkfapgmbamlaaGreatDoor.La
end
section
/- Plan: a configuration's text, plainly: what lines say, how they are read and printed; there and back. -/
namespace Go.Proofs.YtikkfapgmbamlaaGreatDoor.Pl
open Go.RowKit Ut

/-- the ranks' words, and what stands behind them -/
def kw : Nat → List UInt8
  | 0 => [99, 97, 116, 115]
  | 1 => [103, 117, 101, 115, 116]
  | 2 => [114, 97, 110, 103, 101]
  | 3 => [112, 111, 114, 116]
  | 4 => [114, 105, 110, 103]
  | 5 => [115, 108, 111, 116]
  | 6 => [103, 97, 116, 101]
  | _ => []
def kf : Nat → List UInt8
  | 0 => [110]
  | 1 => [108, 110, 110]
  | 2 => [108, 110, 110]
  | 3 => [108, 112]
  | 4 => [110, 110]
  | 5 => [110, 110]
  | 6 => [110, 110]
  | _ => []
def rankL (w : List UInt8) : Option Nat := (List.range 7).find? fun r => kw r == w
/-- what a word says in a field: a label, out, a number -/
def valL (f : UInt8) (w : List UInt8) : Option Int :=
  if f = 108 then (if (La.parseF w).2 = 0 then some (La.parseF w).1 else none)
  else if f = 112 ∧ w = [111, 117, 116] then some (-1) else (numL w).map Int.ofNat
def valsL : List UInt8 → List (List UInt8) → Option (List Int)
  | [], [] => some []
  | f :: fs, w :: ws => match valL f w, valsL fs ws with
    | some v, some vs => some (v :: vs)
    | _, _ => none
  | _, _ => none
/-- a line as its rank and its values -/
def recL (line : List UInt8) : Option (Nat × List Int) := match wordsL line with
  | some (w :: ws) => match rankL w with
    | some r => match valsL (kf r) ws with
      | some vs => some (r, vs)
      | none => none
    | none => none
  | _ => none
/-- a configuration, plainly -/
structure PC where
  cats : Int
  gs : List (List Int)
  rs : List (List Int)
  ps : List (List Int)
  ns : List (List Int)
  ss : List (List Int)
  gate : Int
  quota : Int
def PC.put (c : PC) (r : Nat) (v : List Int) : PC := match r with
  | 0 => { c with cats := v.getD 0 0 }
  | 1 => { c with gs := c.gs ++ [v] }
  | 2 => { c with rs := c.rs ++ [v] }
  | 3 => { c with ps := c.ps ++ [v] }
  | 4 => { c with ns := c.ns ++ [v] }
  | 5 => { c with ss := c.ss ++ [v] }
  | 6 => { c with gate := v.getD 0 0, quota := v.getD 1 0 }
  | _ => c
def pc0 : PC := ⟨0, [], [], [], [], [], -1, 0⟩
def manyL (r : Nat) : Bool := decide (1 ≤ r) && decide (r ≤ 5)
/-- may a line of rank r stand behind one of the last rank -/
def folL (r : Nat) (last : Int) : Bool := if last = -1 then r == 0 else if (r : Int) = last then manyL r else decide (last < r)
/-- the lines read on: the first that can't be, or the configuration -/
def runL : List (List UInt8) → PC → Int → Nat → Nat ⊕ PC
  | [], c, _, _ => .inr c
  | l :: ls, c, last, i => match recL l with
    | some (r, v) => if folL r last = true then runL ls (c.put r v) r (i + 1) else .inl (i + 1)
    | none => .inl (i + 1)
/-- what a text says: the first line that can't be, or a configuration, right or not -/
def readL (s : List UInt8) : Nat ⊕ PC := match runL (cutL 10 s).1 pc0 (-1) 0 with
  | .inl n => .inl n
  | .inr c => if (cutL 10 s).2 = [] ∧ (cutL 10 s).1 ≠ [] then .inr c else .inl ((cutL 10 s).1.length + 1)

def wordL (f : UInt8) (v : Int) : List UInt8 := if f = 108 then (La.textB v).data.toList else if f = 112 ∧ v = -1 then [111, 117, 116] else Lib.decDigits v.toNat
def tailL : List UInt8 → List Int → List UInt8
  | f :: fs, v :: vs => 32 :: wordL f v ++ tailL fs vs
  | _, _ => []
/-- the record's line, without its end -/
def bodyL (q : Nat × List Int) : List UInt8 := kw q.1 ++ tailL (kf q.1) q.2
def lineL (q : Nat × List Int) : List UInt8 := bodyL q ++ [10]
def PC.recs (p : PC) : List (Nat × List Int) :=
  (0, [p.cats]) :: (p.gs.map (Prod.mk 1) ++ (p.rs.map (Prod.mk 2) ++ (p.ps.map (Prod.mk 3) ++ (p.ns.map (Prod.mk 4) ++ (p.ss.map (Prod.mk 5) ++ if p.gate = -1 then [] else [(6, [p.gate, p.quota])])))))
def PC.text (p : PC) : List UInt8 := (p.recs.map lineL).flatten

/-! ### a line that is read is printed as it stands -/
theorem parseF_back {w : List UInt8} (h : (La.parseF w).2 = 0) : (La.textB (La.parseF w).1).data.toList = w := by
  rcases La.parseF_text w with e | ⟨n, hn, e⟩
  · rw [e] at h; cases h
  · rw [← e, La.parse_text n hn]
theorem val_back {f : UInt8} {w : List UInt8} {v : Int} (h : valL f w = some v) : wordL f v = w := by
  unfold valL at h
  unfold wordL
  split at h
  · rename_i e
    rw [if_pos e]
    split at h
    · rename_i e2
      injection h with h
      subst h
      exact parseF_back e2
    · cases h
  · rename_i e
    rw [if_neg e]
    split at h
    · rename_i e2
      injection h with h
      subst h
      rw [if_pos ⟨e2.1, rfl⟩]; exact e2.2.symm
    · cases hn : numL w with
      | none => rw [hn] at h; cases h
      | some n =>
        rw [hn] at h
        simp only [Option.map_some] at h
        injection h with h
        subst h
        rw [if_neg (by rintro ⟨_, h⟩; cases h)]
        exact numL_text hn
theorem vals_back : ∀ (fs : List UInt8) (ws : List (List UInt8)) (vs : List Int), valsL fs ws = some vs → tailL fs vs = (ws.map (32 :: ·)).flatten ∧ vs.length = fs.length
  | [], [], vs, h => by
    simp only [valsL, Option.some.injEq] at h
    subst h; exact ⟨rfl, rfl⟩
  | [], w :: ws, vs, h => by simp [valsL] at h
  | f :: fs, [], vs, h => by simp [valsL] at h
  | f :: fs, w :: ws, vs, h => by
    unfold valsL at h
    cases h1 : valL f w with
    | none => rw [h1] at h; cases h
    | some v =>
      cases h2 : valsL fs ws with
      | none => rw [h1, h2] at h; cases h
      | some us =>
        rw [h1, h2] at h
        injection h with h
        subst h
        obtain ⟨k1, k2⟩ := vals_back fs ws us h2
        exact ⟨by simp [tailL, val_back h1, k1], by simp [k2]⟩
theorem rank_back {w : List UInt8} {r : Nat} (h : rankL w = some r) : kw r = w ∧ r < 7 := by
  unfold rankL at h
  have h1 := List.find?_some h
  have h2 := List.mem_of_find?_eq_some h
  exact ⟨by simpa using h1, by simpa using h2⟩
theorem words_back {l : List UInt8} {w : List UInt8} {ws : List (List UInt8)} (h : wordsL l = some (w :: ws)) : l = w ++ (ws.map (32 :: ·)).flatten := by
  unfold wordsL at h
  split at h
  · cases h
  · injection h with h
    have hj := cutL_join 32 l
    have key : ∀ (ps : List (List UInt8)) (q : List UInt8) (w : List UInt8) (ws : List (List UInt8)), ps ++ [q] = w :: ws → (ps.map (· ++ [32])).flatten ++ q = w ++ (ws.map (32 :: ·)).flatten := by
      intro ps
      induction ps with
      | nil => intro q w ws h; simp at h; obtain ⟨rfl, rfl⟩ := h; simp
      | cons p ps ih =>
        intro q w ws h
        simp only [List.cons_append] at h
        injection h with e1 e2
        subst e1
        cases ws with
        | nil => simp at e2
        | cons x xs =>
          have := ih q x xs e2
          simp only [List.map_cons, List.flatten_cons, List.append_assoc, List.cons_append, List.nil_append] at this ⊢
          rw [this]
    rw [hj]
    exact key _ _ _ _ h
theorem rec_back {l : List UInt8} {r : Nat} {vs : List Int} (h : recL l = some (r, vs)) : bodyL (r, vs) = l ∧ r < 7 ∧ vs.length = (kf r).length := by
  unfold recL at h
  split at h
  · rename_i w ws hw
    split at h
    · rename_i r' hr
      split at h
      · rename_i vs' hv
        injection h with h
        injection h with h1 h2
        subst h1; subst h2
        obtain ⟨k1, k2⟩ := rank_back hr
        obtain ⟨k3, k4⟩ := vals_back _ _ _ hv
        refine ⟨?_, k2, k4⟩
        unfold bodyL
        simp only [k1, k3]
        exact (words_back hw).symm
      · cases h
    · cases h
  · cases h
/-! ### the lines come in the order in which they are printed -/
/-- nothing lies behind the last rank -/
def UpTo (c : PC) (last : Int) : Prop := 0 ≤ last ∧ (last < 1 → c.gs = []) ∧ (last < 2 → c.rs = []) ∧ (last < 3 → c.ps = []) ∧ (last < 4 → c.ns = []) ∧ (last < 5 → c.ss = []) ∧ (last < 6 → c.gate = -1)
theorem vals_num {f : UInt8} {w : List UInt8} {v : Int} (h : valL f w = some v) (hf : f = 110) : 0 ≤ v := by
  subst hf
  unfold valL at h
  rw [if_neg (by decide), if_neg (by rintro ⟨h, _⟩; revert h; decide)] at h
  cases hn : numL w with
  | none => rw [hn] at h; cases h
  | some n => rw [hn] at h; simp only [Option.map_some] at h; injection h with h; subst h; exact Int.natCast_nonneg n
theorem rec_gate {l : List UInt8} {vs : List Int} (h : recL l = some (6, vs)) : ∃ a b, vs = [a, b] ∧ 0 ≤ a ∧ 0 ≤ b := by
  unfold recL at h
  split at h
  · rename_i w ws hw
    split at h
    · rename_i r' hr
      split at h
      · rename_i vs' hv
        injection h with h
        injection h with h1 h2
        subst h1; subst h2
        match ws, hv with
        | [], hv => simp [kf, valsL] at hv
        | [x], hv => simp [kf, valsL] at hv
        | [x, y], hv =>
          simp only [kf, valsL] at hv
          cases e1 : valL 110 x with
          | none => rw [e1] at hv; cases hv
          | some a =>
            cases e2 : valL 110 y with
            | none => rw [e1, e2] at hv; cases hv
            | some b =>
              rw [e1, e2] at hv
              injection hv with hv
              exact ⟨a, b, hv.symm, vals_num e1 rfl, vals_num e2 rfl⟩
        | x :: y :: z :: r, hv =>
          simp only [kf, valsL] at hv
          cases e1 : valL 110 x <;> cases e2 : valL 110 y <;> rw [e1, e2] at hv <;> cases hv
      · cases h
    · cases h
  · cases h
theorem put_recs {c : PC} {last : Int} {r : Nat} {l : List UInt8} {v : List Int} (hc : UpTo c last) (hr : recL l = some (r, v)) (hf : folL r last = true) : (c.put r v).recs = c.recs ++ [(r, v)] ∧ UpTo (c.put r v) r := by
  obtain ⟨h0, h1, h2, h3, h4, h5, h6⟩ := hc
  obtain ⟨_, hr7, hl⟩ := rec_back hr
  unfold folL at hf
  rw [if_neg (by omega)] at hf
  have hlast : (r : Int) = last ∧ 1 ≤ r ∧ r ≤ 5 ∨ last < r := by
    split at hf
    · rename_i e
      refine .inl ⟨e, ?_⟩
      simpa [manyL] using hf
    · exact .inr (by simpa using hf)
  have hg6 : r ≤ 5 → c.gate = -1 := fun hr5 => h6 (by omega)
  match r, hr7 with
  | 0, _ => omega
  | 1, _ =>
    have e2 := h2 (by omega); have e3 := h3 (by omega); have e4 := h4 (by omega); have e5 := h5 (by omega); have e6 := h6 (by omega)
    exact ⟨by simp [PC.put, PC.recs, e2, e3, e4, e5, e6], by simp [UpTo, PC.put, e2, e3, e4, e5, e6]⟩
  | 2, _ =>
    have e3 := h3 (by omega); have e4 := h4 (by omega); have e5 := h5 (by omega); have e6 := h6 (by omega)
    exact ⟨by simp [PC.put, PC.recs, e3, e4, e5, e6], by simp [UpTo, PC.put, e3, e4, e5, e6]⟩
  | 3, _ =>
    have e4 := h4 (by omega); have e5 := h5 (by omega); have e6 := h6 (by omega)
    exact ⟨by simp [PC.put, PC.recs, e4, e5, e6], by simp [UpTo, PC.put, e4, e5, e6]⟩
  | 4, _ =>
    have e5 := h5 (by omega); have e6 := h6 (by omega)
    exact ⟨by simp [PC.put, PC.recs, e5, e6], by simp [UpTo, PC.put, e5, e6]⟩
  | 5, _ =>
    have e6 := h6 (by omega)
    exact ⟨by simp [PC.put, PC.recs, e6], by simp [UpTo, PC.put, e6]⟩
  | 6, _ =>
    have e6 := h6 (by omega)
    obtain ⟨a, b, rfl, ha, hb⟩ := rec_gate hr
    have hne : ¬ a = -1 := by omega
    exact ⟨by simp [PC.put, PC.recs, e6, hne], by simp [UpTo, PC.put]⟩
  | r + 7, h => omega
theorem run_text : ∀ (ls : List (List UInt8)) (c : PC) (last : Int) (i : Nat) (p : PC), UpTo c last → runL ls c last i = .inr p → p.text = c.text ++ (ls.map (· ++ [10])).flatten
  | [], c, last, i, p, _, h => by
    simp only [runL] at h
    injection h with h
    subst h; simp
  | l :: ls, c, last, i, p, hc, h => by
    unfold runL at h
    split at h
    · rename_i r v hr
      split at h
      · rename_i hf
        obtain ⟨k1, k2⟩ := put_recs hc hr hf
        rw [run_text ls _ _ _ p k2 h]
        have hb := (rec_back hr).1
        simp only [PC.text, k1, List.map_append, List.flatten_append, List.map_cons, List.map_nil, List.flatten_cons, List.flatten_nil, lineL, hb, List.append_assoc, List.append_nil]
      · cases h
    · cases h
/-- a text that is read is printed as it stands -/
theorem read_text {s : List UInt8} {p : PC} (h : readL s = .inr p) : p.text = s := by
  unfold readL at h
  split at h
  · cases h
  · rename_i c hr
    split at h
    · rename_i hq
      injection h with h
      subst h
      have hj := cutL_join 10 s
      rw [hq.1, List.append_nil] at hj
      rw [hj]
      generalize (cutL 10 s).1 = ls at hr hq
      match ls, hq.2 with
      | l :: ls, _ =>
        unfold runL at hr
        split at hr
        · rename_i r v hrec
          split at hr
          · rename_i hf
            unfold folL at hf
            rw [if_pos rfl] at hf
            obtain rfl : r = 0 := by simpa using hf
            obtain ⟨hb, _, hl⟩ := rec_back hrec
            obtain ⟨a, rfl⟩ : ∃ a, v = [a] := by
              match v, hl with
              | [a], _ => exact ⟨a, rfl⟩
              | [], hl => simp [kf] at hl
              | _ :: _ :: _, hl => simp [kf] at hl
            rw [run_text ls _ _ _ _ (by simp [UpTo, PC.put, pc0]) hr]
            simp [PC.text, PC.recs, PC.put, pc0, lineL, hb]
          · cases hr
        · cases hr
    · cases h
/-! ### what is printed is read as it was -/
/-- a value that a field can be -/
def OkV (f : UInt8) (v : Int) : Prop := (f = 108 ∧ 0 ≤ v ∧ v < 256) ∨ (f = 112 ∧ -1 ≤ v ∧ v < 100) ∨ (f = 110 ∧ 0 ≤ v ∧ v < 100)
theorem lab_all : (List.range 256).all (fun n => !(La.textB n).data.toList.contains 32 && !(La.textB n).data.toList.contains 10 && !(La.textB n).data.toList.isEmpty) = true := by decide +kernel
theorem val_word {f : UInt8} {v : Int} (h : OkV f v) : valL f (wordL f v) = some v ∧ 32 ∉ wordL f v ∧ 10 ∉ wordL f v ∧ wordL f v ≠ [] := by
  have num : ∀ n : Nat, n < 100 → (numL (Lib.decDigits n)).map Int.ofNat = some (n : Int) ∧ 32 ∉ Lib.decDigits n ∧ 10 ∉ Lib.decDigits n ∧ Lib.decDigits n ≠ [] ∧ Lib.decDigits n ≠ [111, 117, 116] := fun n hn => by
    rw [dec_dd n hn]
    obtain ⟨k1, k2, k3, k4, k5⟩ := dd_good n hn
    exact ⟨by rw [k1]; rfl, k2, k3, k4, k5⟩
  rcases h with ⟨rfl, h0, h1⟩ | ⟨rfl, h0, h1⟩ | ⟨rfl, h0, h1⟩
  · obtain ⟨n, rfl⟩ : ∃ n : Nat, v = n := ⟨v.toNat, by omega⟩
    have hn : n < 256 := by omega
    have := List.all_eq_true.1 lab_all n (List.mem_range.2 hn)
    simp only [wordL, valL, if_true, La.parse_text n hn]
    generalize (La.textB (n : Int)).data.toList = tx at this ⊢
    simp at this
    exact ⟨trivial, this.1.1, this.1.2, this.2⟩
  · have e : ¬ (112 : UInt8) = 108 := by decide
    simp only [wordL, valL, if_neg e, true_and]
    by_cases hv : v = -1
    · subst hv
      refine ⟨rfl, by decide, by decide, by decide⟩
    · obtain ⟨n, rfl⟩ : ∃ n : Nat, v = n := ⟨v.toNat, by omega⟩
      obtain ⟨k1, k2, k3, k4, k5⟩ := num n (by omega)
      rw [if_neg hv]
      simp only [Int.toNat_natCast]
      exact ⟨by rw [if_neg k5]; exact k1, k2, k3, k4⟩
  · have e : ¬ (110 : UInt8) = 108 := by decide
    have e2 : ∀ P : Prop, ¬ ((110 : UInt8) = 112 ∧ P) := fun P h => by have := h.1; revert this; decide
    obtain ⟨n, rfl⟩ : ∃ n : Nat, v = n := ⟨v.toNat, by omega⟩
    obtain ⟨k1, k2, k3, k4, k5⟩ := num n (by omega)
    simp only [wordL, valL, if_neg e, if_neg (e2 _), Int.toNat_natCast]
    exact ⟨k1, k2, k3, k4⟩
/-- values that fit the fields -/
def OkVs : List UInt8 → List Int → Prop
  | [], [] => True
  | f :: fs, v :: vs => OkV f v ∧ OkVs fs vs
  | _, _ => False
def wordsOf : List UInt8 → List Int → List (List UInt8)
  | f :: fs, v :: vs => wordL f v :: wordsOf fs vs
  | _, _ => []
theorem vals_words : ∀ (fs : List UInt8) (vs : List Int), OkVs fs vs → valsL fs (wordsOf fs vs) = some vs ∧ (∀ w ∈ wordsOf fs vs, 32 ∉ w ∧ 10 ∉ w ∧ w ≠ []) ∧ tailL fs vs = ((wordsOf fs vs).map (32 :: ·)).flatten
  | [], [], _ => ⟨rfl, fun w h => absurd h (by simp [wordsOf]), rfl⟩
  | [], _ :: _, h => h.elim
  | _ :: _, [], h => h.elim
  | f :: fs, v :: vs, h => by
    obtain ⟨k1, k2, k3, k4⟩ := val_word h.1
    obtain ⟨j1, j2, j3⟩ := vals_words fs vs h.2
    refine ⟨by simp [wordsOf, valsL, k1, j1], fun w hw => ?_, by simp [wordsOf, tailL, j3]⟩
    rcases List.mem_cons.1 hw with rfl | hw
    · exact ⟨k2, k3, k4⟩
    · exact j2 w hw
theorem kw_all : (List.range 7).all (fun r => rankL (kw r) == some r && !(kw r).contains 32 && !(kw r).contains 10 && !(kw r).isEmpty) = true := by decide +kernel
theorem words_of (w : List UInt8) (ws : List (List UInt8)) (h : ∀ x ∈ w :: ws, 32 ∉ x ∧ x ≠ []) : wordsL (w ++ (ws.map (32 :: ·)).flatten) = some (w :: ws) := by
  have key : ∀ (w : List UInt8) (ws : List (List UInt8)), (∀ x ∈ w :: ws, 32 ∉ x) → ∃ ps q, ps ++ [q] = w :: ws ∧ cutL 32 (w ++ (ws.map (32 :: ·)).flatten) = (ps, q) := by
    intro w ws hx
    have hne : (w :: ws) ≠ [] := by simp
    refine ⟨(w :: ws).dropLast, (w :: ws).getLast hne, List.dropLast_concat_getLast hne, ?_⟩
    have e : ∀ (ws : List (List UInt8)) (w : List UInt8), w ++ (ws.map (32 :: ·)).flatten = (((w :: ws).dropLast).map (· ++ [32])).flatten ++ (w :: ws).getLast (by simp) := by
      intro ws
      induction ws with
      | nil => intro w; simp
      | cons x xs ih =>
        intro w
        have := ih x
        simp only [List.map_cons, List.flatten_cons, List.dropLast_cons_cons, List.append_assoc, List.cons_append, List.nil_append] at this ⊢
        rw [this]
        simp
    rw [e ws w]
    exact cutL_of 32 _ _ (fun p hp => hx p (List.dropLast_subset _ hp)) (hx _ (List.getLast_mem hne))
  obtain ⟨ps, q, e1, e2⟩ := key w ws fun x hx => (h x hx).1
  unfold wordsL
  rw [e2]
  simp only [e1]
  rw [if_neg fun hm => (h _ hm).2 rfl]
theorem rec_of {r : Nat} {vs : List Int} (hr : r < 7) (h : OkVs (kf r) vs) : recL (bodyL (r, vs)) = some (r, vs) ∧ 10 ∉ bodyL (r, vs) := by
  obtain ⟨j1, j2, j3⟩ := vals_words _ _ h
  have := List.all_eq_true.1 kw_all r (List.mem_range.2 hr)
  simp at this
  obtain ⟨⟨⟨a1, a2⟩, a3⟩, a4⟩ := this
  have hw : wordsL (bodyL (r, vs)) = some (kw r :: wordsOf (kf r) vs) := by
    unfold bodyL
    simp only [j3]
    refine words_of _ _ fun x hx => ?_
    rcases List.mem_cons.1 hx with rfl | hx
    · exact ⟨a2, a4⟩
    · exact ⟨(j2 x hx).1, (j2 x hx).2.2⟩
  refine ⟨?_, ?_⟩
  · unfold recL
    rw [hw]
    simp only [a1, j1]
  · unfold bodyL
    simp only [j3]
    intro hm
    rcases List.mem_append.1 hm with hm | hm
    · exact a3 hm
    · obtain ⟨l, hl, hm⟩ := List.mem_flatten.1 hm
      obtain ⟨w, hw, rfl⟩ := List.mem_map.1 hl
      rcases List.mem_cons.1 hm with hm | hm
      · revert hm; decide
      · exact (j2 w hw).2.1 hm
/-- a configuration whose values fit -/
structure OkP (p : PC) : Prop where
  cats : OkVs (kf 0) [p.cats]
  gs : ∀ v ∈ p.gs, OkVs (kf 1) v
  rs : ∀ v ∈ p.rs, OkVs (kf 2) v
  ps : ∀ v ∈ p.ps, OkVs (kf 3) v
  ns : ∀ v ∈ p.ns, OkVs (kf 4) v
  ss : ∀ v ∈ p.ss, OkVs (kf 5) v
  gate : p.gate = -1 ∧ p.quota = 0 ∨ p.gate ≠ -1 ∧ OkVs (kf 6) [p.gate, p.quota]
def putAll (c : PC) (k : Nat) (xs : List (List Int)) : PC := xs.foldl (fun c v => c.put k v) c
theorem run_many (k : Nat) (h1 : 1 ≤ k) (h5 : k ≤ 5) : ∀ (xs : List (List Int)) (rest : List (List UInt8)) (c : PC) (last : Int) (i : Nat), (∀ v ∈ xs, OkVs (kf k) v) → 0 ≤ last → last ≤ k →
    ∃ (last' : Int) (i' : Nat), 0 ≤ last' ∧ last' ≤ k ∧ runL ((xs.map fun v => bodyL (k, v)) ++ rest) c last i = runL rest (putAll c k xs) last' i'
  | [], rest, c, last, i, _, h0, hl => ⟨last, i, h0, hl, rfl⟩
  | v :: xs, rest, c, last, i, hv, h0, hl => by
    obtain ⟨l', i', k1, k2, k3⟩ := run_many k h1 h5 xs rest (c.put k v) k (i + 1) (fun u hu => hv u (by simp [hu])) (by omega) (by omega)
    refine ⟨l', i', k1, k2, ?_⟩
    rw [List.map_cons, List.cons_append, runL, (rec_of (by omega) (hv v (by simp))).1]
    have hf : folL k last = true := by
      unfold folL manyL
      rw [if_neg (by omega)]
      split <;> simp <;> omega
    simp only [hf, if_true]
    exact k3
theorem put1 (xs : List (List Int)) (c : PC) : putAll c 1 xs = { c with gs := c.gs ++ xs } := by
  induction xs generalizing c with
  | nil => simp [putAll]
  | cons v xs ih => show putAll (c.put 1 v) 1 xs = _; rw [ih]; simp [PC.put]
theorem put2 (xs : List (List Int)) (c : PC) : putAll c 2 xs = { c with rs := c.rs ++ xs } := by
  induction xs generalizing c with
  | nil => simp [putAll]
  | cons v xs ih => show putAll (c.put 2 v) 2 xs = _; rw [ih]; simp [PC.put]
theorem put3 (xs : List (List Int)) (c : PC) : putAll c 3 xs = { c with ps := c.ps ++ xs } := by
  induction xs generalizing c with
  | nil => simp [putAll]
  | cons v xs ih => show putAll (c.put 3 v) 3 xs = _; rw [ih]; simp [PC.put]
theorem put4 (xs : List (List Int)) (c : PC) : putAll c 4 xs = { c with ns := c.ns ++ xs } := by
  induction xs generalizing c with
  | nil => simp [putAll]
  | cons v xs ih => show putAll (c.put 4 v) 4 xs = _; rw [ih]; simp [PC.put]
theorem put5 (xs : List (List Int)) (c : PC) : putAll c 5 xs = { c with ss := c.ss ++ xs } := by
  induction xs generalizing c with
  | nil => simp [putAll]
  | cons v xs ih => show putAll (c.put 5 v) 5 xs = _; rw [ih]; simp [PC.put]
/-- what is printed is read as it was -/
theorem text_read {p : PC} (h : OkP p) : readL p.text = .inr p := by
  have hok : ∀ q ∈ p.recs, recL (bodyL q) = some q ∧ 10 ∉ bodyL q := by
    intro q hq
    simp only [PC.recs, List.mem_cons, List.mem_append, List.mem_map] at hq
    rcases hq with rfl | ⟨v, hv, rfl⟩ | ⟨v, hv, rfl⟩ | ⟨v, hv, rfl⟩ | ⟨v, hv, rfl⟩ | ⟨v, hv, rfl⟩ | hq
    · exact rec_of (by omega) h.cats
    · exact rec_of (by omega) (h.gs v hv)
    · exact rec_of (by omega) (h.rs v hv)
    · exact rec_of (by omega) (h.ps v hv)
    · exact rec_of (by omega) (h.ns v hv)
    · exact rec_of (by omega) (h.ss v hv)
    · split at hq
      · cases hq
      · rename_i hg
        simp at hq
        subst hq
        rcases h.gate with ⟨e, _⟩ | ⟨_, e⟩
        · exact absurd e hg
        · exact rec_of (by omega) e
  have hcut : cutL 10 p.text = (p.recs.map bodyL, []) := by
    have := cutL_of 10 (p.recs.map bodyL) [] (fun l hl => by
      obtain ⟨q, hq, rfl⟩ := List.mem_map.1 hl
      exact (hok q hq).2) (by simp)
    rw [List.append_nil, List.map_map] at this
    exact this
  unfold readL
  rw [hcut]
  have hrun : runL (p.recs.map bodyL) pc0 (-1) 0 = .inr p := by
    unfold PC.recs
    simp only [List.map_cons, List.map_append, List.map_map]
    rw [runL, (rec_of (by omega) h.cats).1]
    simp only [show folL 0 (-1) = true from rfl, if_true]
    obtain ⟨l1, i1, a1, b1, e1⟩ := run_many 1 (by omega) (by omega) p.gs (p.rs.map (fun v => bodyL (2, v)) ++ (p.ps.map (fun v => bodyL (3, v)) ++ (p.ns.map (fun v => bodyL (4, v)) ++ (p.ss.map (fun v => bodyL (5, v)) ++ (if p.gate = -1 then [] else [(6, [p.gate, p.quota])] : List (Nat × List Int)).map bodyL)))) (pc0.put 0 [p.cats]) 0 1 h.gs (by omega) (by omega)
    obtain ⟨l2, i2, a2, b2, e2⟩ := run_many 2 (by omega) (by omega) p.rs (p.ps.map (fun v => bodyL (3, v)) ++ (p.ns.map (fun v => bodyL (4, v)) ++ (p.ss.map (fun v => bodyL (5, v)) ++ (if p.gate = -1 then [] else [(6, [p.gate, p.quota])] : List (Nat × List Int)).map bodyL))) (putAll (pc0.put 0 [p.cats]) 1 p.gs) l1 i1 h.rs a1 (by omega)
    obtain ⟨l3, i3, a3, b3, e3⟩ := run_many 3 (by omega) (by omega) p.ps (p.ns.map (fun v => bodyL (4, v)) ++ (p.ss.map (fun v => bodyL (5, v)) ++ (if p.gate = -1 then [] else [(6, [p.gate, p.quota])] : List (Nat × List Int)).map bodyL)) (putAll (putAll (pc0.put 0 [p.cats]) 1 p.gs) 2 p.rs) l2 i2 h.ps a2 (by omega)
    obtain ⟨l4, i4, a4, b4, e4⟩ := run_many 4 (by omega) (by omega) p.ns (p.ss.map (fun v => bodyL (5, v)) ++ (if p.gate = -1 then [] else [(6, [p.gate, p.quota])] : List (Nat × List Int)).map bodyL) (putAll (putAll (putAll (pc0.put 0 [p.cats]) 1 p.gs) 2 p.rs) 3 p.ps) l3 i3 h.ns a3 (by omega)
    obtain ⟨l5, i5, a5, b5, e5⟩ := run_many 5 (by omega) (by omega) p.ss ((if p.gate = -1 then [] else [(6, [p.gate, p.quota])] : List (Nat × List Int)).map bodyL) (putAll (putAll (putAll (putAll (pc0.put 0 [p.cats]) 1 p.gs) 2 p.rs) 3 p.ps) 4 p.ns) l4 i4 h.ss a4 (by omega)
    have ee := ((((e1.trans e2).trans e3).trans e4).trans e5)
    refine Eq.trans ee ?_
    rw [put1, put2, put3, put4, put5]
    rcases h.gate with ⟨g1, g2⟩ | ⟨g1, g2⟩
    · rw [if_pos g1]
      simp only [List.map_nil, runL, pc0, PC.put, List.nil_append]
      congr 1
      cases p
      simp_all
    · rw [if_neg g1]
      simp only [List.map_cons, List.map_nil, runL, (rec_of (by omega) g2).1]
      have hf : folL 6 l5 = true := by
        unfold folL manyL
        rw [if_neg (by omega), if_neg (by omega)]
        simp; omega
      rw [if_pos hf]
      congr 1
  rw [hrun]
  simp [PC.recs]
end Go.Proofs.YtikkfapgmbamlaaGreatDoor.Pl
end
