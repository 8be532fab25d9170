/- Plain facts on labels as numbers below 256: what 'together' gives, in bits; no walk. -/
import Derived.Test.YtmekoanobicddaaLa
namespace Go.Proofs.Ytmekoanobicddaa.La
open Go.RowKit

theorem wraps_i64 (n : Int) (h₀ : 0 ≤ n) (h₁ : n < 2 ^ 8) : IntKind.i64.wrap n = n := by rw [IntKind.wrap_i64]; omega

theorem bits_and_l (n m : Nat) (hn : n < 256) (hm : m < 256) : bits .and .i64 n m = ((n &&& m : Nat) : Int) := (bits_nat .i64 8 (by decide) wraps_i64 n m hn hm).1
theorem bits_or_l (n m : Nat) (hn : n < 256) (hm : m < 256) : bits .or .i64 n m = ((n ||| m : Nat) : Int) := (bits_nat .i64 8 (by decide) wraps_i64 n m hn hm).2

/-- what is in n alone -/
def andN (n m : Nat) : Nat := n ^^^ (n &&& m)
theorem tb_andN (n m i : Nat) : (andN n m).testBit i = (n.testBit i && !m.testBit i) := by
  unfold andN
  rw [Nat.testBit_xor, Nat.testBit_and]
  cases n.testBit i <;> cases m.testBit i <;> rfl
theorem andN_lt (n m : Nat) (hn : n < 256) (hm : m < 256) : andN n m < 256 := Nat.xor_lt_two_pow (n := 8) hn (Nat.and_lt_two_pow (n := 8) _ hm)

theorem bits_andNot_l (n m : Nat) (hn : n < 256) (hm : m < 256) : bits .andNot .i64 n m = ((andN n m : Nat) : Int) := by
  have e : (BitVec.ofInt 64 (n : Int) &&& ~~~ (BitVec.ofInt 64 (m : Int))).toNat = andN n m := by
    rw [BitVec.ofInt_natCast, BitVec.ofInt_natCast]
    apply Nat.eq_of_testBit_eq
    intro i
    rw [tb_andN, BitVec.testBit_toNat, BitVec.getLsbD_and, BitVec.getLsbD_not, BitVec.getLsbD_ofNat, BitVec.getLsbD_ofNat]
    by_cases h : i < 64
    · simp [h]
    · have h1 : n.testBit i = false := Nat.testBit_lt_two_pow (Nat.lt_of_lt_of_le hn (show 2 ^ 8 ≤ 2 ^ i from Nat.pow_le_pow_right (by decide) (by omega)))
      simp [h, h1]
  show IntKind.i64.wrap ((BitVec.ofInt 64 (n : Int) &&& ~~~ (BitVec.ofInt 64 (m : Int))).toNat : Int) = _
  rw [e]
  have := andN_lt n m hn hm
  exact wraps_i64 _ (by omega) (by omega)

theorem isL_nat (n : Nat) (h : n < 256) : isL n = true := by unfold isL; simp; omega
theorem isL_ex (a : Int) (h : isL a = true) : ∃ n : Nat, n < 256 ∧ a = n := by
  unfold isL at h
  simp at h
  exact ⟨a.toNat, by omega, by omega⟩

def minusZ (a b : Int) : Int := orNo (togP .andNot a [b])
def flowsZ (a b : Int) : Bool := minusZ a b == 0
def joinZ (l : List Int) : Int := orNo (togP .or 0 l)
def meetZ (l : List Int) : Int := orNo (togP .and 255 l)

theorem tog_step (op : BinOp) (x s : Int) (r : List Int) (h : isL s = true) : tog op x (s :: r) = tog op (bits op .i64 x s) r := by rw [tog, h]; rfl
theorem tog_stop (op : BinOp) (x s : Int) (r : List Int) (h : isL s = false) : tog op x (s :: r) = none := by rw [tog, h]; rfl
theorem togP_yes (op : BinOp) (first : Int) (l : List Int) (v : Int) (h0 : isL first = true) (h : tog op first l = some v) : togP op first l = (v, true) := by
  unfold togP; rw [h, h0]; rfl
theorem togP_no (op : BinOp) (first : Int) (l : List Int) (h : tog op first l = none) : togP op first l = (0, false) := by
  unfold togP; rw [h]; cases isL first <;> rfl

theorem minusZ_nat (n m : Nat) (hn : n < 256) (hm : m < 256) : minusZ n m = (andN n m : Nat) := by
  unfold minusZ
  rw [togP_yes _ _ _ _ (isL_nat n hn) (tog_step _ _ _ _ (isL_nat m hm)), bits_andNot_l n m hn hm]
  rfl
theorem minusZ_left (a b : Int) (h : isL a = false) : minusZ a b = -1 := by
  unfold minusZ togP; rw [h]; rfl
theorem minusZ_right (a b : Int) (h : isL b = false) : minusZ a b = -1 := by
  unfold minusZ
  rw [togP_no _ _ _ (tog_stop _ _ _ _ h)]; rfl
theorem flowsZ_left (a b : Int) (h : isL a = false) : flowsZ a b = false := by unfold flowsZ; rw [minusZ_left a b h]; rfl
theorem flowsZ_right (a b : Int) (h : isL b = false) : flowsZ a b = false := by unfold flowsZ; rw [minusZ_right a b h]; rfl

theorem flowsZ_nat (n m : Nat) (hn : n < 256) (hm : m < 256) : flowsZ n m = true ↔ ∀ i, n.testBit i = true → m.testBit i = true := by
  unfold flowsZ
  rw [minusZ_nat n m hn hm]
  have e : (((andN n m : Nat) : Int) == 0) = true ↔ andN n m = 0 := by
    rw [beq_iff_eq]; omega
  rw [e]
  constructor
  · intro h i hi
    have := tb_andN n m i
    rw [h, Nat.zero_testBit, hi] at this
    simpa using this.symm
  · intro h
    apply Nat.eq_of_testBit_eq
    intro i
    rw [tb_andN, Nat.zero_testBit]
    cases hi : n.testBit i
    · rfl
    · rw [h i hi]; rfl

theorem flowsZ_self (n : Nat) (hn : n < 256) : flowsZ n n = true := (flowsZ_nat n n hn hn).2 fun _ h => h
theorem flowsZ_anti (n m : Nat) (hn : n < 256) (hm : m < 256) (h1 : flowsZ n m = true) (h2 : flowsZ m n = true) : n = m := by
  rw [flowsZ_nat n m hn hm] at h1
  rw [flowsZ_nat m n hm hn] at h2
  apply Nat.eq_of_testBit_eq
  intro i
  cases h : n.testBit i
  · cases k : m.testBit i
    · rfl
    · rw [h2 i k] at h; cases h
  · exact (h1 i h).symm
theorem flowsZ_trans (n m p : Nat) (hn : n < 256) (hm : m < 256) (hp : p < 256) (h1 : flowsZ n m = true) (h2 : flowsZ m p = true) : flowsZ n p = true := by
  rw [flowsZ_nat n m hn hm] at h1
  rw [flowsZ_nat m p hm hp] at h2
  exact (flowsZ_nat n p hn hp).2 fun i h => h2 i (h1 i h)

theorem bits_or_zero (n : Nat) (hn : n < 256) : bits .or .i64 0 n = n := by have := bits_or_l 0 n (by omega) hn; simpa using this
theorem and_255 (n : Nat) (hn : n < 256) : 255 &&& n = n := by
  rw [Nat.and_comm]
  have := Nat.and_two_pow_sub_one_eq_mod n 8
  simp at this
  rw [this]; omega
theorem bits_and_255 (n : Nat) (hn : n < 256) : bits .and .i64 255 n = n := by
  have := bits_and_l 255 n (by omega) hn
  rw [and_255 n hn] at this
  simpa using this
theorem joinZ_two (n m : Nat) (hn : n < 256) (hm : m < 256) : joinZ [(n : Int), (m : Int)] = ((n ||| m : Nat) : Int) := by
  unfold joinZ
  rw [togP_yes .or 0 [(n : Int), (m : Int)] ((n ||| m : Nat) : Int) rfl (by rw [tog_step _ _ _ _ (isL_nat n hn), tog_step _ _ _ _ (isL_nat m hm), bits_or_zero n hn, bits_or_l n m hn hm]; rfl)]
  rfl
theorem meetZ_two (n m : Nat) (hn : n < 256) (hm : m < 256) : meetZ [(n : Int), (m : Int)] = ((n &&& m : Nat) : Int) := by
  unfold meetZ
  rw [togP_yes .and 255 [(n : Int), (m : Int)] ((n &&& m : Nat) : Int) rfl (by rw [tog_step _ _ _ _ (isL_nat n hn), tog_step _ _ _ _ (isL_nat m hm), bits_and_255 n hn, bits_and_l n m hn hm]; rfl)]
  rfl

theorem or_lt (n m : Nat) (hn : n < 256) (hm : m < 256) : n ||| m < 256 := Nat.or_lt_two_pow (n := 8) hn hm
theorem and_lt (n m : Nat) (hm : m < 256) : n &&& m < 256 := Nat.and_lt_two_pow (n := 8) _ hm

theorem flows_up (n m : Nat) (hn : n < 256) (hm : m < 256) : flowsZ n (n ||| m : Nat) = true :=
  (flowsZ_nat n _ hn (or_lt n m hn hm)).2 fun i h => by rw [Nat.testBit_or, h]; rfl
theorem flows_up' (n m : Nat) (hn : n < 256) (hm : m < 256) : flowsZ m (n ||| m : Nat) = true :=
  (flowsZ_nat m _ hm (or_lt n m hn hm)).2 fun i h => by rw [Nat.testBit_or, h]; simp
theorem flows_down (n m : Nat) (hn : n < 256) (hm : m < 256) : flowsZ (n &&& m : Nat) n = true :=
  (flowsZ_nat _ n (and_lt n m hm) hn).2 fun i h => by rw [Nat.testBit_and] at h; simp at h; exact h.1
theorem flows_down' (n m : Nat) (hm : m < 256) : flowsZ (n &&& m : Nat) m = true :=
  (flowsZ_nat _ m (and_lt n m hm) hm).2 fun i h => by rw [Nat.testBit_and] at h; simp at h; exact h.2
theorem flows_least (n m p : Nat) (hn : n < 256) (hm : m < 256) (hp : p < 256) : flowsZ (n ||| m : Nat) p = (flowsZ n p && flowsZ m p) := by
  rw [Bool.eq_iff_iff, Bool.and_eq_true, flowsZ_nat _ p (or_lt n m hn hm) hp, flowsZ_nat n p hn hp, flowsZ_nat m p hm hp]
  constructor
  · intro h; exact ⟨fun i k => h i (by rw [Nat.testBit_or, k]; rfl), fun i k => h i (by rw [Nat.testBit_or, k]; simp)⟩
  · rintro ⟨h1, h2⟩ i k
    rw [Nat.testBit_or, Bool.or_eq_true] at k
    exact k.elim (h1 i) (h2 i)
theorem flows_greatest (n m p : Nat) (hn : n < 256) (hm : m < 256) (hp : p < 256) : flowsZ p (n &&& m : Nat) = (flowsZ p n && flowsZ p m) := by
  rw [Bool.eq_iff_iff, Bool.and_eq_true, flowsZ_nat p _ hp (and_lt n m hm), flowsZ_nat p n hp hn, flowsZ_nat p m hp hm]
  constructor
  · intro h
    have h' : ∀ i, p.testBit i = true → n.testBit i = true ∧ m.testBit i = true := fun i k => by have := h i k; rw [Nat.testBit_and, Bool.and_eq_true] at this; exact this
    exact ⟨fun i k => (h' i k).1, fun i k => (h' i k).2⟩
  · rintro ⟨h1, h2⟩ i k
    rw [Nat.testBit_and, h1 i k, h2 i k]; rfl
theorem minus_or (n m : Nat) : andN n m ||| (n &&& m) = n := by
  apply Nat.eq_of_testBit_eq
  intro i
  rw [Nat.testBit_or, tb_andN, Nat.testBit_and]
  cases n.testBit i <;> cases m.testBit i <;> rfl

/-- how many categories -/
def pop (n : Nat) : Nat := (n.testBit 0).toNat + (n.testBit 1).toNat + (n.testBit 2).toNat + (n.testBit 3).toNat + (n.testBit 4).toNat + (n.testBit 5).toNat + (n.testBit 6).toNat + (n.testBit 7).toNat
theorem tb_sum (n m i : Nat) : ((n ||| m).testBit i).toNat + ((n &&& m).testBit i).toNat = (n.testBit i).toNat + (m.testBit i).toNat := by
  rw [Nat.testBit_or, Nat.testBit_and]
  cases n.testBit i <;> cases m.testBit i <;> rfl
theorem pop_sum (n m : Nat) : pop (n ||| m) + pop (n &&& m) = pop n + pop m := by
  unfold pop
  have h0 := tb_sum n m 0
  have h1 := tb_sum n m 1
  have h2 := tb_sum n m 2
  have h3 := tb_sum n m 3
  have h4 := tb_sum n m 4
  have h5 := tb_sum n m 5
  have h6 := tb_sum n m 6
  have h7 := tb_sum n m 7
  omega
theorem pop_le (n : Nat) : pop n ≤ 8 := by
  unfold pop
  have h : ∀ b : Bool, b.toNat ≤ 1 := by decide
  have h0 := h (n.testBit 0)
  have h1 := h (n.testBit 1)
  have h2 := h (n.testBit 2)
  have h3 := h (n.testBit 3)
  have h4 := h (n.testBit 4)
  have h5 := h (n.testBit 5)
  have h6 := h (n.testBit 6)
  have h7 := h (n.testBit 7)
  omega
end Go.Proofs.Ytmekoanobicddaa.La
