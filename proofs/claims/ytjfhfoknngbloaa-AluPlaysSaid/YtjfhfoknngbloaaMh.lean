/- The document's plain answers for alu: signed, bit, sar, Do, Taken, Plain, Upper. -/
import Derived.Test.YtjfhfoknngbloaaMf
namespace Go.Proofs.Ytjfhfoknngbloaa.Al
open Go.RowKit Ut
set_option linter.unusedVariables false
set_option maxRecDepth 100000
set_option maxHeartbeats 4000000

theorem refSigned_any (a b : Nat) (w : World) :
    Calls Try.prog 20 #[.int .u32 a, .int .u32 b] w fun e w' => e = .returned (.bool (sltN a b)) ∧ w = w' := by
  have H : Hid (decide (((a : Int) + 2147483648) % 4294967296 < ((b : Int) + 2147483648) % 4294967296) = sltN a b) := Lib.hid (by unfold sltN; rw [decide_eq_decide]; omega)
  go_enter Try.func20, Try.ntmps20
  go_wp2
  go_ret
  exact ⟨by rw [H.out]; rfl, rfl⟩
theorem refBit_any (t : Bool) (w : World) :
    Calls Try.prog 19 #[.bool t] w fun e w' => e = .returned (.int .u32 (one1 t : Nat)) ∧ w = w' := by
  cases t
  all_goals
    go_enter Try.func19, Try.ntmps19
    go_wp2
    go_ret
    exact ⟨rfl, rfl⟩
theorem ones_up (j : Nat) (hj : j ≤ 32) : 4294967295 * 2 ^ j % 4294967296 = (2 ^ (32 - j) - 1) * 2 ^ j := by
  have hp : 2 ^ j * 2 ^ (32 - j) = 4294967296 := by rw [← Nat.pow_add, show j + (32 - j) = 32 by omega]
  have h0 : 0 < 2 ^ j := Nat.two_pow_pos j
  have h1 : 0 < 2 ^ (32 - j) := Nat.two_pow_pos _
  rw [Nat.sub_mul, Nat.mul_comm (2 ^ (32 - j)), hp, Nat.one_mul]
  have h2 : 2 ^ j ≤ 4294967296 := by rw [← hp]; exact Nat.le_mul_of_pos_right _ h1
  generalize 2 ^ j = q at h0 h2
  rw [show 4294967295 * q = (4294967296 - q) + 4294967296 * (q - 1) by omega, Nat.add_mul_mod_self_left]
  exact Nat.mod_eq_of_lt (by omega)
theorem div_neg (a p q : Nat) (hp : 0 < p) (h : a < p * q) : (p * q - 1 - a) / p = q - 1 - a / p := by
  have h1 := Nat.div_add_mod a p
  have h2 := Nat.mod_lt a hp
  have h3 : a / p < q := Nat.div_lt_of_lt_mul h
  generalize a / p = x at h1 h3 ⊢
  generalize a % p = r at h1 h2
  have e : p * q - 1 - a = (p - 1 - r) + p * (q - 1 - x) := by
    obtain ⟨d, rfl⟩ : ∃ d, q = x + 1 + d := ⟨q - 1 - x, by omega⟩
    rw [show x + 1 + d - 1 - x = d by omega, ← h1, Nat.mul_add, Nat.mul_add]
    omega
  rw [e, Nat.add_mul_div_left _ _ hp, Nat.div_eq_of_lt (by omega)]
  omega
theorem sar_or (a k : Nat) (h : 2147483648 ≤ a) (ha : a < 4294967296) (hk : k < 32) : a / 2 ^ k ||| 4294967295 * 2 ^ (32 - k) % 4294967296 = sarN a k := by
  have hp : 2 ^ k * 2 ^ (32 - k) = 4294967296 := by rw [← Nat.pow_add, show k + (32 - k) = 32 by omega]
  have hx : a / 2 ^ k < 2 ^ (32 - k) := Nat.div_lt_of_lt_mul (by rw [hp]; exact ha)
  rw [ones_up (32 - k) (by omega), show 32 - (32 - k) = k by omega, Nat.or_comm, ← Nat.shiftLeft_eq, ← Nat.shiftLeft_add_eq_or_of_lt hx, Nat.shiftLeft_eq]
  unfold sarN
  rw [if_neg (by omega)]
  have h2 := div_neg a (2 ^ k) (2 ^ (32 - k)) (Nat.two_pow_pos k) (by rw [hp]; exact ha)
  rw [hp] at h2
  rw [show 4294967295 - a = 4294967296 - 1 - a by omega, h2, Nat.sub_mul, hp, Nat.one_mul]
  have h3 : 2 ^ (32 - k) ≤ 4294967296 := by rw [← hp]; exact Nat.le_mul_of_pos_left _ (Nat.two_pow_pos k)
  clear h2 hp
  generalize 2 ^ (32 - k) = q at hx h3 ⊢
  generalize a / 2 ^ k = x at hx ⊢
  omega
theorem sar_zero (a : Nat) (ha : a < 4294967296) : sarN a 0 = a := by
  unfold sarN
  rw [Nat.pow_zero, Nat.div_one, Nat.div_one]
  split <;> omega
theorem sar_told2 (a k : Nat) (h : 2147483648 ≤ a) (ha : a < 4294967296) (hk : k < 32) :
    bits BinOp.or IntKind.u32 ((a : Int) / 2 ^ k) (4294967295 * 2 ^ (32 - k) % 4294967296) = (sarN a k : Nat) := by
  have h1 : a / 2 ^ k < 4294967296 := Nat.lt_of_le_of_lt (Nat.div_le_self _ _) ha
  have e1 : ((a : Int) / 2 ^ k) = ((a / 2 ^ k : Nat) : Int) := by simp
  have e2 : ((4294967295 : Int) * 2 ^ (32 - k) % 4294967296) = ((4294967295 * 2 ^ (32 - k) % 4294967296 : Nat) : Int) := by simp
  rw [e1, e2, u32_or_nat _ _ h1 (Nat.mod_lt _ (by decide)), sar_or a k h ha hk]

theorem refSar_any (a k : Nat) (ha : a < 4294967296) (hk : k < 32) (w : World) :
    Calls Try.prog 18 #[.int .u32 a, .int .u32 k] w fun e w' => e = .returned (.int .u32 (sarN a k : Nat)) ∧ w = w' := by
  by_cases h : 2147483648 ≤ a
  · by_cases h0 : k = 0
    · subst h0
      go_enter Try.func18, Try.ntmps18
      go_wp2
      go_ret
      exact ⟨by rw [sar_zero a ha]; rfl, rfl⟩
    · have H := Lib.hid (sar_told2 a k h ha hk)
      go_enter Try.func18, Try.ntmps18
      go_wp2
      go_ret
      exact ⟨by rw [H.out]; rfl, rfl⟩
  · have H : Hid (sarN a k = a / 2 ^ k) := Lib.hid (if_pos (by omega))
    go_enter Try.func18, Try.ntmps18
    go_wp2
    go_ret
    exact ⟨by rw [H.out]; rfl, rfl⟩

theorem refDo_none (i : Int) (a b : Nat) (h : ¬ (1 ≤ i ∧ i ≤ 13)) (w : World) :
    Calls Try.prog 8 #[.int .i64 i, .int .u32 a, .int .u32 b] w fun e w' => e = .returned (.tuple #[.int .u32 0, .int .i64 1]) ∧ w = w' := by
  have h1 : (i == 1) = false := by rw [beq_eq_false_iff_ne]; omega
  have h2 : (i == 2) = false := by rw [beq_eq_false_iff_ne]; omega
  have h3 : (i == 3) = false := by rw [beq_eq_false_iff_ne]; omega
  have h4 : (i == 4) = false := by rw [beq_eq_false_iff_ne]; omega
  have h5 : (i == 5) = false := by rw [beq_eq_false_iff_ne]; omega
  have h6 : (i == 6) = false := by rw [beq_eq_false_iff_ne]; omega
  have h7 : (i == 7) = false := by rw [beq_eq_false_iff_ne]; omega
  have h8 : (i == 8) = false := by rw [beq_eq_false_iff_ne]; omega
  have h9 : (i == 9) = false := by rw [beq_eq_false_iff_ne]; omega
  have h10 : (i == 10) = false := by rw [beq_eq_false_iff_ne]; omega
  have h11 : (i == 11) = false := by rw [beq_eq_false_iff_ne]; omega
  have h12 : (i == 12) = false := by rw [beq_eq_false_iff_ne]; omega
  have h13 : (i == 13) = false := by rw [beq_eq_false_iff_ne]; omega
  clear h
  go_enter Try.func8, Try.ntmps8
  go_wp2
  go_ret2
  exact ⟨rfl, rfl⟩
theorem refDo_some (i : Int) (a b : Nat) (h : 1 ≤ i ∧ i ≤ 13) (ha : a < 4294967296) (hb : b < 4294967296) (w : World) :
    Calls Try.prog 8 #[.int .i64 i, .int .u32 a, .int .u32 b] w fun e w' => e = .returned (.tuple #[.int .u32 (reckN i a b : Nat), .int .i64 0]) ∧ w = w' := by
  rcases (show i = 1 ∨ i = 2 ∨ i = 3 ∨ i = 4 ∨ i = 5 ∨ i = 6 ∨ i = 7 ∨ i = 8 ∨ i = 9 ∨ i = 10 ∨ i = 11 ∨ i = 12 ∨ i = 13 by omega) with rfl | rfl | rfl | rfl | rfl | rfl | rfl | rfl | rfl | rfl | rfl | rfl | rfl
  all_goals unfold reckN; simp only [Int.reduceEq, if_true, if_false]
  · go_enter Try.func8, Try.ntmps8
    go_wp2
    go_ret2
    exact ⟨rfl, rfl⟩
  · have H : Hid (((a : Int) - b) % 4294967296 = ((a + (4294967296 - b)) % 4294967296 : Nat)) := Lib.hid (by omega)
    go_enter Try.func8, Try.ntmps8
    go_wp2
    go_ret2
    exact ⟨by rw [H.out]; rfl, rfl⟩
  · have H := Lib.hid (u32_and_nat a b ha hb)
    go_enter Try.func8, Try.ntmps8
    go_wp2
    go_ret2
    exact ⟨by rw [H.out]; rfl, rfl⟩
  · have H := Lib.hid (u32_or_nat a b ha hb)
    go_enter Try.func8, Try.ntmps8
    go_wp2
    go_ret2
    exact ⟨by rw [H.out]; rfl, rfl⟩
  · have H := Lib.hid (u32_xor_nat a b ha hb)
    go_enter Try.func8, Try.ntmps8
    go_wp2
    go_ret2
    exact ⟨by rw [H.out]; rfl, rfl⟩
  · obtain ⟨k, hk⟩ : ∃ k, b % 32 = k := ⟨_, rfl⟩
    have hk2 : (b : Int) % 32 = k := by omega
    have hk32 : k < 32 := by omega
    rw [hk]
    clear hk
    go_enter Try.func8, Try.ntmps8
    go_wp2
    go_ret2
    exact ⟨rfl, rfl⟩
  · obtain ⟨k, hk⟩ : ∃ k, b % 32 = k := ⟨_, rfl⟩
    have hk2 : (b : Int) % 32 = k := by omega
    have hk32 : k < 32 := by omega
    rw [hk]
    clear hk
    go_enter Try.func8, Try.ntmps8
    go_wp2
    go_ret2
    exact ⟨rfl, rfl⟩
  · obtain ⟨k, hk⟩ : ∃ k, b % 32 = k := ⟨_, rfl⟩
    have hk2 : (b : Int) % 32 = k := by omega
    have hk32 : k < 32 := by omega
    rw [hk]
    clear hk
    go_enter Try.func8, Try.ntmps8
    go_wp2_with fail
    refine (refSar_any a k ha hk32 _).mono ?_
    rintro e w1 ⟨rfl, rfl⟩
    go_wp2
    go_ret2
    exact ⟨rfl, rfl⟩
  · go_enter Try.func8, Try.ntmps8
    go_wp2_with fail
    refine (refSigned_any a b _).mono ?_
    rintro e w1 ⟨rfl, rfl⟩
    go_wp2_with fail
    refine (refBit_any _ _).mono ?_
    rintro e w2 ⟨rfl, rfl⟩
    go_wp2
    go_ret2
    exact ⟨rfl, rfl⟩
  · go_enter Try.func8, Try.ntmps8
    go_wp2_with fail
    refine (refBit_any _ _).mono ?_
    rintro e w2 ⟨rfl, rfl⟩
    go_wp2
    go_ret2
    exact ⟨rfl, rfl⟩
  · go_enter Try.func8, Try.ntmps8
    go_wp2
    go_ret2
    exact ⟨rfl, rfl⟩
  · by_cases h0 : b = 0
    · subst h0
      go_enter Try.func8, Try.ntmps8
      go_wp2
      go_ret2
      exact ⟨rfl, rfl⟩
    · rw [if_neg h0]
      have H : Hid ((a : Int) / b % 4294967296 = (a / b : Nat)) := Lib.hid (by
        have h1 : a / b ≤ a := Nat.div_le_self _ _
        rw [show (a : Int) / b = ((a / b : Nat) : Int) by simp]
        generalize a / b = x at h1
        omega)
      go_enter Try.func8, Try.ntmps8
      go_wp2
      go_ret2
      exact ⟨by rw [H.out]; rfl, rfl⟩
  · by_cases h0 : b = 0
    · subst h0
      go_enter Try.func8, Try.ntmps8
      go_wp2
      go_ret2
      exact ⟨by simp, rfl⟩
    · go_enter Try.func8, Try.ntmps8
      go_wp2
      go_ret2
      exact ⟨rfl, rfl⟩
theorem refDo_any (i : Int) (a b : Nat) (ha : a < 4294967296) (hb : b < 4294967296) (w : World) :
    Calls Try.prog 8 #[.int .i64 i, .int .u32 a, .int .u32 b] w fun e w' => e = .returned (.tuple #[.int .u32 (reckN i a b : Nat), .int .i64 (reckE i)]) ∧ w = w' := by
  by_cases h : 1 ≤ i ∧ i ≤ 13
  · rw [show reckE i = 0 from if_pos h]
    exact refDo_some i a b h ha hb w
  · rw [show reckE i = 1 from if_neg h, reck_none i a b h]
    exact refDo_none i a b h w

theorem refTaken_some (i : Int) (a b : Nat) (h : 28 ≤ i ∧ i ≤ 31) (w : World) :
    Calls Try.prog 10 #[.int .i64 i, .int .u32 a, .int .u32 b] w fun e w' => e = .returned (.tuple #[.bool (takeN i a b), .int .i64 0]) ∧ w = w' := by
  rcases (show i = 28 ∨ i = 29 ∨ i = 30 ∨ i = 31 by omega) with rfl | rfl | rfl | rfl
  all_goals unfold takeN; simp only [Int.reduceEq, if_true, if_false]
  · have H : Hid (decide (a = b) = ((a : Int) == b)) := Lib.hid (by rw [Bool.eq_iff_iff]; simp; omega)
    go_enter Try.func10, Try.ntmps10
    go_wp2
    go_ret2
    exact ⟨by rw [H.out]; rfl, rfl⟩
  · have H : Hid (decide (a = b) = ((a : Int) == b)) := Lib.hid (by rw [Bool.eq_iff_iff]; simp; omega)
    go_enter Try.func10, Try.ntmps10
    go_wp2
    go_ret2
    exact ⟨by rw [H.out]; rfl, rfl⟩
  · go_enter Try.func10, Try.ntmps10
    go_wp2_with fail
    refine (refSigned_any a b _).mono ?_
    rintro e w1 ⟨rfl, rfl⟩
    go_wp2
    go_ret2
    exact ⟨rfl, rfl⟩
  · go_enter Try.func10, Try.ntmps10
    go_wp2
    go_ret2
    exact ⟨rfl, rfl⟩
theorem refTaken_none (i : Int) (a b : Nat) (h : ¬ (28 ≤ i ∧ i ≤ 31)) (w : World) :
    Calls Try.prog 10 #[.int .i64 i, .int .u32 a, .int .u32 b] w fun e w' => e = .returned (.tuple #[.bool false, .int .i64 1]) ∧ w = w' := by
  have h28 : (i == 28) = false := by rw [beq_eq_false_iff_ne]; omega
  have h29 : (i == 29) = false := by rw [beq_eq_false_iff_ne]; omega
  have h30 : (i == 30) = false := by rw [beq_eq_false_iff_ne]; omega
  have h31 : (i == 31) = false := by rw [beq_eq_false_iff_ne]; omega
  clear h
  go_enter Try.func10, Try.ntmps10
  go_wp2
  go_ret2
  exact ⟨rfl, rfl⟩
theorem refTaken_any (i : Int) (a b : Nat) (w : World) :
    Calls Try.prog 10 #[.int .i64 i, .int .u32 a, .int .u32 b] w fun e w' => e = .returned (.tuple #[.bool (takeN i a b), .int .i64 (takeE i)]) ∧ w = w' := by
  by_cases h : 28 ≤ i ∧ i ≤ 31
  · rw [show takeE i = 0 from if_pos h]
    exact refTaken_some i a b h w
  · rw [show takeE i = 1 from if_neg h, take_none i a b h]
    exact refTaken_none i a b h w
theorem refPlain_none (i : Int) (h : ¬ (14 ≤ i ∧ i ≤ 21)) (w : World) :
    Calls Try.prog 12 #[.int .i64 i] w fun e w' => e = .returned (.tuple #[.int .i64 0, .bool false]) ∧ w = w' := by
  have h14 : (i == 14) = false := by rw [beq_eq_false_iff_ne]; omega
  have h15 : (i == 15) = false := by rw [beq_eq_false_iff_ne]; omega
  have h16 : (i == 16) = false := by rw [beq_eq_false_iff_ne]; omega
  have h17 : (i == 17) = false := by rw [beq_eq_false_iff_ne]; omega
  have h18 : (i == 18) = false := by rw [beq_eq_false_iff_ne]; omega
  have h19 : (i == 19) = false := by rw [beq_eq_false_iff_ne]; omega
  have h20 : (i == 20) = false := by rw [beq_eq_false_iff_ne]; omega
  have h21 : (i == 21) = false := by rw [beq_eq_false_iff_ne]; omega
  clear h
  go_enter Try.func12, Try.ntmps12
  go_wp2
  go_ret2
  exact ⟨rfl, rfl⟩
theorem refPlain_some (i : Int) (h : 14 ≤ i ∧ i ≤ 21) (w : World) :
    Calls Try.prog 12 #[.int .i64 i] w fun e w' => e = .returned (.tuple #[.int .i64 (plainN i), .bool true]) ∧ w = w' := by
  rcases (show i = 14 ∨ i = 15 ∨ i = 16 ∨ i = 17 ∨ i = 18 ∨ i = 19 ∨ i = 20 ∨ i = 21 by omega) with rfl | rfl | rfl | rfl | rfl | rfl | rfl | rfl
  all_goals
    go_enter Try.func12, Try.ntmps12
    go_wp2
    go_ret2
    exact ⟨rfl, rfl⟩
theorem refPlain_any (i : Int) (w : World) :
    Calls Try.prog 12 #[.int .i64 i] w fun e w' => e = .returned (.tuple #[.int .i64 (plainN i), .bool (plainN i != 0)]) ∧ w = w' := by
  by_cases h : 14 ≤ i ∧ i ≤ 21
  · have e : (plainN i != 0) = true := by
      rw [bne_iff_ne]; unfold plainN; split
      · decide
      · rw [if_pos (by omega)]; omega
    rw [e]
    exact refPlain_some i h w
  · have e : plainN i = 0 := by unfold plainN; rw [if_neg (by omega), if_neg (by omega)]
    rw [e]
    exact refPlain_none i h w
theorem refUpper_any (i : Int) (w : World) :
    Calls Try.prog 14 #[.int .i64 i] w fun e w' => e = .returned (.int .u32 (i % 4294967296 * 262144 % 4294967296)) ∧ w = w' := by
  go_enter Try.func14, Try.ntmps14
  go_wp2
  go_ret
  exact ⟨rfl, rfl⟩
end Go.Proofs.Ytjfhfoknngbloaa.Al
