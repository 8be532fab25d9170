/- The document's plain answers for alu: signed, bit, sar, Do, Taken, Plain, Upper. -/
import Derived.Test.YtniaclhmfmkikaaDoorMf
namespace Go.Proofs.YtniaclhmfmkikaaDoor.Al
open Go.RowKit Ut
set_option linter.unusedVariables false
set_option maxRecDepth 100000
set_option maxHeartbeats 4000000

theorem ones_up (j : Nat) (hj : j ≤ 32) : 4294967295 * 2 ^ j % 4294967296 = (2 ^ (32 - j) - 1) * 2 ^ j := by
  have hp : 2 ^ j * 2 ^ (32 - j) = 4294967296 := by rw [← Nat.pow_add, show j + (32 - j) = 32 by omega]
  have h0 : 0 < 2 ^ j := Nat.two_pow_pos j
  have h1 : 0 < 2 ^ (32 - j) := Nat.two_pow_pos _
  rw [Nat.sub_mul, Nat.mul_comm (2 ^ (32 - j)), hp, Nat.one_mul]
  have h2 : 2 ^ j ≤ 4294967296 := by rw [← hp]; exact Nat.le_mul_of_pos_right _ h1
  generalize 2 ^ j = q at h0 h2
  rw [show 4294967295 * q = (4294967296 - q) + 4294967296 * (q - 1) by omega, Nat.add_mul_mod_self_left]
  exact Nat.mod_eq_of_lt (by omega)
theorem div_neg (a p q : Nat) (hp : 0 < p) (h : a < p * q) : (p * q - 1 - a) / p = q - 1 - a / p := by
  have h1 := Nat.div_add_mod a p
  have h2 := Nat.mod_lt a hp
  have h3 : a / p < q := Nat.div_lt_of_lt_mul h
  generalize a / p = x at h1 h3 ⊢
  generalize a % p = r at h1 h2
  have e : p * q - 1 - a = (p - 1 - r) + p * (q - 1 - x) := by
    obtain ⟨d, rfl⟩ : ∃ d, q = x + 1 + d := ⟨q - 1 - x, by omega⟩
    rw [show x + 1 + d - 1 - x = d by omega, ← h1, Nat.mul_add, Nat.mul_add]
    omega
  rw [e, Nat.add_mul_div_left _ _ hp, Nat.div_eq_of_lt (by omega)]
  omega
theorem sar_or (a k : Nat) (h : 2147483648 ≤ a) (ha : a < 4294967296) (hk : k < 32) : a / 2 ^ k ||| 4294967295 * 2 ^ (32 - k) % 4294967296 = sarN a k := by
  have hp : 2 ^ k * 2 ^ (32 - k) = 4294967296 := by rw [← Nat.pow_add, show k + (32 - k) = 32 by omega]
  have hx : a / 2 ^ k < 2 ^ (32 - k) := Nat.div_lt_of_lt_mul (by rw [hp]; exact ha)
  rw [ones_up (32 - k) (by omega), show 32 - (32 - k) = k by omega, Nat.or_comm, ← Nat.shiftLeft_eq, ← Nat.shiftLeft_add_eq_or_of_lt hx, Nat.shiftLeft_eq]
  unfold sarN
  rw [if_neg (by omega)]
  have h2 := div_neg a (2 ^ k) (2 ^ (32 - k)) (Nat.two_pow_pos k) (by rw [hp]; exact ha)
  rw [hp] at h2
  rw [show 4294967295 - a = 4294967296 - 1 - a by omega, h2, Nat.sub_mul, hp, Nat.one_mul]
  have h3 : 2 ^ (32 - k) ≤ 4294967296 := by rw [← hp]; exact Nat.le_mul_of_pos_left _ (Nat.two_pow_pos k)
  clear h2 hp
  generalize 2 ^ (32 - k) = q at hx h3 ⊢
  generalize a / 2 ^ k = x at hx ⊢
  omega
theorem sar_zero (a : Nat) (ha : a < 4294967296) : sarN a 0 = a := by
  unfold sarN
  rw [Nat.pow_zero, Nat.div_one, Nat.div_one]
  split <;> omega
theorem sar_told2 (a k : Nat) (h : 2147483648 ≤ a) (ha : a < 4294967296) (hk : k < 32) :
    bits BinOp.or IntKind.u32 ((a : Int) / 2 ^ k) (4294967295 * 2 ^ (32 - k) % 4294967296) = (sarN a k : Nat) := by
  have h1 : a / 2 ^ k < 4294967296 := Nat.lt_of_le_of_lt (Nat.div_le_self _ _) ha
  have e1 : ((a : Int) / 2 ^ k) = ((a / 2 ^ k : Nat) : Int) := by simp
  have e2 : ((4294967295 : Int) * 2 ^ (32 - k) % 4294967296) = ((4294967295 * 2 ^ (32 - k) % 4294967296 : Nat) : Int) := by simp
  rw [e1, e2, u32_or_nat _ _ h1 (Nat.mod_lt _ (by decide)), sar_or a k h ha hk]

end Go.Proofs.YtniaclhmfmkikaaDoor.Al
