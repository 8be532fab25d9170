/- The bit of worth 2 (RWrite) of a 64-bit integer: taken off, and what is left. Serves all packages. -/
import Derived.Test.YtcdiigdbjncpeaaVt
namespace Go.Proofs.Ytcdiigdbjncpeaa.Ut
open Go.RowKit
set_option linter.unusedVariables false

theorem clear_two2 (x : Nat) (hx : x < 18446744073709551616) : x &&& 18446744073709551613 = 4 * (x / 4) + x % 2 := by
  have h1 : (x &&& 18446744073709551613) % 4 = x % 2 := by
    have := Nat.and_mod_two_pow (a := x) (b := 18446744073709551613) (n := 2)
    rw [show (18446744073709551613 : Nat) % 2 ^ 2 = 2 ^ 1 - 1 from rfl, Nat.and_two_pow_sub_one_eq_mod] at this
    omega
  have h2 : (x &&& 18446744073709551613) / 4 = x / 4 := by
    have := Nat.and_div_two_pow (a := x) (b := 18446744073709551613) (n := 2)
    rw [show (18446744073709551613 : Nat) / 2 ^ 2 = 2 ^ 62 - 1 from rfl, Nat.and_two_pow_sub_one_eq_mod] at this
    omega
  omega
theorem and_two162 : ((List.range 16).all fun r => (r &&& 2) == (if r % 4 < 2 then 0 else 2)) = true := by decide +kernel
theorem low_two2 (x : Nat) : x &&& 2 = (if x % 4 < 2 then 0 else 2) := by
  have h1 : x &&& 2 < 2 ^ 4 := Nat.and_lt_two_pow _ (by decide)
  have h2 := Nat.and_mod_two_pow (a := x) (b := 2) (n := 4)
  rw [Nat.mod_eq_of_lt h1] at h2
  have h3 := List.all_eq_true.1 and_two162 (x % 16) (by rw [List.mem_range]; omega)
  rw [beq_iff_eq] at h3
  rw [show x % 16 % 4 = x % 4 by omega] at h3
  rw [h2]
  exact h3
theorem two_toNat2 : (BitVec.ofInt 64 2).toNat = 2 := by decide
theorem and_two2 (n : Int) : bits .and .i64 n 2 = if (n % 18446744073709551616).toNat % 4 < 2 then 0 else 2 := by
  have e1 : bits .and .i64 n 2 = IntKind.i64.wrap (((n % 18446744073709551616).toNat &&& 2 : Nat) : Int) := by
    show IntKind.i64.wrap ((BitVec.ofInt 64 n &&& BitVec.ofInt 64 2).toNat : Nat) = _
    rw [BitVec.toNat_and, BitVec.toNat_ofInt, two_toNat2]
    rfl
  rw [e1, low_two2]
  split <;> simp [IntKind.wrap_i64]
theorem andNot_two2 (n : Int) : bits .andNot .i64 n 2 = IntKind.i64.wrap (((4 * ((n % 18446744073709551616).toNat / 4) + (n % 18446744073709551616).toNat % 2 : Nat)) : Int) := by
  have e2 : bits .andNot .i64 n 2 = IntKind.i64.wrap (((n % 18446744073709551616).toNat &&& 18446744073709551613 : Nat) : Int) := by
    show IntKind.i64.wrap ((BitVec.ofInt 64 n &&& ~~~ BitVec.ofInt 64 2).toNat : Nat) = _
    rw [BitVec.toNat_and, BitVec.toNat_ofInt, BitVec.toNat_not, two_toNat2]
    rfl
  rw [e2, clear_two2 _ (by omega)]
theorem off_two2 (n : Int) : bits .and .i64 (bits .andNot .i64 n 2) 2 = 0 := by
  rw [andNot_two2, and_two2, IntKind.wrap_i64, if_pos]
  generalize (n % 18446744073709551616).toNat = m
  omega
theorem same_two2 (n : Int) (h1 : -9223372036854775808 ≤ n) (h2 : n < 9223372036854775808) (h : bits .and .i64 n 2 = 0) : bits .andNot .i64 n 2 = n := by
  rw [and_two2] at h
  split at h
  · rename_i hlt
    rw [andNot_two2, IntKind.wrap_i64]
    omega
  · cases h
theorem range_two2 (n : Int) : -9223372036854775808 ≤ bits .andNot .i64 n 2 ∧ bits .andNot .i64 n 2 < 9223372036854775808 := by
  rw [andNot_two2, IntKind.wrap_i64]
  omega
theorem twice_two2 (n : Int) : bits .andNot .i64 (bits .andNot .i64 n 2) 2 = bits .andNot .i64 n 2 := same_two2 _ (range_two2 n).1 (range_two2 n).2 (off_two2 n)
theorem had_two2 (n : Int) (h : bits .and .i64 n 2 ≠ 0) : bits .andNot .i64 n 2 ≠ n := fun e => h (by rw [← e]; exact off_two2 n)
end Go.Proofs.Ytcdiigdbjncpeaa.Ut
