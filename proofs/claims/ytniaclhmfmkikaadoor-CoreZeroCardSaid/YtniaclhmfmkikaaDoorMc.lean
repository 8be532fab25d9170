/- Package alu: a pair's product, as shifts and sums. -/
import Derived.Test.YtniaclhmfmkikaaDoorMa
namespace Go.Proofs.YtniaclhmfmkikaaDoor.Al
open Go.RowKit Ut
set_option linter.unusedVariables false
set_option maxRecDepth 100000
set_option maxHeartbeats 2000000

/-- bit k of a word, as the program asks for it -/
theorem bit_is (b k : Nat) (hb : b < 4294967296) : bits .and .u32 ((b : Int) / 2 ^ k) 1 = ((b / 2 ^ k % 2 : Nat) : Int) := by
  have e : ((b : Int) / 2 ^ k) = ((b / 2 ^ k : Nat) : Int) := by simp
  have h1 : b / 2 ^ k < 4294967296 := Nat.lt_of_le_of_lt (Nat.div_le_self _ _) hb
  rw [e, show (1 : Int) = ((1 : Nat) : Int) from rfl, u32_and_nat _ _ h1 (by decide), Nat.and_one_is_mod]
theorem mul_step (a b k : Nat) : b % 2 ^ (k + 1) = b % 2 ^ k + 2 ^ k * (b / 2 ^ k % 2) := by
  rw [Nat.pow_succ, Nat.mod_mul]
theorem mul_one (a b k : Nat) (h : b / 2 ^ k % 2 = 1) : ((a : Int) * (b % 2 ^ k) % 4294967296 + a * 2 ^ k % 4294967296) % 4294967296 = ((a * (b % 2 ^ (k + 1)) % 4294967296 : Nat) : Int) := by
  rw [mul_step a b k, h, Nat.mul_one, Nat.mul_add, Nat.add_mod]
  simp
theorem mul_zero (a b k : Nat) (h : b / 2 ^ k % 2 = 0) : b % 2 ^ k = b % 2 ^ (k + 1) := by
  rw [mul_step a b k, h, Nat.mul_zero, Nat.add_zero]

theorem product_any (a b : Nat) (ha : a < 4294967296) (hb : b < 4294967296) (w : World) :
    Calls Tryd.prog 79 #[pairV a b] w fun e w' => e = .returned (.int .u32 (a * b % 4294967296 : Nat)) ∧ Below w.heap.size w w' := by
  go_enter Tryd.func79, Tryd.ntmps79
  go_wp2
  go_loop [3, 5] (fun v i => ∃ k : Nat, k ≤ 32 ∧ i = .int .i64 k ∧ v = .int .u32 (a * (b % 2 ^ k) % 4294967296 : Nat)) (fun _ i => 32 - (intOf i).toNat)
  case atStart => exact ⟨0, Nat.zero_le _, rfl, by simp [Nat.mod_one]⟩
  case round =>
    obtain ⟨k, hk, rfl, rfl⟩ := hrel
    by_cases hlt : k < 32
    · rcases Nat.mod_two_eq_zero_or_one (b / 2 ^ k) with hz | hz
      · have ht : (bits BinOp.and IntKind.u32 (↑b / 2 ^ k) 1 == 1) = false := by rw [bit_is b k hb, hz]; rfl
        have HZ := Lib.hid hz
        clear hz
        go_wp2
        go_round
        case rel => exact ⟨k + 1, by omega, by go_num, by rw [mul_zero a b k HZ.out]⟩
        case measure => simp [intOf]; omega
      · have ht : (bits BinOp.and IntKind.u32 (↑b / 2 ^ k) 1 == 1) = true := by rw [bit_is b k hb, hz]; rfl
        have HZ := Lib.hid hz
        clear hz
        go_wp2
        go_round
        case rel => exact ⟨k + 1, by omega, by go_num, by rw [mul_one a b k HZ.out]⟩
        case measure => simp [intOf]; omega
    · obtain rfl : k = 32 := by omega
      go_wp2
      go_ret
      exact ⟨rfl, box_below a b w⟩
end Go.Proofs.YtniaclhmfmkikaaDoor.Al
