/- Several texts in one: Mc Md -/
import Derived.Test.YtniaclhmfmkikaaGreatDoorZ09
section
/- Package alu: a pair's product, as shifts and sums. -/
namespace Go.Proofs.YtniaclhmfmkikaaGreatDoor.Al
open Go.RowKit Ut
set_option linter.unusedVariables false
set_option maxRecDepth 100000
set_option maxHeartbeats 2000000

/-- bit k of a word, as the program asks for it -/
theorem bit_is (b k : Nat) (hb : b < 4294967296) : bits .and .u32 ((b : Int) / 2 ^ k) 1 = ((b / 2 ^ k % 2 : Nat) : Int) := by
  have e : ((b : Int) / 2 ^ k) = ((b / 2 ^ k : Nat) : Int) := by simp
  have h1 : b / 2 ^ k < 4294967296 := Nat.lt_of_le_of_lt (Nat.div_le_self _ _) hb
  rw [e, show (1 : Int) = ((1 : Nat) : Int) from rfl, u32_and_nat _ _ h1 (by decide), Nat.and_one_is_mod]
theorem mul_step (a b k : Nat) : b % 2 ^ (k + 1) = b % 2 ^ k + 2 ^ k * (b / 2 ^ k % 2) := by
  rw [Nat.pow_succ, Nat.mod_mul]
theorem mul_one (a b k : Nat) (h : b / 2 ^ k % 2 = 1) : ((a : Int) * (b % 2 ^ k) % 4294967296 + a * 2 ^ k % 4294967296) % 4294967296 = ((a * (b % 2 ^ (k + 1)) % 4294967296 : Nat) : Int) := by
  rw [mul_step a b k, h, Nat.mul_one, Nat.mul_add, Nat.add_mod]
  simp
theorem mul_zero (a b k : Nat) (h : b / 2 ^ k % 2 = 0) : b % 2 ^ k = b % 2 ^ (k + 1) := by
  rw [mul_step a b k, h, Nat.mul_zero, Nat.add_zero]

theorem product_any (a b : Nat) (ha : a < 4294967296) (hb : b < 4294967296) (w : World) :
    Calls Tryz.prog 119 #[pairV a b] w fun e w' => e = .returned (.int .u32 (a * b % 4294967296 : Nat)) ∧ Below w.heap.size w w' := by
  go_enter Tryz.func119, Tryz.ntmps119
  go_wp2
  go_loop [3, 5] (fun v i => ∃ k : Nat, k ≤ 32 ∧ i = .int .i64 k ∧ v = .int .u32 (a * (b % 2 ^ k) % 4294967296 : Nat)) (fun _ i => 32 - (intOf i).toNat)
  case atStart => exact ⟨0, Nat.zero_le _, rfl, by simp [Nat.mod_one]⟩
  case round =>
    obtain ⟨k, hk, rfl, rfl⟩ := hrel
    by_cases hlt : k < 32
    · rcases Nat.mod_two_eq_zero_or_one (b / 2 ^ k) with hz | hz
      · have ht : (bits BinOp.and IntKind.u32 (↑b / 2 ^ k) 1 == 1) = false := by rw [bit_is b k hb, hz]; rfl
        have HZ := Lib.hid hz
        clear hz
        go_wp2
        go_round
        case rel => exact ⟨k + 1, by omega, by go_num, by rw [mul_zero a b k HZ.out]⟩
        case measure => simp [intOf]; omega
      · have ht : (bits BinOp.and IntKind.u32 (↑b / 2 ^ k) 1 == 1) = true := by rw [bit_is b k hb, hz]; rfl
        have HZ := Lib.hid hz
        clear hz
        go_wp2
        go_round
        case rel => exact ⟨k + 1, by omega, by go_num, by rw [mul_one a b k HZ.out]⟩
        case measure => simp [intOf]; omega
    · obtain rfl : k = 32 := by omega
      go_wp2
      go_ret
      exact ⟨rfl, box_below a b w⟩
end Go.Proofs.YtniaclhmfmkikaaGreatDoor.Al
end
section
/- Package alu: a pair's quotient and rest, a bit at a time. -/
namespace Go.Proofs.YtniaclhmfmkikaaGreatDoor.Al
open Go.RowKit Ut
set_option linter.unusedVariables false
set_option maxRecDepth 100000
set_option maxHeartbeats 2000000

/-- the quotient of a's k highest bits, and their rest -/
def topN (a k : Nat) : Nat := a / 2 ^ (32 - k)
def quoN (a b k : Nat) : Nat := if b = 0 then 2 ^ k - 1 else topN a k / b
def resN (a b k : Nat) : Nat := topN a k % b
theorem top_zero (a : Nat) (ha : a < 4294967296) : topN a 0 = 0 := by unfold topN; exact Nat.div_eq_of_lt (by simpa using ha)
theorem top_all (a : Nat) : topN a 32 = a := by simp [topN]
theorem top_step (a k : Nat) (hk : k < 32) : topN a (k + 1) = 2 * topN a k + a / 2 ^ (31 - k) % 2 := by
  unfold topN
  have e : 32 - k = (31 - k) + 1 := by omega
  have e2 : 32 - (k + 1) = 31 - k := by omega
  rw [e, e2, Nat.pow_succ, ← Nat.div_div_eq_div_mul]
  omega
theorem top_lt (a k : Nat) (ha : a < 4294967296) (hk : k ≤ 32) : topN a k < 2 ^ k := by
  unfold topN
  apply Nat.div_lt_of_lt_mul
  rw [← Nat.pow_add, show 32 - k + k = 32 by omega]
  exact ha
theorem div_step (t b d : Nat) (hb : 0 < b) (hd : d < 2) :
    (2 * (t % b) + d < b → (2 * t + d) / b = 2 * (t / b) ∧ (2 * t + d) % b = 2 * (t % b) + d) ∧ (b ≤ 2 * (t % b) + d → (2 * t + d) / b = 2 * (t / b) + 1 ∧ (2 * t + d) % b = 2 * (t % b) + d - b) := by
  have hr := Nat.mod_lt t hb
  have ht := Nat.div_add_mod t b
  generalize t % b = r at hr ht ⊢
  generalize t / b = q at ht ⊢
  subst ht
  have e : 2 * (b * q + r) + d = (2 * r + d) + b * (2 * q) := by rw [Nat.mul_add, Nat.mul_left_comm]; omega
  refine ⟨fun h => ?_, fun h => ?_⟩
  · rw [e, Nat.add_mul_div_left _ _ hb, Nat.add_mul_mod_self_left, Nat.div_eq_of_lt h, Nat.mod_eq_of_lt h]
    omega
  · have e2 : (2 * r + d) + b * (2 * q) = (2 * r + d - b) + b * (2 * q + 1) := by rw [Nat.mul_add]; omega
    have h3 : 2 * r + d - b < b := by omega
    rw [e, e2, Nat.add_mul_div_left _ _ hb, Nat.add_mul_mod_self_left, Nat.div_eq_of_lt h3, Nat.mod_eq_of_lt h3]
    omega

theorem quo_hi (a b k d : Nat) (hk : k < 32) (hd : a / 2 ^ (31 - k) % 2 = d) (h : b ≤ resN a b k * 2 + d) : quoN a b (k + 1) = quoN a b k * 2 + 1 ∧ resN a b (k + 1) = resN a b k * 2 + d - b := by
  have ht := top_step a k hk
  rw [hd] at ht
  unfold quoN resN at *
  rw [ht]
  by_cases hb : b = 0
  · subst hb
    have := Nat.two_pow_pos k
    simp only [if_true, Nat.mod_zero] at *
    rw [Nat.pow_succ]
    omega
  · rw [if_neg hb, if_neg hb]
    have := (div_step (topN a k) b d (by omega) (by omega)).2 (by omega)
    omega
theorem quo_lo (a b k d : Nat) (hk : k < 32) (hd : a / 2 ^ (31 - k) % 2 = d) (h : resN a b k * 2 + d < b) : quoN a b (k + 1) = quoN a b k * 2 ∧ resN a b (k + 1) = resN a b k * 2 + d := by
  have ht := top_step a k hk
  rw [hd] at ht
  unfold quoN resN at *
  rw [ht]
  by_cases hb : b = 0
  · omega
  · rw [if_neg hb, if_neg hb]
    have := (div_step (topN a k) b d (by omega) (by omega)).1 (by omega)
    omega
theorem quo_lt (a b k : Nat) (ha : a < 4294967296) (hk : k ≤ 32) : quoN a b k < 2 ^ k := by
  have := top_lt a k ha hk
  unfold quoN
  split
  · have := Nat.two_pow_pos k; omega
  · exact Nat.lt_of_le_of_lt (Nat.div_le_self _ _) this
theorem res_le (a b k d : Nat) (ha : a < 4294967296) (hk : k < 32) (hd : a / 2 ^ (31 - k) % 2 = d) : resN a b k * 2 + d < 4294967296 := by
  have ht := top_step a k hk
  rw [hd] at ht
  have h1 := top_lt a (k + 1) ha (by omega)
  have h2 : 2 ^ (k + 1) ≤ 2 ^ 32 := Nat.pow_le_pow_right (by decide) (by omega)
  have h3 : topN a k % b ≤ topN a k := Nat.mod_le _ _
  unfold resN
  omega

theorem divide_any (a b : Nat) (ha : a < 4294967296) (hb : b < 4294967296) (w : World) :
    Calls Tryz.prog 130 #[pairV a b] w fun e w' => e = .returned (.tuple #[.int .u32 (quoN a b 32 : Nat), .int .u32 (resN a b 32 : Nat)]) ∧ Below w.heap.size w w' := by
  have HQ0 := Lib.hid (show (0 : Nat) = quoN a b 0 by unfold quoN; rw [top_zero a ha]; simp)
  have HR0 := Lib.hid (show (0 : Nat) = resN a b 0 by unfold resN; rw [top_zero a ha]; simp)
  go_enter Tryz.func130, Tryz.ntmps130
  go_wp2
  go_loop [4, 5, 7] (fun q r i => ∃ k qn rn : Nat, k ≤ 32 ∧ i = .int .i64 k ∧ q = .int .u32 qn ∧ r = .int .u32 rn ∧ Hid (qn = quoN a b k) ∧ Hid (rn = resN a b k)) (fun _ _ i => 32 - (intOf i).toNat)
  case atStart => exact ⟨0, 0, 0, by omega, rfl, rfl, rfl, HQ0, HR0⟩
  case round =>
    obtain ⟨k, qn, rn, hk, rfl, rfl, rfl, HQ, HR⟩ := hrel
    by_cases hlt : k < 32
    · obtain ⟨d, hd⟩ : ∃ d, a / 2 ^ (31 - k) % 2 = d := ⟨_, rfl⟩
      have hbit : bits BinOp.and IntKind.u32 (↑a / 2 ^ (31 - k)) 1 = (d : Int) := by rw [bit_is a (31 - k) ha, hd]
      have hq2 : (qn : Int) * 2 + 1 < 4294967296 := by
        have h1 := quo_lt a b k ha hk
        have h2 : 2 ^ (k + 1) ≤ 2 ^ 32 := Nat.pow_le_pow_right (by decide) (by omega)
        rw [← HQ.out] at h1
        rw [Nat.pow_succ] at h2
        omega
      have hr2 : (rn : Int) * 2 + (d : Int) < 4294967296 := by
        have h1 := res_le a b k d ha hlt hd
        rw [← HR.out] at h1
        omega
      by_cases hc : b ≤ rn * 2 + d
      · have HS := quo_hi a b k d hlt hd (by rw [← HR.out]; exact hc)
        rw [← HQ.out, ← HR.out] at HS
        have HC := Lib.hid (show (b ≤ rn * 2 + d ∧ (rn : Int) * 2 + (d : Int) < 4294967296 ∧ (qn : Int) * 2 + 1 < 4294967296) ∧ quoN a b (k + 1) = qn * 2 + 1 ∧ resN a b (k + 1) = rn * 2 + d - b from ⟨⟨hc, hr2, hq2⟩, HS⟩)
        clear hd HS hc hr2 hq2 HQ HR
        go_wp2
        all_goals obtain ⟨⟨hc, hr2, hq2⟩, hq, hr⟩ := HC.out
        all_goals first | (exfalso; omega) | skip
        go_round
        case rel => exact ⟨k + 1, quoN a b (k + 1), resN a b (k + 1), by omega, by go_num, congrArg (Value.int .u32) (by omega), congrArg (Value.int .u32) (by omega), Lib.hid rfl, Lib.hid rfl⟩
        case measure => simp [intOf]; omega
      · have HS := quo_lo a b k d hlt hd (by rw [← HR.out]; omega)
        rw [← HQ.out, ← HR.out] at HS
        have HC := Lib.hid (show (¬ b ≤ rn * 2 + d ∧ (rn : Int) * 2 + (d : Int) < 4294967296 ∧ (qn : Int) * 2 + 1 < 4294967296) ∧ quoN a b (k + 1) = qn * 2 ∧ resN a b (k + 1) = rn * 2 + d from ⟨⟨hc, hr2, hq2⟩, HS⟩)
        clear hd HS hc hr2 hq2 HQ HR
        go_wp2
        all_goals obtain ⟨⟨hc, hr2, hq2⟩, hq, hr⟩ := HC.out
        all_goals first | (exfalso; omega) | skip
        go_round
        case rel => exact ⟨k + 1, quoN a b (k + 1), resN a b (k + 1), by omega, by go_num, congrArg (Value.int .u32) (by omega), congrArg (Value.int .u32) (by omega), Lib.hid rfl, Lib.hid rfl⟩
        case measure => simp [intOf]; omega
    · obtain rfl : k = 32 := by omega
      go_wp2
      go_ret2
      exact ⟨by rw [← HQ.out, ← HR.out]; rfl, box_below a b w⟩

theorem quo_all (a b : Nat) : quoN a b 32 = if b = 0 then 4294967295 else a / b := by unfold quoN; rw [top_all]
theorem res_all (a b : Nat) : resN a b 32 = a % b := by unfold resN; rw [top_all]

theorem quotient_any (a b : Nat) (ha : a < 4294967296) (hb : b < 4294967296) (w : World) :
    Calls Tryz.prog 120 #[pairV a b] w fun e w' => e = .returned (.int .u32 (if b = 0 then 4294967295 else a / b : Nat)) ∧ Below w.heap.size w w' := by
  rw [← quo_all]
  have hb0 := Lib.hid (box_below a b w)
  go_enter Tryz.func120, Tryz.ntmps120
  go_wp2_with fail
  refine (divide_any a b ha hb _).mono ?_
  rintro e w1 ⟨rfl, hb1⟩
  have hb2 := Lib.hid (hb0.out.trans (hb1.mono hb0.out.size))
  clear hb1
  go_wp2
  go_ret
  exact ⟨rfl, hb2.out⟩
theorem rest_any (a b : Nat) (ha : a < 4294967296) (hb : b < 4294967296) (w : World) :
    Calls Tryz.prog 121 #[pairV a b] w fun e w' => e = .returned (.int .u32 (a % b : Nat)) ∧ Below w.heap.size w w' := by
  rw [← res_all]
  have hb0 := Lib.hid (box_below a b w)
  go_enter Tryz.func121, Tryz.ntmps121
  go_wp2_with fail
  refine (divide_any a b ha hb _).mono ?_
  rintro e w1 ⟨rfl, hb1⟩
  have hb2 := Lib.hid (hb0.out.trans (hb1.mono hb0.out.size))
  clear hb1
  go_wp2
  go_ret
  exact ⟨rfl, hb2.out⟩
end Go.Proofs.YtniaclhmfmkikaaGreatDoor.Al
end
