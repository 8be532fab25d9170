/- Package alu: a pair shifted. -/
import Derived.Test.YtniaclhmfmkikaaDoorMa
import Derived.Deep.RegionWith
namespace Go.Proofs.YtniaclhmfmkikaaDoor.Al
open Go.RowKit Ut
set_option linter.unusedVariables false
set_option maxRecDepth 100000
set_option maxHeartbeats 4000000

theorem boxes_below (a b c d : Nat) (w : World) : Below w.heap.size w (((boxW a b w).alloc (.cells #[.int .u32 c, .int .u32 d] 86)).drew) :=
  ((box_below a b w).alloc (box_below a b w).size _).drew

theorem i32_lo (a : Nat) (h : a < 2147483648) : IntKind.i32.wrap (a : Int) = (a : Int) := by
  rw [IntKind.wrap_i32]; omega
theorem i32_hi (a : Nat) (h : ¬ a < 2147483648) (ha : a < 4294967296) : IntKind.i32.wrap (a : Int) = (a : Int) - 4294967296 := by
  rw [IntKind.wrap_i32]; omega
theorem sar_is (a k : Nat) (ha : a < 4294967296) : IntKind.u32.wrap (IntKind.i32.wrap (a : Int) / 2 ^ k) = (sarN a k : Nat) := by
  have hp : 0 < 2 ^ k := Nat.two_pow_pos k
  rw [IntKind.wrap_u32']
  unfold sarN
  by_cases h : a < 2147483648
  · rw [if_pos h, i32_lo a h]
    have h1 : a / 2 ^ k ≤ a := Nat.div_le_self _ _
    have e2 : (a : Int) / 2 ^ k = ((a / 2 ^ k : Nat) : Int) := by simp
    rw [e2]
    generalize a / 2 ^ k = x at h1
    omega
  · rw [if_neg h, i32_hi a h ha]
    obtain ⟨m, hm⟩ : ∃ m, m = 4294967295 - a := ⟨_, rfl⟩
    have h1 : m / 2 ^ k ≤ m := Nat.div_le_self _ _
    have e2 : ((a : Int) - 4294967296) / 2 ^ k = -(((m / 2 ^ k : Nat) : Int) + 1) := by
      rw [show (a : Int) - 4294967296 = Int.negSucc m by omega, Int.negSucc_ediv _ (by exact_mod_cast hp)]
      simp
      rfl
    rw [e2, ← hm]
    generalize m / 2 ^ k = x at h1
    omega

theorem up_any (a b : Nat) (ha : a < 4294967296) (hb : b < 4294967296) (w : World) :
    Calls Tryd.prog 74 #[pairV a b] w fun e w' => e = .returned (.int .u32 (a * 2 ^ (b % 32) % 4294967296 : Nat)) ∧ Below w.heap.size w w' := by
  obtain ⟨k, hk⟩ : ∃ k, b % 32 = k := ⟨_, rfl⟩
  have hk32 : k < 32 := by omega
  have HP := Lib.hid fun w => hk ▸ places_any a b w
  rw [hk]
  clear hk
  go_enter Tryd.func74, Tryd.ntmps74
  go_wp2
  go_region_with (go_at_call 89; refine (HP.out _).mono ?_; rintro e w1 ⟨rfl, rfl⟩)
  all_goals
    go_simp
    go_wp2
    go_ret
    exact ⟨rfl, boxes_below a b a b w⟩
theorem down_any (a b : Nat) (ha : a < 4294967296) (hb : b < 4294967296) (w : World) :
    Calls Tryd.prog 75 #[pairV a b] w fun e w' => e = .returned (.int .u32 (a / 2 ^ (b % 32) : Nat)) ∧ Below w.heap.size w w' := by
  obtain ⟨k, hk⟩ : ∃ k, b % 32 = k := ⟨_, rfl⟩
  have hk32 : k < 32 := by omega
  have HP := Lib.hid fun w => hk ▸ places_any a b w
  rw [hk]
  clear hk
  go_enter Tryd.func75, Tryd.ntmps75
  go_wp2
  go_region_with (go_at_call 89; refine (HP.out _).mono ?_; rintro e w1 ⟨rfl, rfl⟩)
  all_goals
    go_simp
    go_wp2
    go_ret
    exact ⟨rfl, boxes_below a b a b w⟩
theorem downSigned_any (a b : Nat) (ha : a < 4294967296) (hb : b < 4294967296) (w : World) :
    Calls Tryd.prog 76 #[pairV a b] w fun e w' => e = .returned (.int .u32 (sarN a (b % 32) : Nat)) ∧ Below w.heap.size w w' := by
  obtain ⟨k, hk⟩ : ∃ k, b % 32 = k := ⟨_, rfl⟩
  have hk32 : k < 32 := by omega
  have HP := Lib.hid fun w => hk ▸ places_any a b w
  rw [hk]
  clear hk
  go_enter Tryd.func76, Tryd.ntmps76
  go_wp2
  go_region_with (go_at_call 89; refine (HP.out _).mono ?_; rintro e w1 ⟨rfl, rfl⟩)
  all_goals
    go_simp
    go_wp2
    go_ret
    exact ⟨by rw [sar_is a k ha]; rfl, boxes_below a b a b w⟩
end Go.Proofs.YtniaclhmfmkikaaDoor.Al
