/- Package pte: Get of both. -/
import Derived.Test.YtfifflepgfpjiaaBc
namespace Go.Proofs.Ytfifflepgfpjiaa.Pe
open Go.RowKit Ut
set_option linter.unusedVariables false
set_option maxRecDepth 100000
set_option maxHeartbeats 4000000

theorem set_keep {w W : World} (j : Nat) (v : Value) (h : Below w.heap.size w W) : Below w.heap.size w (W.setCell ⟨w.heap.size, j, none⟩ v) := h.setCell (p := ⟨w.heap.size, j, none⟩) (by simp) _
theorem get_odd (x : Nat) (hx : x < 4294967296) (h : x % 2 = 1) : (1 + 2 * rOf x + 256 * gOf x = x) ↔ 32 * (x / 32 % 8 + 256 * (x / 8192)) = 0 := by unfold rOf gOf; omega
theorem r_bits (x : Nat) (hx : x < 4294967296) : bits .and .u32 ((x : Int) / 2) 15 = (rOf x : Nat) := by
  rw [show (x : Int) / 2 = ((x / 2 : Nat) : Int) by omega, show (15 : Int) = ((15 : Nat) : Int) from rfl, u32_and_nat (x / 2) 15 (by omega) (by omega)]
  exact congrArg _ (Nat.and_two_pow_sub_one_eq_mod (x / 2) 4)
theorem g_bits (x : Nat) (hx : x < 4294967296) : bits .and .u32 ((x : Int) / 256) 31 = (gOf x : Nat) := by
  rw [show (x : Int) / 256 = ((x / 256 : Nat) : Int) by omega, show (31 : Int) = ((31 : Nat) : Int) from rfl, u32_and_nat (x / 256) 31 (by omega) (by omega)]
  exact congrArg _ (Nat.and_two_pow_sub_one_eq_mod (x / 256) 5)
theorem get_even (x : Nat) (hx : x < 4294967296) (h : x % 2 = 0) (w : World) :
    Calls Try.prog 9 #[.int .u32 x] w fun e w' => e = .returned (.tuple #[pteV false 0 0, .int .i64 4]) ∧ Below w.heap.size w w' := by
  have HB := Lib.hid (pte_below false 0 0 w)
  have ht : bits .and .u32 (x : Int) 1 = 0 := by rw [and_one x hx, h]; rfl
  go_enter Try.func9, Try.ntmps9
  go_wp2
  exact bodyPost_ret (v := .tuple #[pteV false 0 0, .int .i64 4]) (by simp [results, Try.results9, go_sem]) rfl ⟨rfl, HB.out⟩
theorem get_form (x : Nat) (hx : x < 4294967296) (h : x % 2 = 1) (hf : ¬ 1 + 2 * rOf x + 256 * gOf x = x) (w : World) :
    Calls Try.prog 9 #[.int .u32 x] w fun e w' => e = .returned (.tuple #[pteV false 0 0, .int .i64 5]) ∧ Below w.heap.size w w' := by
  have HB := Lib.hid (pte_below false 0 0 w)
  have ht : ¬ bits .and .u32 (x : Int) 1 = 0 := by rw [and_one x hx, h]; decide
  have ht2 : ¬ bits .andNot .u32 (x : Int) 7967 = 0 := by rw [and_not_all x hx]; have := get_odd x hx h; omega
  clear h hf
  go_enter Try.func9, Try.ntmps9
  go_wp2
  exact bodyPost_ret (v := .tuple #[pteV false 0 0, .int .i64 5]) (by simp [results, Try.results9, go_sem]) rfl ⟨rfl, HB.out⟩
theorem get_ok (x : Nat) (hx : x < 4294967296) (h : x % 2 = 1) (hf : 1 + 2 * rOf x + 256 * gOf x = x) (w : World) :
    Calls Try.prog 9 #[.int .u32 x] w fun e w' => e = .returned (.tuple #[pteV true (rOf x : Nat) (gOf x : Nat), .int .i64 0]) ∧ Below w.heap.size w w' := by
  have ht : ¬ bits .and .u32 (x : Int) 1 = 0 := by rw [and_one x hx, h]; decide
  have ht2 : bits .andNot .u32 (x : Int) 7967 = 0 := by rw [and_not_all x hx]; have := get_odd x hx h; omega
  have h1 := r_bits x hx
  have h2 := g_bits x hx
  have b1 : rOf x < 16 := by unfold rOf; omega
  have b2 : gOf x < 32 := by unfold gOf; omega
  clear h hf
  generalize rOf x = R at h1 b1 ⊢
  generalize gOf x = G at h2 b2 ⊢
  have HB := Lib.hid (pte_below true R G w)
  go_enter Try.func9, Try.ntmps9
  go_wp2
  exact bodyPost_ret (v := .tuple #[pteV true (R : Nat) (G : Nat), .int .i64 0]) (by simp [results, Try.results9, go_sem]) rfl ⟨rfl, HB.out⟩
theorem get_any (x : Nat) (hx : x < 4294967296) (f : Int) (hf : getF x = f) (w : World) :
    Calls Try.prog 9 #[.int .u32 x] w fun e w' => e = .returned (.tuple #[pteV (oF f) (rF f x) (gF f x), .int .i64 f]) ∧ Below w.heap.size w w' := by
  subst hf
  unfold getF
  by_cases h : x % 2 = 0
  · rw [if_pos h]; exact get_even x hx h w
  rw [if_neg h]
  by_cases h2 : 1 + 2 * rOf x + 256 * gOf x = x
  · rw [if_pos h2]; exact get_ok x hx (by omega) h2 w
  · rw [if_neg h2]; exact get_form x hx (by omega) h2 w
end Go.Proofs.Ytfifflepgfpjiaa.Pe
