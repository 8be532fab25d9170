/- Several texts in one: Bc Be -/
import Derived.Test.YtoafonbplbblpaaZ27
section
/- Package pte: the document's Put. -/
namespace Go.Proofs.Ytoafonbplbblpaa.Pe
open Go.RowKit Ut
set_option linter.unusedVariables false
set_option maxRecDepth 100000
set_option maxHeartbeats 4000000

theorem refPut_any (o : Bool) (r g : Int) (z : Nat) (c : Int) (hz : putZ o r g = z) (hc : putE o r g = c) (w : World) :
    Calls Try.prog 77 #[pteV o r g] w fun e w' => e = .returned (.tuple #[.int .u32 z, .int .i64 c]) ∧ Below w.heap.size w w' := by
  subst hz hc
  have hb := Lib.hid (pte_below o r g w)
  by_cases h1 : r < 0
  · have e1 : fitsB o r g = false := by unfold fitsB; cases o <;> simp <;> omega
    have E1 : Hid (putZ o r g = 0) := Lib.hid (by simp [putZ, e1])
    have E2 : Hid (putE o r g = 6) := Lib.hid (by simp [putE, e1])
    clear e1
    go_enter Try.func77, Try.ntmps77
    go_wp2
    go_ret2
    exact ⟨by rw [E1.out, E2.out]; rfl, hb.out⟩
  by_cases h2 : 15 < r
  · have e1 : fitsB o r g = false := by unfold fitsB; cases o <;> simp <;> omega
    have E1 : Hid (putZ o r g = 0) := Lib.hid (by simp [putZ, e1])
    have E2 : Hid (putE o r g = 6) := Lib.hid (by simp [putE, e1])
    clear e1
    go_enter Try.func77, Try.ntmps77
    go_wp2
    go_ret2
    exact ⟨by rw [E1.out, E2.out]; rfl, hb.out⟩
  by_cases h3 : g < 0
  · have e1 : fitsB o r g = false := by unfold fitsB; cases o <;> simp <;> omega
    have E1 : Hid (putZ o r g = 0) := Lib.hid (by simp [putZ, e1])
    have E2 : Hid (putE o r g = 6) := Lib.hid (by simp [putE, e1])
    clear e1
    go_enter Try.func77, Try.ntmps77
    go_wp2
    go_ret2
    exact ⟨by rw [E1.out, E2.out]; rfl, hb.out⟩
  by_cases h4 : 31 < g
  · have e1 : fitsB o r g = false := by unfold fitsB; cases o <;> simp <;> omega
    have E1 : Hid (putZ o r g = 0) := Lib.hid (by simp [putZ, e1])
    have E2 : Hid (putE o r g = 6) := Lib.hid (by simp [putE, e1])
    clear e1
    go_enter Try.func77, Try.ntmps77
    go_wp2
    go_ret2
    exact ⟨by rw [E1.out, E2.out]; rfl, hb.out⟩
  obtain ⟨a, rfl⟩ : ∃ a : Nat, r = a := ⟨r.toNat, by omega⟩
  obtain ⟨b, rfl⟩ : ∃ b : Nat, g = b := ⟨g.toNat, by omega⟩
  cases o
  · by_cases h5 : (a : Int) = 0
    · obtain rfl : a = 0 := by omega
      by_cases h6 : (b : Int) = 0
      · obtain rfl : b = 0 := by omega
        go_enter Try.func77, Try.ntmps77
        go_wp2
        go_ret2
        exact ⟨rfl, hb.out⟩
      · have e1 : fitsB false 0 b = false := by unfold fitsB; simp; omega
        have E1 : Hid (putZ false 0 b = 0) := Lib.hid (by simp [putZ])
        have E2 : Hid (putE false 0 b = 6) := Lib.hid (by unfold putE; rw [e1]; rfl)
        have h7 : ¬ b = 0 := by omega
        clear e1
        go_enter Try.func77, Try.ntmps77
        go_wp2
        go_ret2
        exact ⟨by rw [E1.out, E2.out]; rfl, hb.out⟩
    · have e1 : fitsB false a b = false := by unfold fitsB; simp; omega
      have E1 : Hid (putZ false a b = 0) := Lib.hid (by simp [putZ])
      have E2 : Hid (putE false a b = 6) := Lib.hid (by unfold putE; rw [e1]; rfl)
      have h7 : ¬ a = 0 := by omega
      clear e1
      go_enter Try.func77, Try.ntmps77
      go_wp2
      go_ret2
      exact ⟨by rw [E1.out, E2.out]; rfl, hb.out⟩
  · have e1 : fitsB true a b = true := by unfold fitsB; simp; omega
    have E1 : Hid (putZ true a b = wordN a b) := Lib.hid (by unfold putZ; rw [e1]; rfl)
    have E2 : Hid (putE true a b = 0) := Lib.hid (by unfold putE; rw [e1]; rfl)
    clear e1
    go_enter Try.func77, Try.ntmps77
    go_wp2
    go_ret2
    exact ⟨by rw [E1.out, E2.out]; unfold wordN; simp <;> omega, hb.out⟩
end Go.Proofs.Ytoafonbplbblpaa.Pe
end
section
/- Package pte: Get of both. -/
namespace Go.Proofs.Ytoafonbplbblpaa.Pe
open Go.RowKit Ut
set_option linter.unusedVariables false
set_option maxRecDepth 100000
set_option maxHeartbeats 4000000

theorem set_keep {w W : World} (j : Nat) (v : Value) (h : Below w.heap.size w W) : Below w.heap.size w (W.setCell ⟨w.heap.size, j, none⟩ v) := h.setCell (p := ⟨w.heap.size, j, none⟩) (by simp) _
theorem get_odd (x : Nat) (hx : x < 4294967296) (h : x % 2 = 1) : (1 + 2 * rOf x + 256 * gOf x = x) ↔ 32 * (x / 32 % 8 + 256 * (x / 8192)) = 0 := by unfold rOf gOf; omega
theorem r_bits (x : Nat) (hx : x < 4294967296) : bits .and .u32 ((x : Int) / 2) 15 = (rOf x : Nat) := by
  rw [show (x : Int) / 2 = ((x / 2 : Nat) : Int) by omega, show (15 : Int) = ((15 : Nat) : Int) from rfl, u32_and_nat (x / 2) 15 (by omega) (by omega)]
  exact congrArg _ (Nat.and_two_pow_sub_one_eq_mod (x / 2) 4)
theorem g_bits (x : Nat) (hx : x < 4294967296) : bits .and .u32 ((x : Int) / 256) 31 = (gOf x : Nat) := by
  rw [show (x : Int) / 256 = ((x / 256 : Nat) : Int) by omega, show (31 : Int) = ((31 : Nat) : Int) from rfl, u32_and_nat (x / 256) 31 (by omega) (by omega)]
  exact congrArg _ (Nat.and_two_pow_sub_one_eq_mod (x / 256) 5)
theorem get_even (x : Nat) (hx : x < 4294967296) (h : x % 2 = 0) (w : World) :
    Calls Try.prog 44 #[.int .u32 x] w fun e w' => e = .returned (.tuple #[pteV false 0 0, .int .i64 4]) ∧ Below w.heap.size w w' := by
  have HB := Lib.hid (pte_below false 0 0 w)
  have ht : bits .and .u32 (x : Int) 1 = 0 := by rw [and_one x hx, h]; rfl
  go_enter Try.func44, Try.ntmps44
  go_wp2
  exact bodyPost_ret (v := .tuple #[pteV false 0 0, .int .i64 4]) (by simp [results, Try.results44, go_sem]) rfl ⟨rfl, HB.out⟩
theorem get_form (x : Nat) (hx : x < 4294967296) (h : x % 2 = 1) (hf : ¬ 1 + 2 * rOf x + 256 * gOf x = x) (w : World) :
    Calls Try.prog 44 #[.int .u32 x] w fun e w' => e = .returned (.tuple #[pteV false 0 0, .int .i64 5]) ∧ Below w.heap.size w w' := by
  have HB := Lib.hid (pte_below false 0 0 w)
  have ht : ¬ bits .and .u32 (x : Int) 1 = 0 := by rw [and_one x hx, h]; decide
  have ht2 : ¬ bits .andNot .u32 (x : Int) 7967 = 0 := by rw [and_not_all x hx]; have := get_odd x hx h; omega
  clear h hf
  go_enter Try.func44, Try.ntmps44
  go_wp2
  exact bodyPost_ret (v := .tuple #[pteV false 0 0, .int .i64 5]) (by simp [results, Try.results44, go_sem]) rfl ⟨rfl, HB.out⟩
theorem get_ok (x : Nat) (hx : x < 4294967296) (h : x % 2 = 1) (hf : 1 + 2 * rOf x + 256 * gOf x = x) (w : World) :
    Calls Try.prog 44 #[.int .u32 x] w fun e w' => e = .returned (.tuple #[pteV true (rOf x : Nat) (gOf x : Nat), .int .i64 0]) ∧ Below w.heap.size w w' := by
  have ht : ¬ bits .and .u32 (x : Int) 1 = 0 := by rw [and_one x hx, h]; decide
  have ht2 : bits .andNot .u32 (x : Int) 7967 = 0 := by rw [and_not_all x hx]; have := get_odd x hx h; omega
  have h1 := r_bits x hx
  have h2 := g_bits x hx
  have b1 : rOf x < 16 := by unfold rOf; omega
  have b2 : gOf x < 32 := by unfold gOf; omega
  clear h hf
  generalize rOf x = R at h1 b1 ⊢
  generalize gOf x = G at h2 b2 ⊢
  have HB := Lib.hid (pte_below true R G w)
  go_enter Try.func44, Try.ntmps44
  go_wp2
  exact bodyPost_ret (v := .tuple #[pteV true (R : Nat) (G : Nat), .int .i64 0]) (by simp [results, Try.results44, go_sem]) rfl ⟨rfl, HB.out⟩
theorem get_any (x : Nat) (hx : x < 4294967296) (f : Int) (hf : getF x = f) (w : World) :
    Calls Try.prog 44 #[.int .u32 x] w fun e w' => e = .returned (.tuple #[pteV (oF f) (rF f x) (gF f x), .int .i64 f]) ∧ Below w.heap.size w w' := by
  subst hf
  unfold getF
  by_cases h : x % 2 = 0
  · rw [if_pos h]; exact get_even x hx h w
  rw [if_neg h]
  by_cases h2 : 1 + 2 * rOf x + 256 * gOf x = x
  · rw [if_pos h2]; exact get_ok x hx (by omega) h2 w
  · rw [if_neg h2]; exact get_form x hx (by omega) h2 w
end Go.Proofs.Ytoafonbplbblpaa.Pe
end
