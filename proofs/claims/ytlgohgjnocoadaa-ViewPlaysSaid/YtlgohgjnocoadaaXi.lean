/- The document's map (hermitageref15): Pages, Allows. -/
import Derived.Test.YtlgohgjnocoadaaXg
namespace Go.Proofs.Ytlgohgjnocoadaa.Gm
open Go.RowKit Ut
set_option maxRecDepth 100000
set_option linter.unusedVariables false
set_option maxHeartbeats 4000000

/-- Allows by what Get says -/
theorem refAllows_no (a : Option Addr) (n k : Int) (w : World) (H : Calls Try.prog 43 #[.pointer a, .int .i64 n] w fun e w' => e = .returned (.tuple #[plV (0, 0), .bool false]) ∧ Below w.heap.size w w') :
    Calls Try.prog 42 #[.pointer a, .int .i64 n, .int .i64 k] w fun e w' => e = .returned (.int .i64 7) ∧ Below w.heap.size w w' := by
  have HG := Lib.hid H
  clear H
  go_enter Try.func42, Try.ntmps42
  go_wp2_with fail
  refine HG.out.mono ?_
  rintro e w1 ⟨rfl, hb1⟩
  have HB1 := Lib.hid (hb1.trans ((box_below w1 0 0).mono hb1.size))
  clear hb1
  unfold plV
  go_wp2
  go_ret
  exact ⟨rfl, HB1.out⟩
theorem refAllows_yes (a : Option Addr) (n f r : Nat) (k : Int) (c : Int) (hn : n < 12) (h0 : 0 < r) (h3 : r ≤ 3) (hc : alwF ((f : Int), (r : Int)) n k = c) (w : World) (H : Calls Try.prog 43 #[.pointer a, .int .i64 n] w fun e w' => e = .returned (.tuple #[plV ((f : Int), (r : Int)), .bool true]) ∧ Below w.heap.size w w') :
    Calls Try.prog 42 #[.pointer a, .int .i64 n, .int .i64 k] w fun e w' => e = .returned (.int .i64 c) ∧ Below w.heap.size w w' := by
  have HG := Lib.hid H
  have HBX : Hid (∀ (W : World) (x y : Int), Below w.heap.size w W → Below w.heap.size w (W.alloc (.cells #[.int .i64 x, .int .i64 y] 66))) := Lib.hid fun W x y h => h.alloc h.size _
  clear H
  have ht : thB ((f : Int), (r : Int)) = true := by unfold thB; simp; omega
  unfold alwF at hc
  rw [if_pos ht] at hc
  unfold mayB at hc
  clear ht
  by_cases k0 : k = 0
  · subst k0
    rw [if_pos rfl] at hc
    by_cases h8 : (n : Int) < 8
    · have f8 : decide ((n : Int) < 8) = true := by simpa using h8
      simp only [h8, decide_true, if_true] at hc
      have HC := Lib.hid hc
      clear hc h8
      go_enter Try.func42, Try.ntmps42
      go_wp2_with fail
      refine HG.out.mono ?_
      rintro e w1 ⟨rfl, hb1⟩
      have HB1 := Lib.hid hb1
      clear hb1
      unfold plV
      go_wp2
      go_ret
      exact ⟨by rw [← HC.out]; rfl, HBX.out _ _ _ HB1.out⟩
    · have f8 : decide ((n : Int) < 8) = false := by simpa using h8
      simp only [h8, decide_false, Bool.false_eq_true, if_false] at hc
      have HC := Lib.hid hc
      clear hc h8
      go_enter Try.func42, Try.ntmps42
      go_wp2_with fail
      refine HG.out.mono ?_
      rintro e w1 ⟨rfl, hb1⟩
      have HB1 := Lib.hid hb1
      clear hb1
      unfold plV
      go_wp2
      go_ret
      exact ⟨by rw [← HC.out]; rfl, HBX.out _ _ _ HB1.out⟩
  rw [if_neg k0] at hc
  have e0 : (k == 0) = false := by simpa using k0
  by_cases k1 : k = 1
  · subst k1
    rw [if_pos rfl] at hc
    obtain rfl | rfl | rfl : r = 1 ∨ r = 2 ∨ r = 3 := by omega
    all_goals
      have HC := Lib.hid hc
      clear hc
      go_enter Try.func42, Try.ntmps42
      go_wp2_with fail
      refine HG.out.mono ?_
      rintro e w1 ⟨rfl, hb1⟩
      have HB1 := Lib.hid hb1
      clear hb1
      unfold plV
      go_wp2
      go_ret
      exact ⟨by rw [← HC.out]; rfl, HBX.out _ _ _ HB1.out⟩
  rw [if_neg k1] at hc
  have e1 : (k == 1) = false := by simpa using k1
  by_cases k2 : k = 2
  · subst k2
    rw [if_pos rfl] at hc
    obtain rfl | rfl | rfl : r = 1 ∨ r = 2 ∨ r = 3 := by omega
    all_goals
      have HC := Lib.hid hc
      clear hc
      go_enter Try.func42, Try.ntmps42
      go_wp2_with fail
      refine HG.out.mono ?_
      rintro e w1 ⟨rfl, hb1⟩
      have HB1 := Lib.hid hb1
      clear hb1
      unfold plV
      go_wp2
      go_ret
      exact ⟨by rw [← HC.out]; rfl, HBX.out _ _ _ HB1.out⟩
  rw [if_neg k2] at hc
  have e2 : (k == 2) = false := by simpa using k2
  have HC := Lib.hid hc
  clear hc
  go_enter Try.func42, Try.ntmps42
  go_wp2_with fail
  refine HG.out.mono ?_
  rintro e w1 ⟨rfl, hb1⟩
  have HB1 := Lib.hid hb1
  clear hb1
  unfold plV
  go_wp2
  go_ret
  exact ⟨by rw [← HC.out]; rfl, HBX.out _ _ _ HB1.out⟩
theorem refAllows_any (b : Nat) (L : List Pl) (n k c : Int) (hc : alwF (atP L n) n k = c) (w : World) (h : RAt w b L) :
    Calls Try.prog 42 #[.pointer (some ⟨b, 0, none⟩), .int .i64 n, .int .i64 k] w fun e w' => e = .returned (.int .i64 c) ∧ Below w.heap.size w w' := by
  have G := refGet_any b L n _ _ rfl rfl w h
  rcases page_cases n with hn | ⟨j, rfl, hj⟩
  · rw [atP_no hn] at hc G
    obtain rfl : 7 = c := hc
    exact refAllows_no _ n k w G
  · rw [atP_is hj] at hc G
    rcases pl_cases h.2 j with hq | ⟨f, r, hq, _, hr, hr3, ht⟩
    · rw [hq] at hc G
      obtain rfl : 7 = c := hc
      exact refAllows_no _ j k w G
    · rw [hq] at hc G
      rw [ht] at G
      exact refAllows_yes _ j f r k c hj hr hr3 hc w G
end Go.Proofs.Ytlgohgjnocoadaa.Gm
