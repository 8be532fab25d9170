/- The document's map (hermitageref15): Pages, Allows. -/
import Derived.Test.YtehjcnannagefaaXg
namespace Go.Proofs.Ytehjcnannagefaa.Gm
open Go.RowKit Ut
set_option maxRecDepth 100000
set_option linter.unusedVariables false
set_option maxHeartbeats 4000000

theorem refPages_any (b : Nat) (L : List Pl) (w : World) (h : RAt w b L) :
    Calls Try.prog 16 #[.pointer (some ⟨b, 0, none⟩)] w fun e w' => ∃ a n cap, e = .returned (.slice a n cap) ∧ Hid (RowK .i64 w' w'.heap.size a n (upto L 12)) ∧ Below w.heap.size w w' := by
  have H := Lib.hid h
  clear h
  go_enter Try.func16, Try.ntmps16
  go_wp2
  go_loopw [3, 4] (fun v j wr => ∃ (k n cap : Nat) (a : Option Addr), k ≤ 12 ∧ n ≤ k ∧ v = .slice a n cap ∧ j = .int .i64 k ∧ Hid (OwnI .i64 wr w.heap.size 3 (.slice a n cap) n (upto L k)) ∧ Hid (Below w.heap.size w wr)) (fun _ j _ => 12 - (intOf j).toNat)
  case atStart => exact ⟨0, 0, 0, none, by omega, by omega, rfl, rfl, OwnI.nil _ _ _ _, Below.refl _ _⟩
  case round =>
    obtain ⟨k, n, cap, a, hk, hn, rfl, rfl, HO, HB⟩ := hrel
    by_cases hlt : k < 12
    · have f1 : (k : Int) < 12 := by omega
      have f0 : (0 : Int) ≤ (k : Int) := by omega
      have H3 := Lib.hid hlt
      have HN := Lib.hid hn
      have ct := (H.out.below HB.out H.out.lt).there k hlt
      obtain ⟨t, ht⟩ : ∃ t, thB (plN L k) = t := ⟨_, rfl⟩
      rw [ht] at ct
      have HS : Hid (upto L (k + 1) = upto L k ++ if t = true then [(k : Int)] else []) := Lib.hid (by rw [upto_succ, ht])
      clear hlt hk hn ht
      obtain ⟨xs, hxs⟩ : ∃ xs, upto L k = xs := ⟨_, rfl⟩
      rw [hxs] at HO HS
      clear hxs
      cases t
      · go_wp2
        go_roundw
        case rel => exact ⟨k + 1, n, cap, a, by have := H3.out; omega, by have := HN.out; omega, rfl, by go_num, by rw [HS.out]; simpa using HO, HB⟩
        case measure => have := H3.out; simp [intOf]; omega
      · have HBA := Lib.hid (HB.out.trans (((Below.refl wr.heap.size wr).alloc (Nat.le_refl _) (.cells #[.int .i64 k] 3)).mono HB.out.size))
        have HOA : Hid (OwnI .i64 (wr.alloc (.cells #[.int .i64 k] 3)) w.heap.size 3 (.slice a n cap) n xs) := HO.out.alloc _
        have HRA : Hid (RowK .i64 (wr.alloc (.cells #[.int .i64 k] 3)) (wr.heap.size + 1) (some ⟨wr.heap.size, 0, none⟩) 1 [(k : Int)]) := RowK.new1 .i64 wr k _
        go_wp2_with (refine wpList_append_ints rfl _ _ 23 rfl .i64 w.heap.size 3 8 Try.underlying23 (by kernel_rfl) (.slice a n cap) n xs rfl HOA.out _ _ 1 1 [(k : Int)] rfl HRA.out (by have := HN.out; have := H3.out; unfold maxLen; omega) (by have := HN.out; have := H3.out; omega) HBA.out.size ?_; intro v' w' HO2 hb2 _)
        obtain ⟨g, cap', rfl, _⟩ := HO2.out.form (by omega)
        have HB3 := Lib.hid (HBA.out.trans hb2)
        go_wp2
        go_roundw
        case rel => exact ⟨k + 1, n + 1, cap', some ⟨g, 0, none⟩, by have := H3.out; omega, by have := HN.out; omega, rfl, by go_num, by rw [HS.out]; simpa using HO2, HB3⟩
        case measure => have := H3.out; simp [intOf]; omega
    · have f1 : ¬ (k : Int) < 12 := by omega
      obtain rfl : k = 12 := by omega
      clear hlt hk
      obtain ⟨a', cap', e, _, _, hr⟩ := HO.out.row
      injection e with e1 e2 e3
      subst e1 e3
      have HR := Lib.hid hr
      clear hr
      go_wp2
      go_ret
      exact ⟨a, n, ⟨cap, rfl⟩, HR, HB.out⟩

/-- Allows by what Get says -/
theorem refAllows_no (a : Option Addr) (n k : Int) (w : World) (H : Calls Try.prog 13 #[.pointer a, .int .i64 n] w fun e w' => e = .returned (.tuple #[plV (0, 0), .bool false]) ∧ Below w.heap.size w w') :
    Calls Try.prog 18 #[.pointer a, .int .i64 n, .int .i64 k] w fun e w' => e = .returned (.int .i64 7) ∧ Below w.heap.size w w' := by
  have HG := Lib.hid H
  clear H
  go_enter Try.func18, Try.ntmps18
  go_wp2_with fail
  refine HG.out.mono ?_
  rintro e w1 ⟨rfl, hb1⟩
  have HB1 := Lib.hid (hb1.trans ((box_below w1 0 0).mono hb1.size))
  clear hb1
  unfold plV
  go_wp2
  go_ret
  exact ⟨rfl, HB1.out⟩
theorem refAllows_yes (a : Option Addr) (n f r : Nat) (k : Int) (c : Int) (hn : n < 12) (h0 : 0 < r) (h3 : r ≤ 3) (hc : alwF ((f : Int), (r : Int)) n k = c) (w : World) (H : Calls Try.prog 13 #[.pointer a, .int .i64 n] w fun e w' => e = .returned (.tuple #[plV ((f : Int), (r : Int)), .bool true]) ∧ Below w.heap.size w w') :
    Calls Try.prog 18 #[.pointer a, .int .i64 n, .int .i64 k] w fun e w' => e = .returned (.int .i64 c) ∧ Below w.heap.size w w' := by
  have HG := Lib.hid H
  have HBX : Hid (∀ (W : World) (x y : Int), Below w.heap.size w W → Below w.heap.size w (W.alloc (.cells #[.int .i64 x, .int .i64 y] 30))) := Lib.hid fun W x y h => h.alloc h.size _
  clear H
  have ht : thB ((f : Int), (r : Int)) = true := by unfold thB; simp; omega
  unfold alwF at hc
  rw [if_pos ht] at hc
  unfold mayB at hc
  clear ht
  by_cases k0 : k = 0
  · subst k0
    rw [if_pos rfl] at hc
    by_cases h8 : (n : Int) < 8
    · have f8 : decide ((n : Int) < 8) = true := by simpa using h8
      simp only [h8, decide_true, if_true] at hc
      have HC := Lib.hid hc
      clear hc h8
      go_enter Try.func18, Try.ntmps18
      go_wp2_with fail
      refine HG.out.mono ?_
      rintro e w1 ⟨rfl, hb1⟩
      have HB1 := Lib.hid hb1
      clear hb1
      unfold plV
      go_wp2
      go_ret
      exact ⟨by rw [← HC.out]; rfl, HBX.out _ _ _ HB1.out⟩
    · have f8 : decide ((n : Int) < 8) = false := by simpa using h8
      simp only [h8, decide_false, Bool.false_eq_true, if_false] at hc
      have HC := Lib.hid hc
      clear hc h8
      go_enter Try.func18, Try.ntmps18
      go_wp2_with fail
      refine HG.out.mono ?_
      rintro e w1 ⟨rfl, hb1⟩
      have HB1 := Lib.hid hb1
      clear hb1
      unfold plV
      go_wp2
      go_ret
      exact ⟨by rw [← HC.out]; rfl, HBX.out _ _ _ HB1.out⟩
  rw [if_neg k0] at hc
  have e0 : (k == 0) = false := by simpa using k0
  by_cases k1 : k = 1
  · subst k1
    rw [if_pos rfl] at hc
    obtain rfl | rfl | rfl : r = 1 ∨ r = 2 ∨ r = 3 := by omega
    all_goals
      have HC := Lib.hid hc
      clear hc
      go_enter Try.func18, Try.ntmps18
      go_wp2_with fail
      refine HG.out.mono ?_
      rintro e w1 ⟨rfl, hb1⟩
      have HB1 := Lib.hid hb1
      clear hb1
      unfold plV
      go_wp2
      go_ret
      exact ⟨by rw [← HC.out]; rfl, HBX.out _ _ _ HB1.out⟩
  rw [if_neg k1] at hc
  have e1 : (k == 1) = false := by simpa using k1
  by_cases k2 : k = 2
  · subst k2
    rw [if_pos rfl] at hc
    obtain rfl | rfl | rfl : r = 1 ∨ r = 2 ∨ r = 3 := by omega
    all_goals
      have HC := Lib.hid hc
      clear hc
      go_enter Try.func18, Try.ntmps18
      go_wp2_with fail
      refine HG.out.mono ?_
      rintro e w1 ⟨rfl, hb1⟩
      have HB1 := Lib.hid hb1
      clear hb1
      unfold plV
      go_wp2
      go_ret
      exact ⟨by rw [← HC.out]; rfl, HBX.out _ _ _ HB1.out⟩
  rw [if_neg k2] at hc
  have e2 : (k == 2) = false := by simpa using k2
  have HC := Lib.hid hc
  clear hc
  go_enter Try.func18, Try.ntmps18
  go_wp2_with fail
  refine HG.out.mono ?_
  rintro e w1 ⟨rfl, hb1⟩
  have HB1 := Lib.hid hb1
  clear hb1
  unfold plV
  go_wp2
  go_ret
  exact ⟨by rw [← HC.out]; rfl, HBX.out _ _ _ HB1.out⟩
theorem refAllows_any (b : Nat) (L : List Pl) (n k c : Int) (hc : alwF (atP L n) n k = c) (w : World) (h : RAt w b L) :
    Calls Try.prog 18 #[.pointer (some ⟨b, 0, none⟩), .int .i64 n, .int .i64 k] w fun e w' => e = .returned (.int .i64 c) ∧ Below w.heap.size w w' := by
  have G := refGet_any b L n _ _ rfl rfl w h
  rcases page_cases n with hn | ⟨j, rfl, hj⟩
  · rw [atP_no hn] at hc G
    obtain rfl : 7 = c := hc
    exact refAllows_no _ n k w G
  · rw [atP_is hj] at hc G
    rcases pl_cases h.2 j with hq | ⟨f, r, hq, _, hr, hr3, ht⟩
    · rw [hq] at hc G
      obtain rfl : 7 = c := hc
      exact refAllows_no _ j k w G
    · rw [hq] at hc G
      rw [ht] at G
      exact refAllows_yes _ j f r k c hj hr hr3 hc w G
end Go.Proofs.Ytehjcnannagefaa.Gm
