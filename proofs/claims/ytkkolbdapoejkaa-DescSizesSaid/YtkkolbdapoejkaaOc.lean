/- The document's In, Get, Put and Sign of layer 2, and octet's Sign: what each returns, for every argument. -/
import Derived.Test.YtkkolbdapoejkaaOb
namespace Go.Proofs.Ytkkolbdapoejkaa.Oc
open Go.RowKit Ut
set_option maxRecDepth 100000
set_option linter.unusedVariables false

theorem refIn_any (a : Option Addr) (n cap : Nat) (i m : Int) (w : World) (hn : n ≤ 9223372036854775807) :
    Calls Try.prog 30 #[.slice a n cap, .int .i64 i, .int .i64 m] w fun e w' => e = .returned (.bool (hold n i m)) ∧ w = w' := by
  cases hw : isW m
  · have HW := Lib.hid hw
    unfold isW at hw
    simp at hw
    have b1 : (m != 1) = true := by simp [hw]
    have b2 : (m != 2) = true := by simp [hw]
    have b3 : (m != 4) = true := by simp [hw]
    clear hw
    go_enter Try.func30, Try.ntmps30
    go_wp2
    go_ret
    exact ⟨congrArg (fun b => Ending.returned (.bool b)) (by unfold hold; rw [HW.out]; rfl), rfl⟩
  · have HW := Lib.hid hw
    obtain ⟨hm1, hm4⟩ := isW_le hw
    obtain rfl | rfl | rfl : m = 1 ∨ m = 2 ∨ m = 4 := by unfold isW at hw; simp at hw; omega
    all_goals
      clear hw
      by_cases h0 : 0 ≤ i
      · by_cases h1 : i ≤ n
        · go_enter Try.func30, Try.ntmps30
          go_wp2
          go_ret
          refine ⟨congrArg (fun b => Ending.returned (.bool b)) ?_, rfl⟩
          unfold hold; rw [HW.out, Bool.eq_iff_iff]; simp; omega
        · go_enter Try.func30, Try.ntmps30
          go_wp2
          go_ret
          refine ⟨congrArg (fun b => Ending.returned (.bool b)) ?_, rfl⟩
          unfold hold; rw [HW.out, Bool.eq_iff_iff]; simp; omega
      · go_enter Try.func30, Try.ntmps30
        go_wp2
        go_ret
        refine ⟨congrArg (fun b => Ending.returned (.bool b)) ?_, rfl⟩
        unfold hold; rw [HW.out, Bool.eq_iff_iff]; simp; omega

theorem refGet_no (a : Option Addr) (n cap : Nat) (i m : Int) (w : World) (hn : n ≤ 9223372036854775807) (h : hold n i m = false) :
    Calls Try.prog 28 #[.slice a n cap, .int .i64 i, .int .i64 m] w fun e w' => e = .returned (.tuple #[.int .u32 0, .int .i64 1]) ∧ w = w' := by
  go_enter Try.func28, Try.ntmps28
  go_wp2_with (go_at_call 30; refine (refIn_any _ _ _ _ _ _ hn).mono ?_; rintro e w' ⟨rfl, rfl⟩)
  go_ret2
  exact ⟨rfl, rfl⟩

theorem refGet_yes (a : Option Addr) (n cap i m B : Nat) (zs : List Int) (w : World) (hn : n ≤ 140737488355328) (hrow : RowK .u8 w B a n zs) (hz : AreBytes zs) (hm : isW m = true) (hi : i + m ≤ n) :
    Calls Try.prog 28 #[.slice a n cap, .int .i64 i, .int .i64 m] w fun e w' => e = .returned (.tuple #[.int .u32 (num ((zs.drop i).take m)), .int .i64 0]) ∧ w = w' := by
  have hh := hold_nat hm hi
  obtain ⟨m1, m4⟩ := isW_le hm
  have HM := Lib.hid hm
  have HR := Lib.hid hrow
  have HZ := Lib.hid hz
  clear hrow hz hm
  have hn' : n ≤ 9223372036854775807 := by omega
  go_enter Try.func28, Try.ntmps28
  go_wp2_with (go_at_call 30; refine (refIn_any _ _ _ _ _ _ hn').mono ?_; rintro e w' ⟨rfl, rfl⟩)
  go_loop [8, 9] (fun v j => ∃ k : Nat, k ≤ m ∧ j = .int .i64 k ∧ v = .int .u32 (num (((zs.drop i).take m).take k))) (fun _ j => m - (intOf j).toNat)
  case atStart => exact ⟨0, Nat.zero_le _, rfl, rfl⟩
  case round =>
    obtain ⟨k, hk, rfl, rfl⟩ := hrel
    by_cases hlt : k < m
    · obtain ⟨x, rfl, _, hx⟩ := HR.out.2 (i + k) (by omega)
      have HL : ((zs.drop i).take m).length = m := by simp [HR.out.1]; omega
      have HS := Lib.hid (add_step ((zs.drop i).take m) ((HZ.out.drop i).take m) k (by omega) (by omega))
      obtain ⟨s, hs⟩ : ∃ s, zs.getD (i + k) 0 = s := ⟨_, rfl⟩
      have e : ((zs.drop i).take m).getD k 0 = zs.getD (i + k) 0 := by simp [List.getD, hlt]
      rw [hs] at hx e
      rw [e] at HS
      have hi1 : (0 : Int) ≤ (i : Int) + (k : Int) := by omega
      have hi2 : (i : Int) + (k : Int) < (n : Int) := by omega
      clear hs e HL
      go_wp2
      go_round
      case rel => exact ⟨k + 1, by omega, by go_num, congrArg _ HS.out⟩
      case measure => simp [intOf]; omega
    · go_wp2
      go_ret2
      exact ⟨by rw [show ((zs.drop i).take m).take k = (zs.drop i).take m from List.take_of_length_le (by simp; omega)]; rfl, rfl⟩

end Go.Proofs.Ytkkolbdapoejkaa.Oc
