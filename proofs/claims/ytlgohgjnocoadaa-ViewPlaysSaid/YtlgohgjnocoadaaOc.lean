/- The document's In, Get, Put and Sign of layer 2, and octet's Sign: what each returns, for every argument. -/
import Derived.Test.YtlgohgjnocoadaaOb
namespace Go.Proofs.Ytlgohgjnocoadaa.Oc
open Go.RowKit Ut
set_option maxRecDepth 100000
set_option linter.unusedVariables false

theorem refIn_any (a : Option Addr) (n cap : Nat) (i m : Int) (w : World) (hn : n ≤ 9223372036854775807) :
    Calls Try.prog 67 #[.slice a n cap, .int .i64 i, .int .i64 m] w fun e w' => e = .returned (.bool (hold n i m)) ∧ w = w' := by
  cases hw : isW m
  · have HW := Lib.hid hw
    unfold isW at hw
    simp at hw
    have b1 : (m != 1) = true := by simp [hw]
    have b2 : (m != 2) = true := by simp [hw]
    have b3 : (m != 4) = true := by simp [hw]
    clear hw
    go_enter Try.func67, Try.ntmps67
    go_wp2
    go_ret
    exact ⟨congrArg (fun b => Ending.returned (.bool b)) (by unfold hold; rw [HW.out]; rfl), rfl⟩
  · have HW := Lib.hid hw
    obtain ⟨hm1, hm4⟩ := isW_le hw
    obtain rfl | rfl | rfl : m = 1 ∨ m = 2 ∨ m = 4 := by unfold isW at hw; simp at hw; omega
    all_goals
      clear hw
      by_cases h0 : 0 ≤ i
      · by_cases h1 : i ≤ n
        · go_enter Try.func67, Try.ntmps67
          go_wp2
          go_ret
          refine ⟨congrArg (fun b => Ending.returned (.bool b)) ?_, rfl⟩
          unfold hold; rw [HW.out, Bool.eq_iff_iff]; simp; omega
        · go_enter Try.func67, Try.ntmps67
          go_wp2
          go_ret
          refine ⟨congrArg (fun b => Ending.returned (.bool b)) ?_, rfl⟩
          unfold hold; rw [HW.out, Bool.eq_iff_iff]; simp; omega
      · go_enter Try.func67, Try.ntmps67
        go_wp2
        go_ret
        refine ⟨congrArg (fun b => Ending.returned (.bool b)) ?_, rfl⟩
        unfold hold; rw [HW.out, Bool.eq_iff_iff]; simp; omega

theorem refGet_no (a : Option Addr) (n cap : Nat) (i m : Int) (w : World) (hn : n ≤ 9223372036854775807) (h : hold n i m = false) :
    Calls Try.prog 60 #[.slice a n cap, .int .i64 i, .int .i64 m] w fun e w' => e = .returned (.tuple #[.int .u32 0, .int .i64 1]) ∧ w = w' := by
  go_enter Try.func60, Try.ntmps60
  go_wp2_with (go_at_call 67; refine (refIn_any _ _ _ _ _ _ hn).mono ?_; rintro e w' ⟨rfl, rfl⟩)
  go_ret2
  exact ⟨rfl, rfl⟩

theorem refGet_yes (a : Option Addr) (n cap i m B : Nat) (zs : List Int) (w : World) (hn : n ≤ 140737488355328) (hrow : RowK .u8 w B a n zs) (hz : AreBytes zs) (hm : isW m = true) (hi : i + m ≤ n) :
    Calls Try.prog 60 #[.slice a n cap, .int .i64 i, .int .i64 m] w fun e w' => e = .returned (.tuple #[.int .u32 (num ((zs.drop i).take m)), .int .i64 0]) ∧ w = w' := by
  have hh := hold_nat hm hi
  obtain ⟨m1, m4⟩ := isW_le hm
  have HM := Lib.hid hm
  have HR := Lib.hid hrow
  have HZ := Lib.hid hz
  clear hrow hz hm
  have hn' : n ≤ 9223372036854775807 := by omega
  go_enter Try.func60, Try.ntmps60
  go_wp2_with (go_at_call 67; refine (refIn_any _ _ _ _ _ _ hn').mono ?_; rintro e w' ⟨rfl, rfl⟩)
  go_loop [8, 9] (fun v j => ∃ k : Nat, k ≤ m ∧ j = .int .i64 k ∧ v = .int .u32 (num (((zs.drop i).take m).take k))) (fun _ j => m - (intOf j).toNat)
  case atStart => exact ⟨0, Nat.zero_le _, rfl, rfl⟩
  case round =>
    obtain ⟨k, hk, rfl, rfl⟩ := hrel
    by_cases hlt : k < m
    · obtain ⟨x, rfl, _, hx⟩ := HR.out.2 (i + k) (by omega)
      have HL : ((zs.drop i).take m).length = m := by simp [HR.out.1]; omega
      have HS := Lib.hid (add_step ((zs.drop i).take m) ((HZ.out.drop i).take m) k (by omega) (by omega))
      obtain ⟨s, hs⟩ : ∃ s, zs.getD (i + k) 0 = s := ⟨_, rfl⟩
      have e : ((zs.drop i).take m).getD k 0 = zs.getD (i + k) 0 := by simp [List.getD, hlt]
      rw [hs] at hx e
      rw [e] at HS
      have hi1 : (0 : Int) ≤ (i : Int) + (k : Int) := by omega
      have hi2 : (i : Int) + (k : Int) < (n : Int) := by omega
      clear hs e HL
      go_wp2
      go_round
      case rel => exact ⟨k + 1, by omega, by go_num, congrArg _ HS.out⟩
      case measure => simp [intOf]; omega
    · go_wp2
      go_ret2
      exact ⟨by rw [show ((zs.drop i).take m).take k = (zs.drop i).take m from List.take_of_length_le (by simp; omega)]; rfl, rfl⟩

theorem refPut_no (a : Option Addr) (n cap : Nat) (i m v : Int) (w : World) (hn : n ≤ 9223372036854775807) (h : hold n i m = false) :
    Calls Try.prog 58 #[.slice a n cap, .int .i64 i, .int .i64 m, .int .u32 v] w fun e w' => e = .returned (.tuple #[.slice none 0 0, .int .i64 1]) ∧ w = w' := by
  go_enter Try.func58, Try.ntmps58
  go_wp2_with (go_at_call 67; refine (refIn_any _ _ _ _ _ _ hn).mono ?_; rintro e w' ⟨rfl, rfl⟩)
  go_ret2
  exact ⟨rfl, rfl⟩

theorem refPut_own (a : Option Addr) (n cap i m : Nat) (v : Int) (zs : List Int) (w : World) (hn : n ≤ 140737488355328) (hrow : RowK .u8 w w.heap.size a n zs) (hm : isW m = true) (hi : i + m ≤ n) (hv0 : 0 ≤ v) (hv1 : v < 4294967296) :
    Calls Try.prog 58 #[.slice a n cap, .int .i64 i, .int .i64 m, .int .u32 v] w fun e w' =>
      ∃ g c, e = .returned (.tuple #[.slice (some ⟨g, 0, none⟩) n c, .int .i64 0]) ∧ w.heap.size ≤ g ∧ n ≤ c ∧ c ≤ 9223372036854775807 ∧ RowK .u8 w' w'.heap.size (some ⟨g, 0, none⟩) n (putZ zs i m v) ∧ Below w.heap.size w w' := by
  have hh := hold_nat hm hi
  obtain ⟨m1, m4⟩ := isW_le hm
  have HR := Lib.hid hrow
  clear hrow hm
  have HO := Lib.hid (OwnI.made .u8 w w.heap.size 5 (Nat.le_refl _))
  have hn' : n ≤ 9223372036854775807 := by omega
  have HA : Below w.heap.size w (w.alloc (.cells #[] 5)) := (Below.refl _ _).alloc (Nat.le_refl _) _
  go_enter Try.func58, Try.ntmps58
  go_wp2_with (first | (go_at_call 67; refine (refIn_any _ _ _ _ _ _ hn').mono ?_; rintro e w' ⟨rfl, rfl⟩) | (at_builtin; go_loud (refine wpList_append_ints rfl (.tmp 17) (.tmp 18) 30 rfl .u8 w.heap.size 5 1 Try.underlying30 info_byte _ 0 [] rfl HO.out w.heap.size a n cap zs rfl (HR.out.below HA) (by unfold maxLen; omega) (by omega) HA.size ?_); intro v1 w1 ho1 hb1 _))
  obtain ⟨g, c, hv1', hg0, hg1, hc0, hc1⟩ := ho1.out.form (by omega)
  subst hv1'
  have HO1 := Lib.hid ho1.out
  have hbw := HA.trans hb1
  unfold maxLen at hc1
  clear ho1 hb1 HO
  go_loopw [11] (fun j wr => ∃ k : Nat, k ≤ m ∧ j = .int .i64 k ∧ Below w.heap.size w wr ∧ OwnI .u8 wr w.heap.size 5 (.slice (some ⟨g, 0, none⟩) (0 + n) c) (0 + n) (putZ zs i k v)) (fun j _ => m - (intOf j).toNat)
  case atStart => exact ⟨0, Nat.zero_le _, rfl, hbw, by rw [putZ_none]; exact HO1.out⟩
  case round =>
    obtain ⟨k, hk, rfl, hb2, ho2⟩ := hrel
    have HO2 := Lib.hid ho2
    clear ho2 hbw HA
    by_cases hlt : k < m
    · have hx := HO2.out.cellAt (i + k) (by omega)
      have hf := HO2.out.frozenAt (i + k)
      have hi1 : (0 : Int) ≤ (i : Int) + (k : Int) := by omega
      have hi2 : (i : Int) + (k : Int) < (n : Int) := by omega
      have HS := Lib.hid (HO2.out.store (i + k) (byteN v k))
      rw [putZ_step _ _ _ _ (by rw [HR.out.1]; omega)] at HS
      go_wp2
      go_roundw
      case rel => exact ⟨k + 1, by omega, by go_num, hb2.setCell hg0 _, HS.out⟩
      case measure => simp [intOf]; omega
    · obtain rfl : k = m := by omega
      go_wp2
      go_ret2
      refine ⟨g, c, by simp, hg0, by omega, by omega, ?_, hb2⟩
      obtain ⟨a', c', e, _, _, hr⟩ := HO2.out.row
      injection e with e1 e2 e3
      subst e1
      rwa [Nat.zero_add] at hr
theorem refPut_yes (a : Option Addr) (n cap i m : Nat) (v : Int) (zs : List Int) (w : World) (hn : n ≤ 140737488355328) (hrow : RowK .u8 w w.heap.size a n zs) (hm : isW m = true) (hi : i + m ≤ n) (hv0 : 0 ≤ v) (hv1 : v < 4294967296) :
    Calls Try.prog 58 #[.slice a n cap, .int .i64 i, .int .i64 m, .int .u32 v] w fun e w' =>
      ∃ g c, e = .returned (.tuple #[.slice (some ⟨g, 0, none⟩) n c, .int .i64 0]) ∧ RowK .u8 w' w'.heap.size (some ⟨g, 0, none⟩) n (putZ zs i m v) ∧ Below w.heap.size w w' := by
  refine (refPut_own a n cap i m v zs w hn hrow hm hi hv0 hv1).mono ?_
  rintro e w' ⟨g, c, he, _, _, _, hr, hb⟩
  exact ⟨g, c, he, hr, hb⟩
end Go.Proofs.Ytlgohgjnocoadaa.Oc
