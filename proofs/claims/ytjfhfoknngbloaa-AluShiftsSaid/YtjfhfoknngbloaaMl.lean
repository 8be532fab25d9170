/- The walk of hermitagelaw08.AluShifts. -/
import Derived.Test.YtjfhfoknngbloaaMg
import Derived.Test.YtjfhfoknngbloaaMj
import Derived.Test.YtjfhfoknngbloaaMh
namespace Go.Proofs.Ytjfhfoknngbloaa.Al
open Go.RowKit Ut
set_option linter.unusedVariables false
set_option maxRecDepth 100000
set_option maxHeartbeats 4000000

theorem reck6 (a b : Nat) : reckN 6 a b = a * 2 ^ (b % 32) % 4294967296 := by unfold reckN; simp only [Int.reduceEq, if_true, if_false]
theorem reck7 (a b : Nat) : reckN 7 a b = a / 2 ^ (b % 32) := by unfold reckN; simp only [Int.reduceEq, if_true, if_false]
theorem reck8 (a b : Nat) : reckN 8 a b = sarN a (b % 32) := by unfold reckN; simp only [Int.reduceEq, if_true, if_false]
theorem up_one (a k : Nat) (hk : k < 31) : reckN 1 (reckN 6 a k) (reckN 6 a k) = reckN 6 a (k + 1) := by
  rw [reck1, reck6, reck6, Nat.mod_eq_of_lt (show k < 32 by omega), Nat.mod_eq_of_lt (show k + 1 < 32 by omega), Nat.pow_succ, ← Nat.mul_assoc]
  omega
theorem down_one (a k : Nat) (hk : k < 31) : reckN 12 (reckN 7 a k) 2 = reckN 7 a (k + 1) := by
  rw [reck12, reck7, reck7, Nat.mod_eq_of_lt (show k < 32 by omega), Nat.mod_eq_of_lt (show k + 1 < 32 by omega), if_neg (by decide), Nat.pow_succ, Nat.div_div_eq_div_mul]
theorem low_and (a : Nat) : reckN 3 a 2147483647 = a % 2147483648 := by
  rw [reck3]
  exact Nat.and_two_pow_sub_one_eq_mod a 31
theorem sar_low (a k : Nat) : reckN 8 (a % 2147483648) k = reckN 7 (a % 2147483648) k := by
  rw [reck8, reck7]
  unfold sarN
  rw [if_pos (by omega)]
/-- what a round finds -/
def Turn3 (j a k r : Nat) : Prop := reckN (6 + j) a k = r ∧ reckN (6 + j) a (k + 32) = r ∧ reckN (6 + j) a 0 = a
theorem turn3 (j a k : Nat) (hj : j < 3) (ha : a < 4294967296) : ∃ r, Turn3 j a k r := by
  unfold Turn3
  obtain rfl | rfl | rfl : j = 0 ∨ j = 1 ∨ j = 2 := by omega
  · have e : ∀ x, reckN (6 + (0 : Nat)) a x = a * 2 ^ (x % 32) % 4294967296 := reck6 a
    exact ⟨_, rfl, by rw [e, e, Nat.add_mod_right], by rw [e, Nat.zero_mod, Nat.pow_zero, Nat.mul_one, Nat.mod_eq_of_lt ha]⟩
  · have e : ∀ x, reckN (6 + (1 : Nat)) a x = a / 2 ^ (x % 32) := reck7 a
    exact ⟨_, rfl, by rw [e, e, Nat.add_mod_right], by rw [e, Nat.zero_mod, Nat.pow_zero, Nat.div_one]⟩
  · have e : ∀ x, reckN (6 + (2 : Nat)) a x = sarN a (x % 32) := reck8 a
    exact ⟨_, rfl, by rw [e, e, Nat.add_mod_right], by rw [e, Nat.zero_mod, sar_zero a ha]⟩

theorem shifts_law (a n : Nat) (ha : a < 4294967296) (hn : n < 4294967296) (w : World) :
    Calls Try.prog 6 #[.int .u32 a, .int .u32 n] w fun e w' => e = .returned (.bool true) ∧ Below w.heap.size w w' := by
  obtain ⟨k, hk⟩ : ∃ k, n % 31 = k := ⟨_, rfl⟩
  have hkn : (n : Int) % 31 = k := by omega
  have hk31 : k < 31 := by omega
  have hkw : k < 4294967296 := by omega
  have hk1 : k + 1 < 4294967296 := by omega
  have hk32 : k + 32 < 4294967296 := by omega
  obtain ⟨u, hu⟩ : ∃ u, reckN 6 a k = u := ⟨_, rfl⟩
  obtain ⟨u1, hu1⟩ : ∃ u1, reckN 6 a (k + 1) = u1 := ⟨_, rfl⟩
  obtain ⟨d, hd⟩ : ∃ d, reckN 7 a k = d := ⟨_, rfl⟩
  obtain ⟨d1, hd1⟩ : ∃ d1, reckN 7 a (k + 1) = d1 := ⟨_, rfl⟩
  have hul : u < 4294967296 := by rw [← hu, reck6]; omega
  have hdl : d < 4294967296 := by rw [← hd, reck7]; exact Nat.lt_of_le_of_lt (Nat.div_le_self _ _) ha
  have HU2 : Hid (reckN 1 u u = u1) := Lib.hid (by rw [← hu, ← hu1]; exact up_one a k hk31)
  have HD2 : Hid (reckN 12 d 2 = d1) := Lib.hid (by rw [← hd, ← hd1]; exact down_one a k hk31)
  obtain ⟨l, hl⟩ : ∃ l, a % 2147483648 = l := ⟨_, rfl⟩
  obtain ⟨s, hs⟩ : ∃ s, reckN 7 l k = s := ⟨_, rfl⟩
  have HL : Hid (reckN 3 a 2147483647 = l) := Lib.hid (by rw [← hl]; exact low_and a)
  have HS2 : Hid (reckN 8 l k = s) := Lib.hid (by rw [← hs, ← hl]; exact sar_low a k)
  have hll : l < 4294967296 := by omega
  have HS := Lib.hid hs
  have HU := Lib.hid hu
  have HU1 := Lib.hid hu1
  have HD := Lib.hid hd
  have HD1 := Lib.hid hd1
  have HT : Hid (∀ j, j < 3 → ∃ r, Turn3 j a k r) := Lib.hid fun j hj => turn3 j a k hj ha
  have HB0 := Lib.hid (Below.refl w.heap.size w)
  clear hs hl hu hu1 hd hd1 hk
  go_enter Try.func6, Try.ntmps6
  go_wp2_with fail
  refine (law_do 6 a (k + 1) u1 ha hk1 HU1.out HB0.out).mono ?_
  rintro e w1 ⟨rfl, hb1⟩
  have HB1 := Lib.hid hb1
  clear hb1
  go_wp2_with fail
  refine (law_do 6 a k u ha hkw HU.out HB1.out).mono ?_
  rintro e w2 ⟨rfl, hb2⟩
  have HB2 := Lib.hid hb2
  clear hb2
  go_wp2_with fail
  refine (law_do 6 a k u ha hkw HU.out HB2.out).mono ?_
  rintro e w3 ⟨rfl, hb3⟩
  have HB3 := Lib.hid hb3
  clear hb3
  go_wp2_with fail
  refine (law_do 1 u u u1 hul hul HU2.out HB3.out).mono ?_
  rintro e w4 ⟨rfl, hb4⟩
  have HB4 := Lib.hid hb4
  clear hb4
  go_wp2_with fail
  refine (law_do 7 a (k + 1) d1 ha hk1 HD1.out HB4.out).mono ?_
  rintro e w5 ⟨rfl, hb5⟩
  have HB5 := Lib.hid hb5
  clear hb5
  go_wp2_with fail
  refine (law_do 7 a k d ha hkw HD.out HB5.out).mono ?_
  rintro e w6 ⟨rfl, hb6⟩
  have HB6 := Lib.hid hb6
  clear hb6
  go_wp2_with fail
  refine (law_do 12 d 2 d1 hdl (by omega) HD2.out HB6.out).mono ?_
  rintro e w7 ⟨rfl, hb7⟩
  have HB7 := Lib.hid hb7
  clear hb7
  go_wp2
  go_loopw [6] (fun i wr => ∃ j : Nat, j ≤ 3 ∧ i = .int .i64 j ∧ Hid (Below w.heap.size w wr)) (fun i _ => 3 - (intOf i).toNat)
  case atStart => exact ⟨0, by omega, rfl, HB7⟩
  case round =>
    obtain ⟨j, hj, rfl, HB8⟩ := hrel
    by_cases hlt : j < 3
    · obtain ⟨r, hr⟩ := HT.out j hlt
      have HR := Lib.hid hr
      clear hr
      go_wp2_with fail
      refine (law_do _ a k r ha hkw HR.out.1 HB8.out).mono ?_
      rintro e w9 ⟨rfl, hb9⟩
      have HB9 := Lib.hid hb9
      clear hb9
      go_wp2_with fail
      refine (law_do _ a (k + 32) r ha hk32 HR.out.2.1 HB9.out).mono ?_
      rintro e w10 ⟨rfl, hb10⟩
      have HB10 := Lib.hid hb10
      clear hb10
      go_wp2_with fail
      refine (law_do _ a 0 a ha (by omega) HR.out.2.2 HB10.out).mono ?_
      rintro e w11 ⟨rfl, hb11⟩
      have HB11 := Lib.hid hb11
      clear hb11
      go_wp2
      go_round
      case rel => exact ⟨j + 1, by omega, by go_num, HB11⟩
      case measure => simp [intOf]; omega
    · obtain rfl : j = 3 := by omega
      go_wp2_with fail
      refine (law_do 3 a 2147483647 l ha (by omega) HL.out HB8.out).mono ?_
      rintro e w9 ⟨rfl, hb9⟩
      have HB9 := Lib.hid hb9
      clear hb9
      go_wp2_with fail
      refine (law_do 8 l k s hll hkw HS2.out HB9.out).mono ?_
      rintro e w10 ⟨rfl, hb10⟩
      have HB10 := Lib.hid hb10
      clear hb10
      go_wp2_with fail
      refine (law_do 7 l k s hll hkw HS.out HB10.out).mono ?_
      rintro e w11 ⟨rfl, hb11⟩
      have HB11 := Lib.hid hb11
      clear hb11
      go_wp2_with fail
      refine (awake_any HB11.out).mono ?_
      rintro e w12 ⟨rfl, hb12⟩
      have HB12 := Lib.hid hb12
      clear hb12
      go_wp2
      go_ret
      exact ⟨rfl, HB12.out⟩
end Go.Proofs.Ytjfhfoknngbloaa.Al
