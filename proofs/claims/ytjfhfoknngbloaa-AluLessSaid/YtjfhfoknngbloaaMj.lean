/- The walk of hermitagelaw08.AluBack. -/
import Derived.Test.YtjfhfoknngbloaaMg

namespace Go.Proofs.Ytjfhfoknngbloaa.Al
open Go.RowKit Ut
set_option linter.unusedVariables false
set_option maxRecDepth 100000
set_option maxHeartbeats 4000000

/-- what the law asks for, in plain words -/
theorem and_or_xor (a b : Nat) : (a &&& b) ||| (a ^^^ b) = a ||| b := by
  apply Nat.eq_of_testBit_eq
  intro i
  rw [Nat.testBit_or, Nat.testBit_and, Nat.testBit_xor, Nat.testBit_or]
  cases a.testBit i <;> cases b.testBit i <;> rfl
theorem xor_back (a b : Nat) : (a ^^^ b) ^^^ b = a := by
  rw [Nat.xor_assoc, Nat.xor_self, Nat.xor_zero]
theorem reck1 (a b : Nat) : reckN 1 a b = (a + b) % 4294967296 := rfl
theorem reck2 (a b : Nat) : reckN 2 a b = (a + (4294967296 - b)) % 4294967296 := rfl
theorem reck3 (a b : Nat) : reckN 3 a b = a &&& b := rfl
theorem reck4 (a b : Nat) : reckN 4 a b = a ||| b := rfl
theorem reck5 (a b : Nat) : reckN 5 a b = a ^^^ b := rfl
theorem reck10 (a b : Nat) : reckN 10 a b = one1 (decide (a < b)) := by unfold reckN; simp only [Int.reduceEq, if_true, if_false]
theorem reck11 (a b : Nat) : reckN 11 a b = a * b % 4294967296 := by unfold reckN; simp only [Int.reduceEq, if_true, if_false]
theorem reck12 (a b : Nat) : reckN 12 a b = if b = 0 then 4294967295 else a / b := by unfold reckN; simp only [Int.reduceEq, if_true, if_false]
theorem reck13 (a b : Nat) : reckN 13 a b = a % b := by unfold reckN; simp only [Int.reduceEq, if_true, if_false]

theorem back_any (a b : Nat) (ha : a < 4294967296) (hb : b < 4294967296) (w : World) :
    Calls Try.prog 4 #[.int .u32 a, .int .u32 b] w fun e w' => e = .returned (.bool true) ∧ Below w.heap.size w w' := by
  obtain ⟨s, hs⟩ : ∃ s, reckN 1 a b = s := ⟨_, rfl⟩
  obtain ⟨x, hx⟩ : ∃ x, reckN 5 a b = x := ⟨_, rfl⟩
  obtain ⟨q, hq⟩ : ∃ q, reckN 12 a b = q := ⟨_, rfl⟩
  obtain ⟨m, hm⟩ : ∃ m, reckN 13 a b = m := ⟨_, rfl⟩
  obtain ⟨y, hy⟩ : ∃ y, reckN 3 a b = y := ⟨_, rfl⟩
  obtain ⟨z, hz⟩ : ∃ z, reckN 4 a b = z := ⟨_, rfl⟩
  have hsl : s < 4294967296 := by rw [← hs, reck1]; omega
  have hxl : x < 4294967296 := by rw [← hx, reck5]; exact Nat.xor_lt_two_pow (n := 32) ha hb
  have hql : q < 4294967296 := by
    rw [← hq, reck12]; split
    · omega
    · exact Nat.lt_of_le_of_lt (Nat.div_le_self _ _) ha
  have hml : m < 4294967296 := by rw [← hm, reck13]; exact Nat.lt_of_le_of_lt (Nat.mod_le _ _) ha
  have hyl : y < 4294967296 := by rw [← hy, reck3]; exact Nat.and_lt_two_pow (n := 32) _ hb
  have hs2 : reckN 2 s b = a := by rw [← hs, reck1, reck2]; omega
  have hx2 : reckN 5 x b = a := by rw [← hx, reck5, reck5, xor_back]
  have hz2 : reckN 4 y x = z := by rw [← hy, ← hx, ← hz, reck3, reck4, reck4, reck5, and_or_xor]
  have hqm : ∀ h : ¬ b = 0, reckN 1 (reckN 11 q b) m = a ∧ reckN 10 m b = 1 := fun h => by
    have h1 := Nat.div_add_mod a b
    have h2 := Nat.mod_lt a (Nat.pos_of_ne_zero h)
    rw [← hq, ← hm, reck1, reck11, reck12, reck13, reck10, if_neg h, decide_eq_true h2]
    refine ⟨?_, rfl⟩
    rw [Nat.mul_comm]
    generalize b * (a / b) = c at h1
    omega
  have HQM := Lib.hid hqm
  have HS := Lib.hid hs
  have HX := Lib.hid hx
  have HQ := Lib.hid hq
  have HM := Lib.hid hm
  have HY := Lib.hid hy
  have HZ := Lib.hid hz
  have HS2 := Lib.hid hs2
  have HX2 := Lib.hid hx2
  have HZ2 := Lib.hid hz2
  have HB0 := Lib.hid (Below.refl w.heap.size w)
  clear hqm hs hx hq hm hy hz hs2 hx2 hz2
  go_enter Try.func4, Try.ntmps4
  go_wp2_with fail
  refine (law_do 1 a b s ha hb HS.out HB0.out).mono ?_
  rintro e w1 ⟨rfl, hb1⟩
  have HB1 := Lib.hid hb1
  clear hb1
  go_wp2_with fail
  refine (law_do 2 s b a hsl hb HS2.out HB1.out).mono ?_
  rintro e w2 ⟨rfl, hb2⟩
  have HB2 := Lib.hid hb2
  clear hb2
  go_wp2_with fail
  refine (law_do 5 a b x ha hb HX.out HB2.out).mono ?_
  rintro e w3 ⟨rfl, hb3⟩
  have HB3 := Lib.hid hb3
  clear hb3
  go_wp2_with fail
  refine (law_do 5 x b a hxl hb HX2.out HB3.out).mono ?_
  rintro e w4 ⟨rfl, hb4⟩
  have HB4 := Lib.hid hb4
  clear hb4
  go_wp2_with fail
  refine (law_do 12 a b q ha hb HQ.out HB4.out).mono ?_
  rintro e w5 ⟨rfl, hb5⟩
  have HB5 := Lib.hid hb5
  clear hb5
  go_wp2_with fail
  refine (law_do 13 a b m ha hb HM.out HB5.out).mono ?_
  rintro e w6 ⟨rfl, hb6⟩
  have HB6 := Lib.hid hb6
  clear hb6
  by_cases h0 : b = 0
  · subst h0
    go_wp2_with fail
    refine (law_do 3 a 0 y ha hb HY.out HB6.out).mono ?_
    rintro e w10 ⟨rfl, hb10⟩
    have HB10 := Lib.hid hb10
    clear hb10
    go_wp2_with fail
    refine (law_do 5 a 0 x ha hb HX.out HB10.out).mono ?_
    rintro e w11 ⟨rfl, hb11⟩
    have HB11 := Lib.hid hb11
    clear hb11
    go_wp2_with fail
    refine (law_do 4 y x z hyl hxl HZ2.out HB11.out).mono ?_
    rintro e w12 ⟨rfl, hb12⟩
    have HB12 := Lib.hid hb12
    clear hb12
    go_wp2_with fail
    refine (law_do 4 a 0 z ha hb HZ.out HB12.out).mono ?_
    rintro e w13 ⟨rfl, hb13⟩
    have HB13 := Lib.hid hb13
    clear hb13
    go_wp2_with fail
    refine (awake_any HB13.out).mono ?_
    rintro e w14 ⟨rfl, hb14⟩
    have HB14 := Lib.hid hb14
    clear hb14
    go_wp2
    go_ret
    exact ⟨rfl, HB14.out⟩
  · obtain ⟨c, hc⟩ : ∃ c, reckN 11 q b = c := ⟨_, rfl⟩
    have hcl : c < 4294967296 := by rw [← hc, reck11]; omega
    have HC := Lib.hid hc
    have HC2 : Hid (reckN 1 c m = a ∧ reckN 10 m b = 1) := Lib.hid (by rw [← hc]; exact HQM.out h0)
    clear hc
    have hne : ((b : Int) == 0) = false := by rw [beq_eq_false_iff_ne]; omega
    go_wp2_with fail
    refine (law_do 11 q b c hql hb HC.out HB6.out).mono ?_
    rintro e w7 ⟨rfl, hb7⟩
    have HB7 := Lib.hid hb7
    clear hb7
    go_wp2_with fail
    refine (law_do 1 c m a hcl hml HC2.out.1 HB7.out).mono ?_
    rintro e w8 ⟨rfl, hb8⟩
    have HB8 := Lib.hid hb8
    clear hb8
    go_wp2_with fail
    refine (law_do 10 m b 1 hml hb HC2.out.2 HB8.out).mono ?_
    rintro e w9 ⟨rfl, hb9⟩
    have HB9 := Lib.hid hb9
    clear hb9
    go_wp2_with fail
    refine (law_do 3 a b y ha hb HY.out HB9.out).mono ?_
    rintro e w10 ⟨rfl, hb10⟩
    have HB10 := Lib.hid hb10
    clear hb10
    go_wp2_with fail
    refine (law_do 5 a b x ha hb HX.out HB10.out).mono ?_
    rintro e w11 ⟨rfl, hb11⟩
    have HB11 := Lib.hid hb11
    clear hb11
    go_wp2_with fail
    refine (law_do 4 y x z hyl hxl HZ2.out HB11.out).mono ?_
    rintro e w12 ⟨rfl, hb12⟩
    have HB12 := Lib.hid hb12
    clear hb12
    go_wp2_with fail
    refine (law_do 4 a b z ha hb HZ.out HB12.out).mono ?_
    rintro e w13 ⟨rfl, hb13⟩
    have HB13 := Lib.hid hb13
    clear hb13
    go_wp2_with fail
    refine (awake_any HB13.out).mono ?_
    rintro e w14 ⟨rfl, hb14⟩
    have HB14 := Lib.hid hb14
    clear hb14
    go_wp2
    go_ret
    exact ⟨rfl, HB14.out⟩
end Go.Proofs.Ytjfhfoknngbloaa.Al
