/- The walk of hermitagelaw08.AluLess. -/
import Derived.Test.YtjfhfoknngbloaaMg
import Derived.Test.YtjfhfoknngbloaaMj
namespace Go.Proofs.Ytjfhfoknngbloaa.Al
open Go.RowKit Ut
set_option linter.unusedVariables false
set_option maxRecDepth 100000
set_option maxHeartbeats 4000000

theorem reck9 (a b : Nat) : reckN 9 a b = one1 (sltN a b) := by unfold reckN; simp only [Int.reduceEq, if_true, if_false]
theorem take28 (a b : Nat) : takeN 28 a b = decide (a = b) := by unfold takeN; simp only [Int.reduceEq, if_true, if_false]
theorem take29 (a b : Nat) : takeN 29 a b = !decide (a = b) := by unfold takeN; simp only [Int.reduceEq, if_true, if_false]
theorem take30 (a b : Nat) : takeN 30 a b = sltN a b := by unfold takeN; simp only [Int.reduceEq, if_true, if_false]
theorem take31 (a b : Nat) : takeN 31 a b = decide (a < b) := by unfold takeN; simp only [Int.reduceEq, if_true, if_false]
/-- with signs: one is less, or the other one is, or they are the same -/
theorem slt_three (a b : Nat) (ha : a < 4294967296) (hb : b < 4294967296) : (sltN a b = true ∧ sltN b a = false ∧ ¬ a = b) ∨ (sltN a b = false ∧ sltN b a = true ∧ ¬ a = b) ∨ (sltN a b = false ∧ sltN b a = false ∧ a = b) := by
  unfold sltN
  simp only [decide_eq_true_eq, decide_eq_false_iff_not]
  omega
theorem lt_three (a b : Nat) : (decide (a < b) = true ∧ decide (b < a) = false ∧ ¬ a = b) ∨ (decide (a < b) = false ∧ decide (b < a) = true ∧ ¬ a = b) ∨ (decide (a < b) = false ∧ decide (b < a) = false ∧ a = b) := by
  simp only [decide_eq_true_eq, decide_eq_false_iff_not]
  omega
/-- what a round finds -/
def Round (j : Nat) (a b L M : Nat) (T : Bool) : Prop := reckN (9 + j) a b = L ∧ reckN (9 + j) b a = M ∧ takeN (30 + j) a b = T ∧ takeE (30 + j) = 0
theorem round_three (j a b : Nat) (hj : j < 2) (ha : a < 4294967296) (hb : b < 4294967296) : (Round j a b 1 0 true ∧ ¬ a = b) ∨ (Round j a b 0 1 false ∧ ¬ a = b) ∨ (Round j a b 0 0 false ∧ a = b) := by
  unfold Round
  obtain rfl | rfl : j = 0 ∨ j = 1 := by omega
  · have e1 : reckN (9 + (0 : Nat)) a b = one1 (sltN a b) := reck9 a b
    have e2 : reckN (9 + (0 : Nat)) b a = one1 (sltN b a) := reck9 b a
    have e3 : takeN (30 + (0 : Nat)) a b = sltN a b := take30 a b
    have e4 : takeE (30 + (0 : Nat)) = 0 := rfl
    rw [e1, e2, e3, e4]
    rcases slt_three a b ha hb with ⟨h1, h2, h3⟩ | ⟨h1, h2, h3⟩ | ⟨h1, h2, h3⟩ <;> rw [h1, h2]
    · exact .inl ⟨⟨rfl, rfl, rfl, rfl⟩, h3⟩
    · exact .inr (.inl ⟨⟨rfl, rfl, rfl, rfl⟩, h3⟩)
    · exact .inr (.inr ⟨⟨rfl, rfl, rfl, rfl⟩, h3⟩)
  · have e1 : reckN (9 + (1 : Nat)) a b = one1 (decide (a < b)) := reck10 a b
    have e2 : reckN (9 + (1 : Nat)) b a = one1 (decide (b < a)) := reck10 b a
    have e3 : takeN (30 + (1 : Nat)) a b = decide (a < b) := take31 a b
    have e4 : takeE (30 + (1 : Nat)) = 0 := rfl
    rw [e1, e2, e3, e4]
    rcases lt_three a b with ⟨h1, h2, h3⟩ | ⟨h1, h2, h3⟩ | ⟨h1, h2, h3⟩ <;> rw [h1, h2]
    · exact .inl ⟨⟨rfl, rfl, rfl, rfl⟩, h3⟩
    · exact .inr (.inl ⟨⟨rfl, rfl, rfl, rfl⟩, h3⟩)
    · exact .inr (.inr ⟨⟨rfl, rfl, rfl, rfl⟩, h3⟩)

theorem less_law (a b : Nat) (ha : a < 4294967296) (hb : b < 4294967296) (w : World) :
    Calls Try.prog 5 #[.int .u32 a, .int .u32 b] w fun e w' => e = .returned (.bool true) ∧ Below w.heap.size w w' := by
  have HB0 := Lib.hid (Below.refl w.heap.size w)
  have H28 := Lib.hid (take28 a b)
  have H29 := Lib.hid (take29 a b)
  go_enter Try.func5, Try.ntmps5
  go_wp2
  go_loopw [5] (fun i wr => ∃ k : Nat, k ≤ 2 ∧ i = .int .i64 k ∧ Hid (Below w.heap.size w wr)) (fun i _ => 2 - (intOf i).toNat)
  case atStart => exact ⟨0, by omega, rfl, HB0⟩
  case round =>
    obtain ⟨k, hk, rfl, HB1⟩ := hrel
    by_cases hlt : k < 2
    · have H3 := Lib.hid (round_three k a b hlt ha hb)
      rcases H3.out with ⟨hr, he⟩ | ⟨hr, he⟩ | ⟨hr, he⟩
      · have HR := Lib.hid hr
        have hne : ((a : Int) == b) = false := by rw [beq_eq_false_iff_ne]; omega
        clear hr he H3
        go_wp2_with fail
        refine (law_do _ a b 1 ha hb HR.out.1 HB1.out).mono ?_
        rintro e w2 ⟨rfl, hb2⟩
        have HB2 := Lib.hid hb2
        clear hb2
        go_wp2_with fail
        refine (law_do _ b a 0 hb ha HR.out.2.1 HB2.out).mono ?_
        rintro e w3 ⟨rfl, hb3⟩
        have HB3 := Lib.hid hb3
        clear hb3
        go_wp2_with fail
        refine (taken_keep _ a b true 0 ha hb HR.out.2.2.1 HR.out.2.2.2 HB3.out).mono ?_
        rintro e w4 ⟨rfl, hb4⟩
        have HB4 := Lib.hid hb4
        clear hb4
        go_wp2
        go_round
        case rel => exact ⟨k + 1, by omega, by go_num, HB4⟩
        case measure => simp [intOf]; omega
      · have HR := Lib.hid hr
        have hne : ((a : Int) == b) = false := by rw [beq_eq_false_iff_ne]; omega
        clear hr he H3
        go_wp2_with fail
        refine (law_do _ a b 0 ha hb HR.out.1 HB1.out).mono ?_
        rintro e w2 ⟨rfl, hb2⟩
        have HB2 := Lib.hid hb2
        clear hb2
        go_wp2_with fail
        refine (law_do _ b a 1 hb ha HR.out.2.1 HB2.out).mono ?_
        rintro e w3 ⟨rfl, hb3⟩
        have HB3 := Lib.hid hb3
        clear hb3
        go_wp2_with fail
        refine (taken_keep _ a b false 0 ha hb HR.out.2.2.1 HR.out.2.2.2 HB3.out).mono ?_
        rintro e w4 ⟨rfl, hb4⟩
        have HB4 := Lib.hid hb4
        clear hb4
        go_wp2
        go_round
        case rel => exact ⟨k + 1, by omega, by go_num, HB4⟩
        case measure => simp [intOf]; omega
      · have HR := Lib.hid hr
        have hne : ((a : Int) == b) = true := by rw [beq_iff_eq]; omega
        clear hr he H3
        go_wp2_with fail
        refine (law_do _ a b 0 ha hb HR.out.1 HB1.out).mono ?_
        rintro e w2 ⟨rfl, hb2⟩
        have HB2 := Lib.hid hb2
        clear hb2
        go_wp2_with fail
        refine (law_do _ b a 0 hb ha HR.out.2.1 HB2.out).mono ?_
        rintro e w3 ⟨rfl, hb3⟩
        have HB3 := Lib.hid hb3
        clear hb3
        go_wp2_with fail
        refine (taken_keep _ a b false 0 ha hb HR.out.2.2.1 HR.out.2.2.2 HB3.out).mono ?_
        rintro e w4 ⟨rfl, hb4⟩
        have HB4 := Lib.hid hb4
        clear hb4
        go_wp2
        go_round
        case rel => exact ⟨k + 1, by omega, by go_num, HB4⟩
        case measure => simp [intOf]; omega
    · obtain rfl : k = 2 := by omega
      by_cases he : a = b
      · have h1 : takeN 28 a b = true := H28.out.trans (decide_eq_true he)
        have h2 : takeN 29 a b = false := H29.out.trans (by rw [decide_eq_true he]; rfl)
        have hne : ((a : Int) == b) = true := by rw [beq_iff_eq]; omega
        have H1 := Lib.hid h1
        have H2 := Lib.hid h2
        clear h1 h2 he
        go_wp2_with fail
        refine (taken_keep 28 a b _ 0 ha hb H1.out rfl HB1.out).mono ?_
        rintro e w2 ⟨rfl, hb2⟩
        have HB2 := Lib.hid hb2
        clear hb2
        go_wp2_with fail
        refine (taken_keep 29 a b _ 0 ha hb H2.out rfl HB2.out).mono ?_
        rintro e w3 ⟨rfl, hb3⟩
        have HB3 := Lib.hid hb3
        clear hb3
        go_wp2_with fail
        refine (awake_any HB3.out).mono ?_
        rintro e w4 ⟨rfl, hb4⟩
        have HB4 := Lib.hid hb4
        clear hb4
        go_wp2
        go_ret
        exact ⟨rfl, HB4.out⟩
      · have h1 : takeN 28 a b = false := H28.out.trans (decide_eq_false he)
        have h2 : takeN 29 a b = true := H29.out.trans (by rw [decide_eq_false he]; rfl)
        have hne : ((a : Int) == b) = false := by rw [beq_eq_false_iff_ne]; omega
        have H1 := Lib.hid h1
        have H2 := Lib.hid h2
        clear h1 h2 he
        go_wp2_with fail
        refine (taken_keep 28 a b _ 0 ha hb H1.out rfl HB1.out).mono ?_
        rintro e w2 ⟨rfl, hb2⟩
        have HB2 := Lib.hid hb2
        clear hb2
        go_wp2_with fail
        refine (taken_keep 29 a b _ 0 ha hb H2.out rfl HB2.out).mono ?_
        rintro e w3 ⟨rfl, hb3⟩
        have HB3 := Lib.hid hb3
        clear hb3
        go_wp2_with fail
        refine (awake_any HB3.out).mono ?_
        rintro e w4 ⟨rfl, hb4⟩
        have HB4 := Lib.hid hb4
        clear hb4
        go_wp2
        go_ret
        exact ⟨rfl, HB4.out⟩
end Go.Proofs.Ytjfhfoknngbloaa.Al
