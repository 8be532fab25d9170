/- Package pool: the library's heaps over pool.lowest: down. -/
import Derived.Test.YthabilokbfieiaaKb
namespace Go.Proofs.Ythabilokbfieiaa.Lo
open Go.RowKit Ut Hp
set_option linter.unusedVariables false

theorem downL_end {l : List Int} {i n : Nat} (h : ¬ 2 * i + 1 < n) : downL l i n = l := by
  unfold downL
  rw [dif_neg h]
theorem downL_no {l : List Int} {i n : Nat} (h : ¬ l.getD (childL l i n) 0 < l.getD i 0) : downL l i n = l := by
  unfold downL
  split
  · first | rfl | rw [if_neg h]
  · rfl
theorem downL_yes {l : List Int} {i n : Nat} (h1 : 2 * i + 1 < n) (h : l.getD (childL l i n) 0 < l.getD i 0) : downL l i n = downL (swapL l i (childL l i n)) (childL l i n) n := by
  conv => lhs; unfold downL
  rw [dif_pos h1, if_pos h]
theorem child_two {l : List Int} {i n : Nat} (h : 2 * i + 2 < n) (hl : l.getD (2 * i + 2) 0 < l.getD (2 * i + 1) 0) : childL l i n = 2 * i + 2 := if_pos ⟨h, hl⟩
theorem child_one {l : List Int} {i n : Nat} (h : ¬ (2 * i + 2 < n ∧ l.getD (2 * i + 2) 0 < l.getD (2 * i + 1) 0)) : childL l i n = 2 * i + 1 := if_neg h
theorem down_facts (k m : Nat) (hk : k ≤ m) (hm : m ≤ 1000000) (h1 : 2 * k + 1 < m) : ∃ j1 j2 : Nat, j1 = 2 * k + 1 ∧ j2 = 2 * k + 2 ∧ 2 * (k : Int) + 1 = (j1 : Int) ∧ (j1 : Int) + 1 = (j2 : Int) ∧ j1 < m ∧ (0 : Int) ≤ (j1 : Int) ∧ (j1 : Int) < (m : Int) ∧ (m : Int) ≤ 1000000 ∧ k < j1 ∧ k < m :=
  ⟨2 * k + 1, 2 * k + 2, rfl, rfl, by omega, by omega, by omega, by omega, by omega, by omega, by omega, by omega⟩

set_option maxHeartbeats 4000000 in
set_option maxRecDepth 100000 in
theorem down_any (ab ao n i m : Nat) (l : List Int) (W : World) (h : HB W ab ao l) (hn : l.length = n) (hmn : m ≤ n) (hi : i ≤ m) :
    Calls Try.prog 47 #[.iface 80 (.pointer (some ⟨ab, ao, none⟩)), .int .i64 i, .int .i64 m] W fun e W' => (∃ b, e = .returned (.bool b)) ∧ HB W' ab ao (downL l i m) ∧ Trn W W' ab ao := by
  have HH := Lib.hid h
  have HM := Lib.hid hmn
  have hm : m ≤ 1000000 := by have := h.1; omega
  clear h hmn
  go_enter Try.func47, Try.ntmps47
  go_wp2
  go_loopw [7] (fun jj wr => ∃ (k : Nat) (l2 : List Int), jj = .int .i64 k ∧ k ≤ m ∧ l2.length = n ∧ Hid (HB wr ab ao l2) ∧ Hid (downL l2 k m = downL l i m) ∧ Hid (Trn W wr ab ao)) (fun jj _ => m - (intOf jj).toNat)
  case atStart => exact ⟨i, l, rfl, hi, hn, HH, rfl, Trn.refl _ _ _⟩
  case round =>
    clear HH
    obtain ⟨k, l2, rfl, hk, hl2, H2, HU, HG⟩ := hrel
    by_cases h1 : 2 * k + 1 < m
    · obtain ⟨j1, j2, ej1, ej2, d1, d2, hj1, d3, d4, d5, hkj, hkm⟩ := down_facts k m hk hm h1
      have hmL := fun q => method_less ⟨ab, ao, none⟩ q wr
      have HL2 := Lib.hid hl2
      have HK := Lib.hid (show k < n by have := HM.out; omega)
      have HJ1 := Lib.hid (show j1 < n by have := HM.out; omega)
      have HKM := Lib.hid (And.intro hkj hj1)
      have H1 := Lib.hid h1
      by_cases h2 : 2 * k + 2 < m
      · have HJ2 := Lib.hid (show j2 < n by have := HM.out; omega)
        have d6 : (j2 : Int) < (m : Int) := by omega
        have HJM := Lib.hid (show j2 < m by omega)
        by_cases hlt : l2.getD j2 0 < l2.getD j1 0
        · have HC := Lib.hid (show childL l2 k m = j2 by rw [child_two h2 (by rw [← ej1, ← ej2]; exact hlt), ej2])
          as_aux_lemma =>
            have hr1 : true = decide (l2.getD j2 0 < l2.getD j1 0) := by simp only [hlt]; rfl
            have HR1 := Lib.hid hr1
            clear hlt hr1 h1 h2 ej1 ej2
            go_wp2_with fail
            refine (less_any ab ao j2 j1 l2 wr H2.out (by rw [HL2.out]; exact HJ2.out) (by rw [HL2.out]; exact HJ1.out) true HR1.out).mono ?_
            rintro e w3 ⟨rfl, hb3⟩
            have H3 := Lib.hid (H2.out.below hb3)
            have HG3 := Lib.hid (HG.out.trans (Trn.of_below H2.out.lt hb3))
            clear hb3 hmL
            have hmL := fun q => method_less ⟨ab, ao, none⟩ q w3
            by_cases hlt2 : l2.getD j2 0 < l2.getD k 0
            · have HU2 := Lib.hid (show downL (swapL l2 k j2) j2 m = downL l i m by have e := downL_yes (l := l2) (i := k) (n := m) H1.out (by rw [HC.out]; exact hlt2); rw [HC.out] at e; exact e.symm.trans HU.out)
              have HR2 := Lib.hid (show true = decide (l2.getD j2 0 < l2.getD k 0) by simp only [hlt2]; rfl)
              clear hlt2 HU
              go_wp2_with fail
              refine (less_any ab ao j2 k l2 w3 H3.out (by rw [HL2.out]; exact HJ2.out) (by rw [HL2.out]; exact HK.out) true HR2.out).mono ?_
              rintro e w5 ⟨rfl, hb5⟩
              have H5 := Lib.hid (H3.out.below hb5)
              have HG5 := Lib.hid (HG3.out.trans (Trn.of_below H3.out.lt hb5))
              have hmS := fun q => method_swap ⟨ab, ao, none⟩ q w5
              clear hb5 hmL
              go_wp2_with fail
              refine (swap_any ab ao k j2 l2 w5 H5.out (by rw [HL2.out]; exact HK.out) (by rw [HL2.out]; exact HJ2.out)).mono ?_
              rintro e w6 ⟨rfl, ho6, hg6⟩
              have H6 := Lib.hid ho6
              have HG6 := Lib.hid (HG5.out.trans hg6)
              clear ho6 hg6 hmS
              go_wp2
              go_roundw
              case rel => exact ⟨j2, swapL l2 k j2, rfl, Nat.le_of_lt HJM.out, (length_swapL _ _ _).trans hl2, H6, HU2, HG6⟩
              case measure => have h7 := HKM.out; have h8 := HJM.out; simp [intOf]; omega
            · have HE := Lib.hid (show downL l i m = l2 by rw [← HU.out, downL_no (by rw [HC.out]; exact hlt2)])
              have HR2 := Lib.hid (show false = decide (l2.getD j2 0 < l2.getD k 0) by simp only [hlt2]; rfl)
              clear hlt2 HU
              go_wp2_with fail
              refine (less_any ab ao j2 k l2 w3 H3.out (by rw [HL2.out]; exact HJ2.out) (by rw [HL2.out]; exact HK.out) false HR2.out).mono ?_
              rintro e w5 ⟨rfl, hb5⟩
              have H5 := Lib.hid (H3.out.below hb5)
              have HG5 := Lib.hid (HG3.out.trans (Trn.of_below H3.out.lt hb5))
              clear hb5 hmL
              go_wp2
              go_ret
              exact ⟨⟨_, rfl⟩, by rw [HE.out]; exact H5.out, HG5.out⟩
        · have HC := Lib.hid (show childL l2 k m = j1 by rw [child_one (by rw [← ej1, ← ej2]; exact fun q => hlt q.2), ej1])
          as_aux_lemma =>
            have hr1 : false = decide (l2.getD j2 0 < l2.getD j1 0) := by simp only [hlt]; rfl
            have HR1 := Lib.hid hr1
            clear hlt hr1 h1 h2 ej1 ej2
            go_wp2_with fail
            refine (less_any ab ao j2 j1 l2 wr H2.out (by rw [HL2.out]; exact HJ2.out) (by rw [HL2.out]; exact HJ1.out) false HR1.out).mono ?_
            rintro e w3 ⟨rfl, hb3⟩
            have H3 := Lib.hid (H2.out.below hb3)
            have HG3 := Lib.hid (HG.out.trans (Trn.of_below H2.out.lt hb3))
            clear hb3 hmL
            have hmL := fun q => method_less ⟨ab, ao, none⟩ q w3
            by_cases hlt2 : l2.getD j1 0 < l2.getD k 0
            · have HU2 := Lib.hid (show downL (swapL l2 k j1) j1 m = downL l i m by have e := downL_yes (l := l2) (i := k) (n := m) H1.out (by rw [HC.out]; exact hlt2); rw [HC.out] at e; exact e.symm.trans HU.out)
              have HR2 := Lib.hid (show true = decide (l2.getD j1 0 < l2.getD k 0) by simp only [hlt2]; rfl)
              clear hlt2 HU
              go_wp2_with fail
              refine (less_any ab ao j1 k l2 w3 H3.out (by rw [HL2.out]; exact HJ1.out) (by rw [HL2.out]; exact HK.out) true HR2.out).mono ?_
              rintro e w5 ⟨rfl, hb5⟩
              have H5 := Lib.hid (H3.out.below hb5)
              have HG5 := Lib.hid (HG3.out.trans (Trn.of_below H3.out.lt hb5))
              have hmS := fun q => method_swap ⟨ab, ao, none⟩ q w5
              clear hb5 hmL
              go_wp2_with fail
              refine (swap_any ab ao k j1 l2 w5 H5.out (by rw [HL2.out]; exact HK.out) (by rw [HL2.out]; exact HJ1.out)).mono ?_
              rintro e w6 ⟨rfl, ho6, hg6⟩
              have H6 := Lib.hid ho6
              have HG6 := Lib.hid (HG5.out.trans hg6)
              clear ho6 hg6 hmS
              go_wp2
              go_roundw
              case rel => exact ⟨j1, swapL l2 k j1, rfl, Nat.le_of_lt HKM.out.2, (length_swapL _ _ _).trans hl2, H6, HU2, HG6⟩
              case measure => have h7 := HKM.out; have h8 := HKM.out.2; simp [intOf]; omega
            · have HE := Lib.hid (show downL l i m = l2 by rw [← HU.out, downL_no (by rw [HC.out]; exact hlt2)])
              have HR2 := Lib.hid (show false = decide (l2.getD j1 0 < l2.getD k 0) by simp only [hlt2]; rfl)
              clear hlt2 HU
              go_wp2_with fail
              refine (less_any ab ao j1 k l2 w3 H3.out (by rw [HL2.out]; exact HJ1.out) (by rw [HL2.out]; exact HK.out) false HR2.out).mono ?_
              rintro e w5 ⟨rfl, hb5⟩
              have H5 := Lib.hid (H3.out.below hb5)
              have HG5 := Lib.hid (HG3.out.trans (Trn.of_below H3.out.lt hb5))
              clear hb5 hmL
              go_wp2
              go_ret
              exact ⟨⟨_, rfl⟩, by rw [HE.out]; exact H5.out, HG5.out⟩
      · have d6 : ¬ (j2 : Int) < (m : Int) := by omega
        have HC := Lib.hid (show childL l2 k m = j1 by rw [child_one (by exact fun q => h2 q.1), ej1])
        as_aux_lemma =>
          clear h1 h2 ej1 ej2
          by_cases hlt2 : l2.getD j1 0 < l2.getD k 0
          · have HU2 := Lib.hid (show downL (swapL l2 k j1) j1 m = downL l i m by have e := downL_yes (l := l2) (i := k) (n := m) H1.out (by rw [HC.out]; exact hlt2); rw [HC.out] at e; exact e.symm.trans HU.out)
            have HR2 := Lib.hid (show true = decide (l2.getD j1 0 < l2.getD k 0) by simp only [hlt2]; rfl)
            clear hlt2 HU
            go_wp2_with fail
            refine (less_any ab ao j1 k l2 wr H2.out (by rw [HL2.out]; exact HJ1.out) (by rw [HL2.out]; exact HK.out) true HR2.out).mono ?_
            rintro e w5 ⟨rfl, hb5⟩
            have H5 := Lib.hid (H2.out.below hb5)
            have HG5 := Lib.hid (HG.out.trans (Trn.of_below H2.out.lt hb5))
            have hmS := fun q => method_swap ⟨ab, ao, none⟩ q w5
            clear hb5 hmL
            go_wp2_with fail
            refine (swap_any ab ao k j1 l2 w5 H5.out (by rw [HL2.out]; exact HK.out) (by rw [HL2.out]; exact HJ1.out)).mono ?_
            rintro e w6 ⟨rfl, ho6, hg6⟩
            have H6 := Lib.hid ho6
            have HG6 := Lib.hid (HG5.out.trans hg6)
            clear ho6 hg6 hmS
            go_wp2
            go_roundw
            case rel => exact ⟨j1, swapL l2 k j1, rfl, Nat.le_of_lt HKM.out.2, (length_swapL _ _ _).trans hl2, H6, HU2, HG6⟩
            case measure => have h7 := HKM.out; have h8 := HKM.out.2; simp [intOf]; omega
          · have HE := Lib.hid (show downL l i m = l2 by rw [← HU.out, downL_no (by rw [HC.out]; exact hlt2)])
            have HR2 := Lib.hid (show false = decide (l2.getD j1 0 < l2.getD k 0) by simp only [hlt2]; rfl)
            clear hlt2 HU
            go_wp2_with fail
            refine (less_any ab ao j1 k l2 wr H2.out (by rw [HL2.out]; exact HJ1.out) (by rw [HL2.out]; exact HK.out) false HR2.out).mono ?_
            rintro e w5 ⟨rfl, hb5⟩
            have H5 := Lib.hid (H2.out.below hb5)
            have HG5 := Lib.hid (HG.out.trans (Trn.of_below H2.out.lt hb5))
            clear hb5 hmL
            go_wp2
            go_ret
            exact ⟨⟨_, rfl⟩, by rw [HE.out]; exact H5.out, HG5.out⟩
    · have HE := Lib.hid (show downL l i m = l2 by rw [← HU.out, downL_end h1])
      have d1 : (m : Int) ≤ 2 * (k : Int) + 1 := by omega
      have d5 : (k : Int) ≤ 1000000 := by omega
      clear h1
      go_wp2
      go_ret
      exact ⟨⟨_, rfl⟩, by rw [HE.out]; exact H2.out, HG.out⟩
end Go.Proofs.Ythabilokbfieiaa.Lo
