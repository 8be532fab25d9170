/- The library's heaps, walked once for whatever is kept: down. Serves all packages. -/
import Derived.Test.YtgcpcffgpokbfaaHv
namespace Go.Proofs.Ytgcpcffgpokbfaa.Hg
open Go.RowKit Ut
set_option maxRecDepth 100000
set_option linter.unusedVariables false
set_option maxHeartbeats 4000000

section
variable {α : Type} [Inhabited α] {T : TypeId} {p : Value} {ky : α → Int} {St : World → List α → Prop} {K : World → World → Prop}
theorem downL_end {l : List α} {i n : Nat} (h : ¬ 2 * i + 1 < n) : downL ky l i n = l := by
  unfold downL
  rw [dif_neg h]
theorem downL_no {l : List α} {i n : Nat} (h : ¬ vl ky l (childL ky l i n) < vl ky l i) : downL ky l i n = l := by
  unfold downL
  split
  · first | rfl | rw [if_neg h]
  · rfl
theorem downL_yes {l : List α} {i n : Nat} (h1 : 2 * i + 1 < n) (h : vl ky l (childL ky l i n) < vl ky l i) : downL ky l i n = downL ky (swapL l i (childL ky l i n)) (childL ky l i n) n := by
  conv => lhs; unfold downL
  rw [dif_pos h1, if_pos h]
theorem child_two {l : List α} {i n : Nat} (h : 2 * i + 2 < n) (hl : vl ky l (2 * i + 2) < vl ky l (2 * i + 1)) : childL ky l i n = 2 * i + 2 := if_pos ⟨h, hl⟩
theorem child_one {l : List α} {i n : Nat} (h : ¬ (2 * i + 2 < n ∧ vl ky l (2 * i + 2) < vl ky l (2 * i + 1))) : childL ky l i n = 2 * i + 1 := if_neg h
theorem down_facts (k m : Nat) (hk : k ≤ m) (hm : m ≤ 1000000) (h1 : 2 * k + 1 < m) : ∃ j1 j2 : Nat, j1 = 2 * k + 1 ∧ j2 = 2 * k + 2 ∧ 2 * (k : Int) + 1 = (j1 : Int) ∧ (j1 : Int) + 1 = (j2 : Int) ∧ j1 < m ∧ (0 : Int) ≤ (j1 : Int) ∧ (j1 : Int) < (m : Int) ∧ (k : Int) ≤ 1000000 ∧ k < j1 ∧ k < m :=
  ⟨2 * k + 1, 2 * k + 2, rfl, rfl, by omega, by omega, by omega, by omega, by omega, by omega, by omega, by omega⟩

theorem down_by (M : Heaps T p ky St K) (i m n : Nat) (l : List α) (W : World) (h : St W l) (hn : l.length = n) (hmn : m ≤ n) (hi : i ≤ m) :
    Calls Try.prog 40 #[.iface T p, .int .i64 i, .int .i64 m] W fun e W' => e = .returned (.bool (movesL ky l i m)) ∧ St W' (downL ky l i m) ∧ K W W' := by
  have HH := Lib.hid h
  have HM := Lib.hid M
  have HMN := Lib.hid hmn
  have hm : m ≤ 1000000 := by have := M.bd W l h; omega
  have HR0 := Lib.hid (M.refl W)
  clear h M hmn
  go_enter Try.func40, Try.ntmps40
  go_wp2
  go_loopw [7] (fun jj wr => ∃ (k : Nat) (l2 : List α), jj = .int .i64 k ∧ k ≤ m ∧ i ≤ k ∧ l2.length = n ∧ Hid (St wr l2) ∧ Hid (downL ky l2 k m = downL ky l i m) ∧ Hid ((k = i ∧ l2 = l) ∨ (i < k ∧ movesL ky l i m = true)) ∧ Hid (K W wr)) (fun jj _ => m - (intOf jj).toNat)
  case atStart => exact ⟨i, l, rfl, hi, Nat.le_refl _, hn, HH, rfl, Lib.hid (.inl ⟨rfl, rfl⟩), HR0⟩
  case round =>
    clear HH HR0
    obtain ⟨k, l2, rfl, hk, hki, hl2, H2, HU, HMV, HG⟩ := hrel
    have HKI := Lib.hid hki
    by_cases h1 : 2 * k + 1 < m
    · obtain ⟨j1, j2, ej1, ej2, d1, d2, hj1, d3, d4, d5, hkj, hkm⟩ := down_facts k m hk hm h1
      have HL2 := Lib.hid hl2
      have Hk := Lib.hid (show k < n by have := HMN.out; omega)
      have Hj1 := Lib.hid (show j1 < n by have := HMN.out; omega)
      have HKM := Lib.hid (And.intro hkj hj1)
      have H1 := Lib.hid h1
      by_cases h2 : 2 * k + 2 < m
      · have Hj2 := Lib.hid (show j2 < n by have := HMN.out; omega)
        have d6 : (j2 : Int) < (m : Int) := by omega
        have HJM := Lib.hid (show j2 < m by omega)
        have HKJ := Lib.hid (show k < j2 by omega)
        obtain ⟨t1, ht1⟩ : ∃ t, decide (vl ky l2 j2 < vl ky l2 j1) = t := ⟨_, rfl⟩
        have HT1 := Lib.hid ht1
        cases t1
        · have HC := Lib.hid (show childL ky l2 k m = j1 by rw [child_one (by rw [← ej1, ← ej2]; exact fun q => by simp [q.2] at ht1), ej1])
          have HCG := Lib.hid hkj
          have HCM := Lib.hid hj1
          obtain ⟨t2, ht2⟩ : ∃ t, decide (vl ky l2 j1 < vl ky l2 k) = t := ⟨_, rfl⟩
          have HT2 := Lib.hid ht2
          as_aux_lemma =>
            clear ht1 ht2 h1 h2 ej1 ej2 hki hl2 hk hkj hj1 hkm
            obtain ⟨fla, rla, hmLa, henLa, hcLa⟩ := HM.out.less wr l2 j2 j1 _ H2.out (by rw [HL2.out]; exact Hj2.out) (by rw [HL2.out]; exact Hj1.out) HT1.out
            have HCLa := Lib.hid hcLa
            clear hcLa
            go_wp2_with fail
            refine HCLa.out.mono ?_
            rintro e w3 ⟨rfl, h3, hk3⟩
            have H3w3 := Lib.hid h3
            have G3w3 := Lib.hid (HM.out.trans _ _ _ HG.out hk3)
            clear h3 hk3 hmLa henLa HCLa
            cases t2
            · have HE := Lib.hid (show downL ky l i m = l2 by rw [← HU.out, downL_no (by rw [HC.out]; simpa using HT2.out)])
              have HMF : Hid (k = i → movesL ky l i m = false) := Lib.hid (fun e => by
                have e2 := HMV.out.resolve_right (fun q => by omega)
                obtain ⟨rfl, rfl⟩ := e2
                unfold movesL; rw [HC.out]; simp [HT2.out])
              obtain ⟨flb, rlb, hmLb, henLb, hcLb⟩ := HM.out.less w3 l2 j1 k _ H3w3.out (by rw [HL2.out]; exact Hj1.out) (by rw [HL2.out]; exact Hk.out) HT2.out
              have HCLb := Lib.hid hcLb
              clear hcLb
              go_wp2_with fail
              refine HCLb.out.mono ?_
              rintro e w5 ⟨rfl, h3, hk3⟩
              have H3w5 := Lib.hid h3
              have G3w5 := Lib.hid (HM.out.trans _ _ _ G3w3.out hk3)
              clear h3 hk3 hmLb henLb HCLb
              have HMZ : Hid (movesL ky l i m = decide (i < k)) := Lib.hid (by
                rcases HMV.out with ⟨hki, hll⟩ | ⟨hik, hmv⟩
                · rw [HMF.out hki]; simp [hki]
                · rw [hmv]; simp [hik])
              go_wp2
              go_ret
              exact ⟨by rw [HMZ.out]; rfl, by rw [HE.out]; exact H3w5.out, G3w5.out⟩
            · have HU2 := Lib.hid (show downL ky (swapL l2 k j1) j1 m = downL ky l i m by have e := downL_yes (ky := ky) (l := l2) (i := k) (n := m) H1.out (by rw [HC.out]; simpa using HT2.out); rw [HC.out] at e; exact e.symm.trans HU.out)
              have HMV2 : Hid ((j1 = i ∧ swapL l2 k j1 = l) ∨ (i < j1 ∧ movesL ky l i m = true)) := Lib.hid (.inr ⟨by have := HKI.out; have := HCG.out; omega, by
                rcases HMV.out with ⟨e1, e2⟩ | ⟨_, e2⟩
                · subst e1 e2
                  unfold movesL; rw [HC.out]; simp [H1.out]; simpa using HT2.out
                · exact e2⟩)
              obtain ⟨flb, rlb, hmLb, henLb, hcLb⟩ := HM.out.less w3 l2 j1 k _ H3w3.out (by rw [HL2.out]; exact Hj1.out) (by rw [HL2.out]; exact Hk.out) HT2.out
              have HCLb := Lib.hid hcLb
              clear hcLb
              go_wp2_with fail
              refine HCLb.out.mono ?_
              rintro e w5 ⟨rfl, h3, hk3⟩
              have H3w5 := Lib.hid h3
              have G3w5 := Lib.hid (HM.out.trans _ _ _ G3w3.out hk3)
              clear h3 hk3 hmLb henLb HCLb
              obtain ⟨fs, rs, hmS, henS, hcS⟩ := HM.out.swap w5 l2 k j1 H3w5.out (by rw [HL2.out]; exact Hk.out) (by rw [HL2.out]; exact Hj1.out)
              have HCS := Lib.hid hcS
              clear hcS
              go_wp2_with fail
              refine HCS.out.mono ?_
              rintro e w6 ⟨rfl, h6, hk6⟩
              have H6 := Lib.hid h6
              have G6 := Lib.hid (HM.out.trans _ _ _ G3w5.out hk6)
              clear h6 hk6 hmS henS HCS
              go_wp2
              go_roundw
              case rel => exact ⟨j1, swapL l2 k j1, rfl, Nat.le_of_lt HCM.out, Nat.le_trans HKI.out (Nat.le_of_lt HCG.out), (length_swapL _ _ _).trans HL2.out, H6, HU2, HMV2, G6⟩
              case measure => have h7 := HCG.out; have h8 := HCM.out; simp [intOf]; omega
        · have HC := Lib.hid (show childL ky l2 k m = j2 by rw [child_two h2 (by rw [← ej1, ← ej2]; simpa using ht1), ej2])
          have HCG := HKJ
          have HCM := HJM
          obtain ⟨t2, ht2⟩ : ∃ t, decide (vl ky l2 j2 < vl ky l2 k) = t := ⟨_, rfl⟩
          have HT2 := Lib.hid ht2
          as_aux_lemma =>
            clear ht1 ht2 h1 h2 ej1 ej2 hki hl2 hk hkj hj1 hkm
            obtain ⟨fla, rla, hmLa, henLa, hcLa⟩ := HM.out.less wr l2 j2 j1 _ H2.out (by rw [HL2.out]; exact Hj2.out) (by rw [HL2.out]; exact Hj1.out) HT1.out
            have HCLa := Lib.hid hcLa
            clear hcLa
            go_wp2_with fail
            refine HCLa.out.mono ?_
            rintro e w3 ⟨rfl, h3, hk3⟩
            have H3w3 := Lib.hid h3
            have G3w3 := Lib.hid (HM.out.trans _ _ _ HG.out hk3)
            clear h3 hk3 hmLa henLa HCLa
            cases t2
            · have HE := Lib.hid (show downL ky l i m = l2 by rw [← HU.out, downL_no (by rw [HC.out]; simpa using HT2.out)])
              have HMF : Hid (k = i → movesL ky l i m = false) := Lib.hid (fun e => by
                have e2 := HMV.out.resolve_right (fun q => by omega)
                obtain ⟨rfl, rfl⟩ := e2
                unfold movesL; rw [HC.out]; simp [HT2.out])
              obtain ⟨flb, rlb, hmLb, henLb, hcLb⟩ := HM.out.less w3 l2 j2 k _ H3w3.out (by rw [HL2.out]; exact Hj2.out) (by rw [HL2.out]; exact Hk.out) HT2.out
              have HCLb := Lib.hid hcLb
              clear hcLb
              go_wp2_with fail
              refine HCLb.out.mono ?_
              rintro e w5 ⟨rfl, h3, hk3⟩
              have H3w5 := Lib.hid h3
              have G3w5 := Lib.hid (HM.out.trans _ _ _ G3w3.out hk3)
              clear h3 hk3 hmLb henLb HCLb
              have HMZ : Hid (movesL ky l i m = decide (i < k)) := Lib.hid (by
                rcases HMV.out with ⟨hki, hll⟩ | ⟨hik, hmv⟩
                · rw [HMF.out hki]; simp [hki]
                · rw [hmv]; simp [hik])
              go_wp2
              go_ret
              exact ⟨by rw [HMZ.out]; rfl, by rw [HE.out]; exact H3w5.out, G3w5.out⟩
            · have HU2 := Lib.hid (show downL ky (swapL l2 k j2) j2 m = downL ky l i m by have e := downL_yes (ky := ky) (l := l2) (i := k) (n := m) H1.out (by rw [HC.out]; simpa using HT2.out); rw [HC.out] at e; exact e.symm.trans HU.out)
              have HMV2 : Hid ((j2 = i ∧ swapL l2 k j2 = l) ∨ (i < j2 ∧ movesL ky l i m = true)) := Lib.hid (.inr ⟨by have := HKI.out; have := HCG.out; omega, by
                rcases HMV.out with ⟨e1, e2⟩ | ⟨_, e2⟩
                · subst e1 e2
                  unfold movesL; rw [HC.out]; simp [H1.out]; simpa using HT2.out
                · exact e2⟩)
              obtain ⟨flb, rlb, hmLb, henLb, hcLb⟩ := HM.out.less w3 l2 j2 k _ H3w3.out (by rw [HL2.out]; exact Hj2.out) (by rw [HL2.out]; exact Hk.out) HT2.out
              have HCLb := Lib.hid hcLb
              clear hcLb
              go_wp2_with fail
              refine HCLb.out.mono ?_
              rintro e w5 ⟨rfl, h3, hk3⟩
              have H3w5 := Lib.hid h3
              have G3w5 := Lib.hid (HM.out.trans _ _ _ G3w3.out hk3)
              clear h3 hk3 hmLb henLb HCLb
              obtain ⟨fs, rs, hmS, henS, hcS⟩ := HM.out.swap w5 l2 k j2 H3w5.out (by rw [HL2.out]; exact Hk.out) (by rw [HL2.out]; exact Hj2.out)
              have HCS := Lib.hid hcS
              clear hcS
              go_wp2_with fail
              refine HCS.out.mono ?_
              rintro e w6 ⟨rfl, h6, hk6⟩
              have H6 := Lib.hid h6
              have G6 := Lib.hid (HM.out.trans _ _ _ G3w5.out hk6)
              clear h6 hk6 hmS henS HCS
              go_wp2
              go_roundw
              case rel => exact ⟨j2, swapL l2 k j2, rfl, Nat.le_of_lt HCM.out, Nat.le_trans HKI.out (Nat.le_of_lt HCG.out), (length_swapL _ _ _).trans HL2.out, H6, HU2, HMV2, G6⟩
              case measure => have h7 := HCG.out; have h8 := HCM.out; simp [intOf]; omega
      · have d6 : ¬ (j2 : Int) < (m : Int) := by omega
        have HC := Lib.hid (show childL ky l2 k m = j1 by rw [child_one (by exact fun q => h2 q.1), ej1])
        have HCG := Lib.hid hkj
        have HCM := Lib.hid hj1
        obtain ⟨t2, ht2⟩ : ∃ t, decide (vl ky l2 j1 < vl ky l2 k) = t := ⟨_, rfl⟩
        have HT2 := Lib.hid ht2
        as_aux_lemma =>
          clear ht2 h1 h2 ej1 ej2 hki hl2 hk hkj hj1 hkm
          cases t2
          · have HE := Lib.hid (show downL ky l i m = l2 by rw [← HU.out, downL_no (by rw [HC.out]; simpa using HT2.out)])
            have HMF : Hid (k = i → movesL ky l i m = false) := Lib.hid (fun e => by
              have e2 := HMV.out.resolve_right (fun q => by omega)
              obtain ⟨rfl, rfl⟩ := e2
              unfold movesL; rw [HC.out]; simp [HT2.out])
            obtain ⟨flb, rlb, hmLb, henLb, hcLb⟩ := HM.out.less wr l2 j1 k _ H2.out (by rw [HL2.out]; exact Hj1.out) (by rw [HL2.out]; exact Hk.out) HT2.out
            have HCLb := Lib.hid hcLb
            clear hcLb
            go_wp2_with fail
            refine HCLb.out.mono ?_
            rintro e w5 ⟨rfl, h3, hk3⟩
            have H3w5 := Lib.hid h3
            have G3w5 := Lib.hid (HM.out.trans _ _ _ HG.out hk3)
            clear h3 hk3 hmLb henLb HCLb
            have HMZ : Hid (movesL ky l i m = decide (i < k)) := Lib.hid (by
              rcases HMV.out with ⟨hki, hll⟩ | ⟨hik, hmv⟩
              · rw [HMF.out hki]; simp [hki]
              · rw [hmv]; simp [hik])
            go_wp2
            go_ret
            exact ⟨by rw [HMZ.out]; rfl, by rw [HE.out]; exact H3w5.out, G3w5.out⟩
          · have HU2 := Lib.hid (show downL ky (swapL l2 k j1) j1 m = downL ky l i m by have e := downL_yes (ky := ky) (l := l2) (i := k) (n := m) H1.out (by rw [HC.out]; simpa using HT2.out); rw [HC.out] at e; exact e.symm.trans HU.out)
            have HMV2 : Hid ((j1 = i ∧ swapL l2 k j1 = l) ∨ (i < j1 ∧ movesL ky l i m = true)) := Lib.hid (.inr ⟨by have := HKI.out; have := HCG.out; omega, by
              rcases HMV.out with ⟨e1, e2⟩ | ⟨_, e2⟩
              · subst e1 e2
                unfold movesL; rw [HC.out]; simp [H1.out]; simpa using HT2.out
              · exact e2⟩)
            obtain ⟨flb, rlb, hmLb, henLb, hcLb⟩ := HM.out.less wr l2 j1 k _ H2.out (by rw [HL2.out]; exact Hj1.out) (by rw [HL2.out]; exact Hk.out) HT2.out
            have HCLb := Lib.hid hcLb
            clear hcLb
            go_wp2_with fail
            refine HCLb.out.mono ?_
            rintro e w5 ⟨rfl, h3, hk3⟩
            have H3w5 := Lib.hid h3
            have G3w5 := Lib.hid (HM.out.trans _ _ _ HG.out hk3)
            clear h3 hk3 hmLb henLb HCLb
            obtain ⟨fs, rs, hmS, henS, hcS⟩ := HM.out.swap w5 l2 k j1 H3w5.out (by rw [HL2.out]; exact Hk.out) (by rw [HL2.out]; exact Hj1.out)
            have HCS := Lib.hid hcS
            clear hcS
            go_wp2_with fail
            refine HCS.out.mono ?_
            rintro e w6 ⟨rfl, h6, hk6⟩
            have H6 := Lib.hid h6
            have G6 := Lib.hid (HM.out.trans _ _ _ G3w5.out hk6)
            clear h6 hk6 hmS henS HCS
            go_wp2
            go_roundw
            case rel => exact ⟨j1, swapL l2 k j1, rfl, Nat.le_of_lt HCM.out, Nat.le_trans HKI.out (Nat.le_of_lt HCG.out), (length_swapL _ _ _).trans HL2.out, H6, HU2, HMV2, G6⟩
            case measure => have h7 := HCG.out; have h8 := HCM.out; simp [intOf]; omega
    · have HE := Lib.hid (show downL ky l i m = l2 by rw [← HU.out, downL_end h1])
      have d1 : (m : Int) ≤ 2 * (k : Int) + 1 := by omega
      have d5 : (k : Int) ≤ 1000000 := by omega
      have HMZ : Hid (movesL ky l i m = decide (i < k)) := Lib.hid (by
        rcases HMV.out with ⟨hki2, hll⟩ | ⟨hik, hmv⟩
        · unfold movesL; rw [← hki2]; simp [h1]
        · rw [hmv]; simp [hik])
      clear h1 hki
      go_wp2
      go_ret
      exact ⟨by rw [HMZ.out]; rfl, by rw [HE.out]; exact H2.out, HG.out⟩
end
end Go.Proofs.Ytgcpcffgpokbfaa.Hg
