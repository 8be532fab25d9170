/- The library's heaps, walked once for whatever is kept: Push, Pop, Fix, Remove. Serves all packages. -/
import Derived.Test.YtgcpcffgpokbfaaHw
namespace Go.Proofs.Ytgcpcffgpokbfaa.Hg
open Go.RowKit Ut
set_option maxRecDepth 100000
set_option linter.unusedVariables false
set_option maxHeartbeats 4000000

section
variable {α : Type} [Inhabited α] {T : TypeId} {p : Value} {ky : α → Int} {St : World → List α → Prop} {K : World → World → Prop}
theorem push_by (M : Heaps T p ky St K) (x : Value) (a : α) (n : Nat) (l : List α) (W : World) (h : St W l) (hn : l.length = n)
    (hp : Asks T p "Push" W fun f rv => Calls Try.prog f #[rv, x] W fun e w' => e = .returned (.tuple #[]) ∧ St w' (l ++ [a]) ∧ K W w') :
    Calls Try.prog 37 #[.iface T p, x] W fun e W' => e = .returned (.tuple #[]) ∧ St W' (pushL ky l a) ∧ K W W' := by
  have HM := Lib.hid M
  have HN := Lib.hid hn
  have hl1 : (l ++ [a]).length = n + 1 := by simp [hn]
  have HL1 := Lib.hid hl1
  obtain ⟨fp, rp, hmP, henP, hcP⟩ := hp
  have HCP := Lib.hid hcP
  clear h M hn hcP hl1
  go_enter Try.func37, Try.ntmps37
  go_wp2_with fail
  refine HCP.out.mono ?_
  rintro e w1 ⟨rfl, h1, hk1⟩
  have hb := HM.out.bd _ _ h1
  rw [HL1.out] at hb
  have hb2 : (n : Int) + 1 ≤ 1000000 := by omega
  obtain ⟨fl, rl, hmL, henL, hcL⟩ := HM.out.len w1 _ h1
  rw [HL1.out] at hcL
  have HCL := Lib.hid hcL
  have HK1 := Lib.hid hk1
  clear h1 hk1 hmP henP HCP hcL hb
  go_wp2_with fail
  refine HCL.out.mono ?_
  rintro e w2 ⟨rfl, h2, hk2⟩
  have HU := Lib.hid (up_by HM.out n (n + 1) _ w2 h2 HL1.out (Nat.lt_succ_self n))
  have HK2 := Lib.hid (HM.out.trans _ _ _ HK1.out hk2)
  clear h2 hk2 hmL henL HCL
  go_wp2_with fail
  refine HU.out.mono ?_
  rintro e w3 ⟨rfl, h3, hk3⟩
  have H3 : Hid (St w3 (pushL ky l a)) := Lib.hid (by unfold pushL; rw [HN.out]; exact h3)
  have HK3 := Lib.hid (HM.out.trans _ _ _ HK2.out hk3)
  clear h3 hk3
  go_wp2
  go_end0
  exact ⟨rfl, H3.out, HK3.out⟩

theorem pop_by (M : Heaps T p ky St K) (R : α → Value) (n : Nat) (l r : List α) (c : α) (W : World) (h : St W l) (hn : l.length = n) (h0 : 0 < n) (hr : popL ky l = r ++ [c])
    (hp : ∀ w, St w (r ++ [c]) → Asks T p "Pop" w fun f rv => Calls Try.prog f #[rv] w fun e w' => e = .returned (R c) ∧ St w' r ∧ K w w') :
    Calls Try.prog 44 #[.iface T p] W fun e W' => e = .returned (R c) ∧ St W' r ∧ K W W' := by
  have HM := Lib.hid M
  have HN := Lib.hid hn
  have HR := Lib.hid hr
  have HP := Lib.hid hp
  have H0 := Lib.hid h0
  have hb := M.bd _ _ h
  rw [hn] at hb
  have hb2 : (n : Int) ≤ 1000000 := by omega
  obtain ⟨q, hq⟩ : ∃ q : Nat, n - 1 = q := ⟨_, rfl⟩
  have hq2 : (n : Int) - 1 = (q : Int) := by omega
  have HQ := Lib.hid hq
  obtain ⟨fl, rl, hmL, henL, hcL⟩ := M.len W _ h
  rw [hn] at hcL
  have HCL := Lib.hid hcL
  clear h M hn hr hp hcL h0 hb hq
  go_enter Try.func44, Try.ntmps44
  go_wp2_with fail
  refine HCL.out.mono ?_
  rintro e w1 ⟨rfl, h1, hk1⟩
  obtain ⟨fs, rs, hmS, henS, hcS⟩ := HM.out.swap w1 l 0 q h1 (by have := HN.out; have := H0.out; omega) (by have := HN.out; have := H0.out; have := HQ.out; omega)
  have HCS : Hid (Calls Try.prog fs #[rs, .int .i64 0, .int .i64 q] w1 fun e w' => e = .returned (.tuple #[]) ∧ St w' (swapL l 0 q) ∧ K w1 w') := Lib.hid hcS
  have HK1 := Lib.hid hk1
  clear h1 hk1 hmL henL HCL hcS
  go_wp2_with fail
  refine HCS.out.mono ?_
  rintro e w2 ⟨rfl, h2, hk2⟩
  have HD : Hid (Calls Try.prog 40 #[.iface T p, .int .i64 0, .int .i64 q] w2 fun e W' => e = .returned (.bool (movesL ky (swapL l 0 q) 0 q)) ∧ St W' (downL ky (swapL l 0 q) 0 q) ∧ K w2 W') := Lib.hid (down_by HM.out 0 q n _ w2 h2 ((length_swapL _ _ _).trans HN.out) (by have := HQ.out; omega) (Nat.zero_le _))
  have HK2 := Lib.hid (HM.out.trans _ _ _ HK1.out hk2)
  clear h2 hk2 hmS henS HCS
  go_wp2_with fail
  refine HD.out.mono ?_
  rintro e w3 ⟨rfl, h3, hk3⟩
  have h3' : St w3 (r ++ [c]) := by
    rw [← HR.out]
    unfold popL
    rw [HN.out, HQ.out]
    exact h3
  obtain ⟨fp, rp, hmP, henP, hcP⟩ := HP.out w3 h3'
  have HCP := Lib.hid hcP
  have HK3 := Lib.hid (HM.out.trans _ _ _ HK2.out hk3)
  clear h3 hk3 h3' hcP
  go_wp2_with fail
  refine HCP.out.mono ?_
  rintro e w4 ⟨rfl, h4, hk4⟩
  have H4 := Lib.hid h4
  have HK4 := Lib.hid (HM.out.trans _ _ _ HK3.out hk4)
  clear h4 hk4 hmP henP HCP
  go_wp2
  go_ret
  exact ⟨rfl, H4.out, HK4.out⟩

theorem fix_by (M : Heaps T p ky St K) (i n : Nat) (l : List α) (W : World) (h : St W l) (hn : l.length = n) (hi : i < n) :
    Calls Try.prog 28 #[.iface T p, .int .i64 i] W fun e W' => e = .returned (.tuple #[]) ∧ St W' (fixL ky l i n) ∧ K W W' := by
  have HM := Lib.hid M
  have HN := Lib.hid hn
  have HI := Lib.hid hi
  obtain ⟨fl, rl, hmL, henL, hcL⟩ := M.len W _ h
  rw [hn] at hcL
  have HCL := Lib.hid hcL
  clear h M hn hcL hi
  obtain ⟨t, ht⟩ : ∃ t, movesL ky l i n = t := ⟨_, rfl⟩
  have HT := Lib.hid ht
  clear ht
  go_enter Try.func28, Try.ntmps28
  go_wp2_with fail
  refine HCL.out.mono ?_
  rintro e w1 ⟨rfl, h1, hk1⟩
  have HK1 := Lib.hid hk1
  have HD := Lib.hid (down_by HM.out i n n l w1 h1 HN.out (Nat.le_refl _) (Nat.le_of_lt HI.out))
  rw [HT.out] at HD
  clear h1 hk1 hmL henL HCL
  cases t
  · go_wp2_with fail
    refine HD.out.mono ?_
    rintro e w2 ⟨rfl, h2, hk2⟩
    rw [down_still HT.out] at h2
    have HU := Lib.hid (up_by HM.out i n l w2 h2 HN.out HI.out)
    have HK2 := Lib.hid (HM.out.trans _ _ _ HK1.out hk2)
    clear h2 hk2
    go_wp2_with fail
    refine HU.out.mono ?_
    rintro e w3 ⟨rfl, h3, hk3⟩
    have H3 : Hid (St w3 (fixL ky l i n)) := Lib.hid (by unfold fixL; rw [HT.out, if_neg (by decide)]; exact h3)
    have HK3 := Lib.hid (HM.out.trans _ _ _ HK2.out hk3)
    clear h3 hk3
    go_wp2
    go_end0
    exact ⟨rfl, H3.out, HK3.out⟩
  · go_wp2_with fail
    refine HD.out.mono ?_
    rintro e w2 ⟨rfl, h2, hk2⟩
    have H3 : Hid (St w2 (fixL ky l i n)) := Lib.hid (by unfold fixL; rw [HT.out, if_pos rfl]; exact h2)
    have HK3 := Lib.hid (HM.out.trans _ _ _ HK1.out hk2)
    clear h2 hk2
    go_wp2
    go_end0
    exact ⟨rfl, H3.out, HK3.out⟩

/-- what is left when the one at i is taken out, its row's last being it -/
def remL (ky : α → Int) (l : List α) (i : Nat) : List α := if i = l.length - 1 then l else fixL ky (swapL l i (l.length - 1)) i (l.length - 1)
theorem remove_by (M : Heaps T p ky St K) (R : α → Value) (i n : Nat) (l r : List α) (c : α) (W : World) (h : St W l) (hn : l.length = n) (hi : i < n) (hr : remL ky l i = r ++ [c])
    (hp : ∀ w, St w (r ++ [c]) → Asks T p "Pop" w fun f rv => Calls Try.prog f #[rv] w fun e w' => e = .returned (R c) ∧ St w' r ∧ K w w') :
    Calls Try.prog 43 #[.iface T p, .int .i64 i] W fun e W' => e = .returned (R c) ∧ St W' r ∧ K W W' := by
  have HM := Lib.hid M
  have HN := Lib.hid hn
  have HR := Lib.hid hr
  have HP := Lib.hid hp
  have HI := Lib.hid hi
  have hb := M.bd _ _ h
  rw [hn] at hb
  have hb2 : (n : Int) ≤ 1000000 := by omega
  obtain ⟨q, hq⟩ : ∃ q : Nat, n - 1 = q := ⟨_, rfl⟩
  have hq2 : (n : Int) - 1 = (q : Int) := by omega
  have HQ := Lib.hid hq
  obtain ⟨fl, rl, hmL, henL, hcL⟩ := M.len W _ h
  rw [hn] at hcL
  have HCL := Lib.hid hcL
  clear h M hn hr hp hcL hi hb hq
  by_cases hiq : i = q
  · have HRR : Hid (l = r ++ [c]) := Lib.hid (by have := HR.out; unfold remL at this; rw [HN.out, HQ.out, if_pos hiq] at this; exact this)
    subst hiq
    go_enter Try.func43, Try.ntmps43
    go_wp2_with fail
    refine HCL.out.mono ?_
    rintro e w1 ⟨rfl, h1, hk1⟩
    obtain ⟨fp, rp, hmP, henP, hcP⟩ := HP.out w1 (HRR.out ▸ h1)
    have HCP := Lib.hid hcP
    have HK1 := Lib.hid hk1
    clear h1 hk1 hmL henL HCL hcP
    go_wp2_with fail
    refine HCP.out.mono ?_
    rintro e w4 ⟨rfl, h4, hk4⟩
    have H4 := Lib.hid h4
    have HK4 := Lib.hid (HM.out.trans _ _ _ HK1.out hk4)
    clear h4 hk4 hmP henP HCP
    go_wp2
    go_ret
    exact ⟨rfl, H4.out, HK4.out⟩
  · have HRR : Hid (fixL ky (swapL l i q) i q = r ++ [c]) := Lib.hid (by have := HR.out; unfold remL at this; rw [HN.out, HQ.out, if_neg hiq] at this; exact this)
    have hne : ((q : Int) != (i : Int)) = true := by simp; omega
    have hne2 : ¬ q = i := fun e => hiq e.symm
    have HIQ := Lib.hid (show i < q by have := HI.out; have := HQ.out; omega)
    obtain ⟨t, ht⟩ : ∃ t, movesL ky (swapL l i q) i q = t := ⟨_, rfl⟩
    have HT := Lib.hid ht
    clear ht hiq
    go_enter Try.func43, Try.ntmps43
    go_wp2_with fail
    refine HCL.out.mono ?_
    rintro e w1 ⟨rfl, h1, hk1⟩
    obtain ⟨fs, rs, hmS, henS, hcS⟩ := HM.out.swap w1 l i q h1 (by have := HN.out; have := HI.out; omega) (by have := HN.out; have := HI.out; have := HQ.out; omega)
    have HCS := Lib.hid hcS
    have HK1 := Lib.hid hk1
    clear h1 hk1 hmL henL HCL hcS
    go_wp2_with fail
    refine HCS.out.mono ?_
    rintro e w2 ⟨rfl, h2, hk2⟩
    have HD := Lib.hid (down_by HM.out i q n _ w2 h2 ((length_swapL _ _ _).trans HN.out) (by have := HQ.out; omega) (Nat.le_of_lt HIQ.out))
    rw [HT.out] at HD
    have HK2 := Lib.hid (HM.out.trans _ _ _ HK1.out hk2)
    clear h2 hk2 hmS henS HCS
    cases t
    · go_wp2_with fail
      refine HD.out.mono ?_
      rintro e w3 ⟨rfl, h3, hk3⟩
      rw [down_still HT.out] at h3
      have HU := Lib.hid (up_by HM.out i n _ w3 h3 ((length_swapL _ _ _).trans HN.out) HI.out)
      have HK3 := Lib.hid (HM.out.trans _ _ _ HK2.out hk3)
      clear h3 hk3
      go_wp2_with fail
      refine HU.out.mono ?_
      rintro e w4 ⟨rfl, h4, hk4⟩
      have h4' : St w4 (r ++ [c]) := by
        rw [← HRR.out]
        unfold fixL
        rw [HT.out, if_neg (by decide)]
        exact h4
      obtain ⟨fp, rp, hmP, henP, hcP⟩ := HP.out w4 h4'
      have HCP := Lib.hid hcP
      have HK4 := Lib.hid (HM.out.trans _ _ _ HK3.out hk4)
      clear h4 hk4 h4' hcP
      go_wp2_with fail
      refine HCP.out.mono ?_
      rintro e w5 ⟨rfl, h5, hk5⟩
      have H5 := Lib.hid h5
      have HK5 := Lib.hid (HM.out.trans _ _ _ HK4.out hk5)
      clear h5 hk5 hmP henP HCP
      go_wp2
      go_ret
      exact ⟨rfl, H5.out, HK5.out⟩
    · go_wp2_with fail
      refine HD.out.mono ?_
      rintro e w3 ⟨rfl, h3, hk3⟩
      have h3' : St w3 (r ++ [c]) := by
        rw [← HRR.out]
        unfold fixL
        rw [HT.out, if_pos rfl]
        exact h3
      obtain ⟨fp, rp, hmP, henP, hcP⟩ := HP.out w3 h3'
      have HCP := Lib.hid hcP
      have HK3 := Lib.hid (HM.out.trans _ _ _ HK2.out hk3)
      clear h3 hk3 h3' hcP
      go_wp2_with fail
      refine HCP.out.mono ?_
      rintro e w5 ⟨rfl, h5, hk5⟩
      have H5 := Lib.hid h5
      have HK5 := Lib.hid (HM.out.trans _ _ _ HK3.out hk5)
      clear h5 hk5 hmP henP HCP
      go_wp2
      go_ret
      exact ⟨rfl, H5.out, HK5.out⟩
end
end Go.Proofs.Ytgcpcffgpokbfaa.Hg
