/- The walk of hermitagelaw02.OctetWords. -/
import Derived.Test.YtlbhajbangmlbaaOf
namespace Go.Proofs.Ytlbhajbangmlbaa.Oc
open Go.RowKit Ut
set_option linter.unusedVariables false

theorem Below.drewN_ {B : Nat} {a w : World} (h : Below B a w) (n : Nat) : Below B a (w.drewN n) := ⟨h.os, h.tape, h.output, h.size, h.block⟩

/-- Words of the bytes of l with less than a word behind them -/
theorem words_of (a : Option Addr) (n q cap : Nat) (l few : List Int) (w : World) (hf : few.length < 4) (hq : 4 * n + few.length = q) (hnc : q ≤ cap) (hn : q ≤ 140737488355328) (hc : cap ≤ 9223372036854775807) (hrow : RowK .u8 w w.heap.size a q (bytesZ l ++ few)) (hl : ∀ z ∈ l, 0 ≤ z ∧ z < 4294967296) (hb : AreBytes few) :
    Calls Try.prog 15 #[.slice a q cap] w fun e w' => e = .returned (.slice (some ⟨w.heap.size, 0, none⟩) n n) ∧ RowK .u32 w' w'.heap.size (some ⟨w.heap.size, 0, none⟩) n l ∧ Below w.heap.size w w' := by
  have := words_any a q cap (bytesZ l ++ few) w hnc hn hc hrow ((bytesZ_bytes l).append hb)
  rwa [words_back l few hl hf, show q / 4 = n by omega] at this

set_option maxRecDepth 100000 in
set_option maxHeartbeats 1000000 in
theorem owords_any (a b : Option Addr) (n cap m mcap : Nat) (l more : List Int) (w : World) (hnc : n ≤ cap) (hn : cap * 4 ≤ 140737488351232) (hmc : m ≤ mcap) (hmc2 : mcap ≤ 140737488351232)
    (hrow : RowK .u32 w w.heap.size a n l) (hl : ∀ z ∈ l, 0 ≤ z ∧ z < 4294967296) (hmore : RowK .u8 w w.heap.size b m more) (hbm : AreBytes more) :
    Calls Try.prog 6 #[.slice a n cap, .slice b m mcap] w fun e w' => e = .returned (.bool true) ∧ Below w.heap.size w w' := by
  have HR := Lib.hid hrow
  have HZ := Lib.hid hl
  have HM := Lib.hid hmore
  have HBM := Lib.hid hbm
  clear hrow hl hmore hbm
  have hne : (((4 * n : Nat) : Int) != 4 * (n : Int)) = false := by simp
  go_enter Try.func6, Try.ntmps6
  go_wp2_with fail
  refine (bytes_any _ _ _ _ _ (by omega) HR.out HZ.out).mono ?_
  rintro e w1 ⟨rfl, hr1, hb1⟩
  have HR1 := Lib.hid hr1
  clear hr1
  go_wp2_with fail
  refine (words_of _ n (4 * n) (4 * n) _ [] w1 (by simp) (by simp) (Nat.le_refl _) (by omega) (by omega) (by rw [List.append_nil]; exact HR1.out) HZ.out (fun z hz => by cases hz)).mono ?_
  rintro e w2 ⟨rfl, hr2, hb2⟩
  have HR2 := Lib.hid hr2
  clear hr2
  go_wp2_with fail
  refine (words_same _ _ n _ _ _ _ l _ (by omega) HR2.out ((HR.out.below hb1).below (hb2.mono hb1.size))).mono ?_
  rintro e w3 ⟨rfl, hd⟩
  have hb3 : Below w.heap.size w w3 := by
    obtain ⟨d, rfl⟩ := hd
    exact Below.drewN_ (hb1.trans (hb2.mono hb1.size)) d
  have HR3 : Hid (RowK .u8 w3 w1.heap.size (some ⟨w.heap.size, 0, none⟩) (4 * n) (bytesZ l)) := by
    obtain ⟨d, rfl⟩ := hd
    exact Lib.hid ((HR1.out.below hb2).drewN d)
  have hs2 : w1.heap.size ≤ w3.heap.size := by
    obtain ⟨d, rfl⟩ := hd
    exact hb2.size
  have HM3 : Hid (RowK .u8 w3 w.heap.size b m more) := Lib.hid (HM.out.below hb3)
  have hs1 := hb1.size
  clear hd hb2 HR2
  have HA := Lib.hid ((Below.refl w3.heap.size w3).alloc (Nat.le_refl _) (.cells #[] 5))
  have HO := Lib.hid (OwnI.made .u8 w3 w3.heap.size 5 (Nat.le_refl _))
  by_cases h3 : 3 < m
  · have hbn := h3
    have HF : Hid (RowK .u8 w3 w.heap.size b 3 (more.take 3)) := Lib.hid ⟨by simp [HM3.out.1]; omega, fun i hi => by
      obtain ⟨x, e, hx, hc⟩ := HM3.out.2 i (by omega)
      exact ⟨x, e, hx, by rw [hc]; simp [List.getD, hi]⟩⟩
    have HBF := Lib.hid (HBM.out.take 3)
    have h3c : ((3 : Nat) : Int) ≤ (mcap : Int) := by omega
    have h3z : ¬ mcap = 0 := by omega
    go_wp2_with (first | (at_builtin; refine wpList_append_ints (o := ⟨some 30, _, _, _, _, _⟩) rfl (.tmp 28) (.tmp 29) 22 rfl .u8 w3.heap.size 5 1 Try.underlying22 info_byte _ 0 [] rfl HO.out w3.heap.size _ _ _ (bytesZ l) rfl ((HR3.out.more hs2).below HA.out) (by unfold maxLen; omega) (by omega) (by simp) ?_; intro v1 w4 ho4 hb4 _) | (at_builtin; go_loud (refine wpList_append_ints (o := ⟨some 32, _, _, _, _, _⟩) rfl (.tmp 30) (.tmp 31) 22 rfl .u8 w3.heap.size 5 1 Try.underlying22 info_byte _ _ _ rfl ho4.out w3.heap.size b 3 mcap (more.take 3) rfl (((HF.out.more (Nat.le_trans hs1 hs2)).below HA.out).below hb4) (by unfold maxLen; omega) (by omega) (by have := hb4.size; simp at this; omega) ?_); intro v2 w5 ho5 hb5 _))
    obtain ⟨a5, c5, e5, hc5, hc6, hr5⟩ := ho5.out.row
    subst e5
    rw [List.nil_append] at hr5
    have HR5 := Lib.hid hr5
    have hb6 := hb3.trans ((Below.trans (Below.trans HA.out hb4) hb5).mono (by omega))
    clear hr5 ho5 ho4
    unfold maxLen at hc6
    have hfl : (more.take 3).length = 3 := HF.out.1
    refine (words_of a5 n (0 + 4 * n + 3) c5 l (more.take 3) w5 (by omega) (by omega) (by omega) (by omega) (by omega) HR5.out HZ.out HBF.out).mono ?_
    rintro e w6 ⟨rfl, hr6, hb7⟩
    have HR6 := Lib.hid hr6
    clear hr6
    have hb8 := hb6.trans (hb7.mono (by have := hb6.size; omega))
    go_wp2_with fail
    refine (words_same _ _ n _ _ _ _ l _ (by omega) HR6.out (HR.out.below hb8)).mono ?_
    rintro e w7 ⟨rfl, hd7⟩
    have hb9 : Below w.heap.size w w7 := by
      obtain ⟨d, rfl⟩ := hd7
      exact Below.drewN_ hb8 d
    clear hd7
    go_wp2_with fail
    refine (awake_keep (Nat.le_refl _) hb9).mono ?_
    rintro e w8 ⟨rfl, hb10⟩
    go_wp2
    go_ret
    exact ⟨rfl, hb10⟩
  · have HF : Hid (RowK .u8 w3 w.heap.size b m more) := HM3
    have HBF := HBM
    go_wp2_with (first | (at_builtin; refine wpList_append_ints (o := ⟨some 30, _, _, _, _, _⟩) rfl (.tmp 28) (.tmp 29) 22 rfl .u8 w3.heap.size 5 1 Try.underlying22 info_byte _ 0 [] rfl HO.out w3.heap.size _ _ _ (bytesZ l) rfl ((HR3.out.more hs2).below HA.out) (by unfold maxLen; omega) (by omega) (by simp) ?_; intro v1 w4 ho4 hb4 _) | (at_builtin; go_loud (refine wpList_append_ints (o := ⟨some 32, _, _, _, _, _⟩) rfl (.tmp 30) (.tmp 31) 22 rfl .u8 w3.heap.size 5 1 Try.underlying22 info_byte _ _ _ rfl ho4.out w3.heap.size b m mcap more rfl (((HF.out.more (Nat.le_trans hs1 hs2)).below HA.out).below hb4) (by unfold maxLen; omega) (by omega) (by have := hb4.size; simp at this; omega) ?_); intro v2 w5 ho5 hb5 _))
    obtain ⟨a5, c5, e5, hc5, hc6, hr5⟩ := ho5.out.row
    subst e5
    rw [List.nil_append] at hr5
    have HR5 := Lib.hid hr5
    have hb6 := hb3.trans ((Below.trans (Below.trans HA.out hb4) hb5).mono (by omega))
    clear hr5 ho5 ho4
    unfold maxLen at hc6
    have hfl : more.length = m := HF.out.1
    refine (words_of a5 n (0 + 4 * n + m) c5 l more w5 (by omega) (by omega) (by omega) (by omega) (by omega) HR5.out HZ.out HBF.out).mono ?_
    rintro e w6 ⟨rfl, hr6, hb7⟩
    have HR6 := Lib.hid hr6
    clear hr6
    have hb8 := hb6.trans (hb7.mono (by have := hb6.size; omega))
    go_wp2_with fail
    refine (words_same _ _ n _ _ _ _ l _ (by omega) HR6.out (HR.out.below hb8)).mono ?_
    rintro e w7 ⟨rfl, hd7⟩
    have hb9 : Below w.heap.size w w7 := by
      obtain ⟨d, rfl⟩ := hd7
      exact Below.drewN_ hb8 d
    clear hd7
    go_wp2_with fail
    refine (awake_keep (Nat.le_refl _) hb9).mono ?_
    rintro e w8 ⟨rfl, hb10⟩
    go_wp2
    go_ret
    exact ⟨rfl, hb10⟩
end Go.Proofs.Ytlbhajbangmlbaa.Oc
