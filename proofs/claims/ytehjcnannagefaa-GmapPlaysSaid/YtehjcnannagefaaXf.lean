/- Package gmap: Pages of the program. -/
import Derived.Test.YtehjcnannagefaaXc
import Derived.Deep.CutBlock
namespace Go.Proofs.Ytehjcnannagefaa.Gm
open Go.RowKit Ut
set_option maxRecDepth 100000
set_option linter.unusedVariables false
set_option maxHeartbeats 4000000

/-- of which no page is told, Pages tells none -/
theorem pages_zero (a : Option Addr) (w : World) (H : ∀ (n : Int) W, Below w.heap.size w W → Calls Try.prog 12 #[.pointer a, .int .i64 n] W fun e w' => e = .returned (.tuple #[plV (0, 0), .bool false]) ∧ Below W.heap.size W w') :
    Calls Try.prog 15 #[.pointer a] w fun e w' => e = .returned (.slice none 0 0) ∧ Below w.heap.size w w' := by
  have HG := Lib.hid H
  clear H
  go_enter Try.func15, Try.ntmps15
  go_wp2
  go_loopw [3, 7] (fun v j wr => ∃ k : Nat, k ≤ 12 ∧ v = .slice none 0 0 ∧ j = .int .i64 k ∧ Hid (Below w.heap.size w wr)) (fun _ j _ => 12 - (intOf j).toNat)
  case atStart => exact ⟨0, by omega, rfl, rfl, Below.refl _ _⟩
  case round =>
    obtain ⟨k, hk, rfl, rfl, HB⟩ := hrel
    by_cases hlt : k < 12
    · have f1 : (k : Int) < 12 := by omega
      have H3 := Lib.hid hlt
      clear hlt hk
      go_wp2_with fail
      refine (HG.out k wr HB.out).mono ?_
      rintro e w1 ⟨rfl, hb1⟩
      have HB1 := Lib.hid (HB.out.trans ((hb1.trans ((box_below w1 0 0).mono hb1.size)).mono HB.out.size))
      clear hb1
      unfold plV
      go_wp2
      go_roundw
      case rel => exact ⟨k + 1, by have := H3.out; omega, rfl, by go_num, HB1⟩
      case measure => have := H3.out; simp [intOf]; omega
    · have f1 : ¬ (k : Int) < 12 := by omega
      clear hlt hk
      go_wp2
      go_ret
      exact ⟨rfl, HB.out⟩
theorem pages_any (b : Nat) (L : List Pl) (w : World) (h : MAt w b L) :
    Calls Try.prog 15 #[.pointer (some ⟨b, 0, none⟩)] w fun e w' => ∃ a n cap, e = .returned (.slice a n cap) ∧ Hid (RowK .i64 w' w'.heap.size a n (upto L 12)) ∧ Below w.heap.size w w' := by
  have H := Lib.hid h
  clear h
  go_enter Try.func15, Try.ntmps15
  go_wp2
  go_loopw [3, 7] (fun v j wr => ∃ (k n cap : Nat) (a : Option Addr), k ≤ 12 ∧ n ≤ k ∧ v = .slice a n cap ∧ j = .int .i64 k ∧ Hid (OwnI .i64 wr w.heap.size 3 (.slice a n cap) n (upto L k)) ∧ Hid (Below w.heap.size w wr)) (fun _ j _ => 12 - (intOf j).toNat)
  case atStart => exact ⟨0, 0, 0, none, by omega, by omega, rfl, rfl, OwnI.nil _ _ _ _, Below.refl _ _⟩
  case round =>
    obtain ⟨k, n, cap, a, hk, hn, rfl, rfl, HO, HB⟩ := hrel
    by_cases hlt : k < 12
    · have f1 : (k : Int) < 12 := by omega
      have H3 := Lib.hid hlt
      have HN := Lib.hid hn
      have HM := Lib.hid (H.out.below HB.out H.out.lt)
      have hg := get_any b L k _ _ rfl rfl wr HM.out
      rw [atP_is hlt] at hg
      have HG := Lib.hid hg
      clear hlt hk hn hg
      obtain ⟨p, hp⟩ : ∃ p, plN L k = p := ⟨_, rfl⟩
      obtain ⟨t, ht⟩ : ∃ t, thB p = t := ⟨_, rfl⟩
      rw [hp, ht] at HG
      have HS : Hid (upto L (k + 1) = upto L k ++ if t = true then [(k : Int)] else []) := Lib.hid (by rw [upto_succ, hp, ht])
      clear hp ht
      obtain ⟨f, r⟩ := p
      obtain ⟨xs, hxs⟩ : ∃ xs, upto L k = xs := ⟨_, rfl⟩
      rw [hxs] at HO HS
      clear hxs
      cases t
      · go_wp2_with fail
        refine HG.out.mono ?_
        rintro e w1 ⟨rfl, hb1⟩
        have hb2 := hb1.trans ((box_below w1 f r).mono hb1.size)
        have HB1 := Lib.hid (HB.out.trans (hb2.mono HB.out.size))
        have HO1 := Lib.hid (HO.out.below hb2)
        clear hb1 hb2
        unfold plV
        go_wp2
        go_roundw
        case rel => exact ⟨k + 1, n, cap, a, by have := H3.out; omega, by have := HN.out; omega, rfl, by go_num, by rw [HS.out]; simpa using HO1, HB1⟩
        case measure => have := H3.out; simp [intOf]; omega
      · go_wp2_with fail
        refine HG.out.mono ?_
        rintro e w1 ⟨rfl, hb1⟩
        have hb2 := hb1.trans ((box_below w1 f r).mono hb1.size)
        have HB1 := Lib.hid (HB.out.trans (hb2.mono HB.out.size))
        have HO1 := Lib.hid (HO.out.below hb2)
        clear hb1 hb2
        unfold plV
        go_upto_region 7 with fail
        generalize w1.alloc (.cells #[.int .i64 f, .int .i64 r] 30) = W at HB1 HO1 ⊢
        have HBA := Lib.hid (HB1.out.trans (((Below.refl W.heap.size W).alloc (Nat.le_refl _) (.cells #[.int .i64 k] 3)).mono HB1.out.size))
        have HOA : Hid (OwnI .i64 (W.alloc (.cells #[.int .i64 k] 3)) w.heap.size 3 (.slice a n cap) n xs) := HO1.out.alloc _
        have HRA : Hid (RowK .i64 (W.alloc (.cells #[.int .i64 k] 3)) (W.heap.size + 1) (some ⟨W.heap.size, 0, none⟩) 1 [(k : Int)]) := RowK.new1 .i64 W k _
        go_wp2_with (refine wpList_append_ints rfl _ _ 23 rfl .i64 w.heap.size 3 8 Try.underlying23 (by kernel_rfl) (.slice a n cap) n xs rfl HOA.out _ _ 1 1 [(k : Int)] rfl HRA.out (by have := HN.out; have := H3.out; unfold maxLen; omega) (by have := HN.out; have := H3.out; omega) HBA.out.size ?_; intro v' w' HO2 hb2 _)
        obtain ⟨g, cap', rfl, _⟩ := HO2.out.form (by omega)
        have HB3 := Lib.hid (HBA.out.trans hb2)
        go_wp2
        go_roundw
        case rel => exact ⟨k + 1, n + 1, cap', some ⟨g, 0, none⟩, by have := H3.out; omega, by have := HN.out; omega, rfl, by go_num, by rw [HS.out]; simpa using HO2, HB3⟩
        case measure => have := H3.out; simp [intOf]; omega
    · have f1 : ¬ (k : Int) < 12 := by omega
      obtain rfl : k = 12 := by omega
      clear hlt hk
      obtain ⟨a', cap', e, _, _, hr⟩ := HO.out.row
      injection e with e1 e2 e3
      subst e1 e3
      have HR := Lib.hid hr
      clear hr
      go_wp2
      go_ret
      exact ⟨a, n, ⟨cap, rfl⟩, HR, HB.out⟩
end Go.Proofs.Ytehjcnannagefaa.Gm
