/- The walk of hermitagelaw11.RegsGone. -/
import Derived.Test.YtpjpobcdedlgbaaTe
import Derived.StillTailTactics
namespace Go.Proofs.Ytpjpobcdedlgbaa.Rg
open Go.RowKit Ut
set_option maxRecDepth 100000
set_option linter.unusedVariables false
set_option maxHeartbeats 4000000

theorem gone_any (ai av : Option Addr) (li ci lv cv : Nat) (xs ys : List Int) (q : Int) (w : World) (hli : li ≤ 9223372036854775807) (hlv : lv ≤ 9223372036854775807) (hx : RowK .i64 w w.heap.size ai li xs) (hy : RowK .u32 w w.heap.size av lv ys) :
    Calls Try.prog 5 #[.slice ai li ci, .slice av lv cv, .int .u32 q] w fun e w' => e = .returned (.bool true) ∧ Below w.heap.size w w' := by
  have hgd2 : ∀ (x y : Operand) (W : World), (eqGuard .eql 29 x y (arrV zer) (.agg #[.int .u32 0, .int .u32 0, .int .u32 0, .int .u32 0, .int .u32 0, .int .u32 0, .int .u32 0, .int .u32 0, .int .u32 0, .int .u32 0, .int .u32 0, .int .u32 0, .int .u32 0, .int .u32 0, .int .u32 0, .int .u32 0])).run Try.prog W = .ok () W := fun x y W => guard_words _ x y zer zer W
  have hql2 : ∀ W : World, (binOp .eql 29 (arrV zer) (.agg #[.int .u32 0, .int .u32 0, .int .u32 0, .int .u32 0, .int .u32 0, .int .u32 0, .int .u32 0, .int .u32 0, .int .u32 0, .int .u32 0, .int .u32 0, .int .u32 0, .int .u32 0, .int .u32 0, .int .u32 0, .int .u32 0])).run Try.prog W = .ok (.bool true) W := fun W => bin_eql zer zer rfl rfl W
  have HX := Lib.hid hx
  have HY := Lib.hid hy
  clear hx hy
  go_enter Try.func5, Try.ntmps5
  go_wp2_with fail
  refine (new_any w).mono ?_
  rintro e w1 ⟨rfl, hF, hb⟩
  have HF1 := Lib.hid hF
  have HB1 := Lib.hid hb
  clear hF hb
  go_wp2
  go_loopw [8] (fun j wr => ∃ (k : Nat) (R : List Int), k ≤ 100 ∧ j = .int .i64 k ∧ Hid (FAt wr w.heap.size 0 R) ∧ Hid (Below w.heap.size w wr)) (fun j _ => 100 - (intOf j).toNat)
  case atStart => exact ⟨0, zer, Nat.zero_le _, rfl, HF1, HB1⟩
  case round =>
    clear HF1 HB1
    obtain ⟨k, R, hk, rfl, HF, HB⟩ := hrel
    by_cases hin : k < li ∧ k < lv ∧ k < 100
    · obtain ⟨h1, h2, h3⟩ := hin
      obtain ⟨x, rfl, hxb, hxc⟩ := HX.out.2 k h1
      obtain ⟨y, rfl, hyb, hyc⟩ := HY.out.2 k h2
      have c1 := (HB.out.cell (p := x.add k) (by rw [block_of_add]; exact hxb)).trans hxc
      have c2 := (HB.out.cell (p := y.add k) (by rw [block_of_add]; exact hyb)).trans hyc
      generalize xs.getD k 0 = i at c1
      generalize ys.getD k 0 = v at c2
      have f1 : decide ((k : Int) < (li : Int)) = true := by simpa using h1
      have f2 : decide ((k : Int) < (lv : Int)) = true := by simpa using h2
      have f3 : decide ((k : Int) < 100) = true := by simp; omega
      have H3 := Lib.hid h3
      clear hxb hxc hyb hyc hk h3
      go_upto_region 7 with fail
      go_still_tail 9, (by kernel_rfl)
      change wpList _ _ _ _ _ wr.drew
      have HF2 : Hid (FAt wr.drew w.heap.size 0 R) := HF
      have HB2 : Hid (Below w.heap.size w wr.drew) := HB.out.drew
      generalize wr.drew = W at HF2 HB2 ⊢
      clear HF HB c1 c2
      go_wp2_with fail
      refine (set_any w.heap.size 0 i v R W HF2.out).mono ?_
      rintro e w3 ⟨rfl, hF, hg⟩
      have HF3 := Lib.hid hF
      have HB3 := Lib.hid (below_of_grown HB2.out hg HB2.out.size (Nat.le_refl _))
      clear hF hg
      go_wp2
      go_roundw
      case rel => exact ⟨k + 1, _, H3.out, by go_num, HF3, HB3⟩
      case measure => have := H3.out; simp [intOf]; omega
    · have hF0 := HF
      clear HX HY
      have hout : (¬ (k : Int) < (li : Int)) ∨ ((k : Int) < (li : Int) ∧ ¬ (k : Int) < (lv : Int)) ∨ ((k : Int) < (li : Int) ∧ (k : Int) < (lv : Int) ∧ ¬ (k : Int) < 100) := by omega
      have HJ : Hid (∀ W, FAt W w.heap.size 0 R → Below w.heap.size w W → Calls Try.prog 8 #[.pointer (some ⟨w.heap.size, 0, none⟩), .int .u32 q] W fun e w' => e = .returned (.int .i64 0) ∧ Hid (FAt w' w.heap.size q R) ∧ Hid (Below w.heap.size w w')) := Lib.hid fun W hF hB => (jump_any w.heap.size 0 q R W hF).mono fun e w' h => ⟨h.1, h.2.1, below_of_grown hB h.2.2 hB.size (Nat.le_refl _)⟩
      rcases hout with f1 | ⟨f1, f2⟩ | ⟨f1, f2, f3⟩
      all_goals
        clear hin hk
        go_wp2_with fail
        refine (HJ.out wr HF.out HB.out).mono ?_
        rintro e w3 ⟨rfl, HF3, HB3⟩
        go_wp2_with fail
        refine (pc_any w.heap.size q R w3 HF3.out).mono ?_
        rintro e w4 ⟨rfl, rfl⟩
        go_wp2_with fail
        refine (clear_any w.heap.size q R w3 HF3.out).mono ?_
        rintro e w4 ⟨rfl, hF, hg⟩
        have HF4 := Lib.hid hF
        have HB4 := Lib.hid (below_of_grown HB3.out hg HB3.out.size (Nat.le_refl _))
        clear hF hg
        go_wp2_with fail
        refine (all_any w.heap.size 0 zer w4 HF4.out).mono ?_
        rintro e w5 ⟨rfl, hb⟩
        have HF5 := Lib.hid (HF4.out.below hb HF4.out.1.lt)
        have HB5 := Lib.hid (HB4.out.trans (hb.mono HB4.out.size))
        clear hb
        go_wp2_with fail
        refine (pc_any w.heap.size 0 zer w5 HF5.out).mono ?_
        rintro e w6 ⟨rfl, rfl⟩
        go_wp2_with fail
        refine (awake_any w5).mono ?_
        rintro e w6 ⟨rfl, hb⟩
        go_wp2
        go_ret
        exact ⟨rfl, HB5.out.trans (hb.mono HB5.out.size)⟩
end Go.Proofs.Ytpjpobcdedlgbaa.Rg
