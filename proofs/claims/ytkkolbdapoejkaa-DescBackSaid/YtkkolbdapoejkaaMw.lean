/- Package desc: the walk of DescBack. -/
import Derived.Test.YtkkolbdapoejkaaMu
import Derived.Test.YtkkolbdapoejkaaMt
namespace Go.Proofs.Ytkkolbdapoejkaa.De
open Go.RowKit Go.Shelf Ut Oc
set_option linter.unusedVariables false
set_option maxRecDepth 100000
set_option maxHeartbeats 4000000

section
variable (C : DescC)
include C
theorem get_of {w : World} {v : Value} {zs : List Int} (h : Byt w v zs) (hz : AreBytes zs) (hn : zs.length ≤ 140737488355328) : Calls Try.prog 7 #[v] w fun e w' => e = .returned (.tuple #[gtV zs, .int .i64 (gtC zs)]) ∧ Below w.heap.size w w' := by
  obtain ⟨a, c, rfl, h1, h2, h3⟩ := h
  exact C.get a zs.length c zs w h1 hn h2 h3 hz
theorem back21_any (ad al af an : Int) (a : Option Addr) (n cap : Nat) (zs : List Int) (w : World) (had : R32 ad) (hal : R32 al) (haf : R32 af) (han : R32 an) (hnc : n ≤ cap) (hn : n ≤ 140737488355328) (hc : cap ≤ 9223372036854775807) (hr : RowK .u8 w w.heap.size a n zs) (hz : AreBytes zs) : Calls Try.prog 4 #[dV ad al af an, .slice a n cap] w fun e w' => e = .returned (.bool true) ∧ Below w.heap.size w w' := by
  obtain ⟨U, hU⟩ : ∃ U, U = w.alloc (.cells #[.int .u32 ad, .int .u32 al, .int .u32 af, .int .u32 an] 24) := ⟨_, rfl⟩
  have hB : Below w.heap.size w U := by rw [hU]; exact d_below ad al af an w
  have hm : Blk U w.heap.size 24 [.int .u32 ad, .int .u32 al, .int .u32 af, .int .u32 an] := by rw [hU]; exact Blk.new w _ _
  have hl4 : (bytesZ [ad, al, af, an]).length = 16 := by rw [length_bytesZ]; rfl
  obtain ⟨g1, g2⟩ := gt_back ad al af an had hal haf han
  have HU := Lib.hid hU
  have HB := Lib.hid hB
  have HM := Lib.hid hm
  have HR := Lib.hid hr
  have HZ := Lib.hid hz
  have hlen := hr.1
  have HG : Hid (∀ (W : World) v, Byt W v (bytesZ [ad, al, af, an]) → Calls Try.prog 7 #[v] W fun e w' => e = .returned (.tuple #[dV ad al af an, .int .i64 0]) ∧ Below W.heap.size W w') := Lib.hid fun W v h => by
    have := get_of C h (bytesZ_bytes _) (by omega)
    rw [g1, g2] at this
    exact this
  have HP := Lib.hid (fun a l f n w => C.put a l f n w)
  have HGT := Lib.hid (fun W (hW : Below w.heap.size w W) => C.get a n cap zs W hnc hn hc ((HR.out.below hW).more hW.size) HZ.out)
  have HA := Lib.hid (awake21_any C)
  have HPA := Lib.hid (fun w => C.put ad al af an w had hal haf han)
  have m0 := hm.cell (j := 0) rfl
  have m1 := hm.cell (j := 1) rfl
  have m2 := hm.cell (j := 2) rfl
  have m3 := hm.cell (j := 3) rfl
  have ml := hm.lt
  clear hU hB hm hr g1 g2 C
  go_enter Try.func4, Try.ntmps4
  go_upto_region 1 with fail
  rw [← HU.out]
  clear HU
  go_wp2_with fail
  refine (HPA.out _).mono ?_
  rintro e w1 ⟨⟨v, rfl, HV⟩, hb1⟩
  have HB1 := Lib.hid (HB.out.trans (hb1.mono HB.out.size))
  have HM1 := Lib.hid (HM.out.below hb1 HM.out.lt)
  clear hb1 HM HB m0 m1 m2 m3 ml HPA
  go_wp2_with fail
  refine (HG.out _ _ HV.out).mono ?_
  rintro e w2 ⟨rfl, hb2⟩
  obtain ⟨V2, hV2⟩ : ∃ V2, V2 = w2.alloc (.cells #[.int .u32 ad, .int .u32 al, .int .u32 af, .int .u32 an] 24) := ⟨_, rfl⟩
  have hbV : Below w2.heap.size w2 V2 := by rw [hV2]; exact (Below.refl _ _).alloc (Nat.le_refl _) _
  have hx : Blk V2 w2.heap.size 24 [.int .u32 ad, .int .u32 al, .int .u32 af, .int .u32 an] := by rw [hV2]; exact Blk.new w2 _ _
  have hb3 := hb2.trans (hbV.mono hb2.size)
  have HB2 := Lib.hid (HB1.out.trans (hb3.mono HB1.out.size))
  have HM2 := Lib.hid (HM1.out.below hb3 HM1.out.lt)
  have HV2 := Lib.hid hV2
  obtain ⟨va, vc, rfl, _, _, _⟩ := HV.out
  rw [hl4]
  have m0 := HM2.out.cell (j := 0) rfl
  have m1 := HM2.out.cell (j := 1) rfl
  have m2 := HM2.out.cell (j := 2) rfl
  have m3 := HM2.out.cell (j := 3) rfl
  have ml := HM2.out.lt
  have x0 := hx.cell (j := 0) rfl
  have x1 := hx.cell (j := 1) rfl
  have x2 := hx.cell (j := 2) rfl
  have x3 := hx.cell (j := 3) rfl
  have xl := hx.lt
  clear hb2 hbV hx hb3 hV2 HV HB1 HM1 HG
  go_upto_region 3 with fail
  rw [← HV2.out]
  clear HV2
  generalize w2.heap.size = xb at x0 x1 x2 x3 xl ⊢
  go_wp2_with fail
  refine (HGT.out _ HB2.out).mono ?_
  rintro e w3 ⟨rfl, hb3⟩
  have HB3 := Lib.hid (HB2.out.trans (hb3.mono HB2.out.size))
  clear hb3 HB2 HM2 m0 m1 m2 m3 ml x0 x1 x2 x3 xl HGT
  rcases gt_cases zs HZ.out with ⟨h16, p, q, r, s, hp, hq, hrr, hs, e1, e2, e3⟩ | ⟨h16, e1, e2⟩
  · rw [e1, e2]
    rw [hlen] at h16
    subst h16
    have HPB := Lib.hid (fun w => HP.out p q r s w hp hq hrr hs)
    rw [e3] at HPB
    obtain ⟨V4, hV4⟩ : ∃ V4, V4 = w3.alloc (.cells #[.int .u32 p, .int .u32 q, .int .u32 r, .int .u32 s] 24) := ⟨_, rfl⟩
    have hbV : Below w3.heap.size w3 V4 := by rw [hV4]; exact (Below.refl _ _).alloc (Nat.le_refl _) _
    have hx : Blk V4 w3.heap.size 24 [.int .u32 p, .int .u32 q, .int .u32 r, .int .u32 s] := by rw [hV4]; exact Blk.new w3 _ _
    have HB4 := Lib.hid (HB3.out.trans (hbV.mono HB3.out.size))
    have HX := Lib.hid hx
    have HV4 := Lib.hid hV4
    clear hV4 hbV hx HB3 HP e1 e2 e3 hp hq hrr hs had hal haf han hl4 hz
    have HCV : Hid (∀ W, Below w.heap.size w W → (convert 25 9 (.slice a 16 cap)).run Try.prog W = .ok (.string (strOfNums zs)) W) := Lib.hid fun W hW => run_convert_row Try.underlying25 Try.underlying5 Try.underlying9 (HR.out.below hW)
    go_upto_region 8 with fail
    rw [← HV4.out]
    clear HV4 HR HZ hlen
    generalize w3.heap.size = xb at HX ⊢
    apply wp_region_x [51, 52, 53, 54, 55, 56, 57, 58, 59] [_, undef, _, _, _, _, _, _, _] [1] (fun L_ x_ W' => Below V4.heap.size V4 W' ∧ (L_ 1 = true → Byt W' (x_ 1) zs))
    case hm => kernel_rfl
    case hT => intro y; simp only [setAll, List.setIfInBounds_toArray, List.set_cons_succ, List.set_cons_zero]; exact rfl
    case hok => kernel_rfl
    case hn => decide
    case hw => exact (fun L_ x_ h0 => ⟨(Below.refl _ _).drew, fun h => absurd h (by rw [h0 1 (by decide)]; decide)⟩)
    case hs =>
      refine x_op 51 [] (by kernel_rfl) (fun L y w' hL hC HW hd K hK => ?_) ?_
      · have z := HX.out.below HW.1 HX.out.lt
        have s0 := z.cell (j := 0) rfl
        have s1 := z.cell (j := 1) rfl
        have s2 := z.cell (j := 2) rfl
        have s3 := z.cell (j := 3) rfl
        have sl := z.lt
        go_simp
        refine hK _ _ ?_ ?_ HW
        · simp [upd]
        · exact rfl
      refine x_one 52 [0] (by kernel_rfl) rfl (fun L y w' hL hC HW hd K hK => ?_) ?_
      · have e0 := xR_nth (hd 0 (by simp)).2 rfl rfl
        go_simp
        refine (HPB.out _).mono ?_
        rintro e w3 ⟨⟨v, rfl, HV⟩, hb3⟩
        refine hK _ _ ?_ ⟨HW.1.trans (hb3.mono HW.1.size), fun _ => by simpa [upd] using HV.out⟩
        · simp [upd, e0]
      refine x_op 53 [1] (by kernel_rfl) (fun L y w' hL hC HW hd K hK => ?_) ?_
      · have hl1 := (hd 1 (by simp)).1
        obtain ⟨va, vc, e1, _, _, hvr⟩ := HW.2 hl1
        have hcv := run_convert_row (dst := 9) (P := Try.prog) (cap := vc) Try.underlying25 Try.underlying5 Try.underlying9 hvr
        go_simp
        refine hK _ _ ?_ ?_ HW
        · simp [upd, e1]
        · exact rfl
      refine x_op 54 [] (by kernel_rfl) (fun L y w' hL hC HW hd K hK => ?_) ?_
      · go_simp
        refine hK _ _ ?_ ?_ HW
        · simp [upd]
        · exact rfl
      refine x_op 55 [3] (by kernel_rfl) (fun L y w' hL hC HW hd K hK => ?_) ?_
      · have e3 := xR_nth (hd 3 (by simp)).2 rfl rfl
        have hcv := HCV.out _ (HB4.out.trans (HW.1.mono HB4.out.size))
        go_simp
        refine hK _ _ ?_ ?_ HW
        · simp [upd, e3]
        · exact rfl
      refine x_op 56 [2, 4] (by kernel_rfl) (fun L y w' hL hC HW hd K hK => ?_) ?_
      · have e2 := xR_nth (hd 2 (by simp)).2 rfl rfl
        have e4 := xR_nth (hd 4 (by simp)).2 rfl rfl
        go_simp
        refine hK _ _ ?_ ?_ HW
        · simp [upd, e2, e4]
        · exact rfl
      refine x_op 57 [5, 1] (by kernel_rfl) (fun L y w' hL hC HW hd K hK => ?_) ?_
      · have e5 := xR_nth (hd 5 (by simp)).2 rfl rfl
        have hl1 := (hd 1 (by simp)).1
        obtain ⟨va, vc, e1, _, _, hvr⟩ := HW.2 hl1
        go_simp
        refine hK _ _ ?_ ?_ HW
        · simp [upd, e5, e1]
        · exact rfl
      refine x_op 58 [6, 6] (by kernel_rfl) (fun L y w' hL hC HW hd K hK => ?_) ?_
      · have e6 := xR_nth (hd 6 (by simp)).2 rfl rfl
        go_simp
        refine (HA.out _).mono ?_
        rintro e w3 ⟨rfl, hb3⟩
        refine hK _ _ ?_ ?_ ⟨HW.1.trans (hb3.mono HW.1.size), fun h => (HW.2 h).more hb3⟩
        · simp [upd, e6]
        · exact rfl
      refine x_op 59 [6, 7] (by kernel_rfl) (fun L y w' hL hC HW hd K hK => ?_) ?_
      · have e6 := xR_nth (hd 6 (by simp)).2 rfl rfl
        have e7 := xR_nth (hd 7 (by simp)).2 rfl rfl
        go_simp
        refine hK _ _ ?_ ?_ HW
        · simp [upd, e6, e7]
        · exact rfl
      refine x_last fun L y w' hLs HW hd K hK => ?_
      have e0 := xR_nth (hd 0 (by omega)) rfl rfl
      have e2 := xR_nth (hd 2 (by omega)) rfl rfl
      have e3 := xR_nth (hd 3 (by omega)) rfl rfl
      have e4 := xR_nth (hd 4 (by omega)) rfl rfl
      have e5 := xR_nth (hd 5 (by omega)) rfl rfl
      have e6 := xR_nth (hd 6 (by omega)) rfl rfl
      have e7 := xR_nth (hd 7 (by omega)) rfl rfl
      have e8 := xR_nth (hd 8 (by omega)) rfl rfl
      obtain ⟨vb, vd, e1, _, _, _⟩ := HW.2 (hLs 1 (by decide))
      have HX9 := Lib.hid (HB4.out.trans (HW.1.mono HB4.out.size))
      go_simp
      refine hK _ _ ?_
      clear hd hK K hLs e0 e1 e2 e3 e4 e5 e6 e7 e8
      go_wp2
      go_ret
      exact ⟨rfl, HX9.out⟩
  · rw [e1, e2]
    obtain ⟨V4, hV4⟩ : ∃ V4, V4 = w3.alloc (.cells #[.int .u32 0, .int .u32 0, .int .u32 0, .int .u32 0] 24) := ⟨_, rfl⟩
    have hbV : Below w3.heap.size w3 V4 := by rw [hV4]; exact (Below.refl _ _).alloc (Nat.le_refl _) _
    have hx : Blk V4 w3.heap.size 24 [.int .u32 0, .int .u32 0, .int .u32 0, .int .u32 0] := by rw [hV4]; exact Blk.new w3 _ _
    have HB4 := Lib.hid (HB3.out.trans (hbV.mono HB3.out.size))
    have HV4 := Lib.hid hV4
    have hn16 : ¬ (n : Int) = 16 := by omega
    have x0 := hx.cell (j := 0) rfl
    have x1 := hx.cell (j := 1) rfl
    have x2 := hx.cell (j := 2) rfl
    have x3 := hx.cell (j := 3) rfl
    have xl := hx.lt
    clear hV4 hbV hx HB3 HP e1 e2 had hal haf han hl4 hz h16 hlen HR HZ
    go_upto_region 6 with fail
    rw [← HV4.out]
    clear HV4
    generalize w3.heap.size = xb at x0 x1 x2 x3 xl ⊢
    go_wp2_with fail
    refine (HA.out _).mono ?_
    rintro e w5 ⟨rfl, hb5⟩
    have HB5 := Lib.hid (HB4.out.trans (hb5.mono HB4.out.size))
    clear hb5 x0 x1 x2 x3 xl
    go_wp2
    go_ret
    exact ⟨congrArg (fun b => Ending.returned (.bool b)) (bne_iff_ne.2 hn16), HB5.out⟩
end
end Go.Proofs.Ytkkolbdapoejkaa.De
