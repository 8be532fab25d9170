/- Package desc: the walk of DescPlays. -/
import Derived.Test.YtkkolbdapoejkaaMu
import Derived.Test.YtkkolbdapoejkaaMt
namespace Go.Proofs.Ytkkolbdapoejkaa.De
open Go.RowKit Go.Shelf Ut Oc
set_option linter.unusedVariables false
set_option maxRecDepth 100000
set_option maxHeartbeats 4000000

section
variable (C : DescC)
include C
theorem plays21_any (ad al af an : Int) (a : Option Addr) (n cap : Nat) (zs : List Int) (pt k d aa u nn : Int) (w : World) (had : R32 ad) (hal : R32 al) (haf : R32 af) (han : R32 an) (hnc : n ≤ cap) (hn : n ≤ 140737488355328) (hc : cap ≤ 9223372036854775807) (hr : RowK .u8 w w.heap.size a n zs) (hz : AreBytes zs) (hd : R32 d) (ha : R32 aa) (hu : R32 u) : Calls Try.prog 3 #[dV ad al af an, .slice a n cap, .int .i64 pt, .int .i64 k, rV d aa u nn] w fun e w' => e = .returned (.bool true) ∧ Below w.heap.size w w' := by
  obtain ⟨U, hU⟩ : ∃ U, U = (w.alloc (.cells #[.int .u32 ad, .int .u32 al, .int .u32 af, .int .u32 an] 24)).alloc (.cells #[.int .u32 d, .int .u32 aa, .int .u32 u, .int .i64 nn] 27) := ⟨_, rfl⟩
  have hB : Below w.heap.size w U := by rw [hU]; exact ((Below.refl _ _).alloc (Nat.le_refl _) _).alloc (by simp) _
  have hm : Blk U w.heap.size 24 [.int .u32 ad, .int .u32 al, .int .u32 af, .int .u32 an] := by rw [hU]; exact (Blk.new w _ [.int .u32 ad, .int .u32 al, .int .u32 af, .int .u32 an]).below ((Below.refl _ _).alloc (Nat.le_refl _) _) (Blk.new w _ _).lt
  have hq : Blk U (w.heap.size + 1) 27 [.int .u32 d, .int .u32 aa, .int .u32 u, .int .i64 nn] := by
    have := Blk.new (w.alloc (.cells #[.int .u32 ad, .int .u32 al, .int .u32 af, .int .u32 an] 24)) 27 [.int .u32 d, .int .u32 aa, .int .u32 u, .int .i64 nn]
    rw [World.size_alloc] at this
    rw [hU]
    exact this
  obtain ⟨p, q, r, s, hgt⟩ : ∃ p q r s, gtV zs = dV p q r s := by
    rcases gt_cases zs hz with ⟨_, p, q, r, s, _, _, _, _, h, _, _⟩ | ⟨_, h, _⟩
    · exact ⟨_, _, _, _, h⟩
    · exact ⟨_, _, _, _, h⟩
  obtain ⟨c, hgc⟩ : ∃ c, gtC zs = c := ⟨_, rfl⟩
  have HU := Lib.hid hU
  have HB := Lib.hid hB
  have HM := Lib.hid hm
  have HQ := Lib.hid hq
  have HG1 := Lib.hid (fun W (hW : Below w.heap.size w W) => C.get a n cap zs W hnc hn hc ((hr.below hW).more hW.size) hz)
  have HG2 := Lib.hid (fun W (hW : Below w.heap.size w W) => refGet_d a n cap zs W hnc hn hc ((hr.below hW).more hW.size) hz)
  have HP1 := Lib.hid (fun w => C.put ad al af an w had hal haf han)
  have HP2 := Lib.hid (fun w => refPut_any ad al af an w had hal haf han)
  obtain ⟨ck, hck⟩ : ∃ c, ckF al af an k = c := ⟨_, rfl⟩
  have HC1 := Lib.hid (fun w => C.check ad al af an k w hal haf han)
  have HC2 := Lib.hid (fun w => refCheck_any ad al af an k w hal haf han)
  obtain ⟨sz, hsz⟩ : ∃ c, szB k = c := ⟨_, rfl⟩
  have HS1 := Lib.hid (fun w => C.sized k w)
  have HS2 := Lib.hid (fun w => refSized_any k w)
  obtain ⟨si, hsi⟩ : ∃ c, szF pt k = c := ⟨_, rfl⟩
  have HZ1 := Lib.hid (fun w => C.size pt k w)
  have HZ2 := Lib.hid (fun w => refSize_any pt k w)
  obtain ⟨rt, hrt⟩ : ∃ c, rtB d aa u nn = c := ⟨_, rfl⟩
  have HR1 := Lib.hid (fun w => C.right d aa u nn w hd ha hu)
  have HR2 := Lib.hid (fun w => refRight_any d aa u nn w hd ha hu)
  have HA := Lib.hid (awake21_any C)
  rw [hgt, hgc] at HG1 HG2
  rw [hck] at HC1 HC2
  rw [hsz] at HS1 HS2
  rw [hsi] at HZ1 HZ2
  rw [hrt] at HR1 HR2
  obtain ⟨bz, hbz⟩ : ∃ l, bytesZ [ad, al, af, an] = l := ⟨_, rfl⟩
  rw [hbz] at HP1 HP2
  clear hU hB hm hq C hgt hgc hck hsz hsi hrt hbz hr hz had hal haf han hd ha hu
  go_enter Try.func3, Try.ntmps3
  go_upto_region 1 with fail
  rw [← HU.out]
  clear HU
  go_wp2_with fail
  refine (HG1.out _ HB.out).mono ?_
  rintro e w1 ⟨rfl, hb1⟩
  obtain ⟨V1, hV1⟩ : ∃ V1, V1 = w1.alloc (.cells #[.int .u32 p, .int .u32 q, .int .u32 r, .int .u32 s] 24) := ⟨_, rfl⟩
  have hbV : Below w1.heap.size w1 V1 := by rw [hV1]; exact (Below.refl _ _).alloc (Nat.le_refl _) _
  have hx : Blk V1 w1.heap.size 24 [.int .u32 p, .int .u32 q, .int .u32 r, .int .u32 s] := by rw [hV1]; exact Blk.new w1 _ _
  have hb3 := hb1.trans (hbV.mono hb1.size)
  have HB1 := Lib.hid (HB.out.trans (hb3.mono HB.out.size))
  have HM1 := Lib.hid (HM.out.below hb3 HM.out.lt)
  have HQ1 := Lib.hid (HQ.out.below hb3 HQ.out.lt)
  have HX1 := Lib.hid hx
  have HV1 := Lib.hid hV1
  clear hb1 hbV hx hb3 hV1 HB HM HQ HG1
  go_upto_region 2 with fail
  rw [← HV1.out]
  clear HV1
  generalize w1.heap.size = xb at HX1 ⊢
  go_wp2_with fail
  refine (HG2.out _ HB1.out).mono ?_
  rintro e w2 ⟨rfl, hb2⟩
  obtain ⟨V2, hV2⟩ : ∃ V2, V2 = w2.alloc (.cells #[.int .u32 p, .int .u32 q, .int .u32 r, .int .u32 s] 24) := ⟨_, rfl⟩
  have hbV : Below w2.heap.size w2 V2 := by rw [hV2]; exact (Below.refl _ _).alloc (Nat.le_refl _) _
  have hy : Blk V2 w2.heap.size 24 [.int .u32 p, .int .u32 q, .int .u32 r, .int .u32 s] := by rw [hV2]; exact Blk.new w2 _ _
  have hb3 := hb2.trans (hbV.mono hb2.size)
  have HB2 := Lib.hid (HB1.out.trans (hb3.mono HB1.out.size))
  have HM2 := Lib.hid (HM1.out.below hb3 HM1.out.lt)
  have HQ2 := Lib.hid (HQ1.out.below hb3 HQ1.out.lt)
  have HX2 := Lib.hid (HX1.out.below hb3 HX1.out.lt)
  have HY2 := Lib.hid hy
  have HV2 := Lib.hid hV2
  clear hb2 hbV hy hb3 hV2 HB1 HM1 HQ1 HX1 HG2
  go_upto_region 3 with fail
  rw [← HV2.out]
  clear HV2
  generalize w2.heap.size = yb at HY2 ⊢
  apply wp_region_x [25, 26, 27, 28, 29, 30, 31, 32, 33, 34, 35, 36, 37, 38, 39, 40, 41, 42, 43, 44, 45, 46, 47, 48, 49] [_, _, _, _, _, _, _, _, _, _, undef, _, _, undef, _, _, _, _, _, _, _, _, _, _, _] [10, 13] (fun L_ x_ W' => Below V2.heap.size V2 W' ∧ (L_ 10 = true → Byt W' (x_ 10) bz) ∧ (L_ 13 = true → Byt W' (x_ 13) bz))
  case hm => kernel_rfl
  case hT => intro y; simp only [setAll, List.setIfInBounds_toArray, List.set_cons_succ, List.set_cons_zero]; exact rfl
  case hok => kernel_rfl
  case hn => decide
  case hw => exact (fun L_ x_ h0 => ⟨(Below.refl _ _).drew, fun h => absurd h (by rw [h0 10 (by decide)]; decide), fun h => absurd h (by rw [h0 13 (by decide)]; decide)⟩)
  case hs =>
    refine x_op 25 [] (by kernel_rfl) (fun L y w' hL hC HW hd K hK => ?_) ?_
    · have z := HX2.out.below HW.1 HX2.out.lt
      have s0 := z.cell (j := 0) rfl
      have s1 := z.cell (j := 1) rfl
      have s2 := z.cell (j := 2) rfl
      have s3 := z.cell (j := 3) rfl
      have sl := z.lt
      go_simp
      refine hK _ _ ?_ ?_ HW
      · simp [upd]
      · exact rfl
    refine x_op 26 [] (by kernel_rfl) (fun L y w' hL hC HW hd K hK => ?_) ?_
    · have z := HY2.out.below HW.1 HY2.out.lt
      have s0 := z.cell (j := 0) rfl
      have s1 := z.cell (j := 1) rfl
      have s2 := z.cell (j := 2) rfl
      have s3 := z.cell (j := 3) rfl
      have sl := z.lt
      go_simp
      refine hK _ _ ?_ ?_ HW
      · simp [upd]
      · exact rfl
    refine x_op 27 [0, 1] (by kernel_rfl) (fun L y w' hL hC HW hd K hK => ?_) ?_
    · have e0 := xR_nth (hd 0 (by simp)).2 rfl rfl
      have e1 := xR_nth (hd 1 (by simp)).2 rfl rfl
      go_simp
      refine hK _ _ ?_ ?_ HW
      · simp [upd, e0, e1]
      · exact rfl
    refine x_op 28 [2] (by kernel_rfl) (fun L y w' hL hC HW hd K hK => ?_) ?_
    · have e2 := xR_nth (hd 2 (by simp)).2 rfl rfl
      go_simp
      refine hK _ _ ?_ ?_ HW
      · simp [upd, e2]
      · exact rfl
    refine x_op 29 [3] (by kernel_rfl) (fun L y w' hL hC HW hd K hK => ?_) ?_
    · have e3 := xR_nth (hd 3 (by simp)).2 rfl rfl
      go_simp
      refine hK _ _ ?_ ?_ HW
      · simp [upd, e3]
      · exact rfl
    refine x_op 30 [3] (by kernel_rfl) (fun L y w' hL hC HW hd K hK => ?_) ?_
    · have e3 := xR_nth (hd 3 (by simp)).2 rfl rfl
      go_simp
      refine hK _ _ ?_ ?_ HW
      · simp [upd, e3]
      · exact rfl
    refine x_op 31 [4, 5, 3] (by kernel_rfl) (fun L y w' hL hC HW hd K hK => ?_) ?_
    · have e3 := xR_nth (hd 3 (by simp)).2 rfl rfl
      have e4 := xR_nth (hd 4 (by simp)).2 rfl rfl
      have e5 := xR_nth (hd 5 (by simp)).2 rfl rfl
      go_simp
      refine hK _ _ ?_ ?_ HW
      · simp [upd, e3, e4, e5]
      · exact rfl
    refine x_op 32 [3, 6] (by kernel_rfl) (fun L y w' hL hC HW hd K hK => ?_) ?_
    · have e3 := xR_nth (hd 3 (by simp)).2 rfl rfl
      have e6 := xR_nth (hd 6 (by simp)).2 rfl rfl
      go_simp
      refine hK _ _ ?_ ?_ HW
      · simp [upd, e3, e6]
      · exact rfl
    refine x_op 33 [7, 3] (by kernel_rfl) (fun L y w' hL hC HW hd K hK => ?_) ?_
    · have e3 := xR_nth (hd 3 (by simp)).2 rfl rfl
      have e7 := xR_nth (hd 7 (by simp)).2 rfl rfl
      go_simp
      refine hK _ _ ?_ ?_ HW
      · simp [upd, e3, e7]
      · exact rfl
    refine x_op 34 [8] (by kernel_rfl) (fun L y w' hL hC HW hd K hK => ?_) ?_
    · have e8 := xR_nth (hd 8 (by simp)).2 rfl rfl
      have z := HM2.out.below HW.1 HM2.out.lt
      have s0 := z.cell (j := 0) rfl
      have s1 := z.cell (j := 1) rfl
      have s2 := z.cell (j := 2) rfl
      have s3 := z.cell (j := 3) rfl
      have sl := z.lt
      go_simp
      refine hK _ _ ?_ ?_ HW
      · simp [upd, e8]
      · exact rfl
    refine x_one 35 [9, 8, 8] (by kernel_rfl) rfl (fun L y w' hL hC HW hd K hK => ?_) ?_
    · have e8 := xR_nth (hd 8 (by simp)).2 rfl rfl
      have e9 := xR_nth (hd 9 (by simp)).2 rfl rfl
      go_simp
      refine (HP1.out _).mono ?_
      rintro e w3 ⟨⟨v, rfl, HV⟩, hb3⟩
      refine hK _ _ ?_ ⟨HW.1.trans (hb3.mono HW.1.size), fun _ => by simpa [upd] using HV.out, fun h => (HW.2.2 h).more hb3⟩
      · simp [upd, e8, e9]
    refine x_op 36 [10, 8] (by kernel_rfl) (fun L y w' hL hC HW hd K hK => ?_) ?_
    · have e8 := xR_nth (hd 8 (by simp)).2 rfl rfl
      have hl10 := (hd 10 (by simp)).1
      obtain ⟨va, vc, e10, _, _, hvr⟩ := HW.2.1 hl10
      have hcv := run_convert_row (dst := 9) (P := Try.prog) (cap := vc) Try.underlying25 Try.underlying5 Try.underlying9 hvr
      go_simp
      refine hK _ _ ?_ ?_ HW
      · simp [upd, e8, e10]
      · exact rfl
    refine x_op 37 [8] (by kernel_rfl) (fun L y w' hL hC HW hd K hK => ?_) ?_
    · have e8 := xR_nth (hd 8 (by simp)).2 rfl rfl
      have z := HM2.out.below HW.1 HM2.out.lt
      have s0 := z.cell (j := 0) rfl
      have s1 := z.cell (j := 1) rfl
      have s2 := z.cell (j := 2) rfl
      have s3 := z.cell (j := 3) rfl
      have sl := z.lt
      go_simp
      refine hK _ _ ?_ ?_ HW
      · simp [upd, e8]
      · exact rfl
    refine x_one 38 [12, 10, 8] (by kernel_rfl) rfl (fun L y w' hL hC HW hd K hK => ?_) ?_
    · have e8 := xR_nth (hd 8 (by simp)).2 rfl rfl
      have e12 := xR_nth (hd 12 (by simp)).2 rfl rfl
      have hl10 := (hd 10 (by simp)).1
      obtain ⟨va, vc, e10, _, _, hvr⟩ := HW.2.1 hl10
      go_simp
      refine (HP2.out _).mono ?_
      rintro e w3 ⟨⟨v, rfl, HV⟩, hb3⟩
      refine hK _ _ ?_ ⟨HW.1.trans (hb3.mono HW.1.size), fun h => (HW.2.1 h).more hb3, fun _ => by simpa [upd] using HV.out⟩
      · simp [upd, e8, e12, e10]
    refine x_op 39 [13, 8] (by kernel_rfl) (fun L y w' hL hC HW hd K hK => ?_) ?_
    · have e8 := xR_nth (hd 8 (by simp)).2 rfl rfl
      have hl13 := (hd 13 (by simp)).1
      obtain ⟨va, vc, e13, _, _, hvr⟩ := HW.2.2 hl13
      have hcv := run_convert_row (dst := 9) (P := Try.prog) (cap := vc) Try.underlying25 Try.underlying5 Try.underlying9 hvr
      go_simp
      refine hK _ _ ?_ ?_ HW
      · simp [upd, e8, e13]
      · exact rfl
    refine x_op 40 [11, 14, 8] (by kernel_rfl) (fun L y w' hL hC HW hd K hK => ?_) ?_
    · have e8 := xR_nth (hd 8 (by simp)).2 rfl rfl
      have e11 := xR_nth (hd 11 (by simp)).2 rfl rfl
      have e14 := xR_nth (hd 14 (by simp)).2 rfl rfl
      go_simp
      refine hK _ _ ?_ ?_ HW
      · simp [upd, e8, e11, e14]
      · exact rfl
    refine x_op 41 [8, 15] (by kernel_rfl) (fun L y w' hL hC HW hd K hK => ?_) ?_
    · have e8 := xR_nth (hd 8 (by simp)).2 rfl rfl
      have e15 := xR_nth (hd 15 (by simp)).2 rfl rfl
      go_simp
      refine hK _ _ ?_ ?_ HW
      · simp [upd, e8, e15]
      · exact rfl
    refine x_op 42 [16, 13] (by kernel_rfl) (fun L y w' hL hC HW hd K hK => ?_) ?_
    · have e16 := xR_nth (hd 16 (by simp)).2 rfl rfl
      have hl13 := (hd 13 (by simp)).1
      obtain ⟨va, vc, e13, _, _, hvr⟩ := HW.2.2 hl13
      go_simp
      refine hK _ _ ?_ ?_ HW
      · simp [upd, e16, e13]
      · exact rfl
    refine x_op 43 [17] (by kernel_rfl) (fun L y w' hL hC HW hd K hK => ?_) ?_
    · have e17 := xR_nth (hd 17 (by simp)).2 rfl rfl
      have z := HM2.out.below HW.1 HM2.out.lt
      have s0 := z.cell (j := 0) rfl
      have s1 := z.cell (j := 1) rfl
      have s2 := z.cell (j := 2) rfl
      have s3 := z.cell (j := 3) rfl
      have sl := z.lt
      go_simp
      refine hK _ _ ?_ ?_ HW
      · simp [upd, e17]
      · exact rfl
    refine x_op 44 [17] (by kernel_rfl) (fun L y w' hL hC HW hd K hK => ?_) ?_
    · have e17 := xR_nth (hd 17 (by simp)).2 rfl rfl
      go_simp
      refine hK _ _ ?_ ?_ HW
      · simp [upd, e17]
      · exact rfl
    refine x_op 45 [18, 19, 17, 17] (by kernel_rfl) (fun L y w' hL hC HW hd K hK => ?_) ?_
    · have e17 := xR_nth (hd 17 (by simp)).2 rfl rfl
      have e18 := xR_nth (hd 18 (by simp)).2 rfl rfl
      have e19 := xR_nth (hd 19 (by simp)).2 rfl rfl
      go_simp
      refine (HC1.out _).mono ?_
      rintro e w3 ⟨rfl, hb3⟩
      refine hK _ _ ?_ ?_ ⟨HW.1.trans (hb3.mono HW.1.size), fun h => (HW.2.1 h).more hb3, fun h => (HW.2.2 h).more hb3⟩
      · simp [upd, e17, e18, e19]
      · exact rfl
    refine x_op 46 [17] (by kernel_rfl) (fun L y w' hL hC HW hd K hK => ?_) ?_
    · have e17 := xR_nth (hd 17 (by simp)).2 rfl rfl
      have z := HM2.out.below HW.1 HM2.out.lt
      have s0 := z.cell (j := 0) rfl
      have s1 := z.cell (j := 1) rfl
      have s2 := z.cell (j := 2) rfl
      have s3 := z.cell (j := 3) rfl
      have sl := z.lt
      go_simp
      refine hK _ _ ?_ ?_ HW
      · simp [upd, e17]
      · exact rfl
    refine x_op 47 [17] (by kernel_rfl) (fun L y w' hL hC HW hd K hK => ?_) ?_
    · have e17 := xR_nth (hd 17 (by simp)).2 rfl rfl
      go_simp
      refine hK _ _ ?_ ?_ HW
      · simp [upd, e17]
      · exact rfl
    refine x_op 48 [21, 22, 20, 17] (by kernel_rfl) (fun L y w' hL hC HW hd K hK => ?_) ?_
    · have e17 := xR_nth (hd 17 (by simp)).2 rfl rfl
      have e20 := xR_nth (hd 20 (by simp)).2 rfl rfl
      have e21 := xR_nth (hd 21 (by simp)).2 rfl rfl
      have e22 := xR_nth (hd 22 (by simp)).2 rfl rfl
      go_simp
      refine (HC2.out _).mono ?_
      rintro e w3 ⟨rfl, hb3⟩
      refine hK _ _ ?_ ?_ ⟨HW.1.trans (hb3.mono HW.1.size), fun h => (HW.2.1 h).more hb3, fun h => (HW.2.2 h).more hb3⟩
      · simp [upd, e17, e20, e21, e22]
      · exact rfl
    refine x_op 49 [20, 23, 17] (by kernel_rfl) (fun L y w' hL hC HW hd K hK => ?_) ?_
    · have e17 := xR_nth (hd 17 (by simp)).2 rfl rfl
      have e20 := xR_nth (hd 20 (by simp)).2 rfl rfl
      have e23 := xR_nth (hd 23 (by simp)).2 rfl rfl
      go_simp
      refine hK _ _ ?_ ?_ HW
      · simp [upd, e17, e20, e23]
      · exact rfl
    refine x_last fun L y w' hLs HW hd K hK => ?_
    have e0 := xR_nth (hd 0 (by omega)) rfl rfl
    have e1 := xR_nth (hd 1 (by omega)) rfl rfl
    have e2 := xR_nth (hd 2 (by omega)) rfl rfl
    have e3 := xR_nth (hd 3 (by omega)) rfl rfl
    have e4 := xR_nth (hd 4 (by omega)) rfl rfl
    have e5 := xR_nth (hd 5 (by omega)) rfl rfl
    have e6 := xR_nth (hd 6 (by omega)) rfl rfl
    have e7 := xR_nth (hd 7 (by omega)) rfl rfl
    have e8 := xR_nth (hd 8 (by omega)) rfl rfl
    have e9 := xR_nth (hd 9 (by omega)) rfl rfl
    have e11 := xR_nth (hd 11 (by omega)) rfl rfl
    have e12 := xR_nth (hd 12 (by omega)) rfl rfl
    have e14 := xR_nth (hd 14 (by omega)) rfl rfl
    have e15 := xR_nth (hd 15 (by omega)) rfl rfl
    have e16 := xR_nth (hd 16 (by omega)) rfl rfl
    have e17 := xR_nth (hd 17 (by omega)) rfl rfl
    have e18 := xR_nth (hd 18 (by omega)) rfl rfl
    have e19 := xR_nth (hd 19 (by omega)) rfl rfl
    have e20 := xR_nth (hd 20 (by omega)) rfl rfl
    have e21 := xR_nth (hd 21 (by omega)) rfl rfl
    have e22 := xR_nth (hd 22 (by omega)) rfl rfl
    have e23 := xR_nth (hd 23 (by omega)) rfl rfl
    have e24 := xR_nth (hd 24 (by omega)) rfl rfl
    obtain ⟨va, vb, e10, _, _, _⟩ := HW.2.1 (hLs 10 (by decide))
    obtain ⟨vc, vd, e13, _, _, _⟩ := HW.2.2 (hLs 13 (by decide))
    have HX9 := Lib.hid (HB2.out.trans (HW.1.mono HB2.out.size))
    have HQ9 := Lib.hid (HQ2.out.below HW.1 HQ2.out.lt)
    go_simp
    refine hK _ _ ?_
    clear hd hK K HW hLs
    clear HX2 HY2 HM2 HQ2 HB2 HP1 HP2 HC1 HC2
    obtain ⟨wd, rfl⟩ : ∃ X, X = w' := ⟨_, rfl⟩
    go_upto_region 5 with fail
    apply wp_region_x [51, 52, 53, 54, 55, 56, 57, 58, 59, 60, 61, 62, 63, 64, 65, 66, 67, 68, 69, 70, 71, 72, 73, 74] [_, _, _, _, _, _, _, _, _, _, _, _, _, _, _, _, _, _, _, _, _, _, _, _] [] (fun L_ x_ W' => Below wd.heap.size wd W')
    case hm => kernel_rfl
    case hT => intro y; simp only [setAll, List.setIfInBounds_toArray, List.set_cons_succ, List.set_cons_zero]; exact rfl
    case hok => kernel_rfl
    case hn => decide
    case hw => exact (fun L_ x_ h0 => (Below.refl _ _).drew)
    case hs =>
      refine x_op 51 [] (by kernel_rfl) (fun L y w' hL hC HW hd K hK => ?_) ?_
      · go_simp
        refine hK _ _ ?_ ?_ HW
        · simp [upd]
        · exact rfl
      refine x_op 52 [0] (by kernel_rfl) (fun L y w' hL hC HW hd K hK => ?_) ?_
      · have e0 := xR_nth (hd 0 (by simp)).2 rfl rfl
        go_simp
        refine (HS1.out _).mono ?_
        rintro e w3 ⟨rfl, hb3⟩
        refine hK _ _ ?_ ?_ (HW.trans (hb3.mono HW.size))
        · simp [upd, e0]
        · exact rfl
      refine x_op 53 [] (by kernel_rfl) (fun L y w' hL hC HW hd K hK => ?_) ?_
      · go_simp
        refine hK _ _ ?_ ?_ HW
        · simp [upd]
        · exact rfl
      refine x_op 54 [2, 1] (by kernel_rfl) (fun L y w' hL hC HW hd K hK => ?_) ?_
      · have e1 := xR_nth (hd 1 (by simp)).2 rfl rfl
        have e2 := xR_nth (hd 2 (by simp)).2 rfl rfl
        go_simp
        refine (HS2.out _).mono ?_
        rintro e w3 ⟨rfl, hb3⟩
        refine hK _ _ ?_ ?_ (HW.trans (hb3.mono HW.size))
        · simp [upd, e1, e2]
        · exact rfl
      refine x_op 55 [1, 3] (by kernel_rfl) (fun L y w' hL hC HW hd K hK => ?_) ?_
      · have e1 := xR_nth (hd 1 (by simp)).2 rfl rfl
        have e3 := xR_nth (hd 3 (by simp)).2 rfl rfl
        go_simp
        refine hK _ _ ?_ ?_ HW
        · simp [upd, e1, e3]
        · exact rfl
      refine x_op 56 [4, 3] (by kernel_rfl) (fun L y w' hL hC HW hd K hK => ?_) ?_
      · have e3 := xR_nth (hd 3 (by simp)).2 rfl rfl
        have e4 := xR_nth (hd 4 (by simp)).2 rfl rfl
        go_simp
        refine hK _ _ ?_ ?_ HW
        · simp [upd, e3, e4]
        · exact rfl
      refine x_op 57 [5] (by kernel_rfl) (fun L y w' hL hC HW hd K hK => ?_) ?_
      · have e5 := xR_nth (hd 5 (by simp)).2 rfl rfl
        go_simp
        refine hK _ _ ?_ ?_ HW
        · simp [upd, e5]
        · exact rfl
      refine x_op 58 [5] (by kernel_rfl) (fun L y w' hL hC HW hd K hK => ?_) ?_
      · have e5 := xR_nth (hd 5 (by simp)).2 rfl rfl
        go_simp
        refine hK _ _ ?_ ?_ HW
        · simp [upd, e5]
        · exact rfl
      refine x_op 59 [6, 7, 5, 5] (by kernel_rfl) (fun L y w' hL hC HW hd K hK => ?_) ?_
      · have e5 := xR_nth (hd 5 (by simp)).2 rfl rfl
        have e6 := xR_nth (hd 6 (by simp)).2 rfl rfl
        have e7 := xR_nth (hd 7 (by simp)).2 rfl rfl
        go_simp
        refine (HZ1.out _).mono ?_
        rintro e w3 ⟨rfl, hb3⟩
        refine hK _ _ ?_ ?_ (HW.trans (hb3.mono HW.size))
        · simp [upd, e5, e6, e7]
        · exact rfl
      refine x_op 60 [5] (by kernel_rfl) (fun L y w' hL hC HW hd K hK => ?_) ?_
      · have e5 := xR_nth (hd 5 (by simp)).2 rfl rfl
        go_simp
        refine hK _ _ ?_ ?_ HW
        · simp [upd, e5]
        · exact rfl
      refine x_op 61 [5] (by kernel_rfl) (fun L y w' hL hC HW hd K hK => ?_) ?_
      · have e5 := xR_nth (hd 5 (by simp)).2 rfl rfl
        go_simp
        refine hK _ _ ?_ ?_ HW
        · simp [upd, e5]
        · exact rfl
      refine x_op 62 [9, 10, 8, 5] (by kernel_rfl) (fun L y w' hL hC HW hd K hK => ?_) ?_
      · have e5 := xR_nth (hd 5 (by simp)).2 rfl rfl
        have e8 := xR_nth (hd 8 (by simp)).2 rfl rfl
        have e9 := xR_nth (hd 9 (by simp)).2 rfl rfl
        have e10 := xR_nth (hd 10 (by simp)).2 rfl rfl
        go_simp
        refine (HZ2.out _).mono ?_
        rintro e w3 ⟨rfl, hb3⟩
        refine hK _ _ ?_ ?_ (HW.trans (hb3.mono HW.size))
        · simp [upd, e5, e8, e9, e10]
        · exact rfl
      refine x_op 63 [8, 11, 5] (by kernel_rfl) (fun L y w' hL hC HW hd K hK => ?_) ?_
      · have e5 := xR_nth (hd 5 (by simp)).2 rfl rfl
        have e8 := xR_nth (hd 8 (by simp)).2 rfl rfl
        have e11 := xR_nth (hd 11 (by simp)).2 rfl rfl
        go_simp
        refine hK _ _ ?_ ?_ HW
        · simp [upd, e5, e8, e11]
        · exact rfl
      refine x_op 64 [5, 12] (by kernel_rfl) (fun L y w' hL hC HW hd K hK => ?_) ?_
      · have e5 := xR_nth (hd 5 (by simp)).2 rfl rfl
        have e12 := xR_nth (hd 12 (by simp)).2 rfl rfl
        go_simp
        refine hK _ _ ?_ ?_ HW
        · simp [upd, e5, e12]
        · exact rfl
      refine x_op 65 [13, 11] (by kernel_rfl) (fun L y w' hL hC HW hd K hK => ?_) ?_
      · have e11 := xR_nth (hd 11 (by simp)).2 rfl rfl
        have e13 := xR_nth (hd 13 (by simp)).2 rfl rfl
        go_simp
        refine hK _ _ ?_ ?_ HW
        · simp [upd, e11, e13]
        · exact rfl
      refine x_op 66 [14] (by kernel_rfl) (fun L y w' hL hC HW hd K hK => ?_) ?_
      · have e14 := xR_nth (hd 14 (by simp)).2 rfl rfl
        have z := HQ9.out.below HW HQ9.out.lt
        have s0 := z.cell (j := 0) rfl
        have s1 := z.cell (j := 1) rfl
        have s2 := z.cell (j := 2) rfl
        have s3 := z.cell (j := 3) rfl
        have sl := z.lt
        go_simp
        refine hK _ _ ?_ ?_ HW
        · simp [upd, e14]
        · exact rfl
      refine x_op 67 [15, 14, 14] (by kernel_rfl) (fun L y w' hL hC HW hd K hK => ?_) ?_
      · have e14 := xR_nth (hd 14 (by simp)).2 rfl rfl
        have e15 := xR_nth (hd 15 (by simp)).2 rfl rfl
        go_simp
        refine (HR1.out _).mono ?_
        rintro e w3 ⟨rfl, hb3⟩
        refine hK _ _ ?_ ?_ (HW.trans (hb3.mono HW.size))
        · simp [upd, e14, e15]
        · exact rfl
      refine x_op 68 [14] (by kernel_rfl) (fun L y w' hL hC HW hd K hK => ?_) ?_
      · have e14 := xR_nth (hd 14 (by simp)).2 rfl rfl
        have z := HQ9.out.below HW HQ9.out.lt
        have s0 := z.cell (j := 0) rfl
        have s1 := z.cell (j := 1) rfl
        have s2 := z.cell (j := 2) rfl
        have s3 := z.cell (j := 3) rfl
        have sl := z.lt
        go_simp
        refine hK _ _ ?_ ?_ HW
        · simp [upd, e14]
        · exact rfl
      refine x_op 69 [17, 16, 14] (by kernel_rfl) (fun L y w' hL hC HW hd K hK => ?_) ?_
      · have e14 := xR_nth (hd 14 (by simp)).2 rfl rfl
        have e16 := xR_nth (hd 16 (by simp)).2 rfl rfl
        have e17 := xR_nth (hd 17 (by simp)).2 rfl rfl
        go_simp
        refine (HR2.out _).mono ?_
        rintro e w3 ⟨rfl, hb3⟩
        refine hK _ _ ?_ ?_ (HW.trans (hb3.mono HW.size))
        · simp [upd, e14, e16, e17]
        · exact rfl
      refine x_op 70 [16, 18, 14] (by kernel_rfl) (fun L y w' hL hC HW hd K hK => ?_) ?_
      · have e14 := xR_nth (hd 14 (by simp)).2 rfl rfl
        have e16 := xR_nth (hd 16 (by simp)).2 rfl rfl
        have e18 := xR_nth (hd 18 (by simp)).2 rfl rfl
        go_simp
        refine hK _ _ ?_ ?_ HW
        · simp [upd, e14, e16, e18]
        · exact rfl
      refine x_op 71 [14, 19] (by kernel_rfl) (fun L y w' hL hC HW hd K hK => ?_) ?_
      · have e14 := xR_nth (hd 14 (by simp)).2 rfl rfl
        have e19 := xR_nth (hd 19 (by simp)).2 rfl rfl
        go_simp
        refine hK _ _ ?_ ?_ HW
        · simp [upd, e14, e19]
        · exact rfl
      refine x_op 72 [20, 18] (by kernel_rfl) (fun L y w' hL hC HW hd K hK => ?_) ?_
      · have e18 := xR_nth (hd 18 (by simp)).2 rfl rfl
        have e20 := xR_nth (hd 20 (by simp)).2 rfl rfl
        go_simp
        refine hK _ _ ?_ ?_ HW
        · simp [upd, e18, e20]
        · exact rfl
      refine x_op 73 [21, 21] (by kernel_rfl) (fun L y w' hL hC HW hd K hK => ?_) ?_
      · have e21 := xR_nth (hd 21 (by simp)).2 rfl rfl
        go_simp
        refine (HA.out _).mono ?_
        rintro e w3 ⟨rfl, hb3⟩
        refine hK _ _ ?_ ?_ (HW.trans (hb3.mono HW.size))
        · simp [upd, e21]
        · exact rfl
      refine x_op 74 [21, 22] (by kernel_rfl) (fun L y w' hL hC HW hd K hK => ?_) ?_
      · have e21 := xR_nth (hd 21 (by simp)).2 rfl rfl
        have e22 := xR_nth (hd 22 (by simp)).2 rfl rfl
        go_simp
        refine hK _ _ ?_ ?_ HW
        · simp [upd, e21, e22]
        · exact rfl
      refine x_last fun L y w' hLs HW hd K hK => ?_
      have e0 := xR_nth (hd 0 (by omega)) rfl rfl
      have e1 := xR_nth (hd 1 (by omega)) rfl rfl
      have e2 := xR_nth (hd 2 (by omega)) rfl rfl
      have e3 := xR_nth (hd 3 (by omega)) rfl rfl
      have e4 := xR_nth (hd 4 (by omega)) rfl rfl
      have e5 := xR_nth (hd 5 (by omega)) rfl rfl
      have e6 := xR_nth (hd 6 (by omega)) rfl rfl
      have e7 := xR_nth (hd 7 (by omega)) rfl rfl
      have e8 := xR_nth (hd 8 (by omega)) rfl rfl
      have e9 := xR_nth (hd 9 (by omega)) rfl rfl
      have e10 := xR_nth (hd 10 (by omega)) rfl rfl
      have e11 := xR_nth (hd 11 (by omega)) rfl rfl
      have e12 := xR_nth (hd 12 (by omega)) rfl rfl
      have e13 := xR_nth (hd 13 (by omega)) rfl rfl
      have e14 := xR_nth (hd 14 (by omega)) rfl rfl
      have e15 := xR_nth (hd 15 (by omega)) rfl rfl
      have e16 := xR_nth (hd 16 (by omega)) rfl rfl
      have e17 := xR_nth (hd 17 (by omega)) rfl rfl
      have e18 := xR_nth (hd 18 (by omega)) rfl rfl
      have e19 := xR_nth (hd 19 (by omega)) rfl rfl
      have e20 := xR_nth (hd 20 (by omega)) rfl rfl
      have e21 := xR_nth (hd 21 (by omega)) rfl rfl
      have e22 := xR_nth (hd 22 (by omega)) rfl rfl
      have e23 := xR_nth (hd 23 (by omega)) rfl rfl
      have HE9 := Lib.hid (HX9.out.trans (HW.mono HX9.out.size))
      go_simp
      refine hK _ _ ?_
      clear hd hK K HW hLs
      go_wp2
      go_ret
      exact ⟨rfl, HE9.out⟩
end
end Go.Proofs.Ytkkolbdapoejkaa.De
