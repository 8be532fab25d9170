/- Several texts in one: Iv -/
import Derived.Test.YteaincdeoajkeaaGreatDoorZ29
section
/- hermitagelaw20: the walk of MmuSaves, over what the program is to keep. -/
namespace Go.Proofs.YteaincdeoajkeaaGreatDoor.Mm
open Go.RowKit Go.Shelf Ut Oc Vw Wa
set_option maxRecDepth 100000
set_option linter.unusedVariables false
set_option maxHeartbeats 8000000

theorem saves20_any {PM : PMt} (C : MmuC PM) (room : Nat) (hroom : room < 256) (al aa : Option Addr) (ll cl la ca : Nat) (Zp : Nat → Int × Int) (Z : Nat → Am) (w : World) (hll : ll ≤ 9223372036854775807) (hla : la ≤ 9223372036854775807) (hl : PutRow w w.heap.size al ll Zp) (ha : AmRow w w.heap.size aa la Z) (hG : PM.G w) (hnb : PM.nb ≤ w.heap.size) :
  Calls Tryz.prog 5 #[.int .u8 room, .slice al ll cl, .slice aa la ca] w fun e w' => e = .returned (.bool true) ∧ Below w.heap.size w w' := by
 have HMK := Lib.hid (fun r h0 h1 => made20_any C r h0 h1 al ll cl w.heap.size Zp w hll hl (Nat.le_refl _) hG hnb)
 have HGW : Hid (∀ W, Below w.heap.size w W → PM.G W ∧ PM.nb ≤ W.heap.size) := Lib.hid fun W hb => ⟨C.gb hG (hb.mono hnb), Nat.le_trans hnb hb.size⟩
 have HC := Lib.hid C
 have HAR := Lib.hid ha
 have r0 : (0 : Int) ≤ (room : Int) := by omega
 have r1 : (room : Int) < 256 := by omega
 clear C hl ha hroom hG hnb
 go_enter Tryz.func5, Tryz.ntmps5
 go_wp2_with fail
 refine (HMK.out _ (by omega) (by omega)).mono ?_
 rintro e w1 ⟨u, b, g, rfl, hmd⟩
 have hmz : ∃ J : BK, J.u = u ∧ J.b = b ∧ J.g = g ∧ ∃ S LM, MZ PM w1 [] w w1 J S LM S LM := by
  obtain ⟨J, T, tb, e1, e2, e3, h⟩ := hmd.out
  exact ⟨J, e1, e2, e3, _, _, T, [], tb, h⟩
 obtain ⟨J, rfl, rfl, rfl, S0, L0, hz⟩ := hmz
 have HZ0 := Lib.hid hz
 clear hmd hz HMK
 go_wp2
 go_loopw [10] (fun j wr => ∃ (k : Nat) (S : List Int) (LM : List Gm.Pl), k ≤ cntB la 30 ∧ j = .int .i64 k ∧ Hid (MZ PM w1 [] w wr J S LM S LM)) (fun j _ => cntB la 30 - (intOf j).toNat)
 case atStart => exact ⟨0, S0, L0, Nat.zero_le _, rfl, HZ0⟩
 case round =>
  clear HZ0
  obtain ⟨k, S, LM, hk, rfl, HZ⟩ := hrel
  by_cases hin : k < la ∧ k < 30
  ·have f1 : (k : Int) < (la : Int) := by omega
   have f2 : (k : Int) < 30 := by omega
   have f0 : (0 : Int) ≤ (k : Int) := by omega
   have H1 := Lib.hid (cntB_in hin.1 hin.2)
   obtain ⟨y, rfl, hyb, hx, c0, c1, c2, c3, c4, c5, c6, c7⟩ := HAR.out.at_ HZ.out.b (Nat.le_refl _) hin.1
   generalize Z k = a at hx c0 c1 c2 c3 c4 c5 c6 c7
   obtain ⟨U, hU⟩ : ∃ U, U = wr.alloc (.cells #[.int .i64 a.kd, .bool a.on, .int .i64 a.rt, .bool a.us, .int .u32 a.va, .int .i64 a.wd, .int .i64 a.kn, .int .u32 a.x] 33) := ⟨_, rfl⟩
   have hB : Below wr.heap.size wr U := by rw [hU]; exact (Below.refl _ _).alloc (Nat.le_refl _) _
   have hA : Blk U wr.heap.size 33 [.int .i64 a.kd, .bool a.on, .int .i64 a.rt, .bool a.us, .int .u32 a.va, .int .i64 a.wd, .int .i64 a.kn, .int .u32 a.x] := by rw [hU]; exact Blk.new wr _ _
   have hE := HZ.out.enter HC.out hB [wr.heap.size] (fun y hy => by simp at hy; subst hy; exact ⟨Nat.le_refl _, hA.lt⟩)
   have HV : Hid (∀ (w' : World) (S1 : List Int) (L1 : List Gm.Pl), MZ PM U ([wr.heap.size] ++ []) w w' J S1 L1 S1 L1 → MZ PM w1 [] w w' J S1 L1 S1 L1) := Lib.hid fun w' S1 L1 h' => HZ.out.leave hB h'
   have HE := Lib.hid hE
   have HA := Lib.hid hA
   have HU := Lib.hid hU
   have HW := Lib.hid hx
   clear hU hB hA hE hx hin hk HZ
   obtain ⟨kd, on, rt, us, va, wd, kn, x⟩ := a
   dsimp only at HU HA c0 c1 c2 c3 c4 c5 c6 c7
   have z0 : 0 ≤ va := HW.out.l4
   have z1 : va < 4294967296 := HW.out.u4
   have x0 : 0 ≤ x := HW.out.l7
   have x1 : x < 4294967296 := HW.out.u7
   clear HW
   obtain ⟨S2, hS2⟩ : ∃ S2, ss20 12 S LM on rt us va wd x = S2 := ⟨_, rfl⟩
   obtain ⟨c, hc⟩ : ∃ c, sc20 12 S LM on rt us va wd = c := ⟨_, rfl⟩
   have HSP : Hid (∀ (Sd : List Int) (W : World), MZ PM U ([wr.heap.size] ++ []) w W J S LM Sd LM → Calls Tryz.prog 18 #[.pointer (some ⟨J.u, 0, none⟩), .agg #[.bool on, .int .i64 rt, .bool us], .int .u32 va, .int .i64 wd, .int .u32 x] W fun e w' => e = .returned (.int .i64 c) ∧ Hid (MZ PM U ([wr.heap.size] ++ []) w w' J S2 LM Sd LM)) := Lib.hid fun Sd W hW => by
    have := mzSave HC.out hW on us rt va wd x z0 z1 x0 x1
    rw [hS2, hc] at this
    exact this
   have HSD : Hid (∀ (Sp : List Int) (W : World), MZ PM U ([wr.heap.size] ++ []) w W J Sp LM S LM → Calls Tryz.prog 19 #[.pointer (some ⟨J.g, 0, none⟩), .agg #[.bool on, .int .i64 rt, .bool us], .int .u32 va, .int .i64 wd, .int .u32 x] W fun e w' => e = .returned (.int .i64 c) ∧ Hid (MZ PM U ([wr.heap.size] ++ []) w w' J Sp LM S2 LM)) := Lib.hid fun Sp W hW => by
    have := dSave HC.out hW on us rt va wd x z0 z1 x0 x1
    rw [hS2, hc] at this
    exact this
   clear hS2 hc
   go_upto_region 8 with fail
   rw [← HU.out]
   clear HU c0 c1 c2 c3 c4 c5 c6 c7 hyb z0 z1 x0 x1
   generalize wr.heap.size = ab at HA HV HE HSP HSD ⊢
   apply wp_region_autoL [44, 45, 46, 47, 48, 49, 50, 51, 52, 53, 54, 55, 56, 57, 58, 59, 60, 61, 62, 63] [_, _, _, _, _, _, _, _, _, _, _, _, _, _, _, _, _, _, _, _] (fun L_ W' => MZ PM U ([ab] ++ []) w W' J (cond (L_ 9) S2 S) LM (cond (L_ 19) S2 S) LM)
   case hm => kernel_rfl
   case hT => intro y; simp only [setAll, List.setIfInBounds_toArray, List.set_cons_succ, List.set_cons_zero]; exact rfl
   case hok => kernel_rfl
   case hn => decide
   case hw => exact (fun L_ h0 => by simp only [h0 9 (by decide), h0 19 (by decide)]; exact HE.out.more HC.out ((Below.refl _ _).drew))
   case hs =>
    refine autoC_op 44 [] (by kernel_rfl) (fun L y w' hL hC HW hd K hK => ?_) ?_
    ·go_simp
     refine hK _ _ ?_ ?_ HW
     ·simp [upd]
     ·exact rfl
    refine autoC_op 45 [] (by kernel_rfl) (fun L y w' hL hC HW hd K hK => ?_) ?_
    ·go_simp
     refine hK _ _ ?_ ?_ HW
     ·simp [upd]
     ·exact rfl
    refine autoC_op 46 [1] (by kernel_rfl) (fun L y w' hL hC HW hd K hK => ?_) ?_
    ·have e1 := hd_nth (hd 1 (by simp)) rfl
     have xb := HW.blk (x := ab) (by simp) HA.out
     have xl := xb.lt
     have a1 := xb.cell (j := 1) rfl
     have a2 := xb.cell (j := 2) rfl
     have a3 := xb.cell (j := 3) rfl
     go_simp
     refine hK _ _ ?_ ?_ HW
     ·simp [upd, e1]
     ·exact rfl
    refine autoC_op 47 [] (by kernel_rfl) (fun L y w' hL hC HW hd K hK => ?_) ?_
    ·go_simp
     refine hK _ _ ?_ ?_ HW
     ·simp [upd]
     ·exact rfl
    refine autoC_op 48 [3] (by kernel_rfl) (fun L y w' hL hC HW hd K hK => ?_) ?_
    ·have e3 := hd_nth (hd 3 (by simp)) rfl
     have xb := HW.blk (x := ab) (by simp) HA.out
     have xl := xb.lt
     have a4 := xb.cell (j := 4) rfl
     go_simp
     refine hK _ _ ?_ ?_ HW
     ·simp [upd, e3]
     ·exact rfl
    refine autoC_op 49 [] (by kernel_rfl) (fun L y w' hL hC HW hd K hK => ?_) ?_
    ·go_simp
     refine hK _ _ ?_ ?_ HW
     ·simp [upd]
     ·exact rfl
    refine autoC_op 50 [5] (by kernel_rfl) (fun L y w' hL hC HW hd K hK => ?_) ?_
    ·have e5 := hd_nth (hd 5 (by simp)) rfl
     have xb := HW.blk (x := ab) (by simp) HA.out
     have xl := xb.lt
     have a5 := xb.cell (j := 5) rfl
     go_simp
     refine hK _ _ ?_ ?_ HW
     ·simp [upd, e5]
     ·exact rfl
    refine autoC_op 51 [] (by kernel_rfl) (fun L y w' hL hC HW hd K hK => ?_) ?_
    ·go_simp
     refine hK _ _ ?_ ?_ HW
     ·simp [upd]
     ·exact rfl
    refine autoC_op 52 [7] (by kernel_rfl) (fun L y w' hL hC HW hd K hK => ?_) ?_
    ·have e7 := hd_nth (hd 7 (by simp)) rfl
     have xb := HW.blk (x := ab) (by simp) HA.out
     have xl := xb.lt
     have a7 := xb.cell (j := 7) rfl
     go_simp
     refine hK _ _ ?_ ?_ HW
     ·simp [upd, e7]
     ·exact rfl
    refine autoC_op 53 [0, 2, 4, 6, 8] (by kernel_rfl) (fun L y w' hL hC HW hd K hK => ?_) ?_
    ·have e0 := hd_nth (hd 0 (by simp)) rfl
     have e2 := hd_nth (hd 2 (by simp)) rfl
     have e4 := hd_nth (hd 4 (by simp)) rfl
     have e6 := hd_nth (hd 6 (by simp)) rfl
     have e8 := hd_nth (hd 8 (by simp)) rfl
     go_simp
     have HW0 : MZ PM U ([ab] ++ []) w w' J S LM (cond (L 19) S2 S) LM := by have h := HW; simp only [hL] at h; exact h
     refine (HSP.out _ _ HW0).mono ?_
     rintro e w3 ⟨rfl, hz3⟩
     refine hK _ _ ?_ ?_ hz3.out
     ·simp [upd, e0, e2, e4, e6, e8]
     ·exact rfl
    refine autoC_op 54 [] (by kernel_rfl) (fun L y w' hL hC HW hd K hK => ?_) ?_
    ·go_simp
     refine hK _ _ ?_ ?_ HW
     ·simp [upd]
     ·exact rfl
    refine autoC_op 55 [] (by kernel_rfl) (fun L y w' hL hC HW hd K hK => ?_) ?_
    ·go_simp
     refine hK _ _ ?_ ?_ HW
     ·simp [upd]
     ·exact rfl
    refine autoC_op 56 [11] (by kernel_rfl) (fun L y w' hL hC HW hd K hK => ?_) ?_
    ·have e11 := hd_nth (hd 11 (by simp)) rfl
     have xb := HW.blk (x := ab) (by simp) HA.out
     have xl := xb.lt
     have a1 := xb.cell (j := 1) rfl
     have a2 := xb.cell (j := 2) rfl
     have a3 := xb.cell (j := 3) rfl
     go_simp
     refine hK _ _ ?_ ?_ HW
     ·simp [upd, e11]
     ·exact rfl
    refine autoC_op 57 [] (by kernel_rfl) (fun L y w' hL hC HW hd K hK => ?_) ?_
    ·go_simp
     refine hK _ _ ?_ ?_ HW
     ·simp [upd]
     ·exact rfl
    refine autoC_op 58 [13] (by kernel_rfl) (fun L y w' hL hC HW hd K hK => ?_) ?_
    ·have e13 := hd_nth (hd 13 (by simp)) rfl
     have xb := HW.blk (x := ab) (by simp) HA.out
     have xl := xb.lt
     have a4 := xb.cell (j := 4) rfl
     go_simp
     refine hK _ _ ?_ ?_ HW
     ·simp [upd, e13]
     ·exact rfl
    refine autoC_op 59 [] (by kernel_rfl) (fun L y w' hL hC HW hd K hK => ?_) ?_
    ·go_simp
     refine hK _ _ ?_ ?_ HW
     ·simp [upd]
     ·exact rfl
    refine autoC_op 60 [15] (by kernel_rfl) (fun L y w' hL hC HW hd K hK => ?_) ?_
    ·have e15 := hd_nth (hd 15 (by simp)) rfl
     have xb := HW.blk (x := ab) (by simp) HA.out
     have xl := xb.lt
     have a5 := xb.cell (j := 5) rfl
     go_simp
     refine hK _ _ ?_ ?_ HW
     ·simp [upd, e15]
     ·exact rfl
    refine autoC_op 61 [] (by kernel_rfl) (fun L y w' hL hC HW hd K hK => ?_) ?_
    ·go_simp
     refine hK _ _ ?_ ?_ HW
     ·simp [upd]
     ·exact rfl
    refine autoC_op 62 [17] (by kernel_rfl) (fun L y w' hL hC HW hd K hK => ?_) ?_
    ·have e17 := hd_nth (hd 17 (by simp)) rfl
     have xb := HW.blk (x := ab) (by simp) HA.out
     have xl := xb.lt
     have a7 := xb.cell (j := 7) rfl
     go_simp
     refine hK _ _ ?_ ?_ HW
     ·simp [upd, e17]
     ·exact rfl
    refine autoC_op 63 [10, 12, 14, 16, 18, 9] (by kernel_rfl) (fun L y w' hL hC HW hd K hK => ?_) ?_
    ·have e9 := hd_nth (hd 9 (by simp)) rfl
     have e10 := hd_nth (hd 10 (by simp)) rfl
     have e12 := hd_nth (hd 12 (by simp)) rfl
     have e14 := hd_nth (hd 14 (by simp)) rfl
     have e16 := hd_nth (hd 16 (by simp)) rfl
     have e18 := hd_nth (hd 18 (by simp)) rfl
     go_simp
     have HW0 : MZ PM U ([ab] ++ []) w w' J (cond (L 9) S2 S) LM S LM := by have h := HW; simp only [hL] at h; exact h
     refine (HSD.out _ _ HW0).mono ?_
     rintro e w3 ⟨rfl, hz3⟩
     refine hK _ _ ?_ ?_ hz3.out
     ·simp [upd, e9, e10, e12, e14, e16, e18]
     ·exact rfl
    refine autoL_last fun L y w' hLs HW hd K hK => ?_
    have e0 := hd_nth (hd 0 (by omega)) rfl
    have e1 := hd_nth (hd 1 (by omega)) rfl
    have e2 := hd_nth (hd 2 (by omega)) rfl
    have e3 := hd_nth (hd 3 (by omega)) rfl
    have e4 := hd_nth (hd 4 (by omega)) rfl
    have e5 := hd_nth (hd 5 (by omega)) rfl
    have e6 := hd_nth (hd 6 (by omega)) rfl
    have e7 := hd_nth (hd 7 (by omega)) rfl
    have e8 := hd_nth (hd 8 (by omega)) rfl
    have e9 := hd_nth (hd 9 (by omega)) rfl
    have e10 := hd_nth (hd 10 (by omega)) rfl
    have e11 := hd_nth (hd 11 (by omega)) rfl
    have e12 := hd_nth (hd 12 (by omega)) rfl
    have e13 := hd_nth (hd 13 (by omega)) rfl
    have e14 := hd_nth (hd 14 (by omega)) rfl
    have e15 := hd_nth (hd 15 (by omega)) rfl
    have e16 := hd_nth (hd 16 (by omega)) rfl
    have e17 := hd_nth (hd 17 (by omega)) rfl
    have e18 := hd_nth (hd 18 (by omega)) rfl
    have e19 := hd_nth (hd 19 (by omega)) rfl
    have HWF := Lib.hid (show MZ PM U ([ab] ++ []) w w' J S2 LM S2 LM by have h := HW; simp only [hLs 9 (by omega), hLs 19 (by omega)] at h; exact h)
    go_simp
    refine hK _ _ ?_
    clear hd hK K hLs HW
    have HZ2 := Lib.hid (HV.out _ _ _ HWF.out)
    clear HWF HV HE HSP HSD HA
    rename World => V2
    go_wp2
    go_loopw [12] (fun jj wi => ∃ i : Nat, i ≤ 12 ∧ jj = .int .i64 i ∧ Hid (MZ PM w1 [] w wi J S2 LM S2 LM)) (fun jj _ => 12 - (intOf jj).toNat)
    case atStart => exact ⟨0, Nat.zero_le _, rfl, HZ2⟩
    case round =>
     clear HZ2
     obtain ⟨i, hi, rfl, HZI⟩ := hrel
     have hdoc : wr.cell? ⟨J.g, 0, none⟩ = some (.pointer (some ⟨J.bt, 0, none⟩)) ∧ J.g < wr.heap.size ∧ wr.cell? ⟨J.bt, 0, none⟩ = some (.slice (some ⟨J.gv, 0, none⟩) 12 J.cap) ∧ J.bt < wr.heap.size := by
      obtain ⟨D, hd⟩ := HZI.out.dv
      obtain ⟨vs, hs⟩ := hd.st
      exact ⟨hd.cell0, hd.lt, hs.cell0, hs.lt⟩
     obtain ⟨c0, b0, c1, b1⟩ := hdoc
     by_cases hin : i < 12
     ·have f3 : (i : Int) < 12 := by omega
      have f4 : (0 : Int) ≤ (i : Int) := by omega
      have H3 := Lib.hid hin
      have HBY : Hid (Calls Tryz.prog 21 #[.pointer (some ⟨J.s, 0, none⟩), .int .i64 i] wr fun e w' => e = .returned (.tuple #[.slice (some ⟨wr.heap.size, 0, none⟩) 64 64, .int .i64 0]) ∧ RowK .u8 w' w'.heap.size (some ⟨wr.heap.size, 0, none⟩) 64 (Fr.frameL S2 i) ∧ Below wr.heap.size wr w') := Lib.hid (by
       obtain ⟨T, κ, tb, h⟩ := HZI.out
       obtain ⟨D, hp⟩ := HC.out.pv h.pm
       exact Fr.bytes_in J.s 12 i S2 wr hp.st hin)
      clear hin hi
      go_wp2_with fail
      refine (mzStore HC.out HZI.out).mono ?_
      rintro e w5 ⟨rfl, rfl⟩
      go_wp2_with fail
      refine HBY.out.mono ?_
      rintro e V5 ⟨rfl, hrow, hb5⟩
      have HZ5 := Lib.hid (HZI.out.more HC.out hb5)
      have HROW := Lib.hid hrow
      clear hrow hb5 HBY HZI c0 b0 c1 b1
      generalize wr.heap.size = rb at HROW ⊢
      have hdoc : ∃ rg rc, V5.cell? ⟨J.g, 0, none⟩ = some (.pointer (some ⟨J.bt, 0, none⟩)) ∧ J.g < V5.heap.size ∧ V5.cell? ⟨J.bt, 0, none⟩ = some (.slice (some ⟨J.gv, 0, none⟩) 12 J.cap) ∧ J.bt < V5.heap.size ∧ V5.cell? ⟨J.gv, i, none⟩ = some (.slice (some ⟨rg, 0, none⟩) 64 rc) ∧ J.gv < V5.heap.size ∧ RowK .u8 V5 V5.heap.size (some ⟨rg, 0, none⟩) 64 (Fr.frameL S2 i) := by
       obtain ⟨D, hd⟩ := HZ5.out.dv
       obtain ⟨vs, hs⟩ := hd.st
       obtain ⟨rg, rc, h1, _, _, h2⟩ := hs.at_ i H3.out
       rw [Fr.fr_at S2 H3.out] at h2
       exact ⟨rg, rc, hd.cell0, hd.lt, hs.cell0, hs.lt, h1, hd.gvB.2, h2⟩
      obtain ⟨rg, rc, c0, b0, c1, b1, c2, b2, hrow2⟩ := hdoc
      have HCV1 : Hid (∀ W, Below V5.heap.size V5 W → (convert 70 9 (.slice (some ⟨rb, 0, none⟩) 64 64)).run Tryz.prog W = .ok (.string (strOfNums (Fr.frameL S2 i))) W) := Lib.hid fun W hW => run_convert_row Tryz.underlying70 Tryz.underlying5 Tryz.underlying9 (HROW.out.below hW)
      have HCV2 : Hid (∀ W, Below V5.heap.size V5 W → (convert 70 9 (.slice (some ⟨rg, 0, none⟩) 64 rc)).run Tryz.prog W = .ok (.string (strOfNums (Fr.frameL S2 i))) W) := Lib.hid fun W hW => run_convert_row Tryz.underlying70 Tryz.underlying5 Tryz.underlying9 (hrow2.below hW)
      clear hrow2 HROW
      generalize strOfNums (Fr.frameL S2 i) = SB at HCV1 HCV2
      go_upto_region 14 with fail
      apply wp_region_auto [84, 85, 86, 87, 88, 89, 90, 91, 92, 93, 94, 95, 96, 97, 98, 99, 100] [_, _, _, _, _, _, _, _, _, _, _, _, _, _, _, _, _] (fun W' => Below V5.heap.size V5 W')
      case hm => kernel_rfl
      case hT => intro y; simp only [setAll, List.setIfInBounds_toArray, List.set_cons_succ, List.set_cons_zero]; exact rfl
      case hok => kernel_rfl
      case hn => decide
      case hw => exact (Below.refl _ _).drew
      case hs =>
       refine auto_op 84 [] (by kernel_rfl) (fun y w' HW hd K hK => ?_) ?_
       ·go_simp
        refine hK _ _ ?_ ?_ HW
        ·simp [upd]
        ·exact rfl
       refine auto_op 85 [0] (by kernel_rfl) (fun y w' HW hd K hK => ?_) ?_
       ·have e0 := hd_nth (hd 0 (by simp)) rfl
        go_simp
        refine hK _ _ ?_ ?_ HW
        ·simp [upd, e0]
        ·exact rfl
       refine auto_op 86 [1] (by kernel_rfl) (fun y w' HW hd K hK => ?_) ?_
       ·have e1 := hd_nth (hd 1 (by simp)) rfl
        go_simp
        refine hK _ _ ?_ ?_ HW
        ·simp [upd, e1]
        ·exact rfl
       refine auto_op 87 [2] (by kernel_rfl) (fun y w' HW hd K hK => ?_) ?_
       ·have e2 := hd_nth (hd 2 (by simp)) rfl
        go_simp
        refine hK _ _ ?_ ?_ HW
        ·simp [upd, e2]
        ·exact rfl
       refine auto_op 88 [3, 2] (by kernel_rfl) (fun y w' HW hd K hK => ?_) ?_
       ·have e2 := hd_nth (hd 2 (by simp)) rfl
        have e3 := hd_nth (hd 3 (by simp)) rfl
        have hcv := HCV1.out w' HW
        go_simp
        refine hK _ _ ?_ ?_ HW
        ·simp [upd, e2, e3]
        ·exact rfl
       refine auto_op 89 [2] (by kernel_rfl) (fun y w' HW hd K hK => ?_) ?_
       ·have e2 := hd_nth (hd 2 (by simp)) rfl
        go_simp
        refine hK _ _ ?_ ?_ HW
        ·simp [upd, e2]
        ·exact rfl
       refine auto_op 90 [5, 2] (by kernel_rfl) (fun y w' HW hd K hK => ?_) ?_
       ·have e2 := hd_nth (hd 2 (by simp)) rfl
        have e5 := hd_nth (hd 5 (by simp)) rfl
        go_simp
        refine hK _ _ ?_ ?_ HW
        ·simp [upd, e2, e5]
        ·exact rfl
       refine auto_op 91 [6, 2] (by kernel_rfl) (fun y w' HW hd K hK => ?_) ?_
       ·have e2 := hd_nth (hd 2 (by simp)) rfl
        have e6 := hd_nth (hd 6 (by simp)) rfl
        go_simp
        refine hK _ _ ?_ ?_ HW
        ·simp [upd, e2, e6]
        ·exact rfl
       refine auto_op 92 [7, 2] (by kernel_rfl) (fun y w' HW hd K hK => ?_) ?_
       ·have e2 := hd_nth (hd 2 (by simp)) rfl
        have e7 := hd_nth (hd 7 (by simp)) rfl
        have hcl : ∀ p : Addr, p.block < V5.heap.size → w'.cell? p = V5.cell? p := fun p hp => HW.cell hp
        go_simp
        refine hK _ _ ?_ ?_ HW
        ·simp [upd, e2, e7]
        ·exact rfl
       refine auto_op 93 [8, 2] (by kernel_rfl) (fun y w' HW hd K hK => ?_) ?_
       ·have e2 := hd_nth (hd 2 (by simp)) rfl
        have e8 := hd_nth (hd 8 (by simp)) rfl
        go_simp
        refine hK _ _ ?_ ?_ HW
        ·simp [upd, e2, e8]
        ·exact rfl
       refine auto_op 94 [9, 2] (by kernel_rfl) (fun y w' HW hd K hK => ?_) ?_
       ·have e2 := hd_nth (hd 2 (by simp)) rfl
        have e9 := hd_nth (hd 9 (by simp)) rfl
        go_simp
        refine hK _ _ ?_ ?_ HW
        ·simp [upd, e2, e9]
        ·exact rfl
       refine auto_op 95 [10, 2] (by kernel_rfl) (fun y w' HW hd K hK => ?_) ?_
       ·have e2 := hd_nth (hd 2 (by simp)) rfl
        have e10 := hd_nth (hd 10 (by simp)) rfl
        have hcl : ∀ p : Addr, p.block < V5.heap.size → w'.cell? p = V5.cell? p := fun p hp => HW.cell hp
        go_simp
        refine hK _ _ ?_ ?_ HW
        ·simp [upd, e2, e10]
        ·exact rfl
       refine auto_op 96 [2] (by kernel_rfl) (fun y w' HW hd K hK => ?_) ?_
       ·have e2 := hd_nth (hd 2 (by simp)) rfl
        go_simp
        refine hK _ _ ?_ ?_ HW
        ·simp [upd, e2]
        ·exact rfl
       refine auto_op 97 [11, 12, 2] (by kernel_rfl) (fun y w' HW hd K hK => ?_) ?_
       ·have e2 := hd_nth (hd 2 (by simp)) rfl
        have e11 := hd_nth (hd 11 (by simp)) rfl
        have e12 := hd_nth (hd 12 (by simp)) rfl
        go_simp
        refine hK _ _ ?_ ?_ HW
        ·simp [upd, e2, e11, e12]
        ·exact rfl
       refine auto_op 98 [13, 2] (by kernel_rfl) (fun y w' HW hd K hK => ?_) ?_
       ·have e2 := hd_nth (hd 2 (by simp)) rfl
        have e13 := hd_nth (hd 13 (by simp)) rfl
        have hcl : ∀ p : Addr, p.block < V5.heap.size → w'.cell? p = V5.cell? p := fun p hp => HW.cell hp
        go_simp
        refine hK _ _ ?_ ?_ HW
        ·simp [upd, e2, e13]
        ·exact rfl
       refine auto_op 99 [14, 2] (by kernel_rfl) (fun y w' HW hd K hK => ?_) ?_
       ·have e2 := hd_nth (hd 2 (by simp)) rfl
        have e14 := hd_nth (hd 14 (by simp)) rfl
        have hcv := HCV2.out w' HW
        go_simp
        refine hK _ _ ?_ ?_ HW
        ·simp [upd, e2, e14]
        ·exact rfl
       refine auto_op 100 [4, 15, 2] (by kernel_rfl) (fun y w' HW hd K hK => ?_) ?_
       ·have e2 := hd_nth (hd 2 (by simp)) rfl
        have e4 := hd_nth (hd 4 (by simp)) rfl
        have e15 := hd_nth (hd 15 (by simp)) rfl
        go_simp
        refine hK _ _ ?_ ?_ HW
        ·simp [upd, e2, e4, e15]
        ·exact rfl
       refine auto_last fun y w' HW hd K hK => ?_
       have e0 := hd_nth (hd 0 (by omega)) rfl
       have e1 := hd_nth (hd 1 (by omega)) rfl
       have e2 := hd_nth (hd 2 (by omega)) rfl
       have e3 := hd_nth (hd 3 (by omega)) rfl
       have e4 := hd_nth (hd 4 (by omega)) rfl
       have e5 := hd_nth (hd 5 (by omega)) rfl
       have e6 := hd_nth (hd 6 (by omega)) rfl
       have e7 := hd_nth (hd 7 (by omega)) rfl
       have e8 := hd_nth (hd 8 (by omega)) rfl
       have e9 := hd_nth (hd 9 (by omega)) rfl
       have e10 := hd_nth (hd 10 (by omega)) rfl
       have e11 := hd_nth (hd 11 (by omega)) rfl
       have e12 := hd_nth (hd 12 (by omega)) rfl
       have e13 := hd_nth (hd 13 (by omega)) rfl
       have e14 := hd_nth (hd 14 (by omega)) rfl
       have e15 := hd_nth (hd 15 (by omega)) rfl
       have e16 := hd_nth (hd 16 (by omega)) rfl
       go_simp
       refine hK _ _ ?_
       clear hd hK K e0 e1 e2 e3 e4 e5 e6 e7 e8 e9 e10 e11 e12 e13 e14 e15 e16
       have HZ6 := Lib.hid (HZ5.out.more HC.out HW)
       clear HW HCV1 HCV2 HZ5 c0 b0 c1 b1 c2 b2
       go_wp2
       go_roundw
       case rel => exact ⟨i + 1, H3.out, by go_num, HZ6⟩
       case measure => have := H3.out; simp [intOf]; omega
     ·obtain rfl : i = 12 := by omega
      clear hin hi
      go_wp2
      go_roundw
      case rel => exact ⟨k + 1, S2, LM, H1.out, by go_num, HZI⟩
      case measure => have := H1.out; simp [intOf]; omega
  ·have hout : (¬ (k : Int) < (la : Int)) ∨ ((k : Int) < (la : Int) ∧ ¬ (k : Int) < 30) := by omega
   clear hin hk
   rcases hout with f1 | ⟨f1, f2⟩
   all_goals
    go_wp2_with fail
    refine (awake20_any HC.out _ (HGW.out _ HZ.out.b).1 (HGW.out _ HZ.out.b).2).mono ?_
    rintro e w6 ⟨rfl, hb6⟩
    have HB6 := Lib.hid (HZ.out.b.trans (hb6.mono HZ.out.b.size))
    clear hb6 HZ
    go_wp2
    go_ret
    exact ⟨rfl, HB6.out⟩
end Go.Proofs.YteaincdeoajkeaaGreatDoor.Mm
end
