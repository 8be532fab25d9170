/- Several texts in one: Iv Yo Iw Zn -/
import Derived.Test.YteaincdeoajkeaaGreatDoorZ21
import Derived.Test.YteaincdeoajkeaaGreatDoorZ14
import Derived.Test.YteaincdeoajkeaaGreatDoorZ18
import Derived.Great.Walk
import Derived.Test.YteaincdeoajkeaaGreatDoorZ20
import Derived.Test.YteaincdeoajkeaaGreatDoorZ19
import Derived.OpenShut
section
/- hermitagelaw20: the walk of MmuSaves, over what the program is to keep. -/
namespace Go.Proofs.YteaincdeoajkeaaGreatDoor.Mm
open Go.RowKit Go.Shelf Ut Oc Vw Wa
set_option maxRecDepth 100000
set_option linter.unusedVariables false
set_option maxHeartbeats 8000000

theorem saves20_any {PM : PMt} (C : MmuC PM) (room : Nat) (hroom : room < 256) (al aa : Option Addr) (ll cl la ca : Nat) (Zp : Nat → Int × Int) (Z : Nat → Am) (w : World) (hll : ll ≤ 9223372036854775807) (hla : la ≤ 9223372036854775807) (hl : PutRow w w.heap.size al ll Zp) (ha : AmRow w w.heap.size aa la Z) (hG : PM.G w) (hnb : PM.nb ≤ w.heap.size) :
    Calls Tryz.prog 5 #[.int .u8 room, .slice al ll cl, .slice aa la ca] w fun e w' => e = .returned (.bool true) ∧ Below w.heap.size w w' := by
  have HMK := Lib.hid (fun r h0 h1 => made20_any C r h0 h1 al ll cl w.heap.size Zp w hll hl (Nat.le_refl _) hG hnb)
  have HGW : Hid (∀ W, Below w.heap.size w W → PM.G W ∧ PM.nb ≤ W.heap.size) := Lib.hid fun W hb => ⟨C.gb hG (hb.mono hnb), Nat.le_trans hnb hb.size⟩
  have HC := Lib.hid C
  have HAR := Lib.hid ha
  have r0 : (0 : Int) ≤ (room : Int) := by omega
  have r1 : (room : Int) < 256 := by omega
  clear C hl ha hroom hG hnb
  go_enter Tryz.func5, Tryz.ntmps5
  go_wp2_with fail
  refine (HMK.out _ (by omega) (by omega)).mono ?_
  rintro e w1 ⟨u, b, g, rfl, hmd⟩
  have hmz : ∃ J : BK, J.u = u ∧ J.b = b ∧ J.g = g ∧ ∃ S LM, MZ PM w1 [] w w1 J S LM S LM := by
    obtain ⟨J, T, tb, e1, e2, e3, h⟩ := hmd.out
    exact ⟨J, e1, e2, e3, _, _, T, [], tb, h⟩
  obtain ⟨J, rfl, rfl, rfl, S0, L0, hz⟩ := hmz
  have HZ0 := Lib.hid hz
  clear hmd hz HMK
  go_wp2
  go_loopw [10] (fun j wr => ∃ (k : Nat) (S : List Int) (LM : List Gm.Pl), k ≤ cntB la 30 ∧ j = .int .i64 k ∧ Hid (MZ PM w1 [] w wr J S LM S LM)) (fun j _ => cntB la 30 - (intOf j).toNat)
  case atStart => exact ⟨0, S0, L0, Nat.zero_le _, rfl, HZ0⟩
  case round =>
    clear HZ0
    obtain ⟨k, S, LM, hk, rfl, HZ⟩ := hrel
    by_cases hin : k < la ∧ k < 30
    · have f1 : (k : Int) < (la : Int) := by omega
      have f2 : (k : Int) < 30 := by omega
      have f0 : (0 : Int) ≤ (k : Int) := by omega
      have H1 := Lib.hid (cntB_in hin.1 hin.2)
      obtain ⟨y, rfl, hyb, hx, c0, c1, c2, c3, c4, c5, c6, c7⟩ := HAR.out.at_ HZ.out.b (Nat.le_refl _) hin.1
      generalize Z k = a at hx c0 c1 c2 c3 c4 c5 c6 c7
      obtain ⟨U, hU⟩ : ∃ U, U = wr.alloc (.cells #[.int .i64 a.kd, .bool a.on, .int .i64 a.rt, .bool a.us, .int .u32 a.va, .int .i64 a.wd, .int .i64 a.kn, .int .u32 a.x] 33) := ⟨_, rfl⟩
      have hB : Below wr.heap.size wr U := by rw [hU]; exact (Below.refl _ _).alloc (Nat.le_refl _) _
      have hA : Blk U wr.heap.size 33 [.int .i64 a.kd, .bool a.on, .int .i64 a.rt, .bool a.us, .int .u32 a.va, .int .i64 a.wd, .int .i64 a.kn, .int .u32 a.x] := by rw [hU]; exact Blk.new wr _ _
      have hE := HZ.out.enter HC.out hB [wr.heap.size] (fun y hy => by simp at hy; subst hy; exact ⟨Nat.le_refl _, hA.lt⟩)
      have HV : Hid (∀ (w' : World) (S1 : List Int) (L1 : List Gm.Pl), MZ PM U ([wr.heap.size] ++ []) w w' J S1 L1 S1 L1 → MZ PM w1 [] w w' J S1 L1 S1 L1) := Lib.hid fun w' S1 L1 h' => HZ.out.leave hB h'
      have HE := Lib.hid hE
      have HA := Lib.hid hA
      have HU := Lib.hid hU
      have HW := Lib.hid hx
      clear hU hB hA hE hx hin hk HZ
      obtain ⟨kd, on, rt, us, va, wd, kn, x⟩ := a
      dsimp only at HU HA c0 c1 c2 c3 c4 c5 c6 c7
      have z0 : 0 ≤ va := HW.out.l4
      have z1 : va < 4294967296 := HW.out.u4
      have x0 : 0 ≤ x := HW.out.l7
      have x1 : x < 4294967296 := HW.out.u7
      clear HW
      obtain ⟨S2, hS2⟩ : ∃ S2, ss20 12 S LM on rt us va wd x = S2 := ⟨_, rfl⟩
      obtain ⟨c, hc⟩ : ∃ c, sc20 12 S LM on rt us va wd = c := ⟨_, rfl⟩
      have HSP : Hid (∀ (Sd : List Int) (W : World), MZ PM U ([wr.heap.size] ++ []) w W J S LM Sd LM → Calls Tryz.prog 18 #[.pointer (some ⟨J.u, 0, none⟩), .agg #[.bool on, .int .i64 rt, .bool us], .int .u32 va, .int .i64 wd, .int .u32 x] W fun e w' => e = .returned (.int .i64 c) ∧ Hid (MZ PM U ([wr.heap.size] ++ []) w w' J S2 LM Sd LM)) := Lib.hid fun Sd W hW => by
        have := mzSave HC.out hW on us rt va wd x z0 z1 x0 x1
        rw [hS2, hc] at this
        exact this
      have HSD : Hid (∀ (Sp : List Int) (W : World), MZ PM U ([wr.heap.size] ++ []) w W J Sp LM S LM → Calls Tryz.prog 19 #[.pointer (some ⟨J.g, 0, none⟩), .agg #[.bool on, .int .i64 rt, .bool us], .int .u32 va, .int .i64 wd, .int .u32 x] W fun e w' => e = .returned (.int .i64 c) ∧ Hid (MZ PM U ([wr.heap.size] ++ []) w w' J Sp LM S2 LM)) := Lib.hid fun Sp W hW => by
        have := dSave HC.out hW on us rt va wd x z0 z1 x0 x1
        rw [hS2, hc] at this
        exact this
      clear hS2 hc
      go_upto_region 8 with fail
      rw [← HU.out]
      clear HU c0 c1 c2 c3 c4 c5 c6 c7 hyb z0 z1 x0 x1
      generalize wr.heap.size = ab at HA HV HE HSP HSD ⊢
      apply wp_region_autoL [44, 45, 46, 47, 48, 49, 50, 51, 52, 53, 54, 55, 56, 57, 58, 59, 60, 61, 62, 63] [_, _, _, _, _, _, _, _, _, _, _, _, _, _, _, _, _, _, _, _] (fun L_ W' => MZ PM U ([ab] ++ []) w W' J (cond (L_ 9) S2 S) LM (cond (L_ 19) S2 S) LM)
      case hm => kernel_rfl
      case hT => intro y; simp only [setAll, List.setIfInBounds_toArray, List.set_cons_succ, List.set_cons_zero]; exact rfl
      case hok => kernel_rfl
      case hn => decide
      case hw => exact (fun L_ h0 => by simp only [h0 9 (by decide), h0 19 (by decide)]; exact HE.out.more HC.out ((Below.refl _ _).drew))
      case hs =>
        refine autoC_op 44 [] (by kernel_rfl) (fun L y w' hL hC HW hd K hK => ?_) ?_
        · go_simp
          refine hK _ _ ?_ ?_ HW
          · simp [upd]
          · exact rfl
        refine autoC_op 45 [] (by kernel_rfl) (fun L y w' hL hC HW hd K hK => ?_) ?_
        · go_simp
          refine hK _ _ ?_ ?_ HW
          · simp [upd]
          · exact rfl
        refine autoC_op 46 [1] (by kernel_rfl) (fun L y w' hL hC HW hd K hK => ?_) ?_
        · have e1 := hd_nth (hd 1 (by simp)) rfl
          have xb := HW.blk (x := ab) (by simp) HA.out
          have xl := xb.lt
          have a1 := xb.cell (j := 1) rfl
          have a2 := xb.cell (j := 2) rfl
          have a3 := xb.cell (j := 3) rfl
          go_simp
          refine hK _ _ ?_ ?_ HW
          · simp [upd, e1]
          · exact rfl
        refine autoC_op 47 [] (by kernel_rfl) (fun L y w' hL hC HW hd K hK => ?_) ?_
        · go_simp
          refine hK _ _ ?_ ?_ HW
          · simp [upd]
          · exact rfl
        refine autoC_op 48 [3] (by kernel_rfl) (fun L y w' hL hC HW hd K hK => ?_) ?_
        · have e3 := hd_nth (hd 3 (by simp)) rfl
          have xb := HW.blk (x := ab) (by simp) HA.out
          have xl := xb.lt
          have a4 := xb.cell (j := 4) rfl
          go_simp
          refine hK _ _ ?_ ?_ HW
          · simp [upd, e3]
          · exact rfl
        refine autoC_op 49 [] (by kernel_rfl) (fun L y w' hL hC HW hd K hK => ?_) ?_
        · go_simp
          refine hK _ _ ?_ ?_ HW
          · simp [upd]
          · exact rfl
        refine autoC_op 50 [5] (by kernel_rfl) (fun L y w' hL hC HW hd K hK => ?_) ?_
        · have e5 := hd_nth (hd 5 (by simp)) rfl
          have xb := HW.blk (x := ab) (by simp) HA.out
          have xl := xb.lt
          have a5 := xb.cell (j := 5) rfl
          go_simp
          refine hK _ _ ?_ ?_ HW
          · simp [upd, e5]
          · exact rfl
        refine autoC_op 51 [] (by kernel_rfl) (fun L y w' hL hC HW hd K hK => ?_) ?_
        · go_simp
          refine hK _ _ ?_ ?_ HW
          · simp [upd]
          · exact rfl
        refine autoC_op 52 [7] (by kernel_rfl) (fun L y w' hL hC HW hd K hK => ?_) ?_
        · have e7 := hd_nth (hd 7 (by simp)) rfl
          have xb := HW.blk (x := ab) (by simp) HA.out
          have xl := xb.lt
          have a7 := xb.cell (j := 7) rfl
          go_simp
          refine hK _ _ ?_ ?_ HW
          · simp [upd, e7]
          · exact rfl
        refine autoC_op 53 [0, 2, 4, 6, 8] (by kernel_rfl) (fun L y w' hL hC HW hd K hK => ?_) ?_
        · have e0 := hd_nth (hd 0 (by simp)) rfl
          have e2 := hd_nth (hd 2 (by simp)) rfl
          have e4 := hd_nth (hd 4 (by simp)) rfl
          have e6 := hd_nth (hd 6 (by simp)) rfl
          have e8 := hd_nth (hd 8 (by simp)) rfl
          go_simp
          have HW0 : MZ PM U ([ab] ++ []) w w' J S LM (cond (L 19) S2 S) LM := by have h := HW; simp only [hL] at h; exact h
          refine (HSP.out _ _ HW0).mono ?_
          rintro e w3 ⟨rfl, hz3⟩
          refine hK _ _ ?_ ?_ hz3.out
          · simp [upd, e0, e2, e4, e6, e8]
          · exact rfl
        refine autoC_op 54 [] (by kernel_rfl) (fun L y w' hL hC HW hd K hK => ?_) ?_
        · go_simp
          refine hK _ _ ?_ ?_ HW
          · simp [upd]
          · exact rfl
        refine autoC_op 55 [] (by kernel_rfl) (fun L y w' hL hC HW hd K hK => ?_) ?_
        · go_simp
          refine hK _ _ ?_ ?_ HW
          · simp [upd]
          · exact rfl
        refine autoC_op 56 [11] (by kernel_rfl) (fun L y w' hL hC HW hd K hK => ?_) ?_
        · have e11 := hd_nth (hd 11 (by simp)) rfl
          have xb := HW.blk (x := ab) (by simp) HA.out
          have xl := xb.lt
          have a1 := xb.cell (j := 1) rfl
          have a2 := xb.cell (j := 2) rfl
          have a3 := xb.cell (j := 3) rfl
          go_simp
          refine hK _ _ ?_ ?_ HW
          · simp [upd, e11]
          · exact rfl
        refine autoC_op 57 [] (by kernel_rfl) (fun L y w' hL hC HW hd K hK => ?_) ?_
        · go_simp
          refine hK _ _ ?_ ?_ HW
          · simp [upd]
          · exact rfl
        refine autoC_op 58 [13] (by kernel_rfl) (fun L y w' hL hC HW hd K hK => ?_) ?_
        · have e13 := hd_nth (hd 13 (by simp)) rfl
          have xb := HW.blk (x := ab) (by simp) HA.out
          have xl := xb.lt
          have a4 := xb.cell (j := 4) rfl
          go_simp
          refine hK _ _ ?_ ?_ HW
          · simp [upd, e13]
          · exact rfl
        refine autoC_op 59 [] (by kernel_rfl) (fun L y w' hL hC HW hd K hK => ?_) ?_
        · go_simp
          refine hK _ _ ?_ ?_ HW
          · simp [upd]
          · exact rfl
        refine autoC_op 60 [15] (by kernel_rfl) (fun L y w' hL hC HW hd K hK => ?_) ?_
        · have e15 := hd_nth (hd 15 (by simp)) rfl
          have xb := HW.blk (x := ab) (by simp) HA.out
          have xl := xb.lt
          have a5 := xb.cell (j := 5) rfl
          go_simp
          refine hK _ _ ?_ ?_ HW
          · simp [upd, e15]
          · exact rfl
        refine autoC_op 61 [] (by kernel_rfl) (fun L y w' hL hC HW hd K hK => ?_) ?_
        · go_simp
          refine hK _ _ ?_ ?_ HW
          · simp [upd]
          · exact rfl
        refine autoC_op 62 [17] (by kernel_rfl) (fun L y w' hL hC HW hd K hK => ?_) ?_
        · have e17 := hd_nth (hd 17 (by simp)) rfl
          have xb := HW.blk (x := ab) (by simp) HA.out
          have xl := xb.lt
          have a7 := xb.cell (j := 7) rfl
          go_simp
          refine hK _ _ ?_ ?_ HW
          · simp [upd, e17]
          · exact rfl
        refine autoC_op 63 [10, 12, 14, 16, 18, 9] (by kernel_rfl) (fun L y w' hL hC HW hd K hK => ?_) ?_
        · have e9 := hd_nth (hd 9 (by simp)) rfl
          have e10 := hd_nth (hd 10 (by simp)) rfl
          have e12 := hd_nth (hd 12 (by simp)) rfl
          have e14 := hd_nth (hd 14 (by simp)) rfl
          have e16 := hd_nth (hd 16 (by simp)) rfl
          have e18 := hd_nth (hd 18 (by simp)) rfl
          go_simp
          have HW0 : MZ PM U ([ab] ++ []) w w' J (cond (L 9) S2 S) LM S LM := by have h := HW; simp only [hL] at h; exact h
          refine (HSD.out _ _ HW0).mono ?_
          rintro e w3 ⟨rfl, hz3⟩
          refine hK _ _ ?_ ?_ hz3.out
          · simp [upd, e9, e10, e12, e14, e16, e18]
          · exact rfl
        refine autoL_last fun L y w' hLs HW hd K hK => ?_
        have e0 := hd_nth (hd 0 (by omega)) rfl
        have e1 := hd_nth (hd 1 (by omega)) rfl
        have e2 := hd_nth (hd 2 (by omega)) rfl
        have e3 := hd_nth (hd 3 (by omega)) rfl
        have e4 := hd_nth (hd 4 (by omega)) rfl
        have e5 := hd_nth (hd 5 (by omega)) rfl
        have e6 := hd_nth (hd 6 (by omega)) rfl
        have e7 := hd_nth (hd 7 (by omega)) rfl
        have e8 := hd_nth (hd 8 (by omega)) rfl
        have e9 := hd_nth (hd 9 (by omega)) rfl
        have e10 := hd_nth (hd 10 (by omega)) rfl
        have e11 := hd_nth (hd 11 (by omega)) rfl
        have e12 := hd_nth (hd 12 (by omega)) rfl
        have e13 := hd_nth (hd 13 (by omega)) rfl
        have e14 := hd_nth (hd 14 (by omega)) rfl
        have e15 := hd_nth (hd 15 (by omega)) rfl
        have e16 := hd_nth (hd 16 (by omega)) rfl
        have e17 := hd_nth (hd 17 (by omega)) rfl
        have e18 := hd_nth (hd 18 (by omega)) rfl
        have e19 := hd_nth (hd 19 (by omega)) rfl
        have HWF := Lib.hid (show MZ PM U ([ab] ++ []) w w' J S2 LM S2 LM by have h := HW; simp only [hLs 9 (by omega), hLs 19 (by omega)] at h; exact h)
        go_simp
        refine hK _ _ ?_
        clear hd hK K hLs HW
        have HZ2 := Lib.hid (HV.out _ _ _ HWF.out)
        clear HWF HV HE HSP HSD HA
        rename World => V2
        go_wp2
        go_loopw [12] (fun jj wi => ∃ i : Nat, i ≤ 12 ∧ jj = .int .i64 i ∧ Hid (MZ PM w1 [] w wi J S2 LM S2 LM)) (fun jj _ => 12 - (intOf jj).toNat)
        case atStart => exact ⟨0, Nat.zero_le _, rfl, HZ2⟩
        case round =>
          clear HZ2
          obtain ⟨i, hi, rfl, HZI⟩ := hrel
          have hdoc : wr.cell? ⟨J.g, 0, none⟩ = some (.pointer (some ⟨J.bt, 0, none⟩)) ∧ J.g < wr.heap.size ∧ wr.cell? ⟨J.bt, 0, none⟩ = some (.slice (some ⟨J.gv, 0, none⟩) 12 J.cap) ∧ J.bt < wr.heap.size := by
            obtain ⟨D, hd⟩ := HZI.out.dv
            obtain ⟨vs, hs⟩ := hd.st
            exact ⟨hd.cell0, hd.lt, hs.cell0, hs.lt⟩
          obtain ⟨c0, b0, c1, b1⟩ := hdoc
          by_cases hin : i < 12
          · have f3 : (i : Int) < 12 := by omega
            have f4 : (0 : Int) ≤ (i : Int) := by omega
            have H3 := Lib.hid hin
            have HBY : Hid (Calls Tryz.prog 21 #[.pointer (some ⟨J.s, 0, none⟩), .int .i64 i] wr fun e w' => e = .returned (.tuple #[.slice (some ⟨wr.heap.size, 0, none⟩) 64 64, .int .i64 0]) ∧ RowK .u8 w' w'.heap.size (some ⟨wr.heap.size, 0, none⟩) 64 (Fr.frameL S2 i) ∧ Below wr.heap.size wr w') := Lib.hid (by
              obtain ⟨T, κ, tb, h⟩ := HZI.out
              obtain ⟨D, hp⟩ := HC.out.pv h.pm
              exact Fr.bytes_in J.s 12 i S2 wr hp.st hin)
            clear hin hi
            go_wp2_with fail
            refine (mzStore HC.out HZI.out).mono ?_
            rintro e w5 ⟨rfl, rfl⟩
            go_wp2_with fail
            refine HBY.out.mono ?_
            rintro e V5 ⟨rfl, hrow, hb5⟩
            have HZ5 := Lib.hid (HZI.out.more HC.out hb5)
            have HROW := Lib.hid hrow
            clear hrow hb5 HBY HZI c0 b0 c1 b1
            generalize wr.heap.size = rb at HROW ⊢
            have hdoc : ∃ rg rc, V5.cell? ⟨J.g, 0, none⟩ = some (.pointer (some ⟨J.bt, 0, none⟩)) ∧ J.g < V5.heap.size ∧ V5.cell? ⟨J.bt, 0, none⟩ = some (.slice (some ⟨J.gv, 0, none⟩) 12 J.cap) ∧ J.bt < V5.heap.size ∧ V5.cell? ⟨J.gv, i, none⟩ = some (.slice (some ⟨rg, 0, none⟩) 64 rc) ∧ J.gv < V5.heap.size ∧ RowK .u8 V5 V5.heap.size (some ⟨rg, 0, none⟩) 64 (Fr.frameL S2 i) := by
              obtain ⟨D, hd⟩ := HZ5.out.dv
              obtain ⟨vs, hs⟩ := hd.st
              obtain ⟨rg, rc, h1, _, _, h2⟩ := hs.at_ i H3.out
              rw [Fr.fr_at S2 H3.out] at h2
              exact ⟨rg, rc, hd.cell0, hd.lt, hs.cell0, hs.lt, h1, hd.gvB.2, h2⟩
            obtain ⟨rg, rc, c0, b0, c1, b1, c2, b2, hrow2⟩ := hdoc
            have HCV1 : Hid (∀ W, Below V5.heap.size V5 W → (convert 70 9 (.slice (some ⟨rb, 0, none⟩) 64 64)).run Tryz.prog W = .ok (.string (strOfNums (Fr.frameL S2 i))) W) := Lib.hid fun W hW => run_convert_row Tryz.underlying70 Tryz.underlying5 Tryz.underlying9 (HROW.out.below hW)
            have HCV2 : Hid (∀ W, Below V5.heap.size V5 W → (convert 70 9 (.slice (some ⟨rg, 0, none⟩) 64 rc)).run Tryz.prog W = .ok (.string (strOfNums (Fr.frameL S2 i))) W) := Lib.hid fun W hW => run_convert_row Tryz.underlying70 Tryz.underlying5 Tryz.underlying9 (hrow2.below hW)
            clear hrow2 HROW
            generalize strOfNums (Fr.frameL S2 i) = SB at HCV1 HCV2
            go_upto_region 14 with fail
            apply wp_region_auto [84, 85, 86, 87, 88, 89, 90, 91, 92, 93, 94, 95, 96, 97, 98, 99, 100] [_, _, _, _, _, _, _, _, _, _, _, _, _, _, _, _, _] (fun W' => Below V5.heap.size V5 W')
            case hm => kernel_rfl
            case hT => intro y; simp only [setAll, List.setIfInBounds_toArray, List.set_cons_succ, List.set_cons_zero]; exact rfl
            case hok => kernel_rfl
            case hn => decide
            case hw => exact (Below.refl _ _).drew
            case hs =>
              refine auto_op 84 [] (by kernel_rfl) (fun y w' HW hd K hK => ?_) ?_
              · go_simp
                refine hK _ _ ?_ ?_ HW
                · simp [upd]
                · exact rfl
              refine auto_op 85 [0] (by kernel_rfl) (fun y w' HW hd K hK => ?_) ?_
              · have e0 := hd_nth (hd 0 (by simp)) rfl
                go_simp
                refine hK _ _ ?_ ?_ HW
                · simp [upd, e0]
                · exact rfl
              refine auto_op 86 [1] (by kernel_rfl) (fun y w' HW hd K hK => ?_) ?_
              · have e1 := hd_nth (hd 1 (by simp)) rfl
                go_simp
                refine hK _ _ ?_ ?_ HW
                · simp [upd, e1]
                · exact rfl
              refine auto_op 87 [2] (by kernel_rfl) (fun y w' HW hd K hK => ?_) ?_
              · have e2 := hd_nth (hd 2 (by simp)) rfl
                go_simp
                refine hK _ _ ?_ ?_ HW
                · simp [upd, e2]
                · exact rfl
              refine auto_op 88 [3, 2] (by kernel_rfl) (fun y w' HW hd K hK => ?_) ?_
              · have e2 := hd_nth (hd 2 (by simp)) rfl
                have e3 := hd_nth (hd 3 (by simp)) rfl
                have hcv := HCV1.out w' HW
                go_simp
                refine hK _ _ ?_ ?_ HW
                · simp [upd, e2, e3]
                · exact rfl
              refine auto_op 89 [2] (by kernel_rfl) (fun y w' HW hd K hK => ?_) ?_
              · have e2 := hd_nth (hd 2 (by simp)) rfl
                go_simp
                refine hK _ _ ?_ ?_ HW
                · simp [upd, e2]
                · exact rfl
              refine auto_op 90 [5, 2] (by kernel_rfl) (fun y w' HW hd K hK => ?_) ?_
              · have e2 := hd_nth (hd 2 (by simp)) rfl
                have e5 := hd_nth (hd 5 (by simp)) rfl
                go_simp
                refine hK _ _ ?_ ?_ HW
                · simp [upd, e2, e5]
                · exact rfl
              refine auto_op 91 [6, 2] (by kernel_rfl) (fun y w' HW hd K hK => ?_) ?_
              · have e2 := hd_nth (hd 2 (by simp)) rfl
                have e6 := hd_nth (hd 6 (by simp)) rfl
                go_simp
                refine hK _ _ ?_ ?_ HW
                · simp [upd, e2, e6]
                · exact rfl
              refine auto_op 92 [7, 2] (by kernel_rfl) (fun y w' HW hd K hK => ?_) ?_
              · have e2 := hd_nth (hd 2 (by simp)) rfl
                have e7 := hd_nth (hd 7 (by simp)) rfl
                have hcl : ∀ p : Addr, p.block < V5.heap.size → w'.cell? p = V5.cell? p := fun p hp => HW.cell hp
                go_simp
                refine hK _ _ ?_ ?_ HW
                · simp [upd, e2, e7]
                · exact rfl
              refine auto_op 93 [8, 2] (by kernel_rfl) (fun y w' HW hd K hK => ?_) ?_
              · have e2 := hd_nth (hd 2 (by simp)) rfl
                have e8 := hd_nth (hd 8 (by simp)) rfl
                go_simp
                refine hK _ _ ?_ ?_ HW
                · simp [upd, e2, e8]
                · exact rfl
              refine auto_op 94 [9, 2] (by kernel_rfl) (fun y w' HW hd K hK => ?_) ?_
              · have e2 := hd_nth (hd 2 (by simp)) rfl
                have e9 := hd_nth (hd 9 (by simp)) rfl
                go_simp
                refine hK _ _ ?_ ?_ HW
                · simp [upd, e2, e9]
                · exact rfl
              refine auto_op 95 [10, 2] (by kernel_rfl) (fun y w' HW hd K hK => ?_) ?_
              · have e2 := hd_nth (hd 2 (by simp)) rfl
                have e10 := hd_nth (hd 10 (by simp)) rfl
                have hcl : ∀ p : Addr, p.block < V5.heap.size → w'.cell? p = V5.cell? p := fun p hp => HW.cell hp
                go_simp
                refine hK _ _ ?_ ?_ HW
                · simp [upd, e2, e10]
                · exact rfl
              refine auto_op 96 [2] (by kernel_rfl) (fun y w' HW hd K hK => ?_) ?_
              · have e2 := hd_nth (hd 2 (by simp)) rfl
                go_simp
                refine hK _ _ ?_ ?_ HW
                · simp [upd, e2]
                · exact rfl
              refine auto_op 97 [11, 12, 2] (by kernel_rfl) (fun y w' HW hd K hK => ?_) ?_
              · have e2 := hd_nth (hd 2 (by simp)) rfl
                have e11 := hd_nth (hd 11 (by simp)) rfl
                have e12 := hd_nth (hd 12 (by simp)) rfl
                go_simp
                refine hK _ _ ?_ ?_ HW
                · simp [upd, e2, e11, e12]
                · exact rfl
              refine auto_op 98 [13, 2] (by kernel_rfl) (fun y w' HW hd K hK => ?_) ?_
              · have e2 := hd_nth (hd 2 (by simp)) rfl
                have e13 := hd_nth (hd 13 (by simp)) rfl
                have hcl : ∀ p : Addr, p.block < V5.heap.size → w'.cell? p = V5.cell? p := fun p hp => HW.cell hp
                go_simp
                refine hK _ _ ?_ ?_ HW
                · simp [upd, e2, e13]
                · exact rfl
              refine auto_op 99 [14, 2] (by kernel_rfl) (fun y w' HW hd K hK => ?_) ?_
              · have e2 := hd_nth (hd 2 (by simp)) rfl
                have e14 := hd_nth (hd 14 (by simp)) rfl
                have hcv := HCV2.out w' HW
                go_simp
                refine hK _ _ ?_ ?_ HW
                · simp [upd, e2, e14]
                · exact rfl
              refine auto_op 100 [4, 15, 2] (by kernel_rfl) (fun y w' HW hd K hK => ?_) ?_
              · have e2 := hd_nth (hd 2 (by simp)) rfl
                have e4 := hd_nth (hd 4 (by simp)) rfl
                have e15 := hd_nth (hd 15 (by simp)) rfl
                go_simp
                refine hK _ _ ?_ ?_ HW
                · simp [upd, e2, e4, e15]
                · exact rfl
              refine auto_last fun y w' HW hd K hK => ?_
              have e0 := hd_nth (hd 0 (by omega)) rfl
              have e1 := hd_nth (hd 1 (by omega)) rfl
              have e2 := hd_nth (hd 2 (by omega)) rfl
              have e3 := hd_nth (hd 3 (by omega)) rfl
              have e4 := hd_nth (hd 4 (by omega)) rfl
              have e5 := hd_nth (hd 5 (by omega)) rfl
              have e6 := hd_nth (hd 6 (by omega)) rfl
              have e7 := hd_nth (hd 7 (by omega)) rfl
              have e8 := hd_nth (hd 8 (by omega)) rfl
              have e9 := hd_nth (hd 9 (by omega)) rfl
              have e10 := hd_nth (hd 10 (by omega)) rfl
              have e11 := hd_nth (hd 11 (by omega)) rfl
              have e12 := hd_nth (hd 12 (by omega)) rfl
              have e13 := hd_nth (hd 13 (by omega)) rfl
              have e14 := hd_nth (hd 14 (by omega)) rfl
              have e15 := hd_nth (hd 15 (by omega)) rfl
              have e16 := hd_nth (hd 16 (by omega)) rfl
              go_simp
              refine hK _ _ ?_
              clear hd hK K e0 e1 e2 e3 e4 e5 e6 e7 e8 e9 e10 e11 e12 e13 e14 e15 e16
              have HZ6 := Lib.hid (HZ5.out.more HC.out HW)
              clear HW HCV1 HCV2 HZ5 c0 b0 c1 b1 c2 b2
              go_wp2
              go_roundw
              case rel => exact ⟨i + 1, H3.out, by go_num, HZ6⟩
              case measure => have := H3.out; simp [intOf]; omega
          · obtain rfl : i = 12 := by omega
            clear hin hi
            go_wp2
            go_roundw
            case rel => exact ⟨k + 1, S2, LM, H1.out, by go_num, HZI⟩
            case measure => have := H1.out; simp [intOf]; omega
    · have hout : (¬ (k : Int) < (la : Int)) ∨ ((k : Int) < (la : Int) ∧ ¬ (k : Int) < 30) := by omega
      clear hin hk
      rcases hout with f1 | ⟨f1, f2⟩
      all_goals
        go_wp2_with fail
        refine (awake20_any HC.out _ (HGW.out _ HZ.out.b).1 (HGW.out _ HZ.out.b).2).mono ?_
        rintro e w6 ⟨rfl, hb6⟩
        have HB6 := Lib.hid (HZ.out.b.trans (hb6.mono HZ.out.b.size))
        clear hb6 HZ
        go_wp2
        go_ret
        exact ⟨rfl, HB6.out⟩
end Go.Proofs.YteaincdeoajkeaaGreatDoor.Mm
end
section
/- hermitagelaw16: awake; what a view that no call made answers. -/
namespace Go.Proofs.YteaincdeoajkeaaGreatDoor.Vw
open Go.RowKit Go.Shelf Ut Oc
set_option maxRecDepth 100000
set_option linter.unusedVariables false
set_option maxHeartbeats 4000000

/-- a view that no call made, in any world from w on -/
def Unv (w : World) (a : Option Addr) : Prop := ∀ W, Below w.heap.size w W → Calls Tryz.prog 50 #[.pointer a] W fun e w' => e = .returned (.bool false) ∧ W = w'
theorem unv_nil (w : World) : Unv w none := fun W _ => made_nil W
def zeroV : List Value := .pointer none :: .pointer none :: noDv
theorem unv_blk {w : World} {b : Nat} (h : Blk w b 84 zeroV) : Unv w (some ⟨b, 0, none⟩) := fun W hW => made_no b W ((h.below hW h.lt).cell rfl)
theorem run_zeroV (ρ : Operand → Value) (o : Oper) (ho : o.op = .alloc 84) (w : World) : (execOp ρ o).run Tryz.prog w = .ok (.value (.pointer (some ⟨w.heap.size, 0, none⟩))) (w.alloc (.cells zeroV.toArray 84)) := by
  unfold execOp
  rw [ho]
  kernel_rfl
section
variable {w : World} {a : Option Addr}
theorem Unv.more {V : World} (h : Unv w a) (hV : Below w.heap.size w V) : Unv V a := fun W hW => h W (hV.trans (hW.mono hV.size))
theorem fault_un (h : Unv w a) (z q k : Int) : Calls Tryz.prog 100 #[.pointer a, .int .u32 z, .int .i64 q, .int .i64 k] w fun e w' => e = .returned (.int .i64 7) ∧ w = w' := by
  have HM := Lib.hid (h w (Below.refl _ _))
  clear h
  go_enter Tryz.func100, Tryz.ntmps100
  go_wp2_with fail
  refine HM.out.mono ?_
  rintro e w1 ⟨rfl, rfl⟩
  go_wp2
  go_ret
  exact ⟨rfl, rfl⟩
theorem find_un (h : Unv w a) (z q k : Int) : Calls Tryz.prog 66 #[.pointer a, .int .u32 z, .int .i64 q, .int .i64 k] w fun e w' => e = .returned (.tuple #[hitV (0, 0, 0), .int .i64 7]) ∧ Below w.heap.size w w' := by
  have HB : Hid (Below w.heap.size w (w.alloc (.cells (hitC (0, 0, 0)).toArray 36))) := Lib.hid ((Below.refl w.heap.size w).alloc (Nat.le_refl _) _)
  have HF : Hid (Calls Tryz.prog 100 #[.pointer a, .int .u32 z, .int .i64 q, .int .i64 k] (w.alloc (.cells (hitC (0, 0, 0)).toArray 36)) fun e w' => e = .returned (.int .i64 7) ∧ Below (w.alloc (.cells (hitC (0, 0, 0)).toArray 36)).heap.size (w.alloc (.cells (hitC (0, 0, 0)).toArray 36)) w') := Lib.hid ((fault_un (h.more HB.out) z q k).mono fun e w' ⟨he, hb⟩ => ⟨he, hb ▸ Below.refl _ _⟩)
  have HN : Hid (Blk (w.alloc (.cells (hitC (0, 0, 0)).toArray 36)) w.heap.size 36 (hitC (0, 0, 0))) := Lib.hid (Blk.new w _ _)
  have HSet : Hid (∀ (W : World) (j : Nat) (v : Value), Below w.heap.size w W → Below w.heap.size w (W.setCell ⟨w.heap.size, j, none⟩ v)) := Lib.hid fun W j v h => h.setCell (p := ⟨w.heap.size, j, none⟩) (by simp) _
  clear h
  go_enter Tryz.func66, Tryz.ntmps66
  go_wp2_with fail
  refine HF.out.mono ?_
  rintro e w1 ⟨rfl, hb1⟩
  have HB1 := Lib.hid (HB.out.trans (hb1.mono HB.out.size))
  have hq0 := HN.out.more hb1
  obtain ⟨r0, r1, r2, r3⟩ := HAt.cells hq0
  have f0 := hq0.frozen 0
  have f1 := hq0.frozen 1
  have f2 := hq0.frozen 2
  have f3 := hq0.frozen 3
  have hlt := hq0.lt
  clear hb1 hq0 HF HN HB
  go_wp2
  exact bodyPost_ret (v := .tuple #[hitV (0, 0, 0), .int .i64 7]) (by simp [results, Tryz.results66, go_sem, r0, r1, r2, r3, hitV]) rfl ⟨rfl, by (repeat (first | refine HSet.out _ _ _ ?_)); exact HB1.out⟩
theorem save_un (h : Unv w a) (z q x : Int) : Calls Tryz.prog 32 #[.pointer a, .int .u32 z, .int .i64 q, .int .u32 x] w fun e w' => e = .returned (.int .i64 7) ∧ Below w.heap.size w w' := by
  have HF := Lib.hid (find_un h z q 2)
  have HBX : Hid (∀ W, Below w.heap.size w W → Below w.heap.size w (W.alloc (.cells #[.int .i64 0, .int .i64 0, .int .i64 0, .bool false] 36))) := Lib.hid fun W h => h.alloc h.size _
  clear h
  go_enter Tryz.func32, Tryz.ntmps32
  go_wp2_with fail
  refine HF.out.mono ?_
  rintro e w1 ⟨rfl, hb1⟩
  have HB1 := Lib.hid (HBX.out _ hb1)
  clear hb1
  unfold hitV
  go_wp2
  go_ret
  exact ⟨rfl, HB1.out⟩
theorem readUn (h : Unv w a) (z k : Int) : Calls Tryz.prog 136 #[.pointer a, .int .u32 z, .int .i64 k] w fun e w' => e = .returned (.tuple #[.slice none 0 0, .bool false]) ∧ Below w.heap.size w w' :=
  read_no a z k w fun W c hW => each_no a z k _ W (fun V hV => own_un a z k V ((h.more hW).more hV)) rfl ⟨_, _, rfl⟩
end

/-- the one page of awake's view -/
def awL : List Gm.Pl := Gm.setL Gm.noP 1 (5, 3)
def awS : List Int := saveS 10 Fr.zeros awL 64 4 7
theorem aw_mk : mkL [1] (fun _ => (5, 3)) (cnt 1 1) = awL := rfl
theorem aw_find : findF 10 awL 64 4 2 = 0 := by decide +kernel
theorem aw_load : findF 10 awL 64 4 1 = 0 := by decide +kernel
theorem aw_dirt : saveD 10 awL noD 64 4 = noD.set 1 true := by decide +kernel
theorem aw_list : dirtL (noD.set 1 true) 12 = [1] := by decide +kernel
theorem aw_val : loadF 10 awS awL 64 4 = 7 := by decide +kernel
end Go.Proofs.YteaincdeoajkeaaGreatDoor.Vw
end
section
/- hermitagelaw20: the walk of MmuZero, over what one that nobody made is to tell (ZeroC20: to be shown of the program that lands). -/
namespace Go.Proofs.YteaincdeoajkeaaGreatDoor.Mm
open Go.RowKit Go.Shelf Ut Oc Vw Wa
set_option maxRecDepth 100000
set_option linter.unusedVariables false
set_option maxHeartbeats 8000000

/-- one that nobody made (nil, or a variable of the type: cells zs), and what it tells; New over no view -/
structure ZeroC20 (Un : World → Value → Prop) (zs : List Value) : Prop where
  run : ∀ (w : World) (ρ : Operand → Value) (o : Oper), o.op = .alloc 80 → ∀ n, w.heap.size = n → (execOp ρ o).run Tryz.prog w = .ok (.value (.pointer (some ⟨n, 0, none⟩))) (w.alloc (.cells zs.toArray 80))
  made : ∀ w : World, Un (w.alloc (.cells zs.toArray 80)) (.pointer (some ⟨w.heap.size, 0, none⟩))
  nil : ∀ w, Un w (.pointer none)
  more : ∀ {W W' v}, Un W v → Below W.heap.size W W' → Un W' v
  newNil : ∀ (W : World), Calls Tryz.prog 22 #[.pointer none, .int .i64 1] W fun e w' => e = .returned (.tuple #[.pointer none, .int .i64 7]) ∧ Below W.heap.size W w'
  newZero : ∀ (W : World) (b : Nat), Blk W b 84 zeroV → Calls Tryz.prog 22 #[.pointer (some ⟨b, 0, none⟩), .int .i64 1] W fun e w' => e = .returned (.tuple #[.pointer none, .int .i64 7]) ∧ Below W.heap.size W w'
  find : ∀ {W v} (on us : Bool) (rt z k : Int), Un W v → 0 ≤ z → z < 4294967296 → Calls Tryz.prog 9 #[v, modeV on rt us, .int .u32 z, .int .i64 k] W fun e w' => e = .returned (.tuple #[hitX (0, 0, 0) false, .int .i64 7]) ∧ Below W.heap.size W w'
  load : ∀ {W v} (on us : Bool) (rt z wd k : Int), Un W v → 0 ≤ z → z < 4294967296 → Calls Tryz.prog 11 #[v, modeV on rt us, .int .u32 z, .int .i64 wd, .int .i64 k] W fun e w' => e = .returned (.tuple #[.int .u32 0, .int .i64 7]) ∧ Below W.heap.size W w'
  save : ∀ {W v} (on us : Bool) (rt z wd x : Int), Un W v → 0 ≤ z → z < 4294967296 → 0 ≤ x → x < 4294967296 → Calls Tryz.prog 18 #[v, modeV on rt us, .int .u32 z, .int .i64 wd, .int .u32 x] W fun e w' => e = .returned (.int .i64 7) ∧ Below W.heap.size W w'
  gone : ∀ {W v} (p : Int), Un W v → Calls Tryz.prog 23 #[v, .int .i64 p] W fun e w' => e = .returned (.int .i64 7) ∧ Below W.heap.size W w'
  flush : ∀ {W v}, Un W v → Calls Tryz.prog 24 #[v] W fun e w' => e = .returned (.int .i64 0) ∧ Below W.heap.size W w'
  kept : ∀ {W v}, Un W v → Calls Tryz.prog 14 #[v] W fun e w' => (∃ a c, e = .returned (.slice a 0 c)) ∧ Below W.heap.size W w'
  table : ∀ {W v} (p : Int), Un W v → Calls Tryz.prog 17 #[v, .int .i64 p] W fun e w' => e = .returned (.bool false) ∧ Below W.heap.size W w'
/-- the mode's block, the one that no call made -/
structure ZM (Un : World → Value → Prop) (w W : World) (on : Bool) (rt : Int) (us : Bool) : Prop where
  md : Blk W w.heap.size 30 [.bool on, .int .i64 rt, .bool us]
  un : Un W (.pointer (some ⟨w.heap.size + 1, 0, none⟩))
  b : Below w.heap.size w W
section
variable {Un : World → Value → Prop} {zs : List Value} (Z : ZeroC20 Un zs)
include Z
theorem ZM.more {w W W' : World} {on us : Bool} {rt : Int} (h : ZM Un w W on rt us) (hb : Below W.heap.size W W') : ZM Un w W' on rt us := ⟨h.md.more hb, Z.more h.un hb, h.b.trans (hb.mono h.b.size)⟩
theorem zero20_any (on us : Bool) (rt va wd kn x : Int) (z0 : 0 ≤ va) (z1 : va < 4294967296) (x0 : 0 ≤ x) (x1 : x < 4294967296) (W : World) : Calls Tryz.prog 6 #[.agg #[.bool on, .int .i64 rt, .bool us], .int .u32 va, .int .i64 wd, .int .i64 kn, .int .u32 x] W fun e w' => e = .returned (.bool true) ∧ Below W.heap.size W w' := by
  obtain ⟨V0, hV0⟩ : ∃ V0, V0 = W.alloc (.cells #[.bool on, .int .i64 rt, .bool us] 30) := ⟨_, rfl⟩
  have hs0 : V0.heap.size = W.heap.size + 1 := by rw [hV0]; simp
  obtain ⟨U, hU⟩ : ∃ U, U = V0.alloc (.cells zs.toArray 80) := ⟨_, rfl⟩
  have hb0 : Below W.heap.size W V0 := by rw [hV0]; exact (Below.refl _ _).alloc (Nat.le_refl _) _
  have hb1 : Below V0.heap.size V0 U := by rw [hU]; exact (Below.refl _ _).alloc (Nat.le_refl _) _
  have hk : Blk V0 W.heap.size 30 [.bool on, .int .i64 rt, .bool us] := by rw [hV0]; exact Blk.new W _ _
  have hun : Un U (.pointer (some ⟨W.heap.size + 1, 0, none⟩)) := by have := Z.made V0; rw [hs0] at this; rw [hU]; exact this
  have HQ : Hid (ZM Un W U on rt us) := Lib.hid ⟨hk.more hb1, hun, hb0.trans (hb1.mono hb0.size)⟩
  have HAL := Lib.hid (Z.run V0)
  have HV0 := Lib.hid hV0
  have HU := Lib.hid hU
  have HS0 := Lib.hid hs0
  have HZ := Lib.hid Z
  clear hV0 hs0 hU hb0 hb1 hk hun Z
  go_enter Tryz.func6, Tryz.ntmps6
  go_upto_region 2 with fail
  rw [← HV0.out]
  refine wp_region_lit ?_
  refine Great.wpList_allocTo rfl (some 12) rfl (.pointer (some ⟨W.heap.size + 1, 0, none⟩)) (.cells zs.toArray 80) (HAL.out _ _ rfl _ HS0.out) ?_
  simp only [Act.put, List.setIfInBounds_toArray, List.set_cons_succ, List.set_cons_zero]
  rw [← HU.out]
  clear HV0 HAL HU HS0
  have m0 := HQ.out.md.cell (j := 0) rfl
  have m1 := HQ.out.md.cell (j := 1) rfl
  have m2 := HQ.out.md.cell (j := 2) rfl
  have ml := HQ.out.md.lt
  go_wp2_with fail
  refine (HZ.out.find on us rt va kn (HZ.out.nil _) z0 z1).mono ?_
  rintro e w1 ⟨rfl, hb⟩
  have HQ1 := Lib.hid (HQ.out.more HZ.out hb)
  clear hb HQ m0 m1 m2 ml
  have hbh : Below w1.heap.size w1 (w1.alloc (.cells #[.int .i64 0, .int .i64 0, .int .i64 0, .bool false] 36)) := (Below.refl _ _).alloc (Nat.le_refl _) _
  have HQ2 := Lib.hid (HQ1.out.more HZ.out hbh)
  have HH2 : Hid (Blk (w1.alloc (.cells #[.int .i64 0, .int .i64 0, .int .i64 0, .bool false] 36)) w1.heap.size 36 [.int .i64 0, .int .i64 0, .int .i64 0, .bool false]) := Lib.hid (Blk.new w1 _ _)
  clear hbh HQ1
  dsimp only [hitX]
  go_upto_region 4 with fail
  generalize w1.alloc (.cells #[.int .i64 0, .int .i64 0, .int .i64 0, .bool false] 36) = w2 at HQ2 HH2 ⊢
  generalize w1.heap.size = hh at HH2 ⊢
  have m0 := HQ2.out.md.cell (j := 0) rfl
  have m1 := HQ2.out.md.cell (j := 1) rfl
  have m2 := HQ2.out.md.cell (j := 2) rfl
  have ml := HQ2.out.md.lt
  go_wp2_with fail
  refine (HZ.out.load on us rt va wd kn HQ2.out.un z0 z1).mono ?_
  rintro e w3 ⟨rfl, hb⟩
  have HQ3 := Lib.hid (HQ2.out.more HZ.out hb)
  have HH3 := Lib.hid (HH2.out.more hb)
  clear hb HQ2 HH2 m0 m1 m2 ml
  go_wp2_with fail
  refine (HZ.out.newNil w3).mono ?_
  rintro e w4 ⟨rfl, hb⟩
  have HQ4 := Lib.hid (HQ3.out.more HZ.out hb)
  have HH4 := Lib.hid (HH3.out.more hb)
  clear hb HQ3 HH3
  go_upto_region 6 with fail
  refine wp_region_lit ?_
  refine Great.wpList_allocTo rfl (some 19) rfl (.pointer (some ⟨w4.heap.size, 0, none⟩)) (.cells zeroV.toArray 84) (run_zeroV _ _ rfl w4) ?_
  simp only [Act.put, List.setIfInBounds_toArray, List.set_cons_succ, List.set_cons_zero]
  have hbv : Below w4.heap.size w4 (w4.alloc (.cells zeroV.toArray 84)) := (Below.refl _ _).alloc (Nat.le_refl _) _
  have HQ5 := Lib.hid (HQ4.out.more HZ.out hbv)
  have HH5 := Lib.hid (HH4.out.more hbv)
  have HNZ := Lib.hid (HZ.out.newZero _ w4.heap.size (Blk.new w4 84 zeroV))
  generalize w4.alloc (.cells zeroV.toArray 84) = w5 at HQ5 HH5 HNZ ⊢
  generalize w4.heap.size = zb at HNZ ⊢
  clear hbv HQ4 HH4
  go_wp2_with fail
  refine HNZ.out.mono ?_
  rintro e w6 ⟨rfl, hb⟩
  have HQ6 := Lib.hid (HQ5.out.more HZ.out hb)
  have HH6 := Lib.hid (HH5.out.more hb)
  clear hb HQ5 HH5 HNZ
  have h0 := HH6.out.cell (j := 0) rfl
  have h1 := HH6.out.cell (j := 1) rfl
  have h2 := HH6.out.cell (j := 2) rfl
  have h3 := HH6.out.cell (j := 3) rfl
  have hl := HH6.out.lt
  have m0 := HQ6.out.md.cell (j := 0) rfl
  have m1 := HQ6.out.md.cell (j := 1) rfl
  have m2 := HQ6.out.md.cell (j := 2) rfl
  have ml := HQ6.out.md.lt
  go_wp2_with fail
  refine (HZ.out.save on us rt va wd x HQ6.out.un z0 z1 x0 x1).mono ?_
  rintro e w7 ⟨rfl, hb⟩
  have HQ7 := Lib.hid (HQ6.out.more HZ.out hb)
  clear hb HQ6 m0 m1 m2 ml h0 h1 h2 h3 hl HH6
  have m0 := HQ7.out.md.cell (j := 0) rfl
  have m1 := HQ7.out.md.cell (j := 1) rfl
  have m2 := HQ7.out.md.cell (j := 2) rfl
  have ml := HQ7.out.md.lt
  go_wp2_with fail
  refine (HZ.out.save on us rt va wd x (HZ.out.nil w7) z0 z1 x0 x1).mono ?_
  rintro e w8 ⟨rfl, hb⟩
  have HQ8 := Lib.hid (HQ7.out.more HZ.out hb)
  clear hb HQ7 m0 m1 m2 ml
  have m0 := HQ8.out.md.cell (j := 0) rfl
  have m1 := HQ8.out.md.cell (j := 1) rfl
  have m2 := HQ8.out.md.cell (j := 2) rfl
  have ml := HQ8.out.md.lt
  go_wp2_with fail
  refine (HZ.out.gone 1 (HZ.out.nil w8)).mono ?_
  rintro e w9 ⟨rfl, hb⟩
  have HQ9 := Lib.hid (HQ8.out.more HZ.out hb)
  clear hb HQ8 m0 m1 m2 ml
  have m0 := HQ9.out.md.cell (j := 0) rfl
  have m1 := HQ9.out.md.cell (j := 1) rfl
  have m2 := HQ9.out.md.cell (j := 2) rfl
  have ml := HQ9.out.md.lt
  go_wp2_with fail
  refine (HZ.out.gone 1 HQ9.out.un).mono ?_
  rintro e w10 ⟨rfl, hb⟩
  have HQ10 := Lib.hid (HQ9.out.more HZ.out hb)
  clear hb HQ9 m0 m1 m2 ml
  have m0 := HQ10.out.md.cell (j := 0) rfl
  have m1 := HQ10.out.md.cell (j := 1) rfl
  have m2 := HQ10.out.md.cell (j := 2) rfl
  have ml := HQ10.out.md.lt
  go_wp2_with fail
  refine (HZ.out.flush (HZ.out.nil w10)).mono ?_
  rintro e w11 ⟨rfl, hb⟩
  have HQ11 := Lib.hid (HQ10.out.more HZ.out hb)
  clear hb HQ10 m0 m1 m2 ml
  have m0 := HQ11.out.md.cell (j := 0) rfl
  have m1 := HQ11.out.md.cell (j := 1) rfl
  have m2 := HQ11.out.md.cell (j := 2) rfl
  have ml := HQ11.out.md.lt
  go_wp2_with fail
  refine (HZ.out.flush HQ11.out.un).mono ?_
  rintro e w12 ⟨rfl, hb⟩
  have HQ12 := Lib.hid (HQ11.out.more HZ.out hb)
  clear hb HQ11 m0 m1 m2 ml
  have m0 := HQ12.out.md.cell (j := 0) rfl
  have m1 := HQ12.out.md.cell (j := 1) rfl
  have m2 := HQ12.out.md.cell (j := 2) rfl
  have ml := HQ12.out.md.lt
  go_wp2_with fail
  refine (HZ.out.kept (HZ.out.nil w12)).mono ?_
  rintro e w13 ⟨⟨b1, c1, rfl⟩, hb⟩
  have HQ13 := Lib.hid (HQ12.out.more HZ.out hb)
  clear hb HQ12 m0 m1 m2 ml
  have m0 := HQ13.out.md.cell (j := 0) rfl
  have m1 := HQ13.out.md.cell (j := 1) rfl
  have m2 := HQ13.out.md.cell (j := 2) rfl
  have ml := HQ13.out.md.lt
  go_wp2_with fail
  refine (HZ.out.kept HQ13.out.un).mono ?_
  rintro e w14 ⟨⟨b2, c2, rfl⟩, hb⟩
  have HQ14 := Lib.hid (HQ13.out.more HZ.out hb)
  clear hb HQ13 m0 m1 m2 ml
  have m0 := HQ14.out.md.cell (j := 0) rfl
  have m1 := HQ14.out.md.cell (j := 1) rfl
  have m2 := HQ14.out.md.cell (j := 2) rfl
  have ml := HQ14.out.md.lt
  go_wp2_with fail
  refine (HZ.out.table 1 (HZ.out.nil w14)).mono ?_
  rintro e w15 ⟨rfl, hb⟩
  have HQ15 := Lib.hid (HQ14.out.more HZ.out hb)
  clear hb HQ14 m0 m1 m2 ml
  have m0 := HQ15.out.md.cell (j := 0) rfl
  have m1 := HQ15.out.md.cell (j := 1) rfl
  have m2 := HQ15.out.md.cell (j := 2) rfl
  have ml := HQ15.out.md.lt
  go_wp2_with fail
  refine (HZ.out.table 1 HQ15.out.un).mono ?_
  rintro e w16 ⟨rfl, hb⟩
  have HQ16 := Lib.hid (HQ15.out.more HZ.out hb)
  clear hb HQ15 m0 m1 m2 ml
  have m0 := HQ16.out.md.cell (j := 0) rfl
  have m1 := HQ16.out.md.cell (j := 1) rfl
  have m2 := HQ16.out.md.cell (j := 2) rfl
  have ml := HQ16.out.md.lt
  clear m0 m1 m2 ml
  go_wp2
  go_ret
  exact ⟨rfl, HQ16.out.b⟩
end
end Go.Proofs.YteaincdeoajkeaaGreatDoor.Mm
end
section
/- A mode, a slice of words with their places, as arguments. -/
namespace Go.Proofs.YteaincdeoajkeaaGreatDoor.Wa
open Go.ChangeShapes Go.WideShapes Go.Deep Go.RowKit Ut
set_option linter.unusedVariables false
set_option maxRecDepth 100000

section
variable {H : Type} {enc : TypeId × Value → H} {W : World}
theorem mode_arg {b0 : Nat} {v : Value} {d : DataW H} {p : List MemPlace} (hv : Value.okWide Tryz.prog W .any b0 30 v) (h : DataW.Trod enc Tryz.prog W 0 (fun _ => true) true 30 v d p) : ∃ (o : Bool) (r : Int) (u : Bool), v = .agg #[.bool o, .int .i64 r, .bool u] := by
  obtain ⟨cs, ys, n, rfl, hl, rfl, hyl, hf⟩ := open_fields Tryz.underlying30 (by kernel_rfl) (by kernel_rfl) hv h
  obtain ⟨c0, y0, e0, g0, t0⟩ := hf 0 _ rfl
  obtain ⟨c1, y1, e1, g1, t1⟩ := hf 1 _ rfl
  obtain ⟨c2, y2, e2, g2, t2⟩ := hf 2 _ rfl
  match cs, hl, e0, e1, e2 with
  | [x0, x1, x2], _, e0, e1, e2 =>
    simp only [List.getElem?_cons_zero, List.getElem?_cons_succ, Option.some.injEq] at e0 e1 e2
    subst e0 e1 e2
    obtain ⟨z0, q0, _⟩ := DataW.trod_bool Tryz.underlying4 t0
    obtain ⟨z1, q1, _, _⟩ := DataW.trod_int Tryz.underlying3 t1
    obtain ⟨z2, q2, _⟩ := DataW.trod_bool Tryz.underlying4 t2
    simp only [List.cons.injEq, and_true] at q0 q1 q2
    subst q0 q1 q2
    exact ⟨z0, z1, z2, rfl⟩
end
end Go.Proofs.YteaincdeoajkeaaGreatDoor.Wa
end
