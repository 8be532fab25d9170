/- The walk of hermitagelaw11.RegsPlays. -/
import Derived.Test.YtpjpobcdedlgbaaTe
import Derived.Test.YtpjpobcdedlgbaaRd
import Derived.StillTailTactics
namespace Go.Proofs.Ytpjpobcdedlgbaa.Rg
open Go.RowKit Ut
set_option maxRecDepth 100000
set_option linter.unusedVariables false
set_option maxHeartbeats 4000000

theorem run_rbuild (ρ : Operand → Value) (o : Oper) (ho : o.op = .build 31 #[]) (w : World) : (execOp ρ o).run Try.prog w = .ok (.value (.agg (rCells 0 zer).toArray)) w := by
  unfold execOp
  rw [ho]
  kernel_rfl

/-- both files, the program's and the document's, of which each may have had the Set or not yet -/
def JR (w0 : World) (B b g : Nat) (p : Int) (R : List Int) (i v : Int) (f r : Bool) (W : World) : Prop :=
  Below B w0 W ∧ FAt W b p (if f then setR R i v else R) ∧ RAt W g p (if r then setR R i v else R)
theorem JR.actF {w0 : World} {B b g : Nat} {p : Int} {R : List Int} {i v : Int} {r : Bool} {W W' : World} (h : JR w0 B b g p R i v false r W) (hF : FAt W' b p (setR R i v)) (hg : W.grownBy W' (some b)) (hB : B ≤ b) (hne : g ≠ b) :
    JR w0 B b g p R i v true r W' :=
  ⟨below_of_grown h.1 hg (Nat.le_trans hB (Nat.le_of_lt h.2.1.1.lt)) hB, hF, h.2.2.kept hg (fun e => hne (by injection e))⟩
theorem JR.actR {w0 : World} {B b g : Nat} {p : Int} {R : List Int} {i v : Int} {f : Bool} {W W' : World} (h : JR w0 B b g p R i v f false W) (hR : RAt W' g p (setR R i v)) (hg : W.grownBy W' (some g)) (hB : B ≤ b) (hbg : b < g) :
    JR w0 B b g p R i v f true W' :=
  ⟨below_of_grown h.1 hg (Nat.le_trans hB (Nat.le_of_lt h.2.1.1.lt)) (by omega), h.2.1.kept hg (fun e => absurd (by injection e : b = g) (by omega)), hR⟩

theorem plays_any (ak ai av : Option Addr) (lk ck li ci lv cv : Nat) (ks xs ys : List Int) (w : World) (hlk : lk ≤ 9223372036854775807) (hli : li ≤ 9223372036854775807) (hlv : lv ≤ 9223372036854775807)
    (hz : RowK .u8 w w.heap.size ak lk ks) (hx : RowK .i64 w w.heap.size ai li xs) (hy : RowK .u32 w w.heap.size av lv ys) (hkb : ∀ z ∈ ks, 0 ≤ z ∧ z < 256) :
    Calls Try.prog 3 #[.slice ak lk ck, .slice ai li ci, .slice av lv cv] w fun e w' => e = .returned (.bool true) ∧ Below w.heap.size w w' := by
  have HK := Lib.hid hz
  have HX := Lib.hid hx
  have HY := Lib.hid hy
  have HKB := Lib.hid hkb
  clear hx hy hz hkb
  go_enter Try.func3, Try.ntmps3
  go_wp2_with fail
  refine (new_any w).mono ?_
  rintro e w1 ⟨rfl, hF, hb⟩
  have HF1 := Lib.hid hF
  have HB1 := Lib.hid hb
  clear hF hb
  go_simp
  rename_i hK
  refine hK _ _ ?_
  clear hK
  go_upto_region 2 with fail
  refine wp_region_lit ?_
  refine wpList_buildTo rfl 31 _ rfl _ rfl (rCells 0 zer).toArray (by kernel_rfl) ?_
  refine Great.wpList_boxTo rfl 31 _ rfl _ rfl w1.heap.size rfl (rCells 0 zer).toArray rfl ?_
  have HA := (Below.refl w1.heap.size w1).alloc (Nat.le_refl _) (.cells (rCells 0 zer).toArray 31)
  have HR2 : Hid (RAt (w1.alloc (.cells (rCells 0 zer).toArray 31)) w1.heap.size 0 zer) := Lib.hid ⟨Blk.new w1 _ _, zer_len⟩
  have HF2 := Lib.hid (HF1.out.below HA HF1.out.1.lt)
  have HG2 := Lib.hid HF1.out.1.lt
  have HB2 := Lib.hid (HB1.out.trans (HA.mono HB1.out.size))
  generalize w1.alloc (.cells (rCells 0 zer).toArray 31) = w2 at HR2 HF2 HB2 ⊢
  generalize w1.heap.size = g0 at HR2 HG2 ⊢
  clear HA HF1 HB1
  go_wp2
  go_loopw [8, 9] (fun gp j wr => ∃ (k g : Nat) (p : Int) (R : List Int), k ≤ 100 ∧ gp = .pointer (some ⟨g, 0, none⟩) ∧ j = .int .i64 k ∧ Hid (w.heap.size < g) ∧ Hid (FAt wr w.heap.size p R) ∧ Hid (RAt wr g p R) ∧ Hid (Below w.heap.size w wr)) (fun _ j _ => 100 - (intOf j).toNat)
  case atStart => exact ⟨0, g0, 0, zer, Nat.zero_le _, rfl, rfl, HG2, HF2, HR2, HB2⟩
  case round =>
    clear HF2 HB2 HR2 HG2
    obtain ⟨k, g, p, R, hk, rfl, rfl, HG, HF, HR, HB⟩ := hrel
    by_cases hin : k < lk ∧ k < li ∧ k < lv ∧ k < 100
    · obtain ⟨h0, h1, h2, h3⟩ := hin
      obtain ⟨t, rfl, htb, htc⟩ := HK.out.2 k h0
      obtain ⟨x, rfl, hxb, hxc⟩ := HX.out.2 k h1
      obtain ⟨y, rfl, hyb, hyc⟩ := HY.out.2 k h2
      have HC0 := Lib.hid (And.intro (show (t.add k).block < w.heap.size by rw [block_of_add]; exact htb) htc)
      have HC1 := Lib.hid (And.intro (show (x.add k).block < w.heap.size by rw [block_of_add]; exact hxb) hxc)
      have HC2 := Lib.hid (And.intro (show (y.add k).block < w.heap.size by rw [block_of_add]; exact hyb) hyc)
      have hzb : 0 ≤ ks.getD k 0 ∧ ks.getD k 0 < 256 := HKB.out _ (by
        have hlt : k < ks.length := by rw [HK.out.1]; exact h0
        rw [List.getD_eq_getElem?_getD, List.getElem?_eq_getElem hlt]
        exact List.getElem_mem hlt)
      generalize xs.getD k 0 = i at HC1
      generalize ys.getD k 0 = v at HC2
      generalize ks.getD k 0 = z at HC0 hzb
      obtain ⟨hz0, hz1⟩ := hzb
      have f0 : (k : Int) < (lk : Int) := by omega
      have f1 : (k : Int) < (li : Int) := by omega
      have f2 : (k : Int) < (lv : Int) := by omega
      have f3 : (k : Int) < 100 := by omega
      have H3 := Lib.hid h3
      have c0 := (HB.out.cell HC0.out.1).trans HC0.out.2
      clear htb htc hxb hxc hyb hyc hk h3 h0 h1 h2 HX HY HK HKB
      go_upto_block 2 with fail
      obtain ⟨r, hr⟩ : ∃ r, z % 6 = r := ⟨_, rfl⟩
      rw [hr]
      clear hr
      go_cut [8] (fun gp wx => ∃ (g : Nat) (p : Int) (R : List Int), gp = .pointer (some ⟨g, 0, none⟩) ∧ Hid (w.heap.size < g) ∧ Hid (FAt wx w.heap.size p R) ∧ Hid (RAt wx g p R) ∧ Hid (Below w.heap.size w wx))
      case first =>
        have c1 := (HB.out.cell HC1.out.1).trans HC1.out.2
        have c2 := (HB.out.cell HC2.out.1).trans HC2.out.2
        have HGE := Lib.hid (Nat.ne_of_gt HG.out)
        clear c0
        clear hz0 hz1
        by_cases h4 : r = 4
        · have e4 : (r == 4) = true := by simpa using h4
          clear h4
          have HR3 := Lib.hid (HR.out.jump v)
          have hgr := grown_setCell wr g 16 (.int .u32 v)
          have HF3 := Lib.hid (HF.out.kept hgr (fun e => absurd (by injection e : w.heap.size = g) (by have := HG.out; omega)))
          have HB3 := Lib.hid (below_of_grown HB.out hgr HB.out.size (Nat.le_of_lt HG.out))
          have d0 := HR.out.pc
          have d1 := HR.out.1.frozen 16
          clear hgr HF
          go_upto_region 13 with fail
          generalize wr.setCell ⟨g, 16, none⟩ (.int .u32 v) = w3 at HR3 HF3 HB3 ⊢
          clear d0 d1 c1 c2 HB HR
          have c2 := (HB3.out.cell HC2.out.1).trans HC2.out.2
          go_wp2_with fail
          refine (jump_any w.heap.size p v R w3 HF3.out).mono ?_
          rintro e w4 ⟨rfl, hF, hg⟩
          have HF4 := Lib.hid hF
          have HR4 := Lib.hid (HR3.out.kept hg (fun e => HGE.out (by injection e)))
          have HB4 := Lib.hid (below_of_grown HB3.out hg HB3.out.size (Nat.le_refl _))
          clear hF hg
          go_wp2
          go_meet
          exact ⟨g, v, R, rfl, HG, HF4, HR4, HB4⟩
        · by_cases h5 : r = 5
          · have e4 : (r == 4) = false := by simpa using h4
            have e5 : (r == 5) = true := by simpa using h5
            clear c1 c2 h4 h5
            go_upto_region 16 with fail
            refine wp_region_lit ?_
            refine wpList_buildTo rfl 31 _ rfl _ rfl (rCells 0 zer).toArray (by kernel_rfl) ?_
            refine Great.wpList_boxTo rfl 31 _ rfl _ rfl wr.heap.size rfl (rCells 0 zer).toArray rfl ?_
            have HA := (Below.refl wr.heap.size wr).alloc (Nat.le_refl _) (.cells (rCells 0 zer).toArray 31)
            have HR3 : Hid (RAt (wr.alloc (.cells (rCells 0 zer).toArray 31)) wr.heap.size 0 zer) := Lib.hid ⟨Blk.new wr _ _, zer_len⟩
            have HF3 := Lib.hid (HF.out.below HA HF.out.1.lt)
            have HG3 := Lib.hid HF.out.1.lt
            have HB3 := Lib.hid (HB.out.trans (HA.mono HB.out.size))
            generalize wr.alloc (.cells (rCells 0 zer).toArray 31) = w3 at HR3 HF3 HB3 ⊢
            generalize wr.heap.size = q at HR3 HG3 ⊢
            clear HA HF HB HR HG HGE
            go_wp2_with fail
            refine (clear_any w.heap.size p R w3 HF3.out).mono ?_
            rintro e w4 ⟨rfl, hF, hg⟩
            have HF4 := Lib.hid hF
            have HR4 := Lib.hid (HR3.out.kept hg (fun e => absurd (by injection e : q = w.heap.size) (Nat.ne_of_gt HG3.out)))
            have HB4 := Lib.hid (below_of_grown HB3.out hg HB3.out.size (Nat.le_refl _))
            clear hF hg
            go_wp2
            go_meet
            exact ⟨q, 0, zer, rfl, HG3, HF4, HR4, HB4⟩
          · have e4 : (r == 4) = false := by simpa using h4
            have e5 : (r == 5) = false := by simpa using h5
            have b1 : (x.add k).block < w.heap.size := HC1.out.1
            have b2 : (y.add k).block < w.heap.size := HC2.out.1
            have b1' : x.block < w.heap.size := by rw [← block_of_add x k]; exact b1
            have b2' : y.block < w.heap.size := by rw [← block_of_add y k]; exact b2
            have HJ : Hid (JR wr w.heap.size w.heap.size g p R i v false false wr.drew) := Lib.hid ⟨(Below.refl _ _).drew, HF.out, HR.out⟩
            have HP : Hid (∀ (W : World) (Q : List Int), FAt W w.heap.size p Q → Calls Try.prog 10 #[.pointer (some ⟨w.heap.size, 0, none⟩), .int .i64 i, .int .u32 v] W fun e w' => e = .returned (.int .i64 (errZ i)) ∧ FAt w' w.heap.size p (setR Q i v) ∧ W.grownBy w' (some w.heap.size)) := Lib.hid fun W Q h => set_any w.heap.size p i v Q W h
            have HQ : Hid (∀ (W : World) (Q : List Int), RAt W g p Q → Calls Try.prog 11 #[.pointer (some ⟨g, 0, none⟩), .int .i64 i, .int .u32 v] W fun e w' => e = .returned (.int .i64 (errZ i)) ∧ RAt w' g p (setR Q i v) ∧ W.grownBy w' (some g)) := Lib.hid fun W Q h => refSet_any g p i v Q W h
            generalize errZ i = ez at HP HQ
            clear h4 h5 HF HR
            go_upto_region 9 with fail
            apply wp_region_autoL [46, 47, 48, 49, 50, 51, 52, 53, 54, 55, 56, 57, 58, 59, 60, 61, 62, 63, 64, 65] [_, _, _, _, _, _, _, _, _, _, _, _, _, _, _, _, _, _, _, _] (fun L W' => JR wr w.heap.size w.heap.size g p R i v (L 9) (L 19) W')
            case hm => kernel_rfl
            case hT => intro y; simp only [setAll, List.setIfInBounds_toArray, List.set_cons_succ, List.set_cons_zero]; exact rfl
            case hok => kernel_rfl
            case hn => decide
            case hw => exact fun L hL => (by simp only [hL 9 (by decide), hL 19 (by decide)]; exact HJ.out)
            case hs =>
              refine autoL_op 46 [] (by kernel_rfl) (fun L y w' hL HW hd K hK => ?_) ?_
              · go_simp
                refine hK _ _ ?_ ?_ HW
                · simp [upd]
                · exact rfl
              refine autoL_op 47 [] (by kernel_rfl) (fun L y w' hL HW hd K hK => ?_) ?_
              · go_simp
                refine hK _ _ ?_ ?_ HW
                · simp [upd]
                · exact rfl
              refine autoL_op 48 [] (by kernel_rfl) (fun L y w' hL HW hd K hK => ?_) ?_
              · go_simp
                refine hK _ _ ?_ ?_ HW
                · simp [upd]
                · exact rfl
              refine autoL_op 49 [1, 2] (by kernel_rfl) (fun L y w' hL HW hd K hK => ?_) ?_
              · have e1 := hd_nth (hd 1 (by simp)) rfl
                have e2 := hd_nth (hd 2 (by simp)) rfl
                go_simp
                refine hK _ _ ?_ ?_ HW
                · simp [upd, e1, e2]
                · exact rfl
              refine autoL_op 50 [3] (by kernel_rfl) (fun L y w' hL HW hd K hK => ?_) ?_
              · have e3 := hd_nth (hd 3 (by simp)) rfl
                have hcl : ∀ p : Addr, p.block < w.heap.size → w'.cell? p = wr.cell? p := fun p hp => HW.1.cell hp
                go_simp
                refine hK _ _ ?_ ?_ HW
                · simp [upd, e3]
                · exact rfl
              refine autoL_op 51 [] (by kernel_rfl) (fun L y w' hL HW hd K hK => ?_) ?_
              · go_simp
                refine hK _ _ ?_ ?_ HW
                · simp [upd]
                · exact rfl
              refine autoL_op 52 [] (by kernel_rfl) (fun L y w' hL HW hd K hK => ?_) ?_
              · go_simp
                refine hK _ _ ?_ ?_ HW
                · simp [upd]
                · exact rfl
              refine autoL_op 53 [5, 6] (by kernel_rfl) (fun L y w' hL HW hd K hK => ?_) ?_
              · have e5 := hd_nth (hd 5 (by simp)) rfl
                have e6 := hd_nth (hd 6 (by simp)) rfl
                go_simp
                refine hK _ _ ?_ ?_ HW
                · simp [upd, e5, e6]
                · exact rfl
              refine autoL_op 54 [7] (by kernel_rfl) (fun L y w' hL HW hd K hK => ?_) ?_
              · have e7 := hd_nth (hd 7 (by simp)) rfl
                have hcl : ∀ p : Addr, p.block < w.heap.size → w'.cell? p = wr.cell? p := fun p hp => HW.1.cell hp
                go_simp
                refine hK _ _ ?_ ?_ HW
                · simp [upd, e7]
                · exact rfl
              refine autoL_op 55 [0, 4, 8] (by kernel_rfl) (fun L y w' hL HW hd K hK => ?_) ?_
              · have e0 := hd_nth (hd 0 (by simp)) rfl
                have e4 := hd_nth (hd 4 (by simp)) rfl
                have e8 := hd_nth (hd 8 (by simp)) rfl
                go_simp
                have HW0 : JR wr w.heap.size w.heap.size g p R i v false (L 19) w' := by have h := HW; simp only [hL] at h; exact h
                refine (HP.out _ R HW0.2.1).mono ?_
                rintro e w3 ⟨rfl, hF3, hg3⟩
                refine hK _ _ ?_ ?_ (HW0.actF hF3 hg3 (Nat.le_refl _) HGE.out)
                · simp [upd, e0, e4, e8]
                · exact rfl
              refine autoL_op 56 [] (by kernel_rfl) (fun L y w' hL HW hd K hK => ?_) ?_
              · go_simp
                refine hK _ _ ?_ ?_ HW
                · simp [upd]
                · exact rfl
              refine autoL_op 57 [] (by kernel_rfl) (fun L y w' hL HW hd K hK => ?_) ?_
              · go_simp
                refine hK _ _ ?_ ?_ HW
                · simp [upd]
                · exact rfl
              refine autoL_op 58 [] (by kernel_rfl) (fun L y w' hL HW hd K hK => ?_) ?_
              · go_simp
                refine hK _ _ ?_ ?_ HW
                · simp [upd]
                · exact rfl
              refine autoL_op 59 [11, 12] (by kernel_rfl) (fun L y w' hL HW hd K hK => ?_) ?_
              · have e11 := hd_nth (hd 11 (by simp)) rfl
                have e12 := hd_nth (hd 12 (by simp)) rfl
                go_simp
                refine hK _ _ ?_ ?_ HW
                · simp [upd, e11, e12]
                · exact rfl
              refine autoL_op 60 [13] (by kernel_rfl) (fun L y w' hL HW hd K hK => ?_) ?_
              · have e13 := hd_nth (hd 13 (by simp)) rfl
                have hcl : ∀ p : Addr, p.block < w.heap.size → w'.cell? p = wr.cell? p := fun p hp => HW.1.cell hp
                go_simp
                refine hK _ _ ?_ ?_ HW
                · simp [upd, e13]
                · exact rfl
              refine autoL_op 61 [] (by kernel_rfl) (fun L y w' hL HW hd K hK => ?_) ?_
              · go_simp
                refine hK _ _ ?_ ?_ HW
                · simp [upd]
                · exact rfl
              refine autoL_op 62 [] (by kernel_rfl) (fun L y w' hL HW hd K hK => ?_) ?_
              · go_simp
                refine hK _ _ ?_ ?_ HW
                · simp [upd]
                · exact rfl
              refine autoL_op 63 [15, 16] (by kernel_rfl) (fun L y w' hL HW hd K hK => ?_) ?_
              · have e15 := hd_nth (hd 15 (by simp)) rfl
                have e16 := hd_nth (hd 16 (by simp)) rfl
                go_simp
                refine hK _ _ ?_ ?_ HW
                · simp [upd, e15, e16]
                · exact rfl
              refine autoL_op 64 [17] (by kernel_rfl) (fun L y w' hL HW hd K hK => ?_) ?_
              · have e17 := hd_nth (hd 17 (by simp)) rfl
                have hcl : ∀ p : Addr, p.block < w.heap.size → w'.cell? p = wr.cell? p := fun p hp => HW.1.cell hp
                go_simp
                refine hK _ _ ?_ ?_ HW
                · simp [upd, e17]
                · exact rfl
              refine autoL_op 65 [10, 14, 18, 9] (by kernel_rfl) (fun L y w' hL HW hd K hK => ?_) ?_
              · have e9 := hd_nth (hd 9 (by simp)) rfl
                have e10 := hd_nth (hd 10 (by simp)) rfl
                have e14 := hd_nth (hd 14 (by simp)) rfl
                have e18 := hd_nth (hd 18 (by simp)) rfl
                go_simp
                have HW0 : JR wr w.heap.size w.heap.size g p R i v (L 9) false w' := by have h := HW; simp only [hL] at h; exact h
                refine (HQ.out _ R HW0.2.2).mono ?_
                rintro e w3 ⟨rfl, hR3, hg3⟩
                refine hK _ _ ?_ ?_ (HW0.actR hR3 hg3 (Nat.le_refl _) HG.out)
                · simp [upd, e9, e10, e14, e18]
                · exact rfl
              refine autoL_last fun L y w' hLs HW hd K hK => ?_
              have e0 := hd_nth (hd 0 (by omega)) rfl
              have e1 := hd_nth (hd 1 (by omega)) rfl
              have e2 := hd_nth (hd 2 (by omega)) rfl
              have e3 := hd_nth (hd 3 (by omega)) rfl
              have e4 := hd_nth (hd 4 (by omega)) rfl
              have e5 := hd_nth (hd 5 (by omega)) rfl
              have e6 := hd_nth (hd 6 (by omega)) rfl
              have e7 := hd_nth (hd 7 (by omega)) rfl
              have e8 := hd_nth (hd 8 (by omega)) rfl
              have e9 := hd_nth (hd 9 (by omega)) rfl
              have e10 := hd_nth (hd 10 (by omega)) rfl
              have e11 := hd_nth (hd 11 (by omega)) rfl
              have e12 := hd_nth (hd 12 (by omega)) rfl
              have e13 := hd_nth (hd 13 (by omega)) rfl
              have e14 := hd_nth (hd 14 (by omega)) rfl
              have e15 := hd_nth (hd 15 (by omega)) rfl
              have e16 := hd_nth (hd 16 (by omega)) rfl
              have e17 := hd_nth (hd 17 (by omega)) rfl
              have e18 := hd_nth (hd 18 (by omega)) rfl
              have e19 := hd_nth (hd 19 (by omega)) rfl
              have HWF := Lib.hid (show JR wr w.heap.size w.heap.size g p R i v true true w' by have h := HW; simp only [hLs 9 (by omega), hLs 19 (by omega)] at h; exact h)
              go_simp
              refine hK _ _ ?_
              clear hd hK K e0 e1 e2 e3 e4 e5 e6 e7 e8 e9 e10 e11 e12 e13 e14 e15 e16 e17 e18 e19
              clear hLs HW
              go_wp2
              go_meet
              exact ⟨g, p, _, rfl, HG, HWF.out.2.1, HWF.out.2.2, HB.out.trans (HWF.out.1.mono (Nat.le_refl _))⟩
      clear HF HR HB HG c0 hz0 hz1
      obtain ⟨g, p, R, rfl, HG, HF, HR, HB⟩ := hcut
      obtain ⟨wx, hwx⟩ : ∃ wx, wc = wx := ⟨_, rfl⟩
      rw [hwx] at HF HR HB ⊢
      clear hwx
      have c1 := (HB.out.cell HC1.out.1).trans HC1.out.2
      generalize hgr : getR R i = u
      have HGR := Lib.hid hgr
      generalize hez : errZ i = ez
      have HEZ := Lib.hid hez
      clear hgr hez
      go_wp2_with fail
      refine (get_any w.heap.size p i R wx HF.out).mono ?_
      rw [HGR.out, HEZ.out]
      rintro e w4 ⟨rfl, rfl⟩
      go_wp2_with fail
      refine (refGet_any g p i R wx HR.out).mono ?_
      rw [HGR.out, HEZ.out]
      rintro e w4 ⟨rfl, rfl⟩
      clear c1
      have q16 := HR.out.pc
      have hgl := HR.out.1.lt
      have hgd : ∀ (x y : Operand) (W : World), (eqGuard .neq 29 x y (arrV R) (arrV R)).run Try.prog W = .ok () W := fun x y W => guard_words _ x y _ _ W
      have hnq : ∀ W : World, (binOp .neq 29 (arrV R) (arrV R)).run Try.prog W = .ok (.bool false) W := fun W => by rw [bin_neq R R HF.out.2 HF.out.2 W]; simp
      have HALL : Hid (∀ W, Below wx.heap.size wx W → Calls Try.prog 14 #[.pointer (some ⟨w.heap.size, 0, none⟩)] W fun e w' => e = .returned (arrV R) ∧ Below W.heap.size W w') := Lib.hid fun W hW => all_any w.heap.size p R W (HF.out.below hW HF.out.1.lt)
      have HPC : Hid (∀ W, Below wx.heap.size wx W → Calls Try.prog 15 #[.pointer (some ⟨w.heap.size, 0, none⟩)] W fun e w' => e = .returned (.int .u32 p) ∧ W = w') := Lib.hid fun W hW => pc_any w.heap.size p R W (HF.out.below hW HF.out.1.lt)
      have HLD : Hid (∀ (W : World) (ρ : Operand → Value) (o : Oper), Below wx.heap.size wx W → o.op = .load 29 (.tmp 121) → ρ (.tmp 121) = .pointer (some ⟨g, 0, none⟩) → (execOp ρ o).run Try.prog W = .ok (.value (arrV R)) W) := Lib.hid fun W ρ o hW ho hx => exec_load_blk (HR.out.1.below hW HR.out.1.lt) 0 29 _ ho hx (wordsV R) (rCells_words p R) _ Try.underlying29 rfl (size_words R HR.out.2)
      generalize arrV R = A at hgd hnq HALL HLD
      go_upto_region 21 with fail
      apply wp_region_auto [108, 109, 110, 111, 112, 113, 114, 115, 116, 117, 118, 119, 120, 121, 122, 123, 124, 125, 126, 127, 128, 129, 130, 131, 132] [_, _, _, _, _, _, _, _, _, _, _, _, _, _, _, _, _, _, _, _, _, _, _, _, _] (fun W' => Below wx.heap.size wx W')
      case hm => kernel_rfl
      case hT => intro y; simp only [setAll, List.setIfInBounds_toArray, List.set_cons_succ, List.set_cons_zero]; exact rfl
      case hok => kernel_rfl
      case hn => decide
      case hw => exact (Below.refl _ _).drew
      case hs =>
        refine auto_op 108 [] (by kernel_rfl) (fun y w' HW hd K hK => ?_) ?_
        · go_simp
          refine hK _ _ ?_ ?_ HW
          · simp [upd]
          · exact rfl
        refine auto_op 109 [] (by kernel_rfl) (fun y w' HW hd K hK => ?_) ?_
        · go_simp
          refine hK _ _ ?_ ?_ HW
          · simp [upd]
          · exact rfl
        refine auto_op 110 [0, 1] (by kernel_rfl) (fun y w' HW hd K hK => ?_) ?_
        · have e0 := hd_nth (hd 0 (by simp)) rfl
          have e1 := hd_nth (hd 1 (by simp)) rfl
          go_simp
          refine hK _ _ ?_ ?_ HW
          · simp [upd, e0, e1]
          · exact rfl
        refine auto_op 111 [2] (by kernel_rfl) (fun y w' HW hd K hK => ?_) ?_
        · have e2 := hd_nth (hd 2 (by simp)) rfl
          go_simp
          refine hK _ _ ?_ ?_ HW
          · simp [upd, e2]
          · exact rfl
        refine auto_op 112 [3] (by kernel_rfl) (fun y w' HW hd K hK => ?_) ?_
        · have e3 := hd_nth (hd 3 (by simp)) rfl
          go_simp
          refine hK _ _ ?_ ?_ HW
          · simp [upd, e3]
          · exact rfl
        refine auto_op 113 [3] (by kernel_rfl) (fun y w' HW hd K hK => ?_) ?_
        · have e3 := hd_nth (hd 3 (by simp)) rfl
          go_simp
          refine hK _ _ ?_ ?_ HW
          · simp [upd, e3]
          · exact rfl
        refine auto_op 114 [4, 5, 3] (by kernel_rfl) (fun y w' HW hd K hK => ?_) ?_
        · have e3 := hd_nth (hd 3 (by simp)) rfl
          have e4 := hd_nth (hd 4 (by simp)) rfl
          have e5 := hd_nth (hd 5 (by simp)) rfl
          go_simp
          refine hK _ _ ?_ ?_ HW
          · simp [upd, e3, e4, e5]
          · exact rfl
        refine auto_op 115 [3, 6] (by kernel_rfl) (fun y w' HW hd K hK => ?_) ?_
        · have e3 := hd_nth (hd 3 (by simp)) rfl
          have e6 := hd_nth (hd 6 (by simp)) rfl
          go_simp
          refine hK _ _ ?_ ?_ HW
          · simp [upd, e3, e6]
          · exact rfl
        refine auto_op 116 [7, 3] (by kernel_rfl) (fun y w' HW hd K hK => ?_) ?_
        · have e3 := hd_nth (hd 3 (by simp)) rfl
          have e7 := hd_nth (hd 7 (by simp)) rfl
          go_simp
          refine hK _ _ ?_ ?_ HW
          · simp [upd, e3, e7]
          · exact rfl
        refine auto_op 117 [8] (by kernel_rfl) (fun y w' HW hd K hK => ?_) ?_
        · have e8 := hd_nth (hd 8 (by simp)) rfl
          go_simp
          refine hK _ _ ?_ ?_ HW
          · simp [upd, e8]
          · exact rfl
        refine auto_op 118 [9, 8, 8] (by kernel_rfl) (fun y w' HW hd K hK => ?_) ?_
        · have e8 := hd_nth (hd 8 (by simp)) rfl
          have e9 := hd_nth (hd 9 (by simp)) rfl
          go_simp
          refine (HALL.out _ HW).mono ?_
          rintro e w3 ⟨rfl, hb3⟩
          refine hK _ _ ?_ ?_ (HW.trans (hb3.mono HW.size))
          · simp [upd, e8, e9]
          · exact rfl
        refine auto_op 119 [8] (by kernel_rfl) (fun y w' HW hd K hK => ?_) ?_
        · have e8 := hd_nth (hd 8 (by simp)) rfl
          go_simp
          refine hK _ _ ?_ ?_ HW
          · simp [upd, e8]
          · exact rfl
        refine auto_op 120 [11, 8] (by kernel_rfl) (fun y w' HW hd K hK => ?_) ?_
        · have e8 := hd_nth (hd 8 (by simp)) rfl
          have e11 := hd_nth (hd 11 (by simp)) rfl
          go_simp
          refine hK _ _ ?_ ?_ HW
          · simp [upd, e8, e11]
          · exact rfl
        refine auto_op 121 [12, 8] (by kernel_rfl) (fun y w' HW hd K hK => ?_) ?_
        · have e8 := hd_nth (hd 8 (by simp)) rfl
          have e12 := hd_nth (hd 12 (by simp)) rfl
          go_simp
          refine hK _ _ ?_ ?_ HW
          · simp [upd, e8, e12]
          · exact rfl
        refine auto_op 122 [13, 8] (by kernel_rfl) (fun y w' HW hd K hK => ?_) ?_
        · have e8 := hd_nth (hd 8 (by simp)) rfl
          have e13 := hd_nth (hd 13 (by simp)) rfl
          have hcl : ∀ p : Addr, p.block < wx.heap.size → w'.cell? p = wx.cell? p := fun p hp => HW.cell hp
          refine step_val (a := ⟨_, _⟩) ?_ A ?_ ?_
          · go_simp
          · refine HLD.out _ _ _ HW rfl ?_
            exact e13
          refine hK _ _ ?_ ?_ HW
          · simp [upd, e8, e13]
          · exact rfl
        refine auto_op 123 [10, 14, 8] (by kernel_rfl) (fun y w' HW hd K hK => ?_) ?_
        · have e8 := hd_nth (hd 8 (by simp)) rfl
          have e10 := hd_nth (hd 10 (by simp)) rfl
          have e14 := hd_nth (hd 14 (by simp)) rfl
          go_simp
          refine hK _ _ ?_ ?_ HW
          · simp [upd, e8, e10, e14]
          · exact rfl
        refine auto_op 124 [8, 15] (by kernel_rfl) (fun y w' HW hd K hK => ?_) ?_
        · have e8 := hd_nth (hd 8 (by simp)) rfl
          have e15 := hd_nth (hd 15 (by simp)) rfl
          go_simp
          refine hK _ _ ?_ ?_ HW
          · simp [upd, e8, e15]
          · exact rfl
        refine auto_op 125 [16, 10] (by kernel_rfl) (fun y w' HW hd K hK => ?_) ?_
        · have e10 := hd_nth (hd 10 (by simp)) rfl
          have e16 := hd_nth (hd 16 (by simp)) rfl
          go_simp
          refine hK _ _ ?_ ?_ HW
          · simp [upd, e10, e16]
          · exact rfl
        refine auto_op 126 [17] (by kernel_rfl) (fun y w' HW hd K hK => ?_) ?_
        · have e17 := hd_nth (hd 17 (by simp)) rfl
          go_simp
          refine hK _ _ ?_ ?_ HW
          · simp [upd, e17]
          · exact rfl
        refine auto_op 127 [18, 17, 17] (by kernel_rfl) (fun y w' HW hd K hK => ?_) ?_
        · have e17 := hd_nth (hd 17 (by simp)) rfl
          have e18 := hd_nth (hd 18 (by simp)) rfl
          go_simp
          refine (HPC.out _ HW).mono ?_
          rintro e w3 ⟨rfl, rfl⟩
          refine hK _ _ ?_ ?_ HW
          · simp [upd, e17, e18]
          · exact rfl
        refine auto_op 128 [17] (by kernel_rfl) (fun y w' HW hd K hK => ?_) ?_
        · have e17 := hd_nth (hd 17 (by simp)) rfl
          go_simp
          refine hK _ _ ?_ ?_ HW
          · simp [upd, e17]
          · exact rfl
        refine auto_op 129 [20, 17] (by kernel_rfl) (fun y w' HW hd K hK => ?_) ?_
        · have e17 := hd_nth (hd 17 (by simp)) rfl
          have e20 := hd_nth (hd 20 (by simp)) rfl
          go_simp
          refine hK _ _ ?_ ?_ HW
          · simp [upd, e17, e20]
          · exact rfl
        refine auto_op 130 [21, 17] (by kernel_rfl) (fun y w' HW hd K hK => ?_) ?_
        · have e17 := hd_nth (hd 17 (by simp)) rfl
          have e21 := hd_nth (hd 21 (by simp)) rfl
          go_simp
          refine hK _ _ ?_ ?_ HW
          · simp [upd, e17, e21]
          · exact rfl
        refine auto_op 131 [22, 17] (by kernel_rfl) (fun y w' HW hd K hK => ?_) ?_
        · have e17 := hd_nth (hd 17 (by simp)) rfl
          have e22 := hd_nth (hd 22 (by simp)) rfl
          have hcl : ∀ p : Addr, p.block < wx.heap.size → w'.cell? p = wx.cell? p := fun p hp => HW.cell hp
          go_simp
          refine hK _ _ ?_ ?_ HW
          · simp [upd, e17, e22]
          · exact rfl
        refine auto_op 132 [19, 23, 17] (by kernel_rfl) (fun y w' HW hd K hK => ?_) ?_
        · have e17 := hd_nth (hd 17 (by simp)) rfl
          have e19 := hd_nth (hd 19 (by simp)) rfl
          have e23 := hd_nth (hd 23 (by simp)) rfl
          go_simp
          refine hK _ _ ?_ ?_ HW
          · simp [upd, e17, e19, e23]
          · exact rfl
        refine auto_last fun y w' HW hd K hK => ?_
        have e0 := hd_nth (hd 0 (by omega)) rfl
        have e1 := hd_nth (hd 1 (by omega)) rfl
        have e2 := hd_nth (hd 2 (by omega)) rfl
        have e3 := hd_nth (hd 3 (by omega)) rfl
        have e4 := hd_nth (hd 4 (by omega)) rfl
        have e5 := hd_nth (hd 5 (by omega)) rfl
        have e6 := hd_nth (hd 6 (by omega)) rfl
        have e7 := hd_nth (hd 7 (by omega)) rfl
        have e8 := hd_nth (hd 8 (by omega)) rfl
        have e9 := hd_nth (hd 9 (by omega)) rfl
        have e10 := hd_nth (hd 10 (by omega)) rfl
        have e11 := hd_nth (hd 11 (by omega)) rfl
        have e12 := hd_nth (hd 12 (by omega)) rfl
        have e13 := hd_nth (hd 13 (by omega)) rfl
        have e14 := hd_nth (hd 14 (by omega)) rfl
        have e15 := hd_nth (hd 15 (by omega)) rfl
        have e16 := hd_nth (hd 16 (by omega)) rfl
        have e17 := hd_nth (hd 17 (by omega)) rfl
        have e18 := hd_nth (hd 18 (by omega)) rfl
        have e19 := hd_nth (hd 19 (by omega)) rfl
        have e20 := hd_nth (hd 20 (by omega)) rfl
        have e21 := hd_nth (hd 21 (by omega)) rfl
        have e22 := hd_nth (hd 22 (by omega)) rfl
        have e23 := hd_nth (hd 23 (by omega)) rfl
        have e24 := hd_nth (hd 24 (by omega)) rfl
        go_simp
        refine hK _ _ ?_
        clear hd hK K e0 e1 e2 e3 e4 e5 e6 e7 e8 e9 e10 e11 e12 e13 e14 e15 e16 e17 e18 e19 e20 e21 e22 e23 e24
        clear hnq hgd q16 HALL HPC HLD
        go_wp2
        go_roundw
        case rel => exact ⟨k + 1, g, p, R, H3.out, rfl, by go_num, HG, HF.out.below HW HF.out.1.lt, HR.out.below HW HR.out.1.lt, HB.out.trans (HW.mono HB.out.size)⟩
        case measure => have := H3.out; simp [intOf]; omega
    · have hout : (¬ (k : Int) < (lk : Int)) ∨ ((k : Int) < (lk : Int) ∧ ¬ (k : Int) < (li : Int)) ∨ ((k : Int) < (lk : Int) ∧ (k : Int) < (li : Int) ∧ ¬ (k : Int) < (lv : Int)) ∨ ((k : Int) < (lk : Int) ∧ (k : Int) < (li : Int) ∧ (k : Int) < (lv : Int) ∧ ¬ (k : Int) < 100) := by omega
      rcases hout with f1 | ⟨f1, f2⟩ | ⟨f1, f2, f3⟩ | ⟨f1, f2, f3, f4⟩
      all_goals
        clear hin hk HX HY HK HKB
        go_wp2_with fail
        refine (awake_any wr).mono ?_
        rintro e w6 ⟨rfl, hb⟩
        go_wp2
        go_ret
        exact ⟨rfl, HB.out.trans (hb.mono HB.out.size)⟩
end Go.Proofs.Ytpjpobcdedlgbaa.Rg
