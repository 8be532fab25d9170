/- The walk of hermitagelaw15.GmapPlays. -/
import Derived.Test.YtehjcnannagefaaXn
import Derived.Test.YtehjcnannagefaaRd
namespace Go.Proofs.Ytehjcnannagefaa.Gm
open Go.RowKit Ut
set_option maxRecDepth 100000
set_option linter.unusedVariables false
set_option maxHeartbeats 8000000

/-- both maps, of which each may have had the act or not yet -/
def JR (w0 : World) (B b g : Nat) (L L' : List Pl) (f r : Bool) (W : World) : Prop :=
  Below B w0 W ∧ MAt W b (if f then L' else L) ∧ RAt W g (if r then L' else L)
theorem JR.actM {w0 : World} {B b g : Nat} {L L' : List Pl} {r : Bool} {W W' : World} (h : JR w0 B b g L L' false r W) (hF : MAt W' b L') (hg : W.grownBy W' (some b)) (hB : B ≤ b) (hbg : b < g) : JR w0 B b g L L' true r W' :=
  ⟨below_of_grown h.1 hg (Nat.le_trans hB (Nat.le_of_lt h.2.1.1.lt)) hB, hF, h.2.2.kept hg (fun e => absurd (by injection e : g = b) (by omega))⟩
theorem JR.actR {w0 : World} {B b g : Nat} {L L' : List Pl} {f : Bool} {W W' : World} (h : JR w0 B b g L L' f false W) (hR : RAt W' g L') (hg : W.grownBy W' (some g)) (hB : B ≤ b) (hbg : b < g) : JR w0 B b g L L' f true W' :=
  ⟨below_of_grown h.1 hg (Nat.le_trans hB (Nat.le_of_lt h.2.1.1.lt)) (by omega), h.2.1.kept hg (fun e => absurd (by injection e : b = g) (by omega)), hR⟩

theorem plays_any (ak ai ap : Option Addr) (lk ck li ci lp cp : Nat) (ks xs : List Int) (Z : Nat → Pl) (w : World) (hlk : lk ≤ 9223372036854775807) (hli : li ≤ 9223372036854775807) (hlp : lp ≤ 9223372036854775807)
    (hz : RowK .u8 w w.heap.size ak lk ks) (hi : RowK .i64 w w.heap.size ai li xs) (hp : PlRow w w.heap.size ap lp Z) (hkb : ∀ z ∈ ks, 0 ≤ z ∧ z < 256) :
    Calls Try.prog 3 #[.slice ak lk ck, .slice ai li ci, .slice ap lp cp] w fun e w' => e = .returned (.bool true) ∧ Below w.heap.size w w' := by
  have HZ := Lib.hid hz
  have HI := Lib.hid hi
  have HP := Lib.hid hp
  have HKB := Lib.hid hkb
  clear hz hi hp hkb
  go_enter Try.func3, Try.ntmps3
  go_wp2_with fail
  refine (new_any w).mono ?_
  rintro e w1 ⟨rfl, hF, hb⟩
  have HF1 := Lib.hid hF
  have HB1 := Lib.hid hb
  clear hF hb
  go_upto_region 2 with fail
  refine wp_region_lit ?_
  refine wpList_buildTo rfl 33 _ rfl _ rfl (rCells noP).toArray (by kernel_rfl) ?_
  refine Great.wpList_boxTo rfl 33 _ rfl _ rfl w1.heap.size rfl (rCells noP).toArray rfl ?_
  have HA := (Below.refl w1.heap.size w1).alloc (Nat.le_refl _) (.cells (rCells noP).toArray 33)
  have HR2 : Hid (RAt (w1.alloc (.cells (rCells noP).toArray 33)) w1.heap.size noP) := Lib.hid ⟨Blk.new w1 _ _, noP_ok⟩
  have HF2 := Lib.hid (HF1.out.below HA HF1.out.lt)
  have HG := Lib.hid HF1.out.lt
  have HB2 := Lib.hid (HB1.out.trans (HA.mono HB1.out.size))
  generalize w1.alloc (.cells (rCells noP).toArray 33) = w2 at HR2 HF2 HB2 ⊢
  generalize w1.heap.size = g at HR2 HG ⊢
  clear HA HF1 HB1
  go_wp2
  go_loopw [9] (fun j wr => ∃ (k : Nat) (L : List Pl), k ≤ 100 ∧ j = .int .i64 k ∧ Hid (MAt wr w.heap.size L) ∧ Hid (RAt wr g L) ∧ Hid (Below w.heap.size w wr)) (fun j _ => 100 - (intOf j).toNat)
  case atStart => exact ⟨0, noP, Nat.zero_le _, rfl, HF2, HR2, HB2⟩
  case round =>
    clear HF2 HB2 HR2
    obtain ⟨k, L, hk, rfl, HF, HR, HB⟩ := hrel
    by_cases hin : k < lk ∧ k < li ∧ k < lp ∧ k < 100
    · obtain ⟨h0, h1, h2, h3⟩ := hin
      obtain ⟨t, rfl, htb, htc⟩ := HZ.out.2 k h0
      obtain ⟨x, rfl, hxb, hxc⟩ := HI.out.2 k h1
      obtain ⟨v, rfl, hvb, hvc⟩ := HP.out k h2
      have HC0 := Lib.hid (And.intro (show (t.add k).block < w.heap.size by rw [block_of_add]; exact htb) htc)
      have HC1 := Lib.hid (And.intro (show (x.add k).block < w.heap.size by rw [block_of_add]; exact hxb) hxc)
      have HC2 := Lib.hid (And.intro hvb hvc)
      have hzb : 0 ≤ ks.getD k 0 ∧ ks.getD k 0 < 256 := HKB.out _ (by
        have hlt : k < ks.length := by rw [HZ.out.1]; exact h0
        rw [List.getD_eq_getElem?_getD, List.getElem?_eq_getElem hlt]
        exact List.getElem_mem hlt)
      generalize xs.getD k 0 = i at HC1
      generalize ks.getD k 0 = z at HC0 hzb
      generalize Z k = u at HC2
      obtain ⟨hz0, hz1⟩ := hzb
      have f0 : (k : Int) < (lk : Int) := by omega
      have f1 : (k : Int) < (li : Int) := by omega
      have f2 : (k : Int) < (lp : Int) := by omega
      have f3 : (k : Int) < 100 := by omega
      have H3 := Lib.hid h3
      have c0 := (HB.out.cell HC0.out.1).trans HC0.out.2
      clear htb htc hxb hxc hvb hvc hk h3 h0 h1 h2 HZ HI HP HKB
      obtain ⟨m, hm⟩ : ∃ m, z % 3 = m := ⟨_, rfl⟩
      go_upto_if 47 with fail
      clear c0
      obtain ⟨bm, hbm⟩ : ∃ bm, (m == 2) = bm := ⟨_, rfl⟩
      rw [hbm]
      clear hbm hm
      go_cut [] (fun wx => ∃ L', Hid (MAt wx w.heap.size L') ∧ Hid (RAt wx g L') ∧ Hid (Below w.heap.size w wx))
      case first =>
        obtain ⟨L0, hL0⟩ : ∃ L0, L = L0 := ⟨_, rfl⟩
        rw [hL0] at HF HR
        clear hL0
        have c1 := (HB.out.cell HC1.out.1).trans HC1.out.2
        have b1 : (x.add k).block < w.heap.size := HC1.out.1
        have b1' : x.block < w.heap.size := by rw [← block_of_add x k]; exact b1
        cases bm
        rotate_left
        · obtain ⟨L2, hl2⟩ : ∃ L2, drL L0 i = L2 := ⟨_, rfl⟩
          obtain ⟨ez, hez⟩ : ∃ ez, drE L0 i = ez := ⟨_, rfl⟩
          have HPM := Lib.hid (fun W h => drop_any w.heap.size L0 L2 i ez hez hl2 W h)
          have HPR := Lib.hid (fun W h => refDrop_any g L0 L2 i ez hez hl2 W h)
          have HJ : Hid (JR wr w.heap.size w.heap.size g L0 L2 false false wr.drew) := Lib.hid ⟨(Below.refl _ _).drew, HF.out, HR.out⟩
          clear hl2 hez HF HR
          go_upto_region 9 with fail
          apply wp_region_autoL [48, 49, 50, 51, 52, 53, 54, 55, 56, 57, 58, 59] [_, _, _, _, _, _, _, _, _, _, _, _] (fun L_ W' => JR wr w.heap.size w.heap.size g L0 L2 (L_ 5) (L_ 11) W')
          case hm => kernel_rfl
          case hT => intro y; simp only [setAll, List.setIfInBounds_toArray, List.set_cons_succ, List.set_cons_zero]; exact rfl
          case hok => kernel_rfl
          case hn => decide
          case hw => exact fun L_ hL => (by simp only [hL 5 (by decide), hL 11 (by decide)]; exact HJ.out)
          case hs =>
            refine autoL_op 48 [] (by kernel_rfl) (fun L y w' hL HW hd K hK => ?_) ?_
            · go_simp
              refine hK _ _ ?_ ?_ HW
              · simp [upd]
              · exact rfl
            refine autoL_op 49 [] (by kernel_rfl) (fun L y w' hL HW hd K hK => ?_) ?_
            · go_simp
              refine hK _ _ ?_ ?_ HW
              · simp [upd]
              · exact rfl
            refine autoL_op 50 [] (by kernel_rfl) (fun L y w' hL HW hd K hK => ?_) ?_
            · go_simp
              refine hK _ _ ?_ ?_ HW
              · simp [upd]
              · exact rfl
            refine autoL_op 51 [1, 2] (by kernel_rfl) (fun L y w' hL HW hd K hK => ?_) ?_
            · have e1 := hd_nth (hd 1 (by simp)) rfl
              have e2 := hd_nth (hd 2 (by simp)) rfl
              go_simp
              refine hK _ _ ?_ ?_ HW
              · simp [upd, e1, e2]
              · exact rfl
            refine autoL_op 52 [3] (by kernel_rfl) (fun L y w' hL HW hd K hK => ?_) ?_
            · have e3 := hd_nth (hd 3 (by simp)) rfl
              have hcl : ∀ p : Addr, p.block < w.heap.size → w'.cell? p = wr.cell? p := fun p hp => HW.1.cell hp
              go_simp
              refine hK _ _ ?_ ?_ HW
              · simp [upd, e3]
              · exact rfl
            refine autoL_op 53 [0, 4] (by kernel_rfl) (fun L y w' hL HW hd K hK => ?_) ?_
            · have e0 := hd_nth (hd 0 (by simp)) rfl
              have e4 := hd_nth (hd 4 (by simp)) rfl
              go_simp
              have HW0 : JR wr w.heap.size w.heap.size g L0 L2 false (L 11) w' := by have h := HW; simp only [hL] at h; exact h
              refine (HPM.out _ HW0.2.1).mono ?_
              rintro e w3 ⟨rfl, hF3, hg3⟩
              refine hK _ _ ?_ ?_ (HW0.actM hF3 hg3 (Nat.le_refl _) HG.out)
              · simp [upd, e0, e4]
              · exact rfl
            refine autoL_op 54 [] (by kernel_rfl) (fun L y w' hL HW hd K hK => ?_) ?_
            · go_simp
              refine hK _ _ ?_ ?_ HW
              · simp [upd]
              · exact rfl
            refine autoL_op 55 [] (by kernel_rfl) (fun L y w' hL HW hd K hK => ?_) ?_
            · go_simp
              refine hK _ _ ?_ ?_ HW
              · simp [upd]
              · exact rfl
            refine autoL_op 56 [] (by kernel_rfl) (fun L y w' hL HW hd K hK => ?_) ?_
            · go_simp
              refine hK _ _ ?_ ?_ HW
              · simp [upd]
              · exact rfl
            refine autoL_op 57 [7, 8] (by kernel_rfl) (fun L y w' hL HW hd K hK => ?_) ?_
            · have e7 := hd_nth (hd 7 (by simp)) rfl
              have e8 := hd_nth (hd 8 (by simp)) rfl
              go_simp
              refine hK _ _ ?_ ?_ HW
              · simp [upd, e7, e8]
              · exact rfl
            refine autoL_op 58 [9] (by kernel_rfl) (fun L y w' hL HW hd K hK => ?_) ?_
            · have e9 := hd_nth (hd 9 (by simp)) rfl
              have hcl : ∀ p : Addr, p.block < w.heap.size → w'.cell? p = wr.cell? p := fun p hp => HW.1.cell hp
              go_simp
              refine hK _ _ ?_ ?_ HW
              · simp [upd, e9]
              · exact rfl
            refine autoL_op 59 [6, 10, 5] (by kernel_rfl) (fun L y w' hL HW hd K hK => ?_) ?_
            · have e5 := hd_nth (hd 5 (by simp)) rfl
              have e6 := hd_nth (hd 6 (by simp)) rfl
              have e10 := hd_nth (hd 10 (by simp)) rfl
              go_simp
              have HW0 : JR wr w.heap.size w.heap.size g L0 L2 (L 5) false w' := by have h := HW; simp only [hL] at h; exact h
              refine (HPR.out _ HW0.2.2).mono ?_
              rintro e w3 ⟨rfl, hR3, hg3⟩
              refine hK _ _ ?_ ?_ (HW0.actR hR3 hg3 (Nat.le_refl _) HG.out)
              · simp [upd, e5, e6, e10]
              · exact rfl
            refine autoL_last fun L y w' hLs HW hd K hK => ?_
            have e0 := hd_nth (hd 0 (by omega)) rfl
            have e1 := hd_nth (hd 1 (by omega)) rfl
            have e2 := hd_nth (hd 2 (by omega)) rfl
            have e3 := hd_nth (hd 3 (by omega)) rfl
            have e4 := hd_nth (hd 4 (by omega)) rfl
            have e5 := hd_nth (hd 5 (by omega)) rfl
            have e6 := hd_nth (hd 6 (by omega)) rfl
            have e7 := hd_nth (hd 7 (by omega)) rfl
            have e8 := hd_nth (hd 8 (by omega)) rfl
            have e9 := hd_nth (hd 9 (by omega)) rfl
            have e10 := hd_nth (hd 10 (by omega)) rfl
            have e11 := hd_nth (hd 11 (by omega)) rfl
            have HWF := Lib.hid (show JR wr w.heap.size w.heap.size g L0 L2 true true w' by have h := HW; simp only [hLs 5 (by omega), hLs 11 (by omega)] at h; exact h)
            go_simp
            refine hK _ _ ?_
            clear hd hK K e0 e1 e2 e3 e4 e5 e6 e7 e8 e9 e10 e11
            clear hLs HW
            go_wp2
            go_meet
            exact ⟨L2, HWF.out.2.1, HWF.out.2.2, HB.out.trans (HWF.out.1.mono (Nat.le_refl _))⟩
        · obtain ⟨L2, hl2⟩ : ∃ L2, setL L0 i u = L2 := ⟨_, rfl⟩
          obtain ⟨ez, hez⟩ : ∃ ez, setE L0 i u = ez := ⟨_, rfl⟩
          have HPM := Lib.hid (fun W h => set_any w.heap.size L0 L2 i ez u hez hl2 W h)
          have HPR := Lib.hid (fun W h => refSet_any g L0 L2 i ez u hez hl2 W h)
          have HJ : Hid (JR wr w.heap.size w.heap.size g L0 L2 false false wr.drew) := Lib.hid ⟨(Below.refl _ _).drew, HF.out, HR.out⟩
          obtain ⟨d0, d1⟩ := pl_cells HB.out HC2.out.1 HC2.out.2
          have b3 : (v.add (k * 2)).block < w.heap.size := by rw [block_of_add]; exact HC2.out.1
          obtain ⟨pf, pr⟩ := u
          dsimp only at d0 d1
          have b3' : v.block < w.heap.size := HC2.out.1
          clear hl2 hez HF HR
          go_upto_region 11 with fail
          apply wp_region_autoL [61, 62, 63, 64, 65, 66, 67, 68, 69, 70, 71, 72, 73, 74, 75, 76, 77, 78, 79, 80] [_, _, _, _, _, _, _, _, _, _, _, _, _, _, _, _, _, _, _, _] (fun L_ W' => JR wr w.heap.size w.heap.size g L0 L2 (L_ 9) (L_ 19) W')
          case hm => kernel_rfl
          case hT => intro y; simp only [setAll, List.setIfInBounds_toArray, List.set_cons_succ, List.set_cons_zero]; exact rfl
          case hok => kernel_rfl
          case hn => decide
          case hw => exact fun L_ hL => (by simp only [hL 9 (by decide), hL 19 (by decide)]; exact HJ.out)
          case hs =>
            refine autoL_op 61 [] (by kernel_rfl) (fun L y w' hL HW hd K hK => ?_) ?_
            · go_simp
              refine hK _ _ ?_ ?_ HW
              · simp [upd]
              · exact rfl
            refine autoL_op 62 [] (by kernel_rfl) (fun L y w' hL HW hd K hK => ?_) ?_
            · go_simp
              refine hK _ _ ?_ ?_ HW
              · simp [upd]
              · exact rfl
            refine autoL_op 63 [] (by kernel_rfl) (fun L y w' hL HW hd K hK => ?_) ?_
            · go_simp
              refine hK _ _ ?_ ?_ HW
              · simp [upd]
              · exact rfl
            refine autoL_op 64 [1, 2] (by kernel_rfl) (fun L y w' hL HW hd K hK => ?_) ?_
            · have e1 := hd_nth (hd 1 (by simp)) rfl
              have e2 := hd_nth (hd 2 (by simp)) rfl
              go_simp
              refine hK _ _ ?_ ?_ HW
              · simp [upd, e1, e2]
              · exact rfl
            refine autoL_op 65 [3] (by kernel_rfl) (fun L y w' hL HW hd K hK => ?_) ?_
            · have e3 := hd_nth (hd 3 (by simp)) rfl
              have hcl : ∀ p : Addr, p.block < w.heap.size → w'.cell? p = wr.cell? p := fun p hp => HW.1.cell hp
              go_simp
              refine hK _ _ ?_ ?_ HW
              · simp [upd, e3]
              · exact rfl
            refine autoL_op 66 [] (by kernel_rfl) (fun L y w' hL HW hd K hK => ?_) ?_
            · go_simp
              refine hK _ _ ?_ ?_ HW
              · simp [upd]
              · exact rfl
            refine autoL_op 67 [] (by kernel_rfl) (fun L y w' hL HW hd K hK => ?_) ?_
            · go_simp
              refine hK _ _ ?_ ?_ HW
              · simp [upd]
              · exact rfl
            refine autoL_op 68 [5, 6] (by kernel_rfl) (fun L y w' hL HW hd K hK => ?_) ?_
            · have e5 := hd_nth (hd 5 (by simp)) rfl
              have e6 := hd_nth (hd 6 (by simp)) rfl
              go_simp
              refine hK _ _ ?_ ?_ HW
              · simp [upd, e5, e6]
              · exact rfl
            refine autoL_op 69 [7] (by kernel_rfl) (fun L y w' hL HW hd K hK => ?_) ?_
            · have e7 := hd_nth (hd 7 (by simp)) rfl
              have hcl : ∀ p : Addr, p.block < w.heap.size → w'.cell? p = wr.cell? p := fun p hp => HW.1.cell hp
              go_simp
              refine hK _ _ ?_ ?_ HW
              · simp [upd, e7]
              · exact rfl
            refine autoL_op 70 [0, 4, 8] (by kernel_rfl) (fun L y w' hL HW hd K hK => ?_) ?_
            · have e0 := hd_nth (hd 0 (by simp)) rfl
              have e4 := hd_nth (hd 4 (by simp)) rfl
              have e8 := hd_nth (hd 8 (by simp)) rfl
              go_simp
              have HW0 : JR wr w.heap.size w.heap.size g L0 L2 false (L 19) w' := by have h := HW; simp only [hL] at h; exact h
              refine (HPM.out _ HW0.2.1).mono ?_
              rintro e w3 ⟨rfl, hF3, hg3⟩
              refine hK _ _ ?_ ?_ (HW0.actM hF3 hg3 (Nat.le_refl _) HG.out)
              · simp [upd, e0, e4, e8]
              · exact rfl
            refine autoL_op 71 [] (by kernel_rfl) (fun L y w' hL HW hd K hK => ?_) ?_
            · go_simp
              refine hK _ _ ?_ ?_ HW
              · simp [upd]
              · exact rfl
            refine autoL_op 72 [] (by kernel_rfl) (fun L y w' hL HW hd K hK => ?_) ?_
            · go_simp
              refine hK _ _ ?_ ?_ HW
              · simp [upd]
              · exact rfl
            refine autoL_op 73 [] (by kernel_rfl) (fun L y w' hL HW hd K hK => ?_) ?_
            · go_simp
              refine hK _ _ ?_ ?_ HW
              · simp [upd]
              · exact rfl
            refine autoL_op 74 [11, 12] (by kernel_rfl) (fun L y w' hL HW hd K hK => ?_) ?_
            · have e11 := hd_nth (hd 11 (by simp)) rfl
              have e12 := hd_nth (hd 12 (by simp)) rfl
              go_simp
              refine hK _ _ ?_ ?_ HW
              · simp [upd, e11, e12]
              · exact rfl
            refine autoL_op 75 [13] (by kernel_rfl) (fun L y w' hL HW hd K hK => ?_) ?_
            · have e13 := hd_nth (hd 13 (by simp)) rfl
              have hcl : ∀ p : Addr, p.block < w.heap.size → w'.cell? p = wr.cell? p := fun p hp => HW.1.cell hp
              go_simp
              refine hK _ _ ?_ ?_ HW
              · simp [upd, e13]
              · exact rfl
            refine autoL_op 76 [] (by kernel_rfl) (fun L y w' hL HW hd K hK => ?_) ?_
            · go_simp
              refine hK _ _ ?_ ?_ HW
              · simp [upd]
              · exact rfl
            refine autoL_op 77 [] (by kernel_rfl) (fun L y w' hL HW hd K hK => ?_) ?_
            · go_simp
              refine hK _ _ ?_ ?_ HW
              · simp [upd]
              · exact rfl
            refine autoL_op 78 [15, 16] (by kernel_rfl) (fun L y w' hL HW hd K hK => ?_) ?_
            · have e15 := hd_nth (hd 15 (by simp)) rfl
              have e16 := hd_nth (hd 16 (by simp)) rfl
              go_simp
              refine hK _ _ ?_ ?_ HW
              · simp [upd, e15, e16]
              · exact rfl
            refine autoL_op 79 [17] (by kernel_rfl) (fun L y w' hL HW hd K hK => ?_) ?_
            · have e17 := hd_nth (hd 17 (by simp)) rfl
              have hcl : ∀ p : Addr, p.block < w.heap.size → w'.cell? p = wr.cell? p := fun p hp => HW.1.cell hp
              go_simp
              refine hK _ _ ?_ ?_ HW
              · simp [upd, e17]
              · exact rfl
            refine autoL_op 80 [10, 14, 18, 9] (by kernel_rfl) (fun L y w' hL HW hd K hK => ?_) ?_
            · have e9 := hd_nth (hd 9 (by simp)) rfl
              have e10 := hd_nth (hd 10 (by simp)) rfl
              have e14 := hd_nth (hd 14 (by simp)) rfl
              have e18 := hd_nth (hd 18 (by simp)) rfl
              go_simp
              have HW0 : JR wr w.heap.size w.heap.size g L0 L2 (L 9) false w' := by have h := HW; simp only [hL] at h; exact h
              refine (HPR.out _ HW0.2.2).mono ?_
              rintro e w3 ⟨rfl, hR3, hg3⟩
              refine hK _ _ ?_ ?_ (HW0.actR hR3 hg3 (Nat.le_refl _) HG.out)
              · simp [upd, e9, e10, e14, e18]
              · exact rfl
            refine autoL_last fun L y w' hLs HW hd K hK => ?_
            have e0 := hd_nth (hd 0 (by omega)) rfl
            have e1 := hd_nth (hd 1 (by omega)) rfl
            have e2 := hd_nth (hd 2 (by omega)) rfl
            have e3 := hd_nth (hd 3 (by omega)) rfl
            have e4 := hd_nth (hd 4 (by omega)) rfl
            have e5 := hd_nth (hd 5 (by omega)) rfl
            have e6 := hd_nth (hd 6 (by omega)) rfl
            have e7 := hd_nth (hd 7 (by omega)) rfl
            have e8 := hd_nth (hd 8 (by omega)) rfl
            have e9 := hd_nth (hd 9 (by omega)) rfl
            have e10 := hd_nth (hd 10 (by omega)) rfl
            have e11 := hd_nth (hd 11 (by omega)) rfl
            have e12 := hd_nth (hd 12 (by omega)) rfl
            have e13 := hd_nth (hd 13 (by omega)) rfl
            have e14 := hd_nth (hd 14 (by omega)) rfl
            have e15 := hd_nth (hd 15 (by omega)) rfl
            have e16 := hd_nth (hd 16 (by omega)) rfl
            have e17 := hd_nth (hd 17 (by omega)) rfl
            have e18 := hd_nth (hd 18 (by omega)) rfl
            have e19 := hd_nth (hd 19 (by omega)) rfl
            have HWF := Lib.hid (show JR wr w.heap.size w.heap.size g L0 L2 true true w' by have h := HW; simp only [hLs 9 (by omega), hLs 19 (by omega)] at h; exact h)
            go_simp
            refine hK _ _ ?_
            clear hd hK K e0 e1 e2 e3 e4 e5 e6 e7 e8 e9 e10 e11 e12 e13 e14 e15 e16 e17 e18 e19
            clear hLs HW
            go_wp2
            go_meet
            exact ⟨L2, HWF.out.2.1, HWF.out.2.2, HB.out.trans (HWF.out.1.mono (Nat.le_refl _))⟩
      clear HF HR HB hz0 hz1
      obtain ⟨L2, HF, HR, HB⟩ := hcut
      obtain ⟨wx, hwx⟩ : ∃ wx, wc = wx := ⟨_, rfl⟩
      rw [hwx] at HF HR HB ⊢
      clear hwx
      have c1 := (HB.out.cell HC1.out.1).trans HC1.out.2
      obtain ⟨p, hp⟩ : ∃ p, atP L2 i = p := ⟨_, rfl⟩
      obtain ⟨tb, htb⟩ : ∃ tb, thB p = tb := ⟨_, rfl⟩
      have GM := Lib.hid (fun W h => get_any w.heap.size L2 i p tb hp htb W h)
      have GR := Lib.hid (fun W h => refGet_any g L2 i p tb hp htb W h)
      have AM := Lib.hid (fun (q : Int) W h => allows_any w.heap.size L2 i q _ rfl W h)
      have AR := Lib.hid (fun (q : Int) W h => refAllows_any g L2 i q _ rfl W h)
      have PM := Lib.hid (fun W h => pages_any w.heap.size L2 W h)
      have PR := Lib.hid (fun W h => refPages_any g L2 W h)
      have HUL := Lib.hid (upto_len L2 12)
      obtain ⟨zs, hzs⟩ : ∃ zs, upto L2 12 = zs := ⟨_, rfl⟩
      rw [hzs] at PM PR HUL
      clear hp htb hzs
      obtain ⟨qf, qr⟩ := p
      have HBX : Hid (∀ (V W : World) (x y : Int), Below V.heap.size V W → Below V.heap.size V (W.alloc (.cells #[.int .i64 x, .int .i64 y] 30))) := Lib.hid fun V W x y h => h.alloc h.size _
      go_wp2_with fail
      clear c1
      refine (GM.out wx HF.out).mono ?_
      rintro e w4 ⟨rfl, hb⟩
      have hn : Blk (w4.alloc (.cells #[.int .i64 qf, .int .i64 qr] 30)) w4.heap.size 30 [.int .i64 qf, .int .i64 qr] := Blk.new w4 _ _
      have HN := Lib.hid hn
      have HW4 := Lib.hid (HBX.out wx w4 qf qr hb)
      have hbw := HB.out.trans (hb.mono HB.out.size)
      have c1 := (hbw.cell HC1.out.1).trans HC1.out.2
      have b1 : (x.add k).block < w4.heap.size := Nat.lt_of_lt_of_le HC1.out.1 hbw.size
      have b1' : x.block < w4.heap.size := by rw [← block_of_add x k]; exact b1
      clear hb hbw hn
      unfold plV
      go_wp2_with fail
      clear c1 b1 b1'
      generalize w4.alloc (.cells #[.int .i64 qf, .int .i64 qr] 30) = V4 at HN HW4 ⊢
      generalize w4.heap.size = gb at HN ⊢
      refine (GR.out V4 (HR.out.more HW4.out)).mono ?_
      rintro e w5 ⟨rfl, hb⟩
      have hn := HN.out.below hb HN.out.lt
      have n0 : w5.cell? ⟨gb, 0, none⟩ = some (.int .i64 qf) := hn.cell rfl
      have n1 : w5.cell? ⟨gb, 1, none⟩ = some (.int .i64 qr) := hn.cell rfl
      have n2 : gb < w5.heap.size := hn.lt
      have hw5 := HW4.out.trans (hb.mono HW4.out.size)
      have HW5 := Lib.hid (HBX.out wx w5 qf qr hw5)
      clear hb hn hw5
      unfold plV
      go_wp2_with fail
      clear n0 n1 n2
      generalize w5.alloc (.cells #[.int .i64 qf, .int .i64 qr] 30) = V5 at HW5 ⊢
      refine (PM.out V5 (HF.out.more HW5.out)).mono ?_
      rintro e w6 ⟨ra, rn, rc, rfl, HRA, hb⟩
      have HW6 := Lib.hid (HW5.out.trans (hb.mono HW5.out.size))
      clear hb
      go_wp2_with fail
      refine (PR.out w6 (HR.out.more HW6.out)).mono ?_
      rintro e w7 ⟨sa, sn, sc, rfl, HRB, hb⟩
      have HW7 := Lib.hid (HW6.out.trans (hb.mono HW6.out.size))
      have HRC := Lib.hid (HRA.out.below hb)
      obtain rfl : rn = sn := HRA.out.1.symm.trans HRB.out.1
      have HSZ := Lib.hid hb.size
      clear hb HRA
      go_wp2_with fail
      refine (ints_same ra sa rc sc rn _ _ zs w7 (by have := HUL.out; omega) HSZ.out (Nat.le_refl _) HRC.out HRB.out).mono ?_
      rintro e w8 ⟨rfl, hb⟩
      have HW8 := Lib.hid (HW7.out.trans (hb.mono HW7.out.size))
      clear hb HRB HRC HSZ
      go_wp2
      go_loopw [14] (fun j wr => ∃ q : Int, -1 ≤ q ∧ q ≤ 4 ∧ j = .int .i64 q ∧ Hid (Below wx.heap.size wx wr)) (fun j _ => (4 - intOf j).toNat)
      case atStart => exact ⟨-1, by omega, by omega, rfl, HW8⟩
      case round =>
        obtain ⟨q, hq1, hq2, rfl, HV⟩ := hrel
        by_cases hq : q ≤ 3
        · obtain ⟨V, hV⟩ : ∃ V, V = wr := ⟨_, rfl⟩
          rw [← hV] at HV ⊢
          clear hV
          have HBV := Lib.hid (HB.out.trans (HV.out.mono HB.out.size))
          have c1 := (HBV.out.cell HC1.out.1).trans HC1.out.2
          have b1 : (x.add k).block < V.heap.size := Nat.lt_of_lt_of_le HC1.out.1 HBV.out.size
          have b1' : x.block < V.heap.size := by rw [← block_of_add x k]; exact b1
          have AMV : Hid (∀ W, Below V.heap.size V W → Calls Try.prog 17 #[.pointer (some ⟨w.heap.size, 0, none⟩), .int .i64 i, .int .i64 q] W fun e w' => e = .returned (.int .i64 (alwF (atP L2 i) i q)) ∧ Below W.heap.size W w') := Lib.hid fun W h => AM.out q W (HF.out.more (HV.out.trans (h.mono HV.out.size)))
          have ARV : Hid (∀ W, Below V.heap.size V W → Calls Try.prog 18 #[.pointer (some ⟨g, 0, none⟩), .int .i64 i, .int .i64 q] W fun e w' => e = .returned (.int .i64 (alwF (atP L2 i) i q)) ∧ Below W.heap.size W w') := Lib.hid fun W h => AR.out q W (HR.out.more (HV.out.trans (h.mono HV.out.size)))
          generalize alwF (atP L2 i) i q = al at AMV ARV
          have HQ := Lib.hid (And.intro hq1 hq)
          clear hq2
          go_upto_region 20 with fail
          clear hq hq1
          apply wp_region_auto [120, 121, 122, 123, 124, 125, 126, 127, 128, 129, 130, 131, 132, 133] [_, _, _, _, _, _, _, _, _, _, _, _, _, _] (fun W' => Below V.heap.size V W')
          case hm => kernel_rfl
          case hT => intro y; simp only [setAll, List.setIfInBounds_toArray, List.set_cons_succ, List.set_cons_zero]; exact rfl
          case hok => kernel_rfl
          case hn => decide
          case hw => exact (Below.refl _ _).drew
          case hs =>
            refine auto_op 120 [] (by kernel_rfl) (fun y w' HW hd K hK => ?_) ?_
            · go_simp
              refine hK _ _ ?_ ?_ HW
              · simp [upd]
              · exact rfl
            refine auto_op 121 [] (by kernel_rfl) (fun y w' HW hd K hK => ?_) ?_
            · go_simp
              refine hK _ _ ?_ ?_ HW
              · simp [upd]
              · exact rfl
            refine auto_op 122 [] (by kernel_rfl) (fun y w' HW hd K hK => ?_) ?_
            · go_simp
              refine hK _ _ ?_ ?_ HW
              · simp [upd]
              · exact rfl
            refine auto_op 123 [1, 2] (by kernel_rfl) (fun y w' HW hd K hK => ?_) ?_
            · have e1 := hd_nth (hd 1 (by simp)) rfl
              have e2 := hd_nth (hd 2 (by simp)) rfl
              go_simp
              refine hK _ _ ?_ ?_ HW
              · simp [upd, e1, e2]
              · exact rfl
            refine auto_op 124 [3] (by kernel_rfl) (fun y w' HW hd K hK => ?_) ?_
            · have e3 := hd_nth (hd 3 (by simp)) rfl
              have hcl : ∀ p : Addr, p.block < V.heap.size → w'.cell? p = V.cell? p := fun p hp => HW.cell hp
              go_simp
              refine hK _ _ ?_ ?_ HW
              · simp [upd, e3]
              · exact rfl
            refine auto_op 125 [] (by kernel_rfl) (fun y w' HW hd K hK => ?_) ?_
            · go_simp
              refine hK _ _ ?_ ?_ HW
              · simp [upd]
              · exact rfl
            refine auto_op 126 [0, 4, 5] (by kernel_rfl) (fun y w' HW hd K hK => ?_) ?_
            · have e0 := hd_nth (hd 0 (by simp)) rfl
              have e4 := hd_nth (hd 4 (by simp)) rfl
              have e5 := hd_nth (hd 5 (by simp)) rfl
              go_simp
              refine (AMV.out _ HW).mono ?_
              rintro e w3 ⟨rfl, hb3⟩
              refine hK _ _ ?_ ?_ (HW.trans (hb3.mono HW.size))
              · simp [upd, e0, e4, e5]
              · exact rfl
            refine auto_op 127 [] (by kernel_rfl) (fun y w' HW hd K hK => ?_) ?_
            · go_simp
              refine hK _ _ ?_ ?_ HW
              · simp [upd]
              · exact rfl
            refine auto_op 128 [] (by kernel_rfl) (fun y w' HW hd K hK => ?_) ?_
            · go_simp
              refine hK _ _ ?_ ?_ HW
              · simp [upd]
              · exact rfl
            refine auto_op 129 [] (by kernel_rfl) (fun y w' HW hd K hK => ?_) ?_
            · go_simp
              refine hK _ _ ?_ ?_ HW
              · simp [upd]
              · exact rfl
            refine auto_op 130 [8, 9] (by kernel_rfl) (fun y w' HW hd K hK => ?_) ?_
            · have e8 := hd_nth (hd 8 (by simp)) rfl
              have e9 := hd_nth (hd 9 (by simp)) rfl
              go_simp
              refine hK _ _ ?_ ?_ HW
              · simp [upd, e8, e9]
              · exact rfl
            refine auto_op 131 [10] (by kernel_rfl) (fun y w' HW hd K hK => ?_) ?_
            · have e10 := hd_nth (hd 10 (by simp)) rfl
              have hcl : ∀ p : Addr, p.block < V.heap.size → w'.cell? p = V.cell? p := fun p hp => HW.cell hp
              go_simp
              refine hK _ _ ?_ ?_ HW
              · simp [upd, e10]
              · exact rfl
            refine auto_op 132 [] (by kernel_rfl) (fun y w' HW hd K hK => ?_) ?_
            · go_simp
              refine hK _ _ ?_ ?_ HW
              · simp [upd]
              · exact rfl
            refine auto_op 133 [7, 11, 12, 6] (by kernel_rfl) (fun y w' HW hd K hK => ?_) ?_
            · have e6 := hd_nth (hd 6 (by simp)) rfl
              have e7 := hd_nth (hd 7 (by simp)) rfl
              have e11 := hd_nth (hd 11 (by simp)) rfl
              have e12 := hd_nth (hd 12 (by simp)) rfl
              go_simp
              refine (ARV.out _ HW).mono ?_
              rintro e w3 ⟨rfl, hb3⟩
              refine hK _ _ ?_ ?_ (HW.trans (hb3.mono HW.size))
              · simp [upd, e6, e7, e11, e12]
              · exact rfl
            refine auto_last fun y w' HW hd K hK => ?_
            have e0 := hd_nth (hd 0 (by omega)) rfl
            have e1 := hd_nth (hd 1 (by omega)) rfl
            have e2 := hd_nth (hd 2 (by omega)) rfl
            have e3 := hd_nth (hd 3 (by omega)) rfl
            have e4 := hd_nth (hd 4 (by omega)) rfl
            have e5 := hd_nth (hd 5 (by omega)) rfl
            have e6 := hd_nth (hd 6 (by omega)) rfl
            have e7 := hd_nth (hd 7 (by omega)) rfl
            have e8 := hd_nth (hd 8 (by omega)) rfl
            have e9 := hd_nth (hd 9 (by omega)) rfl
            have e10 := hd_nth (hd 10 (by omega)) rfl
            have e11 := hd_nth (hd 11 (by omega)) rfl
            have e12 := hd_nth (hd 12 (by omega)) rfl
            have e13 := hd_nth (hd 13 (by omega)) rfl
            go_simp
            refine hK _ _ ?_
            clear hd hK K e0 e1 e2 e3 e4 e5 e6 e7 e8 e9 e10 e11 e12 e13
            have g1 : -1 ≤ q := HQ.out.1
            have g2 : q ≤ 3 := HQ.out.2
            go_wp2
            go_roundw
            case rel => exact ⟨q + 1, by have := HQ.out; omega, by have := HQ.out; omega, by go_num, HV.out.trans (HW.mono HV.out.size)⟩
            case measure => have := HQ.out; simp [intOf]; omega
        · have fq : ¬ q ≤ 3 := hq
          have HFV := Lib.hid (HF.out.more HV.out)
          have HRV := Lib.hid (HR.out.more HV.out)
          have HBV := Lib.hid (HB.out.trans (HV.out.mono HB.out.size))
          clear hq hq1 hq2
          go_wp2
          go_roundw
          case rel => exact ⟨k + 1, L2, H3.out, by go_num, HFV, HRV, HBV⟩
          case measure => have := H3.out; simp [intOf]; omega
    · have hout : (¬ (k : Int) < (lk : Int)) ∨ ((k : Int) < (lk : Int) ∧ ¬ (k : Int) < (li : Int)) ∨ ((k : Int) < (lk : Int) ∧ (k : Int) < (li : Int) ∧ ¬ (k : Int) < (lp : Int)) ∨ ((k : Int) < (lk : Int) ∧ (k : Int) < (li : Int) ∧ (k : Int) < (lp : Int) ∧ ¬ (k : Int) < 100) := by omega
      rcases hout with f1 | ⟨f1, f2⟩ | ⟨f1, f2, f3⟩ | ⟨f1, f2, f3, f4⟩
      all_goals
        clear hin hk HZ HI HP HKB
        go_wp2_with fail
        refine (awake_any wr).mono ?_
        rintro e w6 ⟨rfl, hb⟩
        go_wp2
        go_ret
        exact ⟨rfl, HB.out.trans (hb.mono HB.out.size)⟩
end Go.Proofs.Ytehjcnannagefaa.Gm
