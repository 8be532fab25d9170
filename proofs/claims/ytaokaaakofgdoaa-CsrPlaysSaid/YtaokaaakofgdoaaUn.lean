/- The walk of hermitagelaw12.CsrPlays. -/
import Derived.Test.YtaokaaakofgdoaaUk
import Derived.StillTailTactics
namespace Go.Proofs.Ytaokaaakofgdoaa.Cs
open Go.RowKit Ut
set_option maxRecDepth 100000
set_option linter.unusedVariables false
set_option maxHeartbeats 4000000

/-- the document's methods with their answers named -/
theorem refWrite_at (b i : Nat) (n : Int) (v : Nat) (R : List Nat) (z : Int) (Q : List Nat) (hz : errZ R n 7 = z) (hQ : wrR R n v = Q) (hv : v < 4294967296) : Hid (∀ W, RAt W b i R → Calls Try.prog 18 #[.pointer (some ⟨b, 0, none⟩), .int .i64 n, .int .u32 (v : Int)] W fun e w' => e = .returned (.int .i64 z) ∧ RAt w' b i Q ∧ W.grownBy w' (some b)) := Lib.hid fun W h => by
  rw [← hz, ← hQ]
  exact refWrite_any b i n v R W h hv
theorem refRead_at (b i : Nat) (n clock : Int) (R : List Nat) (x z : Int) (hx : rdZ R i n clock = x) (hz : errZ R n 9 = z) : Hid (∀ W, RAt W b i R → Calls Try.prog 20 #[.pointer (some ⟨b, 0, none⟩), .int .i64 n, .int .i64 clock] W fun e w' => e = .returned (.tuple #[.int .u32 x, .int .i64 z]) ∧ W = w') := Lib.hid fun W h => by
  rw [← hz, ← hx]
  exact refRead_any b i n clock R W h
theorem refEnter_at (b i pc cause tval : Nat) (R : List Nat) (x : Nat) (Q : List Nat) (hx : R.getD 1 0 = x) (hQ : entR R pc cause tval = Q) (h1 : pc < 4294967296) (h2 : cause < 4294967296) (h3 : tval < 4294967296) : Hid (∀ W, RAt W b i R → Calls Try.prog 12 #[.pointer (some ⟨b, 0, none⟩), .int .u32 (pc : Int), .int .u32 (cause : Int), .int .u32 (tval : Int)] W fun e w' => e = .returned (.int .u32 (x : Int)) ∧ RAt w' b i Q ∧ W.grownBy w' (some b)) := Lib.hid fun W h => by
  rw [← hx, ← hQ]
  exact refEnter_any b i pc cause tval R W h h1 h2 h3
theorem refLeave_at (b i : Nat) (R : List Nat) (x : Nat) (Q : List Nat) (hx : R.getD 2 0 = x) (hQ : lvR R = Q) : Hid (∀ W, RAt W b i R → Calls Try.prog 14 #[.pointer (some ⟨b, 0, none⟩)] W fun e w' => e = .returned (.int .u32 (x : Int)) ∧ RAt w' b i Q ∧ W.grownBy w' (some b)) := Lib.hid fun W h => by
  rw [← hx, ← hQ]
  exact refLeave_any b i R W h
theorem refMode_at (b i : Nat) (R : List Nat) (V : Value) (hV : modeV R = V) : Hid (∀ W, RAt W b i R → Calls Try.prog 22 #[.pointer (some ⟨b, 0, none⟩)] W fun e w' => e = .returned V ∧ Below W.heap.size W w') := Lib.hid fun W h => by
  rw [← hV]
  exact refMode_any b i R W h
theorem refOpen_at (b i : Nat) (R : List Nat) (q : Bool) (hq : opnB R = q) : Hid (∀ W, RAt W b i R → Calls Try.prog 24 #[.pointer (some ⟨b, 0, none⟩)] W fun e w' => e = .returned (.bool q) ∧ W = w') := Lib.hid fun W h => by
  rw [← hq]
  exact refOpen_any b i R W h
theorem refHandles_at (b i : Nat) (R : List Nat) (q : Bool) (hq : hndB R = q) : Hid (∀ W, RAt W b i R → Calls Try.prog 26 #[.pointer (some ⟨b, 0, none⟩)] W fun e w' => e = .returned (.bool q) ∧ W = w') := Lib.hid fun W h => by
  rw [← hq]
  exact refHandles_any b i R W h

/-- both files, the program's and the document's, of which each may have had the Write or not yet -/
def JR (w0 : World) (B b g i : Nat) (R Q : List Nat) (f r : Bool) (W : World) : Prop :=
  Below B w0 W ∧ FAt W b i (if f then Q else R) ∧ RAt W g i (if r then Q else R)
theorem JR.actF {w0 : World} {B b g i : Nat} {R Q : List Nat} {r : Bool} {W W' : World} (h : JR w0 B b g i R Q false r W) (hF : FAt W' b i Q) (hg : W.grownBy W' (some b)) (hB : B ≤ b) (hne : g ≠ b) :
    JR w0 B b g i R Q true r W' :=
  ⟨below_of_grown h.1 hg (Nat.le_trans hB (Nat.le_of_lt h.2.1.1.lt)) hB, hF, h.2.2.kept hg (fun e => hne (by injection e))⟩
theorem JR.actR {w0 : World} {B b g i : Nat} {R Q : List Nat} {f : Bool} {W W' : World} (h : JR w0 B b g i R Q f false W) (hR : RAt W' g i Q) (hg : W.grownBy W' (some g)) (hB : B ≤ b) (hbg : b < g) :
    JR w0 B b g i R Q f true W' :=
  ⟨below_of_grown h.1 hg (Nat.le_trans hB (Nat.le_of_lt h.2.1.1.lt)) (by omega), h.2.1.kept hg (fun e => absurd (by injection e : b = g) (by omega)), hR⟩

theorem plays_any (id : Int) (ak an av aw : Option Addr) (lk ck ln cn lv cv lw cw : Nat) (ks ns vs ws : List Int) (w : World) (hlk : lk ≤ 9223372036854775807) (hln : ln ≤ 9223372036854775807) (hlv : lv ≤ 9223372036854775807) (hlw : lw ≤ 9223372036854775807)
    (hz : RowK .u8 w w.heap.size ak lk ks) (hx : RowK .i64 w w.heap.size an ln ns) (hy : RowK .u32 w w.heap.size av lv vs) (hu : RowK .u32 w w.heap.size aw lw ws) (hkb : ∀ z ∈ ks, 0 ≤ z ∧ z < 256) (hvb : ∀ z ∈ vs, 0 ≤ z ∧ z < 4294967296) (hwb : ∀ z ∈ ws, 0 ≤ z ∧ z < 4294967296) :
    Calls Try.prog 3 #[.int .i64 id, .slice ak lk ck, .slice an ln cn, .slice av lv cv, .slice aw lw cw] w fun e w' => e = .returned (.bool true) ∧ Below w.heap.size w w' := by
  have HK := Lib.hid hz
  have HX := Lib.hid hx
  have HY := Lib.hid hy
  have HU := Lib.hid hu
  have HKB := Lib.hid hkb
  have HVB := Lib.hid hvb
  have HWB := Lib.hid hwb
  clear hx hy hz hu hkb hvb hwb
  by_cases hid : id < 0 ∨ 4 ≤ id
  · go_enter Try.func3, Try.ntmps3
    go_wp2_with fail
    refine (new_no id w hid).mono ?_
    rintro e w1 ⟨rfl, rfl⟩
    go_wp2_with fail
    refine (refNew_no id w hid).mono ?_
    rintro e w1 ⟨rfl, rfl⟩
    go_wp2_with fail
    refine (awake_any w).mono ?_
    rintro e w1 ⟨rfl, hb⟩
    have HB := Lib.hid hb
    clear hb
    go_wp2
    go_ret
    exact ⟨rfl, HB.out⟩
  obtain ⟨i, rfl⟩ : ∃ i : Nat, id = (i : Int) := ⟨id.toNat, by omega⟩
  have hi4 : i < 4 := by omega
  clear hid
  go_enter Try.func3, Try.ntmps3
  go_wp2_with fail
  refine (new_yes i w hi4).mono ?_
  rintro e w1 ⟨rfl, hF, hb⟩
  have HF1 := Lib.hid hF
  have HB1 := Lib.hid hb
  clear hF hb
  go_wp2_with fail
  refine (refNew_yes i w1 hi4).mono ?_
  rintro e w2 ⟨rfl, hR, hb⟩
  have HR2 := Lib.hid hR
  have HF2 := Lib.hid (HF1.out.below hb HF1.out.1.lt)
  have HG := Lib.hid HF1.out.1.lt
  have HB2 := Lib.hid (HB1.out.trans (hb.mono HB1.out.size))
  clear hb hR HF1 HB1
  generalize w1.heap.size = g at HR2 HG ⊢
  go_wp2
  go_loopw [15] (fun j wr => ∃ (k : Nat) (R : List Nat), k ≤ 100 ∧ j = .int .i64 k ∧ Hid (FAt wr w.heap.size i R) ∧ Hid (RAt wr g i R) ∧ Hid (Below w.heap.size w wr)) (fun j _ => 100 - (intOf j).toNat)
  case atStart => exact ⟨0, ini, Nat.zero_le _, rfl, HF2, HR2, HB2⟩
  case round =>
    clear HF2 HB2 HR2
    obtain ⟨k, R, hk, rfl, HF, HR, HB⟩ := hrel
    by_cases hin : k < lk ∧ k < ln ∧ k < lv ∧ k < lw ∧ k < 100
    · obtain ⟨h0, h1, h2, h3, h4⟩ := hin
      obtain ⟨t, rfl, htb, htc⟩ := HK.out.2 k h0
      obtain ⟨x, rfl, hxb, hxc⟩ := HX.out.2 k h1
      obtain ⟨y, rfl, hyb, hyc⟩ := HY.out.2 k h2
      obtain ⟨q, rfl, hqb, hqc⟩ := HU.out.2 k h3
      have HC0 := Lib.hid (And.intro (show (t.add k).block < w.heap.size by rw [block_of_add]; exact htb) htc)
      have HC1 := Lib.hid (And.intro (show (x.add k).block < w.heap.size by rw [block_of_add]; exact hxb) hxc)
      have HC2 := Lib.hid (And.intro (show (y.add k).block < w.heap.size by rw [block_of_add]; exact hyb) hyc)
      have HC3 := Lib.hid (And.intro (show (q.add k).block < w.heap.size by rw [block_of_add]; exact hqb) hqc)
      have hzb : 0 ≤ ks.getD k 0 ∧ ks.getD k 0 < 256 := HKB.out _ (by
        have hlt : k < ks.length := by rw [HK.out.1]; exact h0
        rw [List.getD_eq_getElem?_getD, List.getElem?_eq_getElem hlt]
        exact List.getElem_mem hlt)
      have hvb : 0 ≤ vs.getD k 0 ∧ vs.getD k 0 < 4294967296 := HVB.out _ (by
        have hlt : k < vs.length := by rw [HY.out.1]; exact h2
        rw [List.getD_eq_getElem?_getD, List.getElem?_eq_getElem hlt]
        exact List.getElem_mem hlt)
      have hwb : 0 ≤ ws.getD k 0 ∧ ws.getD k 0 < 4294967296 := HWB.out _ (by
        have hlt : k < ws.length := by rw [HU.out.1]; exact h3
        rw [List.getD_eq_getElem?_getD, List.getElem?_eq_getElem hlt]
        exact List.getElem_mem hlt)
      generalize ns.getD k 0 = n at HC1
      generalize vs.getD k 0 = v at HC2 hvb
      generalize ws.getD k 0 = u at HC3 hwb
      generalize ks.getD k 0 = z at HC0 hzb
      obtain ⟨v, rfl⟩ : ∃ v' : Nat, v = (v' : Int) := ⟨v.toNat, by omega⟩
      obtain ⟨u, rfl⟩ : ∃ u' : Nat, u = (u' : Int) := ⟨u.toNat, by omega⟩
      have HV : Hid (v < 4294967296) := Lib.hid (by omega)
      have HW' : Hid (u < 4294967296) := Lib.hid (by omega)
      clear hvb hwb
      obtain ⟨hz0, hz1⟩ := hzb
      have f0 : (k : Int) < (lk : Int) := by omega
      have f1 : (k : Int) < (ln : Int) := by omega
      have f2 : (k : Int) < (lv : Int) := by omega
      have f3 : (k : Int) < (lw : Int) := by omega
      have f4 : (k : Int) < 100 := by omega
      have H4 := Lib.hid h4
      have c0 := (HB.out.cell HC0.out.1).trans HC0.out.2
      clear htb htc hxb hxc hyb hyc hqb hqc hk h4 HX HY HK HU HKB HVB HWB h0
      go_upto_block 2 with fail
      obtain ⟨r, hr⟩ : ∃ r, z % 8 = r := ⟨_, rfl⟩
      rw [hr]
      clear hr
      go_cut [] (fun wx => ∃ (R : List Nat), Hid (FAt wx w.heap.size i R) ∧ Hid (RAt wx g i R) ∧ Hid (Below w.heap.size w wx))
      case first =>
        have HGE := Lib.hid (Nat.ne_of_gt HG.out)
        have HEG : Hid (w.heap.size ≠ g) := Lib.hid (Nat.ne_of_lt HG.out)
        clear c0 hz0 hz1
        by_cases e0 : r = 0
        · have e4 : (r == 0) = true := by simpa using e0
          clear e0
          have c2 := (HB.out.cell HC2.out.1).trans HC2.out.2
          have c3 := (HB.out.cell HC3.out.1).trans HC3.out.2
          obtain ⟨tv, htv⟩ : ∃ tv, R.getD 1 0 = tv := ⟨_, rfl⟩
          obtain ⟨Q, hQ⟩ : ∃ Q, entR R v u v = Q := ⟨_, rfl⟩
          have A1 := enter_at w.heap.size i v u v R tv Q htv hQ HV.out HW'.out HV.out
          have A2 := refEnter_at g i v u v R tv Q htv hQ HV.out HW'.out HV.out
          clear htv hQ
          have b2 : (y.add k).block < w.heap.size := HC2.out.1
          have b3 : (q.add k).block < w.heap.size := HC3.out.1
          have b2' : y.block < w.heap.size := by rw [← block_of_add y k]; exact b2
          have b3' : q.block < w.heap.size := by rw [← block_of_add q k]; exact b3
          have HJ : Hid (JR wr w.heap.size w.heap.size g i R Q false false wr.drew) := Lib.hid ⟨(Below.refl _ _).drew, HF.out, HR.out⟩
          clear HF HR
          go_upto_region 14 with fail
          apply wp_region_autoL [104, 105, 106, 107, 108, 109, 110, 111, 112, 113, 114, 115, 116, 117, 103, 118, 119, 16] [_, _, _, _, _, _, _, _, _, _, _, _, _, _, _, _, _, _] (fun L W' => JR wr w.heap.size w.heap.size g i R Q (L 13) false W')
          case hm => kernel_rfl
          case hT => intro y; simp only [setAll, List.setIfInBounds_toArray, List.set_cons_succ, List.set_cons_zero]; exact rfl
          case hok => kernel_rfl
          case hn => decide
          case hw => exact fun L hL => (by simp only [hL 13 (by decide)]; exact HJ.out)
          case hs =>
            refine autoL_op 104 [] (by kernel_rfl) (fun L y w' hL HW hd K hK => ?_) ?_
            · go_simp
              refine hK _ _ ?_ ?_ HW
              · simp [upd]
              · exact rfl
            refine autoL_op 105 [] (by kernel_rfl) (fun L y w' hL HW hd K hK => ?_) ?_
            · go_simp
              refine hK _ _ ?_ ?_ HW
              · simp [upd]
              · exact rfl
            refine autoL_op 106 [] (by kernel_rfl) (fun L y w' hL HW hd K hK => ?_) ?_
            · go_simp
              refine hK _ _ ?_ ?_ HW
              · simp [upd]
              · exact rfl
            refine autoL_op 107 [1, 2] (by kernel_rfl) (fun L y w' hL HW hd K hK => ?_) ?_
            · have e1 := hd_nth (hd 1 (by simp)) rfl
              have e2 := hd_nth (hd 2 (by simp)) rfl
              go_simp
              refine hK _ _ ?_ ?_ HW
              · simp [upd, e1, e2]
              · exact rfl
            refine autoL_op 108 [3] (by kernel_rfl) (fun L y w' hL HW hd K hK => ?_) ?_
            · have e3 := hd_nth (hd 3 (by simp)) rfl
              have hcl : ∀ p : Addr, p.block < w.heap.size → w'.cell? p = wr.cell? p := fun p hp => HW.1.cell hp
              go_simp
              refine hK _ _ ?_ ?_ HW
              · simp [upd, e3]
              · exact rfl
            refine autoL_op 109 [] (by kernel_rfl) (fun L y w' hL HW hd K hK => ?_) ?_
            · go_simp
              refine hK _ _ ?_ ?_ HW
              · simp [upd]
              · exact rfl
            refine autoL_op 110 [] (by kernel_rfl) (fun L y w' hL HW hd K hK => ?_) ?_
            · go_simp
              refine hK _ _ ?_ ?_ HW
              · simp [upd]
              · exact rfl
            refine autoL_op 111 [5, 6] (by kernel_rfl) (fun L y w' hL HW hd K hK => ?_) ?_
            · have e5 := hd_nth (hd 5 (by simp)) rfl
              have e6 := hd_nth (hd 6 (by simp)) rfl
              go_simp
              refine hK _ _ ?_ ?_ HW
              · simp [upd, e5, e6]
              · exact rfl
            refine autoL_op 112 [7] (by kernel_rfl) (fun L y w' hL HW hd K hK => ?_) ?_
            · have e7 := hd_nth (hd 7 (by simp)) rfl
              have hcl : ∀ p : Addr, p.block < w.heap.size → w'.cell? p = wr.cell? p := fun p hp => HW.1.cell hp
              go_simp
              refine hK _ _ ?_ ?_ HW
              · simp [upd, e7]
              · exact rfl
            refine autoL_op 113 [] (by kernel_rfl) (fun L y w' hL HW hd K hK => ?_) ?_
            · go_simp
              refine hK _ _ ?_ ?_ HW
              · simp [upd]
              · exact rfl
            refine autoL_op 114 [] (by kernel_rfl) (fun L y w' hL HW hd K hK => ?_) ?_
            · go_simp
              refine hK _ _ ?_ ?_ HW
              · simp [upd]
              · exact rfl
            refine autoL_op 115 [9, 10] (by kernel_rfl) (fun L y w' hL HW hd K hK => ?_) ?_
            · have e9 := hd_nth (hd 9 (by simp)) rfl
              have e10 := hd_nth (hd 10 (by simp)) rfl
              go_simp
              refine hK _ _ ?_ ?_ HW
              · simp [upd, e9, e10]
              · exact rfl
            refine autoL_op 116 [11] (by kernel_rfl) (fun L y w' hL HW hd K hK => ?_) ?_
            · have e11 := hd_nth (hd 11 (by simp)) rfl
              have hcl : ∀ p : Addr, p.block < w.heap.size → w'.cell? p = wr.cell? p := fun p hp => HW.1.cell hp
              go_simp
              refine hK _ _ ?_ ?_ HW
              · simp [upd, e11]
              · exact rfl
            refine autoL_op 117 [0, 4, 8, 12] (by kernel_rfl) (fun L y w' hL HW hd K hK => ?_) ?_
            · have e0 := hd_nth (hd 0 (by simp)) rfl
              have e4 := hd_nth (hd 4 (by simp)) rfl
              have e8 := hd_nth (hd 8 (by simp)) rfl
              have e12 := hd_nth (hd 12 (by simp)) rfl
              go_simp
              have HW0 : JR wr w.heap.size w.heap.size g i R Q false false w' := by have h := HW; simp only [hL] at h; exact h
              refine (A1.out _ HW0.2.1).mono ?_
              rintro e w3 ⟨rfl, hF3, hg3⟩
              refine hK _ _ ?_ ?_ (HW0.actF hF3 hg3 (Nat.le_refl _) HGE.out)
              · simp [upd, e0, e4, e8, e12]
              · exact rfl
            refine autoL_op 103 [13] (by kernel_rfl) (fun L y w' hL HW hd K hK => ?_) ?_
            · have e13 := hd_nth (hd 13 (by simp)) rfl
              go_simp
              refine hK _ _ ?_ ?_ HW
              · simp [upd, e13]
              · exact rfl
            refine autoL_op 118 [14] (by kernel_rfl) (fun L y w' hL HW hd K hK => ?_) ?_
            · have e14 := hd_nth (hd 14 (by simp)) rfl
              go_simp
              refine hK _ _ ?_ ?_ HW
              · simp [upd, e14]
              · exact rfl
            refine autoL_op 119 [14] (by kernel_rfl) (fun L y w' hL HW hd K hK => ?_) ?_
            · have e14 := hd_nth (hd 14 (by simp)) rfl
              go_simp
              refine hK _ _ ?_ ?_ HW
              · simp [upd, e14]
              · exact rfl
            refine autoL_op 16 [15, 13, 0, 1, 2, 3, 4, 5, 6, 7, 8, 9, 10, 11, 12, 13, 14, 15] (by kernel_rfl) (fun L y w' hL HW hd K hK => ?_) ?_
            · have e0 := hd_nth (hd 0 (by simp)) rfl
              have e1 := hd_nth (hd 1 (by simp)) rfl
              have e2 := hd_nth (hd 2 (by simp)) rfl
              have e3 := hd_nth (hd 3 (by simp)) rfl
              have e4 := hd_nth (hd 4 (by simp)) rfl
              have e5 := hd_nth (hd 5 (by simp)) rfl
              have e6 := hd_nth (hd 6 (by simp)) rfl
              have e7 := hd_nth (hd 7 (by simp)) rfl
              have e8 := hd_nth (hd 8 (by simp)) rfl
              have e9 := hd_nth (hd 9 (by simp)) rfl
              have e10 := hd_nth (hd 10 (by simp)) rfl
              have e11 := hd_nth (hd 11 (by simp)) rfl
              have e12 := hd_nth (hd 12 (by simp)) rfl
              have e13 := hd_nth (hd 13 (by simp)) rfl
              have e14 := hd_nth (hd 14 (by simp)) rfl
              have e15 := hd_nth (hd 15 (by simp)) rfl
              go_simp
              refine hK _ _ ?_ ?_ HW
              · simp [upd, e0, e1, e2, e3, e4, e5, e6, e7, e8, e9, e10, e11, e12, e13, e14, e15]
              · exact rfl
            refine autoL_last fun L y w' hLs HW hd K hK => ?_
            have e0 := hd_nth (hd 0 (by omega)) rfl
            have e1 := hd_nth (hd 1 (by omega)) rfl
            have e2 := hd_nth (hd 2 (by omega)) rfl
            have e3 := hd_nth (hd 3 (by omega)) rfl
            have e4 := hd_nth (hd 4 (by omega)) rfl
            have e5 := hd_nth (hd 5 (by omega)) rfl
            have e6 := hd_nth (hd 6 (by omega)) rfl
            have e7 := hd_nth (hd 7 (by omega)) rfl
            have e8 := hd_nth (hd 8 (by omega)) rfl
            have e9 := hd_nth (hd 9 (by omega)) rfl
            have e10 := hd_nth (hd 10 (by omega)) rfl
            have e11 := hd_nth (hd 11 (by omega)) rfl
            have e12 := hd_nth (hd 12 (by omega)) rfl
            have e13 := hd_nth (hd 13 (by omega)) rfl
            have e14 := hd_nth (hd 14 (by omega)) rfl
            have e15 := hd_nth (hd 15 (by omega)) rfl
            have e16 := hd_nth (hd 16 (by omega)) rfl
            have e17 := hd_nth (hd 17 (by omega)) rfl
            have HWF := Lib.hid (show JR wr w.heap.size w.heap.size g i R Q true false w' by have h := HW; simp only [hLs 13 (by omega)] at h; exact h)
            go_simp
            refine hK _ _ ?_
            clear hd hK K e0 e1 e2 e3 e4 e5 e6 e7 e8 e9 e10 e11 e12 e13 e14 e15 e16 e17
            clear hLs HW c2 c3
            have HJ2 : Hid (JR w' w.heap.size w.heap.size g i R Q true false w'.drew) := Lib.hid ⟨(Below.refl _ _).drew, HWF.out.2.1, HWF.out.2.2⟩
            have HB2 := Lib.hid (HB.out.trans (HWF.out.1.mono (Nat.le_refl _)))
            clear HJ HWF HB
            obtain ⟨wy, hwy⟩ : ∃ wy, w' = wy := ⟨_, rfl⟩
            rw [hwy] at HJ2 HB2 ⊢
            clear hwy
            have c2 := (HB2.out.cell HC2.out.1).trans HC2.out.2
            have c3 := (HB2.out.cell HC3.out.1).trans HC3.out.2
            go_upto_region 15 with fail
            apply wp_region_autoL [120, 121, 122, 123, 124, 125, 126, 127, 128, 129, 130, 131, 132, 133, 134, 135, 136, 137, 138] [_, _, _, _, _, _, _, _, _, _, _, _, _, _, _, _, _, _, _] (fun L W' => JR wy w.heap.size w.heap.size g i R Q true (L 14) W')
            case hm => kernel_rfl
            case hT => intro y; simp only [setAll, List.setIfInBounds_toArray, List.set_cons_succ, List.set_cons_zero]; exact rfl
            case hok => kernel_rfl
            case hn => decide
            case hw => exact fun L hL => (by simp only [hL 14 (by decide)]; exact HJ2.out)
            case hs =>
              refine autoL_op 120 [] (by kernel_rfl) (fun L y w' hL HW hd K hK => ?_) ?_
              · go_simp
                refine hK _ _ ?_ ?_ HW
                · simp [upd]
                · exact rfl
              refine autoL_op 121 [] (by kernel_rfl) (fun L y w' hL HW hd K hK => ?_) ?_
              · go_simp
                refine hK _ _ ?_ ?_ HW
                · simp [upd]
                · exact rfl
              refine autoL_op 122 [] (by kernel_rfl) (fun L y w' hL HW hd K hK => ?_) ?_
              · go_simp
                refine hK _ _ ?_ ?_ HW
                · simp [upd]
                · exact rfl
              refine autoL_op 123 [] (by kernel_rfl) (fun L y w' hL HW hd K hK => ?_) ?_
              · go_simp
                refine hK _ _ ?_ ?_ HW
                · simp [upd]
                · exact rfl
              refine autoL_op 124 [2, 3] (by kernel_rfl) (fun L y w' hL HW hd K hK => ?_) ?_
              · have e2 := hd_nth (hd 2 (by simp)) rfl
                have e3 := hd_nth (hd 3 (by simp)) rfl
                go_simp
                refine hK _ _ ?_ ?_ HW
                · simp [upd, e2, e3]
                · exact rfl
              refine autoL_op 125 [4] (by kernel_rfl) (fun L y w' hL HW hd K hK => ?_) ?_
              · have e4 := hd_nth (hd 4 (by simp)) rfl
                have hcl : ∀ p : Addr, p.block < w.heap.size → w'.cell? p = wy.cell? p := fun p hp => HW.1.cell hp
                go_simp
                refine hK _ _ ?_ ?_ HW
                · simp [upd, e4]
                · exact rfl
              refine autoL_op 126 [] (by kernel_rfl) (fun L y w' hL HW hd K hK => ?_) ?_
              · go_simp
                refine hK _ _ ?_ ?_ HW
                · simp [upd]
                · exact rfl
              refine autoL_op 127 [] (by kernel_rfl) (fun L y w' hL HW hd K hK => ?_) ?_
              · go_simp
                refine hK _ _ ?_ ?_ HW
                · simp [upd]
                · exact rfl
              refine autoL_op 128 [6, 7] (by kernel_rfl) (fun L y w' hL HW hd K hK => ?_) ?_
              · have e6 := hd_nth (hd 6 (by simp)) rfl
                have e7 := hd_nth (hd 7 (by simp)) rfl
                go_simp
                refine hK _ _ ?_ ?_ HW
                · simp [upd, e6, e7]
                · exact rfl
              refine autoL_op 129 [8] (by kernel_rfl) (fun L y w' hL HW hd K hK => ?_) ?_
              · have e8 := hd_nth (hd 8 (by simp)) rfl
                have hcl : ∀ p : Addr, p.block < w.heap.size → w'.cell? p = wy.cell? p := fun p hp => HW.1.cell hp
                go_simp
                refine hK _ _ ?_ ?_ HW
                · simp [upd, e8]
                · exact rfl
              refine autoL_op 130 [] (by kernel_rfl) (fun L y w' hL HW hd K hK => ?_) ?_
              · go_simp
                refine hK _ _ ?_ ?_ HW
                · simp [upd]
                · exact rfl
              refine autoL_op 131 [] (by kernel_rfl) (fun L y w' hL HW hd K hK => ?_) ?_
              · go_simp
                refine hK _ _ ?_ ?_ HW
                · simp [upd]
                · exact rfl
              refine autoL_op 132 [10, 11] (by kernel_rfl) (fun L y w' hL HW hd K hK => ?_) ?_
              · have e10 := hd_nth (hd 10 (by simp)) rfl
                have e11 := hd_nth (hd 11 (by simp)) rfl
                go_simp
                refine hK _ _ ?_ ?_ HW
                · simp [upd, e10, e11]
                · exact rfl
              refine autoL_op 133 [12] (by kernel_rfl) (fun L y w' hL HW hd K hK => ?_) ?_
              · have e12 := hd_nth (hd 12 (by simp)) rfl
                have hcl : ∀ p : Addr, p.block < w.heap.size → w'.cell? p = wy.cell? p := fun p hp => HW.1.cell hp
                go_simp
                refine hK _ _ ?_ ?_ HW
                · simp [upd, e12]
                · exact rfl
              refine autoL_op 134 [1, 5, 9, 13] (by kernel_rfl) (fun L y w' hL HW hd K hK => ?_) ?_
              · have e1 := hd_nth (hd 1 (by simp)) rfl
                have e5 := hd_nth (hd 5 (by simp)) rfl
                have e9 := hd_nth (hd 9 (by simp)) rfl
                have e13 := hd_nth (hd 13 (by simp)) rfl
                go_simp
                have HW0 : JR wy w.heap.size w.heap.size g i R Q true false w' := by have h := HW; simp only [hL] at h; exact h
                refine (A2.out _ HW0.2.2).mono ?_
                rintro e w3 ⟨rfl, hR3, hg3⟩
                refine hK _ _ ?_ ?_ (HW0.actR hR3 hg3 (Nat.le_refl _) HG.out)
                · simp [upd, e1, e5, e9, e13]
                · exact rfl
              refine autoL_op 135 [0, 14] (by kernel_rfl) (fun L y w' hL HW hd K hK => ?_) ?_
              · have e0 := hd_nth (hd 0 (by simp)) rfl
                have e14 := hd_nth (hd 14 (by simp)) rfl
                go_simp
                refine hK _ _ ?_ ?_ HW
                · simp [upd, e0, e14]
                · exact rfl
              refine autoL_op 136 [15, 14] (by kernel_rfl) (fun L y w' hL HW hd K hK => ?_) ?_
              · have e14 := hd_nth (hd 14 (by simp)) rfl
                have e15 := hd_nth (hd 15 (by simp)) rfl
                go_simp
                refine hK _ _ ?_ ?_ HW
                · simp [upd, e14, e15]
                · exact rfl
              refine autoL_op 137 [16] (by kernel_rfl) (fun L y w' hL HW hd K hK => ?_) ?_
              · have e16 := hd_nth (hd 16 (by simp)) rfl
                go_simp
                refine hK _ _ ?_ ?_ HW
                · simp [upd, e16]
                · exact rfl
              refine autoL_op 138 [17, 16] (by kernel_rfl) (fun L y w' hL HW hd K hK => ?_) ?_
              · have e16 := hd_nth (hd 16 (by simp)) rfl
                have e17 := hd_nth (hd 17 (by simp)) rfl
                go_simp
                refine hK _ _ ?_ ?_ HW
                · simp [upd, e16, e17]
                · exact rfl
              refine autoL_last fun L y w' hLs HW hd K hK => ?_
              have e0 := hd_nth (hd 0 (by omega)) rfl
              have e1 := hd_nth (hd 1 (by omega)) rfl
              have e2 := hd_nth (hd 2 (by omega)) rfl
              have e3 := hd_nth (hd 3 (by omega)) rfl
              have e4 := hd_nth (hd 4 (by omega)) rfl
              have e5 := hd_nth (hd 5 (by omega)) rfl
              have e6 := hd_nth (hd 6 (by omega)) rfl
              have e7 := hd_nth (hd 7 (by omega)) rfl
              have e8 := hd_nth (hd 8 (by omega)) rfl
              have e9 := hd_nth (hd 9 (by omega)) rfl
              have e10 := hd_nth (hd 10 (by omega)) rfl
              have e11 := hd_nth (hd 11 (by omega)) rfl
              have e12 := hd_nth (hd 12 (by omega)) rfl
              have e13 := hd_nth (hd 13 (by omega)) rfl
              have e14 := hd_nth (hd 14 (by omega)) rfl
              have e15 := hd_nth (hd 15 (by omega)) rfl
              have e16 := hd_nth (hd 16 (by omega)) rfl
              have e17 := hd_nth (hd 17 (by omega)) rfl
              have e18 := hd_nth (hd 18 (by omega)) rfl
              have HWG := Lib.hid (show JR wy w.heap.size w.heap.size g i R Q true true w' by have h := HW; simp only [hLs 14 (by omega)] at h; exact h)
              go_simp
              refine hK _ _ ?_
              clear hd hK K e0 e1 e2 e3 e4 e5 e6 e7 e8 e9 e10 e11 e12 e13 e14 e15 e16 e17 e18
              clear hLs HW
              go_wp2
              go_meet
              exact ⟨Q, HWG.out.2.1, HWG.out.2.2, HB2.out.trans (HWG.out.1.mono (Nat.le_refl _))⟩
        · have e4 : (r == 0) = false := by simpa using e0
          clear e0
          by_cases e1 : r = 1
          · have e5 : (r == 1) = true := by simpa using e1
            clear e1
            obtain ⟨tv, htv⟩ : ∃ tv, R.getD 2 0 = tv := ⟨_, rfl⟩
            obtain ⟨Q, hQ⟩ : ∃ Q, lvR R = Q := ⟨_, rfl⟩
            have A1 := leave_at w.heap.size i R tv Q htv hQ
            have A2 := refLeave_at g i R tv Q htv hQ
            clear htv hQ
            go_wp2_with fail
            refine (A1.out wr HF.out).mono ?_
            rintro e w3 ⟨rfl, hF, hg⟩
            have HF3 := Lib.hid hF
            have HR3 := Lib.hid (HR.out.kept hg (fun e => HGE.out (by injection e)))
            have HB3 := Lib.hid (below_of_grown HB.out hg HB.out.size (Nat.le_refl _))
            clear hF hg HF HR HB
            go_wp2_with fail
            refine (A2.out w3 HR3.out).mono ?_
            rintro e w5 ⟨rfl, hR, hg⟩
            have HR5 := Lib.hid hR
            have HF5 := Lib.hid (HF3.out.kept hg (fun e => HEG.out (by injection e)))
            have HB5 := Lib.hid (below_of_grown HB3.out hg HB3.out.size (Nat.le_of_lt HG.out))
            clear hR hg HF3 HR3 HB3
            go_wp2
            go_meet
            exact ⟨Q, HF5, HR5, HB5⟩
          · have e5 : (r == 1) = false := by simpa using e1
            clear e1
            by_cases e2 : r = 2
            · have e6 : (r == 2) = true := by simpa using e2
              clear e2
              go_wp2_with fail
              refine (refReset_any g i R wr HR.out).mono ?_
              rintro e w3 ⟨rfl, hR, hg⟩
              have HR3 := Lib.hid hR
              have HF3 := Lib.hid (HF.out.kept hg (fun e => HEG.out (by injection e)))
              have HB3 := Lib.hid (below_of_grown HB.out hg HB.out.size (Nat.le_of_lt HG.out))
              clear hR hg HF HR HB
              go_wp2_with fail
              refine (reset_any w.heap.size i R w3 HF3.out).mono ?_
              rintro e w5 ⟨rfl, hF, hg⟩
              have HF5 := Lib.hid hF
              have HR5 := Lib.hid (HR3.out.kept hg (fun e => HGE.out (by injection e)))
              have HB5 := Lib.hid (below_of_grown HB3.out hg HB3.out.size (Nat.le_refl _))
              clear hF hg HF3 HR3 HB3
              go_wp2
              go_meet
              exact ⟨ini, HF5, HR5, HB5⟩
            · have e6 : (r == 2) = false := by simpa using e2
              clear e2
              have c1 := (HB.out.cell HC1.out.1).trans HC1.out.2
              have c2 := (HB.out.cell HC2.out.1).trans HC2.out.2
              have b1 : (x.add k).block < w.heap.size := HC1.out.1
              have b2 : (y.add k).block < w.heap.size := HC2.out.1
              have b1' : x.block < w.heap.size := by rw [← block_of_add x k]; exact b1
              have b2' : y.block < w.heap.size := by rw [← block_of_add y k]; exact b2
              obtain ⟨ez, hez⟩ : ∃ ez, errZ R n 7 = ez := ⟨_, rfl⟩
              obtain ⟨Q, hQ⟩ : ∃ Q, wrR R n v = Q := ⟨_, rfl⟩
              have HP := write_at w.heap.size i n v R ez Q hez hQ HV.out
              have HQ := refWrite_at g i n v R ez Q hez hQ HV.out
              have HJ : Hid (JR wr w.heap.size w.heap.size g i R Q false false wr.drew) := Lib.hid ⟨(Below.refl _ _).drew, HF.out, HR.out⟩
              clear hez hQ HF HR
              go_upto_region 11 with fail
              apply wp_region_autoL [80, 81, 82, 83, 84, 85, 86, 87, 88, 89, 90, 91, 92, 93, 94, 95, 96, 97, 98, 99] [_, _, _, _, _, _, _, _, _, _, _, _, _, _, _, _, _, _, _, _] (fun L W' => JR wr w.heap.size w.heap.size g i R Q (L 9) (L 19) W')
              case hm => kernel_rfl
              case hT => intro y; simp only [setAll, List.setIfInBounds_toArray, List.set_cons_succ, List.set_cons_zero]; exact rfl
              case hok => kernel_rfl
              case hn => decide
              case hw => exact fun L hL => (by simp only [hL 9 (by decide), hL 19 (by decide)]; exact HJ.out)
              case hs =>
                refine autoL_op 80 [] (by kernel_rfl) (fun L y w' hL HW hd K hK => ?_) ?_
                · go_simp
                  refine hK _ _ ?_ ?_ HW
                  · simp [upd]
                  · exact rfl
                refine autoL_op 81 [] (by kernel_rfl) (fun L y w' hL HW hd K hK => ?_) ?_
                · go_simp
                  refine hK _ _ ?_ ?_ HW
                  · simp [upd]
                  · exact rfl
                refine autoL_op 82 [] (by kernel_rfl) (fun L y w' hL HW hd K hK => ?_) ?_
                · go_simp
                  refine hK _ _ ?_ ?_ HW
                  · simp [upd]
                  · exact rfl
                refine autoL_op 83 [1, 2] (by kernel_rfl) (fun L y w' hL HW hd K hK => ?_) ?_
                · have e1 := hd_nth (hd 1 (by simp)) rfl
                  have e2 := hd_nth (hd 2 (by simp)) rfl
                  go_simp
                  refine hK _ _ ?_ ?_ HW
                  · simp [upd, e1, e2]
                  · exact rfl
                refine autoL_op 84 [3] (by kernel_rfl) (fun L y w' hL HW hd K hK => ?_) ?_
                · have e3 := hd_nth (hd 3 (by simp)) rfl
                  have hcl : ∀ p : Addr, p.block < w.heap.size → w'.cell? p = wr.cell? p := fun p hp => HW.1.cell hp
                  go_simp
                  refine hK _ _ ?_ ?_ HW
                  · simp [upd, e3]
                  · exact rfl
                refine autoL_op 85 [] (by kernel_rfl) (fun L y w' hL HW hd K hK => ?_) ?_
                · go_simp
                  refine hK _ _ ?_ ?_ HW
                  · simp [upd]
                  · exact rfl
                refine autoL_op 86 [] (by kernel_rfl) (fun L y w' hL HW hd K hK => ?_) ?_
                · go_simp
                  refine hK _ _ ?_ ?_ HW
                  · simp [upd]
                  · exact rfl
                refine autoL_op 87 [5, 6] (by kernel_rfl) (fun L y w' hL HW hd K hK => ?_) ?_
                · have e5 := hd_nth (hd 5 (by simp)) rfl
                  have e6 := hd_nth (hd 6 (by simp)) rfl
                  go_simp
                  refine hK _ _ ?_ ?_ HW
                  · simp [upd, e5, e6]
                  · exact rfl
                refine autoL_op 88 [7] (by kernel_rfl) (fun L y w' hL HW hd K hK => ?_) ?_
                · have e7 := hd_nth (hd 7 (by simp)) rfl
                  have hcl : ∀ p : Addr, p.block < w.heap.size → w'.cell? p = wr.cell? p := fun p hp => HW.1.cell hp
                  go_simp
                  refine hK _ _ ?_ ?_ HW
                  · simp [upd, e7]
                  · exact rfl
                refine autoL_op 89 [0, 4, 8] (by kernel_rfl) (fun L y w' hL HW hd K hK => ?_) ?_
                · have e0 := hd_nth (hd 0 (by simp)) rfl
                  have e4 := hd_nth (hd 4 (by simp)) rfl
                  have e8 := hd_nth (hd 8 (by simp)) rfl
                  go_simp
                  have HW0 : JR wr w.heap.size w.heap.size g i R Q false (L 19) w' := by have h := HW; simp only [hL] at h; exact h
                  refine (HP.out _ HW0.2.1).mono ?_
                  rintro e w3 ⟨rfl, hF3, hg3⟩
                  refine hK _ _ ?_ ?_ (HW0.actF hF3 hg3 (Nat.le_refl _) HGE.out)
                  · simp [upd, e0, e4, e8]
                  · exact rfl
                refine autoL_op 90 [] (by kernel_rfl) (fun L y w' hL HW hd K hK => ?_) ?_
                · go_simp
                  refine hK _ _ ?_ ?_ HW
                  · simp [upd]
                  · exact rfl
                refine autoL_op 91 [] (by kernel_rfl) (fun L y w' hL HW hd K hK => ?_) ?_
                · go_simp
                  refine hK _ _ ?_ ?_ HW
                  · simp [upd]
                  · exact rfl
                refine autoL_op 92 [] (by kernel_rfl) (fun L y w' hL HW hd K hK => ?_) ?_
                · go_simp
                  refine hK _ _ ?_ ?_ HW
                  · simp [upd]
                  · exact rfl
                refine autoL_op 93 [11, 12] (by kernel_rfl) (fun L y w' hL HW hd K hK => ?_) ?_
                · have e11 := hd_nth (hd 11 (by simp)) rfl
                  have e12 := hd_nth (hd 12 (by simp)) rfl
                  go_simp
                  refine hK _ _ ?_ ?_ HW
                  · simp [upd, e11, e12]
                  · exact rfl
                refine autoL_op 94 [13] (by kernel_rfl) (fun L y w' hL HW hd K hK => ?_) ?_
                · have e13 := hd_nth (hd 13 (by simp)) rfl
                  have hcl : ∀ p : Addr, p.block < w.heap.size → w'.cell? p = wr.cell? p := fun p hp => HW.1.cell hp
                  go_simp
                  refine hK _ _ ?_ ?_ HW
                  · simp [upd, e13]
                  · exact rfl
                refine autoL_op 95 [] (by kernel_rfl) (fun L y w' hL HW hd K hK => ?_) ?_
                · go_simp
                  refine hK _ _ ?_ ?_ HW
                  · simp [upd]
                  · exact rfl
                refine autoL_op 96 [] (by kernel_rfl) (fun L y w' hL HW hd K hK => ?_) ?_
                · go_simp
                  refine hK _ _ ?_ ?_ HW
                  · simp [upd]
                  · exact rfl
                refine autoL_op 97 [15, 16] (by kernel_rfl) (fun L y w' hL HW hd K hK => ?_) ?_
                · have e15 := hd_nth (hd 15 (by simp)) rfl
                  have e16 := hd_nth (hd 16 (by simp)) rfl
                  go_simp
                  refine hK _ _ ?_ ?_ HW
                  · simp [upd, e15, e16]
                  · exact rfl
                refine autoL_op 98 [17] (by kernel_rfl) (fun L y w' hL HW hd K hK => ?_) ?_
                · have e17 := hd_nth (hd 17 (by simp)) rfl
                  have hcl : ∀ p : Addr, p.block < w.heap.size → w'.cell? p = wr.cell? p := fun p hp => HW.1.cell hp
                  go_simp
                  refine hK _ _ ?_ ?_ HW
                  · simp [upd, e17]
                  · exact rfl
                refine autoL_op 99 [10, 14, 18, 9] (by kernel_rfl) (fun L y w' hL HW hd K hK => ?_) ?_
                · have e9 := hd_nth (hd 9 (by simp)) rfl
                  have e10 := hd_nth (hd 10 (by simp)) rfl
                  have e14 := hd_nth (hd 14 (by simp)) rfl
                  have e18 := hd_nth (hd 18 (by simp)) rfl
                  go_simp
                  have HW0 : JR wr w.heap.size w.heap.size g i R Q (L 9) false w' := by have h := HW; simp only [hL] at h; exact h
                  refine (HQ.out _ HW0.2.2).mono ?_
                  rintro e w3 ⟨rfl, hR3, hg3⟩
                  refine hK _ _ ?_ ?_ (HW0.actR hR3 hg3 (Nat.le_refl _) HG.out)
                  · simp [upd, e9, e10, e14, e18]
                  · exact rfl
                refine autoL_last fun L y w' hLs HW hd K hK => ?_
                have e0 := hd_nth (hd 0 (by omega)) rfl
                have e1 := hd_nth (hd 1 (by omega)) rfl
                have e2 := hd_nth (hd 2 (by omega)) rfl
                have e3 := hd_nth (hd 3 (by omega)) rfl
                have e4 := hd_nth (hd 4 (by omega)) rfl
                have e5 := hd_nth (hd 5 (by omega)) rfl
                have e6 := hd_nth (hd 6 (by omega)) rfl
                have e7 := hd_nth (hd 7 (by omega)) rfl
                have e8 := hd_nth (hd 8 (by omega)) rfl
                have e9 := hd_nth (hd 9 (by omega)) rfl
                have e10 := hd_nth (hd 10 (by omega)) rfl
                have e11 := hd_nth (hd 11 (by omega)) rfl
                have e12 := hd_nth (hd 12 (by omega)) rfl
                have e13 := hd_nth (hd 13 (by omega)) rfl
                have e14 := hd_nth (hd 14 (by omega)) rfl
                have e15 := hd_nth (hd 15 (by omega)) rfl
                have e16 := hd_nth (hd 16 (by omega)) rfl
                have e17 := hd_nth (hd 17 (by omega)) rfl
                have e18 := hd_nth (hd 18 (by omega)) rfl
                have e19 := hd_nth (hd 19 (by omega)) rfl
                have HWF := Lib.hid (show JR wr w.heap.size w.heap.size g i R Q true true w' by have h := HW; simp only [hLs 9 (by omega), hLs 19 (by omega)] at h; exact h)
                go_simp
                refine hK _ _ ?_
                clear hd hK K e0 e1 e2 e3 e4 e5 e6 e7 e8 e9 e10 e11 e12 e13 e14 e15 e16 e17 e18 e19
                clear hLs HW
                go_wp2
                go_meet
                exact ⟨Q, HWF.out.2.1, HWF.out.2.2, HB.out.trans (HWF.out.1.mono (Nat.le_refl _))⟩
      clear HF HR HB c0 hz0 hz1
      obtain ⟨R, HF, HR, HB⟩ := hcut
      obtain ⟨wx, hwx⟩ : ∃ wx, wc = wx := ⟨_, rfl⟩
      rw [hwx] at HF HR HB ⊢
      clear hwx
      have c1 := (HB.out.cell HC1.out.1).trans HC1.out.2
      obtain ⟨xz, hxz⟩ : ∃ z, rdZ R i n (k : Int) = z := ⟨_, rfl⟩
      obtain ⟨ez, hez⟩ : ∃ z, errZ R n 9 = z := ⟨_, rfl⟩
      have A1 := read_at w.heap.size i n (k : Int) R xz ez hxz hez
      have A2 := refRead_at g i n (k : Int) R xz ez hxz hez
      clear hxz hez
      go_wp2_with fail
      refine (A1.out wx HF.out).mono ?_
      rintro e w4 ⟨rfl, hb⟩
      have HF4 := Lib.hid (HF.out.below hb HF.out.1.lt)
      have HR4 := Lib.hid (HR.out.below hb HR.out.1.lt)
      have HB4 := Lib.hid (HB.out.trans (hb.mono HB.out.size))
      clear hb HF HR HB c1
      have c1 := (HB4.out.cell HC1.out.1).trans HC1.out.2
      go_wp2_with fail
      refine (A2.out w4 HR4.out).mono ?_
      rintro e w5 ⟨rfl, rfl⟩
      clear c1
      have hgl := HR4.out.1.lt
      have hgd : ∀ (x y : Operand) (W : World), (eqGuard .neq 48 x y (arrV R) (arrV R)).run Try.prog W = .ok () W := fun x y W => guard_words _ x y _ _ W
      have hnq : ∀ W : World, (binOp .neq 48 (arrV R) (arrV R)).run Try.prog W = .ok (.bool false) W := fun W => bin_neq R HF4.out.2.1.len W
      have hgm : ∀ (x y : Operand) (W : World), (eqGuard .neq 46 x y (modeV R) (modeV R)).run Try.prog W = .ok () W := fun x y W => guard_mode _ x y _ _ _ _ _ _ W
      have hnm : ∀ W : World, (binOp .neq 46 (modeV R) (modeV R)).run Try.prog W = .ok (.bool false) W := fun W => bin_neq_mode _ _ _ W
      have M1 := mode_at w.heap.size i R (modeV R) rfl
      have M2 := refMode_at g i R (modeV R) rfl
      have AL := all_at w.heap.size i R (arrV R) rfl
      obtain ⟨po, hpo⟩ : ∃ p, opnB R = p := ⟨_, rfl⟩
      obtain ⟨ph, hph⟩ : ∃ p, hndB R = p := ⟨_, rfl⟩
      have O1 := open_at w.heap.size i R po hpo
      have O2 := refOpen_at g i R po hpo
      have N1 := handles_at w.heap.size i R ph hph
      have N2 := refHandles_at g i R ph hph
      clear hpo hph
      have HLD : Hid (∀ (W : World) (ρ : Operand → Value) (o : Oper), Below w4.heap.size w4 W → o.op = .load 48 (.tmp 216) → ρ (.tmp 216) = .pointer (some ⟨g, 0, none⟩) → (execOp ρ o).run Try.prog W = .ok (.value (arrV R)) W) := Lib.hid fun W ρ o hW ho hx => exec_load_blk (HR4.out.1.below hW HR4.out.1.lt) 0 48 _ ho hx (wordsV R) (rCells_words i R) _ Try.underlying48 rfl (size_words R HR4.out.2.1.len)
      generalize arrV R = A at hgd hnq AL HLD
      generalize modeV R = V at hgm hnm M1 M2
      go_upto_region 27 with fail
      apply wp_region_auto [182, 183, 184, 185, 186, 187, 188, 189, 190, 191, 192, 193, 194, 195, 196, 197, 198, 199, 200, 201, 202, 203, 204, 205, 206, 207, 208, 209, 210, 211, 212, 213, 214, 215, 216, 217, 218] [_, _, _, _, _, _, _, _, _, _, _, _, _, _, _, _, _, _, _, _, _, _, _, _, _, _, _, _, _, _, _, _, _, _, _, _, _] (fun W' => Below w4.heap.size w4 W')
      case hm => kernel_rfl
      case hT => intro y; simp only [setAll, List.setIfInBounds_toArray, List.set_cons_succ, List.set_cons_zero]; exact rfl
      case hok => kernel_rfl
      case hn => decide
      case hw => exact (Below.refl _ _).drew
      case hs =>
        refine auto_op 182 [] (by kernel_rfl) (fun y w' HW hd K hK => ?_) ?_
        · go_simp
          refine hK _ _ ?_ ?_ HW
          · simp [upd]
          · exact rfl
        refine auto_op 183 [] (by kernel_rfl) (fun y w' HW hd K hK => ?_) ?_
        · go_simp
          refine hK _ _ ?_ ?_ HW
          · simp [upd]
          · exact rfl
        refine auto_op 184 [0, 1] (by kernel_rfl) (fun y w' HW hd K hK => ?_) ?_
        · have e0 := hd_nth (hd 0 (by simp)) rfl
          have e1 := hd_nth (hd 1 (by simp)) rfl
          go_simp
          refine hK _ _ ?_ ?_ HW
          · simp [upd, e0, e1]
          · exact rfl
        refine auto_op 185 [2] (by kernel_rfl) (fun y w' HW hd K hK => ?_) ?_
        · have e2 := hd_nth (hd 2 (by simp)) rfl
          go_simp
          refine hK _ _ ?_ ?_ HW
          · simp [upd, e2]
          · exact rfl
        refine auto_op 186 [3] (by kernel_rfl) (fun y w' HW hd K hK => ?_) ?_
        · have e3 := hd_nth (hd 3 (by simp)) rfl
          go_simp
          refine hK _ _ ?_ ?_ HW
          · simp [upd, e3]
          · exact rfl
        refine auto_op 187 [3] (by kernel_rfl) (fun y w' HW hd K hK => ?_) ?_
        · have e3 := hd_nth (hd 3 (by simp)) rfl
          go_simp
          refine hK _ _ ?_ ?_ HW
          · simp [upd, e3]
          · exact rfl
        refine auto_op 188 [4, 5, 3] (by kernel_rfl) (fun y w' HW hd K hK => ?_) ?_
        · have e3 := hd_nth (hd 3 (by simp)) rfl
          have e4 := hd_nth (hd 4 (by simp)) rfl
          have e5 := hd_nth (hd 5 (by simp)) rfl
          go_simp
          refine hK _ _ ?_ ?_ HW
          · simp [upd, e3, e4, e5]
          · exact rfl
        refine auto_op 189 [3, 6] (by kernel_rfl) (fun y w' HW hd K hK => ?_) ?_
        · have e3 := hd_nth (hd 3 (by simp)) rfl
          have e6 := hd_nth (hd 6 (by simp)) rfl
          go_simp
          refine hK _ _ ?_ ?_ HW
          · simp [upd, e3, e6]
          · exact rfl
        refine auto_op 190 [7, 3] (by kernel_rfl) (fun y w' HW hd K hK => ?_) ?_
        · have e3 := hd_nth (hd 3 (by simp)) rfl
          have e7 := hd_nth (hd 7 (by simp)) rfl
          go_simp
          refine hK _ _ ?_ ?_ HW
          · simp [upd, e3, e7]
          · exact rfl
        refine auto_op 191 [8] (by kernel_rfl) (fun y w' HW hd K hK => ?_) ?_
        · have e8 := hd_nth (hd 8 (by simp)) rfl
          go_simp
          refine hK _ _ ?_ ?_ HW
          · simp [upd, e8]
          · exact rfl
        refine auto_op 192 [9, 8, 8] (by kernel_rfl) (fun y w' HW hd K hK => ?_) ?_
        · have e8 := hd_nth (hd 8 (by simp)) rfl
          have e9 := hd_nth (hd 9 (by simp)) rfl
          go_simp
          refine (M1.out _ (HF4.out.below HW HF4.out.1.lt)).mono ?_
          rintro e w3 ⟨rfl, hb3⟩
          refine hK _ _ ?_ ?_ (HW.trans (hb3.mono HW.size))
          · simp [upd, e8, e9]
          · exact rfl
        refine auto_op 193 [8] (by kernel_rfl) (fun y w' HW hd K hK => ?_) ?_
        · have e8 := hd_nth (hd 8 (by simp)) rfl
          go_simp
          refine hK _ _ ?_ ?_ HW
          · simp [upd, e8]
          · exact rfl
        refine auto_op 194 [11, 10, 8] (by kernel_rfl) (fun y w' HW hd K hK => ?_) ?_
        · have e8 := hd_nth (hd 8 (by simp)) rfl
          have e10 := hd_nth (hd 10 (by simp)) rfl
          have e11 := hd_nth (hd 11 (by simp)) rfl
          go_simp
          refine (M2.out _ (HR4.out.below HW HR4.out.1.lt)).mono ?_
          rintro e w3 ⟨rfl, hb3⟩
          refine hK _ _ ?_ ?_ (HW.trans (hb3.mono HW.size))
          · simp [upd, e8, e10, e11]
          · exact rfl
        refine auto_op 195 [10, 12, 8] (by kernel_rfl) (fun y w' HW hd K hK => ?_) ?_
        · have e8 := hd_nth (hd 8 (by simp)) rfl
          have e10 := hd_nth (hd 10 (by simp)) rfl
          have e12 := hd_nth (hd 12 (by simp)) rfl
          go_simp
          refine hK _ _ ?_ ?_ HW
          · simp [upd, e8, e10, e12]
          · exact rfl
        refine auto_op 196 [8, 13] (by kernel_rfl) (fun y w' HW hd K hK => ?_) ?_
        · have e8 := hd_nth (hd 8 (by simp)) rfl
          have e13 := hd_nth (hd 13 (by simp)) rfl
          go_simp
          refine hK _ _ ?_ ?_ HW
          · simp [upd, e8, e13]
          · exact rfl
        refine auto_op 197 [14, 12] (by kernel_rfl) (fun y w' HW hd K hK => ?_) ?_
        · have e12 := hd_nth (hd 12 (by simp)) rfl
          have e14 := hd_nth (hd 14 (by simp)) rfl
          go_simp
          refine hK _ _ ?_ ?_ HW
          · simp [upd, e12, e14]
          · exact rfl
        refine auto_op 198 [15] (by kernel_rfl) (fun y w' HW hd K hK => ?_) ?_
        · have e15 := hd_nth (hd 15 (by simp)) rfl
          go_simp
          refine hK _ _ ?_ ?_ HW
          · simp [upd, e15]
          · exact rfl
        refine auto_op 199 [16, 15, 15] (by kernel_rfl) (fun y w' HW hd K hK => ?_) ?_
        · have e15 := hd_nth (hd 15 (by simp)) rfl
          have e16 := hd_nth (hd 16 (by simp)) rfl
          go_simp
          refine (O1.out _ (HF4.out.below HW HF4.out.1.lt)).mono ?_
          rintro e w3 ⟨rfl, hb3⟩
          refine hK _ _ ?_ ?_ (HW.trans (hb3.mono HW.size))
          · simp [upd, e15, e16]
          · exact rfl
        refine auto_op 200 [15] (by kernel_rfl) (fun y w' HW hd K hK => ?_) ?_
        · have e15 := hd_nth (hd 15 (by simp)) rfl
          go_simp
          refine hK _ _ ?_ ?_ HW
          · simp [upd, e15]
          · exact rfl
        refine auto_op 201 [18, 17, 15] (by kernel_rfl) (fun y w' HW hd K hK => ?_) ?_
        · have e15 := hd_nth (hd 15 (by simp)) rfl
          have e17 := hd_nth (hd 17 (by simp)) rfl
          have e18 := hd_nth (hd 18 (by simp)) rfl
          go_simp
          refine (O2.out _ (HR4.out.below HW HR4.out.1.lt)).mono ?_
          rintro e w3 ⟨rfl, rfl⟩
          refine hK _ _ ?_ ?_ HW
          · simp [upd, e15, e17, e18]
          · exact rfl
        refine auto_op 202 [17, 19, 15] (by kernel_rfl) (fun y w' HW hd K hK => ?_) ?_
        · have e15 := hd_nth (hd 15 (by simp)) rfl
          have e17 := hd_nth (hd 17 (by simp)) rfl
          have e19 := hd_nth (hd 19 (by simp)) rfl
          go_simp
          refine hK _ _ ?_ ?_ HW
          · simp [upd, e15, e17, e19]
          · exact rfl
        refine auto_op 203 [15, 20] (by kernel_rfl) (fun y w' HW hd K hK => ?_) ?_
        · have e15 := hd_nth (hd 15 (by simp)) rfl
          have e20 := hd_nth (hd 20 (by simp)) rfl
          go_simp
          refine hK _ _ ?_ ?_ HW
          · simp [upd, e15, e20]
          · exact rfl
        refine auto_op 204 [21, 19] (by kernel_rfl) (fun y w' HW hd K hK => ?_) ?_
        · have e19 := hd_nth (hd 19 (by simp)) rfl
          have e21 := hd_nth (hd 21 (by simp)) rfl
          go_simp
          refine hK _ _ ?_ ?_ HW
          · simp [upd, e19, e21]
          · exact rfl
        refine auto_op 205 [22] (by kernel_rfl) (fun y w' HW hd K hK => ?_) ?_
        · have e22 := hd_nth (hd 22 (by simp)) rfl
          go_simp
          refine hK _ _ ?_ ?_ HW
          · simp [upd, e22]
          · exact rfl
        refine auto_op 206 [23, 22, 22] (by kernel_rfl) (fun y w' HW hd K hK => ?_) ?_
        · have e22 := hd_nth (hd 22 (by simp)) rfl
          have e23 := hd_nth (hd 23 (by simp)) rfl
          go_simp
          refine (N1.out _ (HF4.out.below HW HF4.out.1.lt)).mono ?_
          rintro e w3 ⟨rfl, rfl⟩
          refine hK _ _ ?_ ?_ HW
          · simp [upd, e22, e23]
          · exact rfl
        refine auto_op 207 [22] (by kernel_rfl) (fun y w' HW hd K hK => ?_) ?_
        · have e22 := hd_nth (hd 22 (by simp)) rfl
          go_simp
          refine hK _ _ ?_ ?_ HW
          · simp [upd, e22]
          · exact rfl
        refine auto_op 208 [25, 24, 22] (by kernel_rfl) (fun y w' HW hd K hK => ?_) ?_
        · have e22 := hd_nth (hd 22 (by simp)) rfl
          have e24 := hd_nth (hd 24 (by simp)) rfl
          have e25 := hd_nth (hd 25 (by simp)) rfl
          go_simp
          refine (N2.out _ (HR4.out.below HW HR4.out.1.lt)).mono ?_
          rintro e w3 ⟨rfl, rfl⟩
          refine hK _ _ ?_ ?_ HW
          · simp [upd, e22, e24, e25]
          · exact rfl
        refine auto_op 209 [24, 26, 22] (by kernel_rfl) (fun y w' HW hd K hK => ?_) ?_
        · have e22 := hd_nth (hd 22 (by simp)) rfl
          have e24 := hd_nth (hd 24 (by simp)) rfl
          have e26 := hd_nth (hd 26 (by simp)) rfl
          go_simp
          refine hK _ _ ?_ ?_ HW
          · simp [upd, e22, e24, e26]
          · exact rfl
        refine auto_op 210 [22, 27] (by kernel_rfl) (fun y w' HW hd K hK => ?_) ?_
        · have e22 := hd_nth (hd 22 (by simp)) rfl
          have e27 := hd_nth (hd 27 (by simp)) rfl
          go_simp
          refine hK _ _ ?_ ?_ HW
          · simp [upd, e22, e27]
          · exact rfl
        refine auto_op 211 [28, 26] (by kernel_rfl) (fun y w' HW hd K hK => ?_) ?_
        · have e26 := hd_nth (hd 26 (by simp)) rfl
          have e28 := hd_nth (hd 28 (by simp)) rfl
          go_simp
          refine hK _ _ ?_ ?_ HW
          · simp [upd, e26, e28]
          · exact rfl
        refine auto_op 212 [29] (by kernel_rfl) (fun y w' HW hd K hK => ?_) ?_
        · have e29 := hd_nth (hd 29 (by simp)) rfl
          go_simp
          refine hK _ _ ?_ ?_ HW
          · simp [upd, e29]
          · exact rfl
        refine auto_op 213 [30, 29, 29] (by kernel_rfl) (fun y w' HW hd K hK => ?_) ?_
        · have e29 := hd_nth (hd 29 (by simp)) rfl
          have e30 := hd_nth (hd 30 (by simp)) rfl
          go_simp
          refine (AL.out _ (HF4.out.below HW HF4.out.1.lt)).mono ?_
          rintro e w3 ⟨rfl, hb3⟩
          refine hK _ _ ?_ ?_ (HW.trans (hb3.mono HW.size))
          · simp [upd, e29, e30]
          · exact rfl
        refine auto_op 214 [29] (by kernel_rfl) (fun y w' HW hd K hK => ?_) ?_
        · have e29 := hd_nth (hd 29 (by simp)) rfl
          go_simp
          refine hK _ _ ?_ ?_ HW
          · simp [upd, e29]
          · exact rfl
        refine auto_op 215 [32, 29] (by kernel_rfl) (fun y w' HW hd K hK => ?_) ?_
        · have e29 := hd_nth (hd 29 (by simp)) rfl
          have e32 := hd_nth (hd 32 (by simp)) rfl
          go_simp
          refine hK _ _ ?_ ?_ HW
          · simp [upd, e29, e32]
          · exact rfl
        refine auto_op 216 [33, 29] (by kernel_rfl) (fun y w' HW hd K hK => ?_) ?_
        · have e29 := hd_nth (hd 29 (by simp)) rfl
          have e33 := hd_nth (hd 33 (by simp)) rfl
          go_simp
          refine hK _ _ ?_ ?_ HW
          · simp [upd, e29, e33]
          · exact rfl
        refine auto_op 217 [34, 29] (by kernel_rfl) (fun y w' HW hd K hK => ?_) ?_
        · have e29 := hd_nth (hd 29 (by simp)) rfl
          have e34 := hd_nth (hd 34 (by simp)) rfl
          have hcl : ∀ p : Addr, p.block < w4.heap.size → w'.cell? p = w4.cell? p := fun p hp => HW.cell hp
          refine step_val (a := ⟨_, _⟩) ?_ A ?_ ?_
          · go_simp
          · refine HLD.out _ _ _ HW rfl ?_
            exact e34
          refine hK _ _ ?_ ?_ HW
          · simp [upd, e29, e34]
          · exact rfl
        refine auto_op 218 [31, 35, 29] (by kernel_rfl) (fun y w' HW hd K hK => ?_) ?_
        · have e29 := hd_nth (hd 29 (by simp)) rfl
          have e31 := hd_nth (hd 31 (by simp)) rfl
          have e35 := hd_nth (hd 35 (by simp)) rfl
          go_simp
          refine hK _ _ ?_ ?_ HW
          · simp [upd, e29, e31, e35]
          · exact rfl
        refine auto_last fun y w' HW hd K hK => ?_
        have e0 := hd_nth (hd 0 (by omega)) rfl
        have e1 := hd_nth (hd 1 (by omega)) rfl
        have e2 := hd_nth (hd 2 (by omega)) rfl
        have e3 := hd_nth (hd 3 (by omega)) rfl
        have e4 := hd_nth (hd 4 (by omega)) rfl
        have e5 := hd_nth (hd 5 (by omega)) rfl
        have e6 := hd_nth (hd 6 (by omega)) rfl
        have e7 := hd_nth (hd 7 (by omega)) rfl
        have e8 := hd_nth (hd 8 (by omega)) rfl
        have e9 := hd_nth (hd 9 (by omega)) rfl
        have e10 := hd_nth (hd 10 (by omega)) rfl
        have e11 := hd_nth (hd 11 (by omega)) rfl
        have e12 := hd_nth (hd 12 (by omega)) rfl
        have e13 := hd_nth (hd 13 (by omega)) rfl
        have e14 := hd_nth (hd 14 (by omega)) rfl
        have e15 := hd_nth (hd 15 (by omega)) rfl
        have e16 := hd_nth (hd 16 (by omega)) rfl
        have e17 := hd_nth (hd 17 (by omega)) rfl
        have e18 := hd_nth (hd 18 (by omega)) rfl
        have e19 := hd_nth (hd 19 (by omega)) rfl
        have e20 := hd_nth (hd 20 (by omega)) rfl
        have e21 := hd_nth (hd 21 (by omega)) rfl
        have e22 := hd_nth (hd 22 (by omega)) rfl
        have e23 := hd_nth (hd 23 (by omega)) rfl
        have e24 := hd_nth (hd 24 (by omega)) rfl
        have e25 := hd_nth (hd 25 (by omega)) rfl
        have e26 := hd_nth (hd 26 (by omega)) rfl
        have e27 := hd_nth (hd 27 (by omega)) rfl
        have e28 := hd_nth (hd 28 (by omega)) rfl
        have e29 := hd_nth (hd 29 (by omega)) rfl
        have e30 := hd_nth (hd 30 (by omega)) rfl
        have e31 := hd_nth (hd 31 (by omega)) rfl
        have e32 := hd_nth (hd 32 (by omega)) rfl
        have e33 := hd_nth (hd 33 (by omega)) rfl
        have e34 := hd_nth (hd 34 (by omega)) rfl
        have e35 := hd_nth (hd 35 (by omega)) rfl
        have e36 := hd_nth (hd 36 (by omega)) rfl
        go_simp
        refine hK _ _ ?_
        clear hd hK K e0 e1 e2 e3 e4 e5 e6 e7 e8 e9 e10 e11 e12 e13 e14 e15 e16 e17 e18 e19 e20 e21 e22 e23 e24 e25 e26 e27 e28 e29 e30 e31 e32 e33 e34 e35 e36
        clear hnq hgd hgm hnm M1 M2 AL O1 O2 N1 N2 HLD
        go_wp2
        go_roundw
        case rel => exact ⟨k + 1, R, H4.out, by go_num, HF4.out.below HW HF4.out.1.lt, HR4.out.below HW HR4.out.1.lt, HB4.out.trans (HW.mono HB4.out.size)⟩
        case measure => have := H4.out; simp [intOf]; omega
    · have hout : (¬ (k : Int) < (lk : Int)) ∨ ((k : Int) < (lk : Int) ∧ ¬ (k : Int) < (ln : Int)) ∨ ((k : Int) < (lk : Int) ∧ (k : Int) < (ln : Int) ∧ ¬ (k : Int) < (lv : Int)) ∨ ((k : Int) < (lk : Int) ∧ (k : Int) < (ln : Int) ∧ (k : Int) < (lv : Int) ∧ ¬ (k : Int) < (lw : Int)) ∨ ((k : Int) < (lk : Int) ∧ (k : Int) < (ln : Int) ∧ (k : Int) < (lv : Int) ∧ (k : Int) < (lw : Int) ∧ ¬ (k : Int) < 100) := by omega
      rcases hout with f1 | ⟨f1, f2⟩ | ⟨f1, f2, f3⟩ | ⟨f1, f2, f3, f4⟩ | ⟨f1, f2, f3, f4, f5⟩
      all_goals
        clear hin hk HX HY HK HU HKB HVB HWB
        go_wp2_with fail
        refine (awake_any wr).mono ?_
        rintro e w6 ⟨rfl, hb⟩
        go_wp2
        go_ret
        exact ⟨rfl, HB.out.trans (hb.mono HB.out.size)⟩
end Go.Proofs.Ytaokaaakofgdoaa.Cs
