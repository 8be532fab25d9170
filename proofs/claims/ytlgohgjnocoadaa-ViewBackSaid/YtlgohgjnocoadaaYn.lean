/- hermitagelaw16: made; the document's Read and Write whatever they are asked. -/
import Derived.Test.YtlgohgjnocoadaaYh
import Derived.Test.YtlgohgjnocoadaaYm
import Derived.Test.YtlgohgjnocoadaaXn
import Derived.StillTailTactics
namespace Go.Proofs.Ytlgohgjnocoadaa.Vw
open Go.RowKit Go.Shelf Ut Oc
set_option maxRecDepth 100000
set_option linter.unusedVariables false
set_option maxHeartbeats 4000000

section
variable {g bt B q n gv cap : Nat} {S : List Int} {L : List Gm.Pl} {D : List Bool}
theorem refRead_any (z k : Int) (t : Bool) (h0 : 0 ≤ z) (h1 : z < 4294967296) (ht : ownB n L z k = t) (w : World) (hP : DV w g bt B q n gv cap S L D) :
    Calls Try.prog 20 #[.pointer (some ⟨g, 0, none⟩), .int .u32 z, .int .i64 k] w fun e w' => ∃ p q c, e = .returned (.tuple #[.slice p q c, .bool t]) ∧ Hid (RowK .u8 w' w'.heap.size p q (rdL n S L z k)) ∧ Below w.heap.size w w' := by
  have hno : ownB n L z k = false → Calls Try.prog 20 #[.pointer (some ⟨g, 0, none⟩), .int .u32 z, .int .i64 k] w fun e w' => ∃ p q c, e = .returned (.tuple #[.slice p q c, .bool false]) ∧ Hid (RowK .u8 w' w'.heap.size p q (rdL n S L z k)) ∧ Below w.heap.size w w' := fun hf => by
    have e : rdL n S L z k = [] := by unfold rdL; rw [hf]; rfl
    rw [e]
    exact (refRead_no z k h0 h1 hf w hP).mono fun e w' ⟨he, hb⟩ => ⟨none, 0, 0, he, RowK.nil _ _ _ _, hb⟩
  rcases own_cases n L z k h0 with ⟨h2, _⟩ | ⟨a, K, rfl, rfl, h2, h3⟩
  · rw [h2] at ht
    subst ht
    exact hno h2
  · cases t
    · exact hno ht
    · have e : rdL n S L a K = rB L S a K := by unfold rdL; rw [if_pos ht]; rfl
      rw [e]
      exact refRead_yes a K h2 ht (h3.1 ht) w hP
theorem refWrite_any (z : Int) (ba : Option Addr) (K bc Bz : Nat) (zs : List Int) (t : Bool) (S' : List Int) (D' : List Bool) (h0 : 0 ≤ z) (h1 : z < 4294967296) (ht : ownB n L z K = t) (hS' : wrtS n S L z zs = S') (hD' : wrtD n L D z K = D') (hzs : AreBytes zs) (w : World) (hr : RowK .u8 w Bz ba K zs) (hP : DV w g bt B q n gv cap S L D) (hz : Bz ≤ B) :
    Calls Try.prog 9 #[.pointer (some ⟨g, 0, none⟩), .int .u32 z, .slice ba K bc] w fun e w' => e = .returned (.bool t) ∧ DV w' g bt B q n gv cap S' L D' ∧ Kq [gv, g] w w' := by
  have hno : ownB n L z K = false → Calls Try.prog 9 #[.pointer (some ⟨g, 0, none⟩), .int .u32 z, .slice ba K bc] w fun e w' => e = .returned (.bool false) ∧ DV w' g bt B q n gv cap S' L D' ∧ Kq [gv, g] w w' := fun hf => by
    unfold wrtS at hS'
    rw [hr.1, hf, if_neg (by decide)] at hS'
    unfold wrtD at hD'
    rw [hf, if_neg (by decide)] at hD'
    subst hS' hD'
    exact (refWrite_no z ba K bc h0 h1 hf w hP).mono fun e w' ⟨he, hb⟩ => ⟨he, hP.more hb, Kq.of_below hb⟩
  rcases own_cases n L z K h0 with ⟨h2, _⟩ | ⟨a, K', rfl, hKK, h2, h3⟩
  · rw [h2] at ht
    subst ht
    exact hno h2
  · obtain rfl : K = K' := by omega
    cases t
    · exact hno ht
    · unfold wrtS at hS'
      rw [hr.1, ht, if_pos rfl] at hS'
      unfold wrtD at hD'
      rw [ht, if_pos rfl] at hD'
      subst hS' hD'
      exact refWrite_yes a K bc Bz ba zs h2 ht (h3.1 ht) hz hzs w hr hP
end

/-- the map behind the first k pages -/
def mkL (xs : List Int) (Z : Nat → Gm.Pl) : Nat → List Gm.Pl
  | 0 => Gm.noP
  | k + 1 => Gm.setL (mkL xs Z k) (xs.getD k 0) (Z k)
def cnt (li lp : Nat) : Nat := min (min li lp) 30

/-- what made makes -/
structure Mk (w0 w : World) (b s m n g bt B q gv cap : Nat) (L : List Gm.Pl) : Prop where
  pv : PV w b s m n Fr.zeros L noD
  dv : DV w g bt B q n gv cap Fr.zeros L noD
  ws : w0.heap.size ≤ s
  mB : m < B
  qb : q < b
  bg : b < g
  blw : Below w0.heap.size w0 w

theorem made_any (x : Nat) (hx : x < 256) (ai ap : Option Addr) (li ci lp cp B0 : Nat) (xs : List Int) (Z : Nat → Gm.Pl) (w : World) (hli : li ≤ 9223372036854775807) (hlp : lp ≤ 9223372036854775807)
    (hi : RowK .i64 w B0 ai li xs) (hp : Gm.PlRow w B0 ap lp Z) (hB0 : B0 ≤ w.heap.size) :
    Calls Try.prog 7 #[.int .u8 x, .slice ai li ci, .slice ap lp cp] w fun e w' => ∃ b s m g bt B q gv cap, e = .returned (.tuple #[.pointer (some ⟨b, 0, none⟩), .pointer (some ⟨g, 0, none⟩)]) ∧ Mk w w' b s m (1 + x % 32) g bt B q gv cap (mkL xs Z (cnt li lp)) := by
  obtain ⟨r, hr⟩ : ∃ r, x % 32 = r := ⟨_, rfl⟩
  rw [hr]
  have hr32 : r < 32 := by omega
  have er : (x : Int) % 32 = (r : Int) := by omega
  have hx0 : (0 : Int) ≤ (x : Int) := by omega
  have hx1 : (x : Int) < 256 := by omega
  have HR := Lib.hid hr32
  have HI := Lib.hid hi
  have HP := Lib.hid hp
  have HB0 := Lib.hid hB0
  have HN : Hid (Calls Try.prog 28 #[.int .i64 (1 + (r : Int))] w fun e w' => e = .returned (.tuple #[.pointer (some ⟨w.heap.size, 0, none⟩), .int .i64 0]) ∧ Fr.St w' w.heap.size (1 + r) Fr.zeros ∧ Below w.heap.size w w') := Lib.hid (by
    have := Fr.new_ok (1 + r) w (by omega)
    rwa [show ((1 + r : Nat) : Int) = 1 + (r : Int) by omega] at this)
  have HRN : Hid (∀ W, Calls Try.prog 31 #[.int .i64 (1 + (r : Int))] W fun e w' => e = .returned (.tuple #[.pointer (some ⟨W.heap.size, 0, none⟩), .int .i64 0]) ∧ (∃ v vs, Fr.RT w' W.heap.size W.heap.size (1 + r) (List.replicate (1 + r) Fr.zer) v vs) ∧ Below W.heap.size W w') := Lib.hid fun W => by
    have := Fr.refNew_ok (1 + r) W (by omega)
    rwa [show ((1 + r : Nat) : Int) = 1 + (r : Int) by omega] at this
  clear hr hi hp hB0 hx
  go_enter Try.func7, Try.ntmps7
  go_wp2_with fail
  refine HN.out.mono ?_
  rintro e w1 ⟨rfl, hs1, hb1⟩
  have HS1 := Lib.hid hs1
  have HB1 := Lib.hid hb1
  clear hs1 hb1 HN
  go_wp2_with fail
  refine (Gm.new_any w1).mono ?_
  rintro e w2 ⟨rfl, hm2, hb2⟩
  have HS2 := Lib.hid (HS1.out.below hb2 HS1.out.lt)
  have HM2 := Lib.hid hm2
  have HB2 := Lib.hid (HB1.out.trans (hb2.mono HB1.out.size))
  have HSM := Lib.hid HS1.out.lt
  clear hm2 hb2 HS1 HB1
  generalize w1.heap.size = m at HM2 HSM ⊢
  go_wp2_with fail
  refine (HRN.out w2).mono ?_
  rintro e w3 ⟨rfl, ⟨tv, tvs, ht3⟩, hb3⟩
  obtain ⟨gv, cap, rfl, hgB, _⟩ := ht3.form (by omega)
  have HT3 := Lib.hid ht3
  have HS3 := Lib.hid (HS2.out.below hb3 HS2.out.lt)
  have HM3 := Lib.hid (HM2.out.below hb3 HM2.out.lt)
  have HB3 := Lib.hid (HB2.out.trans (hb3.mono HB2.out.size))
  have HMB := Lib.hid HM2.out.lt
  clear hb3 ht3 hgB HS2 HM2 HB2 HRN
  generalize w2.heap.size = B at HT3 HMB ⊢
  go_upto_region 5 with fail
  refine wp_region_lit ?_
  refine wpList_buildTo rfl 76 _ rfl _ rfl (Gm.rCells Gm.noP).toArray (by kernel_rfl) ?_
  refine Great.wpList_boxTo rfl 76 _ rfl _ rfl w3.heap.size rfl (Gm.rCells Gm.noP).toArray rfl ?_
  have HA := (Below.refl w3.heap.size w3).alloc (Nat.le_refl _) (.cells (Gm.rCells Gm.noP).toArray 76)
  have HR4 : Hid (Gm.RAt (w3.alloc (.cells (Gm.rCells Gm.noP).toArray 76)) w3.heap.size Gm.noP) := Lib.hid ⟨Blk.new w3 _ _, Gm.noP_ok⟩
  have HT4 := Lib.hid (HT3.out.below HA)
  have HS4 := Lib.hid (HS3.out.below HA HS3.out.lt)
  have HM4 := Lib.hid (HM3.out.below HA HM3.out.lt)
  have HB4 := Lib.hid (HB3.out.trans (HA.mono HB3.out.size))
  have HQ := Lib.hid (show B < w3.heap.size from HT3.out.lt)
  generalize w3.alloc (.cells (Gm.rCells Gm.noP).toArray 76) = w4 at HR4 HT4 HS4 HM4 HB4 ⊢
  generalize w3.heap.size = q at HR4 HQ ⊢
  clear HA HT3 HS3 HM3 HB3 er
  simp only [Act.put, List.setIfInBounds_toArray, List.set_cons_succ, List.set_cons_zero]
  go_wp2
  go_loopw [15] (fun j wr => ∃ k : Nat, k ≤ li ∧ k ≤ lp ∧ k ≤ 30 ∧ j = .int .i64 k ∧ Hid (Gm.MAt wr m (mkL xs Z k)) ∧ Hid (Gm.RAt wr q (mkL xs Z k)) ∧ Hid (Kq [m, q] w4 wr)) (fun j _ => 30 - (intOf j).toNat)
  case atStart => exact ⟨0, Nat.zero_le _, Nat.zero_le _, Nat.zero_le _, rfl, HM4, HR4, Kq.refl _ _⟩
  case round =>
    obtain ⟨k, hk1, hk2, hk3, rfl, HM, HRQ, HK⟩ := hrel
    have hTq : ∀ y ∈ [m, q], w.heap.size ≤ y := fun y hy => by
      have h1 := HSM.out
      have h2 := HMB.out
      have h3 := HQ.out
      rcases List.mem_cons.1 hy with rfl | hy
      · omega
      · have e : y = q := (by simpa using hy)
        omega
    by_cases hin : k < li ∧ k < lp ∧ k < 30
    · obtain ⟨h1, h2, h3⟩ := hin
      obtain ⟨xi, rfl, hxb, hxc⟩ := HI.out.2 k h1
      obtain ⟨v, rfl, hvb, hvc⟩ := HP.out k h2
      have hbw : Below w.heap.size w wr := HB4.out.trans (HK.out.under hTq (HB4.out.size))
      have hb0 := HB0.out
      have HBW : Hid (Below B0 w wr) := Lib.hid (hbw.mono hb0)
      have c1 := (HBW.out.cell (show (xi.add k).block < B0 by rw [block_of_add]; exact hxb)).trans hxc
      obtain ⟨d0, d1⟩ := Gm.pl_cells HBW.out hvb hvc
      have HC1 := Lib.hid (And.intro (show (xi.add k).block < B0 by rw [block_of_add]; exact hxb) hxc)
      have HC2 := Lib.hid (And.intro hvb hvc)
      have HLL : Hid (mkL xs Z (k + 1) = Gm.setL (mkL xs Z k) (xs.getD k 0) (Z k)) := Lib.hid rfl
      obtain ⟨L2, hl2⟩ : ∃ L2, Gm.setL (mkL xs Z k) (xs.getD k 0) (Z k) = L2 := ⟨_, rfl⟩
      obtain ⟨ez, hez⟩ : ∃ ez, Gm.setE (mkL xs Z k) (xs.getD k 0) (Z k) = ez := ⟨_, rfl⟩
      have HPM := Lib.hid (fun W h => Gm.set_any m (mkL xs Z k) L2 (xs.getD k 0) ez (Z k) hez hl2 W h)
      have HPR := Lib.hid (fun W h => Gm.refSet_any q (mkL xs Z k) L2 (xs.getD k 0) ez (Z k) hez hl2 W h)
      rw [hl2] at HLL
      have H3 := Lib.hid (And.intro h1 (And.intro h2 h3))
      have f0 : (k : Int) < (li : Int) := by omega
      have f1 : (k : Int) < (lp : Int) := by omega
      have f2 : (k : Int) < 30 := by omega
      clear hl2 hez hxb hxc hvb hvc hbw hb0 hk1 hk2 hk3 h1 h2 h3
      generalize xs.getD k 0 = i at c1 HC1 HPM HPR
      generalize Z k = u at d0 d1 HC2 HPM HPR
      generalize mkL xs Z k = L1 at HM HRQ HPM HPR
      obtain ⟨pf, pr⟩ := u
      dsimp only at d0 d1
      have HTQ := Lib.hid hTq
      clear hTq
      go_upto_region 9 with fail
      go_still_tail 9, (by kernel_rfl)
      change wpList _ _ _ _ _ wr.drew
      have HM2' : Hid (Gm.MAt wr.drew m L1) := Lib.hid (HM.out.more (Below.refl _ _).drew)
      have HK2' : Hid (Kq [m, q] w4 wr.drew) := Lib.hid (HK.out.trans (Kq.of_below (Below.refl _ _).drew))
      have HR2' : Hid (Gm.RAt wr.drew q L1) := Lib.hid (HRQ.out.more (Below.refl _ _).drew)
      clear c1 d0 d1 HM HK HRQ
      generalize wr.drew = V1 at HM2' HK2' HR2' ⊢
      go_wp2_with fail
      refine (HPM.out V1 HM2'.out).mono ?_
      rintro e V2 ⟨rfl, hm, hg⟩
      have HMQ := Lib.hid (Nat.lt_trans HMB.out HQ.out)
      have HM3' := Lib.hid hm
      have HR3' := Lib.hid (HR2'.out.kept hg (fun e => by have := HMQ.out; injection e; omega))
      have HK3' : Hid (Kq [m, q] w4 V2) := Lib.hid (HK2'.out.trans (Kq.of_grown hg (by simp)))
      have hbw2 : Below w.heap.size w V2 := HB4.out.trans (HK3'.out.under HTQ.out HB4.out.size)
      have hb0 := HB0.out
      have c1 := ((hbw2.mono hb0).cell HC1.out.1).trans HC1.out.2
      obtain ⟨d0, d1⟩ := Gm.pl_cells (p := (pf, pr)) (hbw2.mono hb0) HC2.out.1 HC2.out.2
      dsimp only at d0 d1
      clear hm hg HM2' HR2' HK2' hbw2 hb0 HPM
      go_upto_region 10 with fail
      go_still_tail 9, (by kernel_rfl)
      change wpList _ _ _ _ _ V2.drew
      have HM4' : Hid (Gm.MAt V2.drew m L2) := Lib.hid (HM3'.out.more (Below.refl _ _).drew)
      have HK4' : Hid (Kq [m, q] w4 V2.drew) := Lib.hid (HK3'.out.trans (Kq.of_below (Below.refl _ _).drew))
      have HR4' : Hid (Gm.RAt V2.drew q L1) := Lib.hid (HR3'.out.more (Below.refl _ _).drew)
      clear c1 d0 d1 HM3' HR3' HK3'
      generalize V2.drew = V3 at HM4' HK4' HR4' ⊢
      go_wp2_with fail
      refine (HPR.out V3 HR4'.out).mono ?_
      rintro e V4 ⟨rfl, hr5, hg⟩
      have HM5 := Lib.hid (HM4'.out.kept hg (fun e => by have := HMQ.out; injection e; omega))
      have HR5 := Lib.hid hr5
      have HK5 : Hid (Kq [m, q] w4 V4) := Lib.hid (HK4'.out.trans (Kq.of_grown hg (by simp)))
      clear hr5 hg HM4' HR4' HK4' HPR
      rw [← HLL.out] at HM5 HR5
      go_wp2
      go_roundw
      case rel => exact ⟨k + 1, H3.out.1, H3.out.2.1, H3.out.2.2, by go_num, HM5, HR5, HK5⟩
      case measure => have := H3.out; simp [intOf]; omega
    · have hc : k = cnt li lp := by unfold cnt; omega
      have hm0 := HM.out
      have hq0 := HRQ.out
      rw [hc] at hm0 hq0
      have hns : w.heap.size ∉ [m, q] := by
        have h1 := HSM.out
        have h2 := HMB.out
        have h3 := HQ.out
        simp
        omega
      have hst : Fr.St wr w.heap.size (1 + r) Fr.zeros := HS4.out.of_block (HK.out.block _ HS4.out.lt hns)
      have hrt := rt_kq HT4.out (by omega) HK.out (fun y hy => by
        have h2 := HMB.out
        rcases List.mem_cons.1 hy with rfl | hy
        · exact .inl h2
        · have e : y = q := (by simpa using hy)
          rw [e]
          exact .inr (.inr (RAt_c0 HR4.out)))
      have hbw : Below w.heap.size w wr := HB4.out.trans (HK.out.under hTq HB4.out.size)
      have HM6 := Lib.hid hm0
      have HR6 := Lib.hid hq0
      have HS6 := Lib.hid hst
      have HT6 := Lib.hid hrt
      have HB6 := Lib.hid hbw
      have HNEW := Lib.hid (new_ok w.heap.size m (1 + r) Fr.zeros (mkL xs Z (cnt li lp)) wr hst (by omega) hm0 HSM.out)
      have hout : (¬ (k : Int) < (li : Int)) ∨ ((k : Int) < (li : Int) ∧ ¬ (k : Int) < (lp : Int)) ∨ ((k : Int) < (li : Int) ∧ (k : Int) < (lp : Int) ∧ ¬ (k : Int) < 30) := by omega
      clear hm0 hq0 hst hrt hbw hns hin hTq HM HRQ HS4 HM4 HR4 HT4 HK HI HP hc hk1 hk2 hk3
      rcases hout with f1 | ⟨f1, f2⟩ | ⟨f1, f2, f3⟩
      all_goals
        go_wp2_with fail
        refine HNEW.out.mono ?_
        rintro e w7 ⟨rfl, hp7, hb7⟩
        have HP7 := Lib.hid hp7
        have HR7 := Lib.hid (HR6.out.more hb7)
        have HT7 := Lib.hid (HT6.out.below hb7)
        have HB7 := Lib.hid (HB6.out.trans (hb7.mono HB6.out.size))
        have HQL := Lib.hid HR6.out.lt
        have HBL := Lib.hid (show wr.heap.size < w7.heap.size from hp7.lt)
        clear hp7 hb7
        generalize wr.heap.size = b at HP7 HQL HBL ⊢
        go_upto_region 14 with fail
        refine wp_region_lit ?_
        refine Great.wpList_readTo rfl _ rfl (.pointer (some ⟨b, 0, none⟩)) (by kernel_rfl) ?_
        refine Great.wpList_readTo rfl _ rfl (.pointer (some ⟨B, 0, none⟩)) (by kernel_rfl) ?_
        refine Great.wpList_readTo rfl _ rfl (.pointer (some ⟨q, 0, none⟩)) (by kernel_rfl) ?_
        refine wpList_buildTo rfl 80 _ rfl _ rfl (vCells B q noD).toArray (by kernel_rfl) ?_
        refine Great.wpList_boxTo rfl 80 _ rfl _ rfl w7.heap.size rfl (vCells B q noD).toArray rfl ?_
        have HA := (Below.refl w7.heap.size w7).alloc (Nat.le_refl _) (.cells (vCells B q noD).toArray 80)
        have HPF := Lib.hid (HP7.out.more HA)
        have HDF : Hid (DV (w7.alloc (.cells (vCells B q noD).toArray 80)) w7.heap.size B B q (1 + r) gv cap Fr.zeros (mkL xs Z (cnt li lp)) noD) := Lib.hid ⟨Blk.new w7 _ _, ⟨tvs, by rw [Fr.fr_zeros _ (by have := HR.out; omega)]; exact HT7.out.below HA⟩, HR7.out.more HA, rfl, by omega, Fr.zeros_len, Fr.zeros_bytes, by have := HR.out; omega, by have := HQ.out; omega, by have := HQL.out; have := HBL.out; omega⟩
        have HBF := Lib.hid (HB7.out.trans (HA.mono HB7.out.size))
        generalize w7.alloc (.cells (vCells B q noD).toArray 80) = w8 at HPF HDF HBF ⊢
        generalize w7.heap.size = gg at HDF HBL ⊢
        clear HA
        go_wp2
        go_ret2
        exact ⟨b, w.heap.size, m, gg, B, B, q, gv, cap, rfl, HPF.out, HDF.out, Nat.le_refl _, HMB.out, HQL.out, HBL.out, HBF.out⟩
end Go.Proofs.Ytlgohgjnocoadaa.Vw
