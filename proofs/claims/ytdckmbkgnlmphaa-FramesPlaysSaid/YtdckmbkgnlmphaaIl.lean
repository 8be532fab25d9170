/- The walk of hermitagelaw06.FramesPlays. -/
import Derived.Test.YtdckmbkgnlmphaaIk
import Derived.StillTailTactics
import Derived.Deep.DeepCutAuto
import Derived.Deep.CutBlock
namespace Go.Proofs.Ytdckmbkgnlmphaa.Fr
open Go.RowKit Ut Oc
set_option linter.unusedVariables false

theorem RT.low {w : World} {bt B B' n : Nat} {R : List (List Int)} {v : Value} {vs : List Value} (h : RT w bt B n R v vs) (hB : B' ≤ B) : RT w bt B' n R v vs where
  box := h.box
  lo := Nat.le_trans hB h.lo
  own := ⟨h.own.1, by
    rcases h.own.2 with h0 | ⟨g, cap, cur, e, hB2, r⟩
    · exact .inl h0
    · exact .inr ⟨g, cap, cur, e, Nat.le_trans hB hB2, r⟩⟩
  len := h.len
  rows := fun i hi => by
    obtain ⟨g, c, e, h1, h2⟩ := h.rows i hi
    exact ⟨g, c, e, Nat.le_trans hB h1, h2⟩
  bytes := h.bytes
  nil0 := h.nil0

/-- both stores, in a region whose two acts may be done or not yet -/
def JR (V : World) (B0 b bt n : Nat) (La Lb : List Int) (pa pb : Bool) (W : World) : Prop :=
  Below B0 V W ∧ St W b n (if pa = true then Lb else La) ∧ RF W bt (b + 1) n (if pb = true then Lb else La) ∧ B0 ≤ b ∧ b + 1 ≤ W.heap.size
theorem JR.actP {V W W' : World} {B0 b bt n : Nat} {La Lb : List Int} {pb : Bool} (h : JR V B0 b bt n La Lb false pb W) (hS : St W' b n Lb) (hg : W.grownBy W' (some b)) : JR V B0 b bt n La Lb true pb W' :=
  ⟨below_grown h.1 hg (by have := h.2.2.2; omega) h.2.2.2.1, hS, h.2.2.1.kept hg (fun k hk => by injection hk with e; omega), h.2.2.2.1, Nat.le_trans h.2.2.2.2 hg.size⟩
theorem JR.actR {V W W' : World} {B0 b bt n : Nat} {La Lb : List Int} {pa : Bool} (h : JR V B0 b bt n La Lb pa false W) (hR : RF W' bt (b + 1) n Lb) (hb : Below (b + 1) W W') : JR V B0 b bt n La Lb pa true W' :=
  ⟨h.1.trans (hb.mono (by have := h.2.2.2.1; omega)), h.2.1.below hb (Nat.lt_succ_self b), hR, h.2.2.2.1, Nat.le_trans h.2.2.2.2 hb.size⟩

set_option maxHeartbeats 20000000 in
set_option maxRecDepth 100000 in
theorem plays_any (n : Int) (a1 a2 a3 a4 a5 : Option Addr) (n1 c1 n2 c2 n3 c3 n4 c4 n5 c5 : Nat) (z1 z2 z3 z4 z5 : List Int) (w : World) (hn0 : -9223372036854775808 ≤ n) (hn1 : n < 9223372036854775808)
    (h1 : RowK .u8 w w.heap.size a1 n1 z1) (h2 : RowK .i64 w w.heap.size a2 n2 z2) (h3 : RowK .i64 w w.heap.size a3 n3 z3) (h4 : RowK .i64 w w.heap.size a4 n4 z4) (h5 : RowK .u32 w w.heap.size a5 n5 z5)
    (l1 : n1 ≤ 9223372036854775807) (l2 : n2 ≤ 9223372036854775807) (l3 : n3 ≤ 9223372036854775807) (l4 : n4 ≤ 9223372036854775807) (l5 : n5 ≤ 9223372036854775807)
    (b1 : ∀ z ∈ z1, 0 ≤ z ∧ z < 256) (b5 : ∀ z ∈ z5, 0 ≤ z ∧ z < 4294967296) :
    Calls Try.prog 3 #[.int .i64 n, .slice a1 n1 c1, .slice a2 n2 c2, .slice a3 n3 c3, .slice a4 n4 c4, .slice a5 n5 c5] w fun e w' => e = .returned (.bool true) ∧ Below w.heap.size w w' := by
  have H1 := Lib.hid h1
  have H2 := Lib.hid h2
  have H3 := Lib.hid h3
  have H4 := Lib.hid h4
  have H5 := Lib.hid h5
  have HZ1 := Lib.hid b1
  have HZ5 := Lib.hid b5
  clear h1 h2 h3 h4 h5 b1 b5
  go_enter Try.func3, Try.ntmps3
  go_wp2_with fail
  by_cases hbad : n < 0 ∨ 32 < n
  · as_aux_lemma =>
      refine (new_bad n w hbad).mono ?_
      rintro e w1 ⟨rfl, rfl⟩
      go_wp2_with fail
      refine (refNew_bad n w hbad).mono ?_
      rintro e w1 ⟨rfl, rfl⟩
      clear hbad
      go_wp2_with fail
      refine (awake_any w).mono ?_
      rintro e w1 ⟨rfl, hb⟩
      have HB := Lib.hid hb
      clear hb
      go_wp2
      go_ret
      exact ⟨rfl, HB.out⟩
  · obtain ⟨N, rfl⟩ := Int.eq_ofNat_of_zero_le (show 0 ≤ n by omega)
    have hN : N ≤ 32 := by omega
    have HN := Lib.hid hN
    clear hbad
    refine (new_ok N w hN).mono ?_
    rintro e w1 ⟨rfl, hS, hB⟩
    have HS := Lib.hid hS
    have HB := Lib.hid hB
    clear hS hB
    go_wp2_with fail
    refine (refNew_ok N w1 hN).mono ?_
    rintro e w2 ⟨rfl, ⟨v0, vs0, hT⟩, hB2⟩
    have hsl := HS.out.lt
    have HT : Hid (RF w2 w1.heap.size (w.heap.size + 1) N zeros) := ⟨v0, vs0, by rw [fr_zeros N hN]; exact hT.low hsl⟩
    have HS2 := Lib.hid (HS.out.below hB2 hsl)
    have HB2 := Lib.hid (HB.out.trans (hB2.mono HB.out.size))
    generalize w1.heap.size = bt at HT ⊢
    clear hT hB2 HS HB hsl hN
    go_upto_block 0 with fail
    go_cut [17] (fun _ wx => Hid (Below w.heap.size w wx))
    case first =>
      go_wp2
      go_loopw [17] (fun j wr => ∃ (k : Nat) (L : List Int), k ≤ 60 ∧ j = .int .i64 k ∧ Hid (St wr w.heap.size N L) ∧ Hid (RF wr bt (w.heap.size + 1) N L) ∧ Hid (Below w.heap.size w wr)) (fun j _ => 60 - (intOf j).toNat)
      case atStart => exact ⟨0, _, Nat.zero_le _, rfl, HS2, HT, HB2⟩
      case round =>
        clear HS2 HT HB2
        obtain ⟨k, Lq, hk, rfl, HS, HR, HB⟩ := hrel
        by_cases k1 : k < n1
        · by_cases k2 : k < n2
          · by_cases k3 : k < n3
            · by_cases k4 : k < n4
              · by_cases k5 : k < n5
                · by_cases k6 : k < 60
                  · obtain ⟨x1, rfl, p1, t1⟩ := H1.out.2 k k1
                    obtain ⟨x2, rfl, p2, t2⟩ := H2.out.2 k k2
                    obtain ⟨x3, rfl, p3, t3⟩ := H3.out.2 k k3
                    obtain ⟨x4, rfl, p4, t4⟩ := H4.out.2 k k4
                    obtain ⟨x5, rfl, p5, t5⟩ := H5.out.2 k k5
                    have hy1 := HZ1.out (z1.getD k 0) (by have h := H1.out.1; simp only [List.getD, List.getElem?_eq_getElem (show k < z1.length by omega), Option.getD_some]; exact List.getElem_mem _)
                    have hy5 := HZ5.out (z5.getD k 0) (by have h := H5.out.1; simp only [List.getD, List.getElem?_eq_getElem (show k < z5.length by omega), Option.getD_some]; exact List.getElem_mem _)
                    generalize z1.getD k 0 = y1 at t1 hy1
                    generalize z2.getD k 0 = y2 at t2
                    generalize z3.getD k 0 = y3 at t3
                    generalize z4.getD k 0 = y4 at t4
                    generalize z5.getD k 0 = y5 at t5 hy5
                    rw [← block_of_add x1 k] at p1
                    have q1 := (HB.out.cell p1).trans t1
                    have T1 := Lib.hid t1
                    clear t1
                    rw [← block_of_add x2 k] at p2
                    have q2 := (HB.out.cell p2).trans t2
                    have T2 := Lib.hid t2
                    clear t2
                    rw [← block_of_add x3 k] at p3
                    have q3 := (HB.out.cell p3).trans t3
                    have T3 := Lib.hid t3
                    clear t3
                    rw [← block_of_add x4 k] at p4
                    have q4 := (HB.out.cell p4).trans t4
                    have T4 := Lib.hid t4
                    clear t4
                    rw [← block_of_add x5 k] at p5
                    have q5 := (HB.out.cell p5).trans t5
                    have T5 := Lib.hid t5
                    clear t5
                    have d1 : (0 : Int) ≤ (k : Int) ∧ (k : Int) < (n1 : Int) := by omega
                    have d2 : (0 : Int) ≤ (k : Int) ∧ (k : Int) < (n2 : Int) := by omega
                    have d3 : (0 : Int) ≤ (k : Int) ∧ (k : Int) < (n3 : Int) := by omega
                    have d4 : (0 : Int) ≤ (k : Int) ∧ (k : Int) < (n4 : Int) := by omega
                    have d5 : (0 : Int) ≤ (k : Int) ∧ (k : Int) < (n5 : Int) := by omega
                    have d6 : (k : Int) < 60 := by omega
                    by_cases hkind : y1 % 5 = 4
                    · as_aux_lemma =>
                        have g4 : (y1 % 5 == 4) = true := by simpa using hkind
                        obtain ⟨zz, Lr, hP, hA, hLr1, hLr2⟩ := clear_both w.heap.size bt (w.heap.size + 1) N y2 Lq HS.out.2.1 HS.out.2.2.1 HN.out
                        have HP := Lib.hid hP
                        have HA := Lib.hid hA
                        have HJ : Hid (JR wr w.heap.size w.heap.size bt N Lq Lr false false wr.drew) := ⟨(Below.refl _ _).drew, HS.out.of_block rfl, HR.out.below (Below.refl _ _).drew, Nat.le_refl _, HS.out.lt⟩
                        clear hP hA hkind
                        go_upto_region 11 with fail
                        apply wp_region_autoL [89, 90, 91, 92, 93, 94, 95, 96, 97, 98, 99, 100] [_, _, _, _, _, _, _, _, _, _, _, _] (fun L W' => JR wr w.heap.size w.heap.size bt N Lq Lr (L 5) (L 11) W')
                        case hm => kernel_rfl
                        case hT => intro y; simp only [setAll, List.setIfInBounds_toArray, List.set_cons_succ, List.set_cons_zero]; exact rfl
                        case hok => kernel_rfl
                        case hn => decide
                        case hw => exact fun L hL => (by simp only [hL 5 (by decide), hL 11 (by decide)]; exact HJ.out)
                        case hs =>
                          refine autoL_op 89 [] (by kernel_rfl) (fun L y w' hL HW hd K hK => ?_) ?_
                          · go_simp
                            refine hK _ _ ?_ ?_ HW
                            · simp [upd]
                            · exact rfl
                          refine autoL_op 90 [] (by kernel_rfl) (fun L y w' hL HW hd K hK => ?_) ?_
                          · go_simp
                            refine hK _ _ ?_ ?_ HW
                            · simp [upd]
                            · exact rfl
                          refine autoL_op 91 [] (by kernel_rfl) (fun L y w' hL HW hd K hK => ?_) ?_
                          · go_simp
                            refine hK _ _ ?_ ?_ HW
                            · simp [upd]
                            · exact rfl
                          refine autoL_op 92 [1, 2] (by kernel_rfl) (fun L y w' hL HW hd K hK => ?_) ?_
                          · have e1 := hd_nth (hd 1 (by simp)) rfl
                            have e2 := hd_nth (hd 2 (by simp)) rfl
                            go_simp
                            refine hK _ _ ?_ ?_ HW
                            · simp [upd, e1, e2]
                            · exact rfl
                          refine autoL_op 93 [3] (by kernel_rfl) (fun L y w' hL HW hd K hK => ?_) ?_
                          · have e3 := hd_nth (hd 3 (by simp)) rfl
                            have hcl : ∀ p : Addr, p.block < w.heap.size → w'.cell? p = wr.cell? p := fun p hp => HW.1.cell hp
                            go_simp
                            refine hK _ _ ?_ ?_ HW
                            · simp [upd, e3]
                            · exact rfl
                          refine autoL_op 94 [0, 4] (by kernel_rfl) (fun L y w' hL HW hd K hK => ?_) ?_
                          · have e0 := hd_nth (hd 0 (by simp)) rfl
                            have e4 := hd_nth (hd 4 (by simp)) rfl
                            go_simp
                            have HW0 : JR wr w.heap.size w.heap.size bt N Lq Lr false (L 11) w' := by have h := HW; simp only [hL] at h; exact h
                            refine (HP.out _ HW0.2.1).mono ?_
                            rintro e w3 ⟨rfl, hS3, hg3⟩
                            refine hK _ _ ?_ ?_ (HW0.actP hS3 hg3)
                            · simp [upd, e0, e4]
                            · exact rfl
                          refine autoL_op 95 [] (by kernel_rfl) (fun L y w' hL HW hd K hK => ?_) ?_
                          · go_simp
                            refine hK _ _ ?_ ?_ HW
                            · simp [upd]
                            · exact rfl
                          refine autoL_op 96 [] (by kernel_rfl) (fun L y w' hL HW hd K hK => ?_) ?_
                          · go_simp
                            refine hK _ _ ?_ ?_ HW
                            · simp [upd]
                            · exact rfl
                          refine autoL_op 97 [] (by kernel_rfl) (fun L y w' hL HW hd K hK => ?_) ?_
                          · go_simp
                            refine hK _ _ ?_ ?_ HW
                            · simp [upd]
                            · exact rfl
                          refine autoL_op 98 [7, 8] (by kernel_rfl) (fun L y w' hL HW hd K hK => ?_) ?_
                          · have e7 := hd_nth (hd 7 (by simp)) rfl
                            have e8 := hd_nth (hd 8 (by simp)) rfl
                            go_simp
                            refine hK _ _ ?_ ?_ HW
                            · simp [upd, e7, e8]
                            · exact rfl
                          refine autoL_op 99 [9] (by kernel_rfl) (fun L y w' hL HW hd K hK => ?_) ?_
                          · have e9 := hd_nth (hd 9 (by simp)) rfl
                            have hcl : ∀ p : Addr, p.block < w.heap.size → w'.cell? p = wr.cell? p := fun p hp => HW.1.cell hp
                            go_simp
                            refine hK _ _ ?_ ?_ HW
                            · simp [upd, e9]
                            · exact rfl
                          refine autoL_op 100 [6, 10, 5] (by kernel_rfl) (fun L y w' hL HW hd K hK => ?_) ?_
                          · have e5 := hd_nth (hd 5 (by simp)) rfl
                            have e6 := hd_nth (hd 6 (by simp)) rfl
                            have e10 := hd_nth (hd 10 (by simp)) rfl
                            go_simp
                            have HW0 : JR wr w.heap.size w.heap.size bt N Lq Lr (L 5) false w' := by have h := HW; simp only [hL] at h; exact h
                            refine (HA.out _ HW0.2.2.1 HW0.2.2.2.2).mono ?_
                            rintro e w3 ⟨rfl, hR3, hb3⟩
                            refine hK _ _ ?_ ?_ (HW0.actR hR3 hb3)
                            · simp [upd, e5, e6, e10]
                            · exact rfl
                          refine autoL_last fun L y w' hLs HW hd K hK => ?_
                          have e0 := hd_nth (hd 0 (by omega)) rfl
                          have e1 := hd_nth (hd 1 (by omega)) rfl
                          have e2 := hd_nth (hd 2 (by omega)) rfl
                          have e3 := hd_nth (hd 3 (by omega)) rfl
                          have e4 := hd_nth (hd 4 (by omega)) rfl
                          have e5 := hd_nth (hd 5 (by omega)) rfl
                          have e6 := hd_nth (hd 6 (by omega)) rfl
                          have e7 := hd_nth (hd 7 (by omega)) rfl
                          have e8 := hd_nth (hd 8 (by omega)) rfl
                          have e9 := hd_nth (hd 9 (by omega)) rfl
                          have e10 := hd_nth (hd 10 (by omega)) rfl
                          have e11 := hd_nth (hd 11 (by omega)) rfl
                          have HWF := Lib.hid (show JR wr w.heap.size w.heap.size bt N Lq Lr true true w' by have h := HW; simp only [hLs 5 (by omega), hLs 11 (by omega)] at h; exact h)
                          go_simp
                          refine hK _ _ ?_
                          clear hd hK K e0 e1 e2 e3 e4 e5 e6 e7 e8 e9 e10 e11
                          have HBV := Lib.hid (HB.out.trans HWF.out.1)
                          have HSV : Hid (St w' w.heap.size N Lr) := HWF.out.2.1
                          have HRV : Hid (RF w' bt (w.heap.size + 1) N Lr) := HWF.out.2.2.1
                          have r2 := (HWF.out.1.cell p2).trans q2
                          have r3 := (HWF.out.1.cell p3).trans q3
                          have r4 := (HWF.out.1.cell p4).trans q4
                          clear q1 q2 q3 q4 q5 HW HWF HP HA HJ HS HR HB
                          rename World => V1
                          obtain ⟨lu, lz, hlp, hlr⟩ := load_both w.heap.size bt (w.heap.size + 1) N y2 y3 y4 Lr HN.out
                          obtain ⟨bq, bxs, bz, hbl, hbq, hbp, hbr⟩ := bytes_both w.heap.size bt (w.heap.size + 1) N y2 Lr HSV.out.2.1 HN.out
                          obtain ⟨cr, hcp, hcr⟩ := clean_both w.heap.size bt (w.heap.size + 1) N y2 Lr HN.out
                          have HLP := Lib.hid hlp
                          have HLR := Lib.hid hlr
                          have HBP := Lib.hid hbp
                          have HBR := Lib.hid hbr
                          have HCP := Lib.hid hcp
                          have HCR := Lib.hid hcr
                          have s2 : (x2.add k).block < V1.heap.size := Nat.lt_of_lt_of_le p2 HBV.out.size
                          have s3 : (x3.add k).block < V1.heap.size := Nat.lt_of_lt_of_le p3 HBV.out.size
                          have s4 : (x4.add k).block < V1.heap.size := Nat.lt_of_lt_of_le p4 HBV.out.size
                          clear hlp hlr hbp hbr hcp hcr
                          as_aux_lemma =>
                            go_upto_region 15 with fail
                            apply wp_region_auto [140, 141, 142, 143, 144, 145, 146, 147, 148, 149, 150, 151, 152, 153, 139, 154, 155, 18] [_, _, _, _, _, _, _, _, _, _, _, _, _, _, _, _, _, _] (fun W' => Below V1.heap.size V1 W')
                            case hm => kernel_rfl
                            case hT => intro y; simp only [setAll, List.setIfInBounds_toArray, List.set_cons_succ, List.set_cons_zero]; exact rfl
                            case hok => kernel_rfl
                            case hn => decide
                            case hw => exact (Below.refl _ _).drew
                            case hs =>
                              refine auto_op 140 [] (by kernel_rfl) (fun y w' HW hd K hK => ?_) ?_
                              · go_simp
                                refine hK _ _ ?_ ?_ HW
                                · simp [upd]
                                · exact rfl
                              refine auto_op 141 [] (by kernel_rfl) (fun y w' HW hd K hK => ?_) ?_
                              · go_simp
                                refine hK _ _ ?_ ?_ HW
                                · simp [upd]
                                · exact rfl
                              refine auto_op 142 [] (by kernel_rfl) (fun y w' HW hd K hK => ?_) ?_
                              · go_simp
                                refine hK _ _ ?_ ?_ HW
                                · simp [upd]
                                · exact rfl
                              refine auto_op 143 [1, 2] (by kernel_rfl) (fun y w' HW hd K hK => ?_) ?_
                              · have e1 := hd_nth (hd 1 (by simp)) rfl
                                have e2 := hd_nth (hd 2 (by simp)) rfl
                                go_simp
                                refine hK _ _ ?_ ?_ HW
                                · simp [upd, e1, e2]
                                · exact rfl
                              refine auto_op 144 [3] (by kernel_rfl) (fun y w' HW hd K hK => ?_) ?_
                              · have e3 := hd_nth (hd 3 (by simp)) rfl
                                have hcl : ∀ p : Addr, p.block < V1.heap.size → w'.cell? p = V1.cell? p := fun p hp => HW.cell hp
                                go_simp
                                refine hK _ _ ?_ ?_ HW
                                · simp [upd, e3]
                                · exact rfl
                              refine auto_op 145 [] (by kernel_rfl) (fun y w' HW hd K hK => ?_) ?_
                              · go_simp
                                refine hK _ _ ?_ ?_ HW
                                · simp [upd]
                                · exact rfl
                              refine auto_op 146 [] (by kernel_rfl) (fun y w' HW hd K hK => ?_) ?_
                              · go_simp
                                refine hK _ _ ?_ ?_ HW
                                · simp [upd]
                                · exact rfl
                              refine auto_op 147 [5, 6] (by kernel_rfl) (fun y w' HW hd K hK => ?_) ?_
                              · have e5 := hd_nth (hd 5 (by simp)) rfl
                                have e6 := hd_nth (hd 6 (by simp)) rfl
                                go_simp
                                refine hK _ _ ?_ ?_ HW
                                · simp [upd, e5, e6]
                                · exact rfl
                              refine auto_op 148 [7] (by kernel_rfl) (fun y w' HW hd K hK => ?_) ?_
                              · have e7 := hd_nth (hd 7 (by simp)) rfl
                                have hcl : ∀ p : Addr, p.block < V1.heap.size → w'.cell? p = V1.cell? p := fun p hp => HW.cell hp
                                go_simp
                                refine hK _ _ ?_ ?_ HW
                                · simp [upd, e7]
                                · exact rfl
                              refine auto_op 149 [] (by kernel_rfl) (fun y w' HW hd K hK => ?_) ?_
                              · go_simp
                                refine hK _ _ ?_ ?_ HW
                                · simp [upd]
                                · exact rfl
                              refine auto_op 150 [] (by kernel_rfl) (fun y w' HW hd K hK => ?_) ?_
                              · go_simp
                                refine hK _ _ ?_ ?_ HW
                                · simp [upd]
                                · exact rfl
                              refine auto_op 151 [9, 10] (by kernel_rfl) (fun y w' HW hd K hK => ?_) ?_
                              · have e9 := hd_nth (hd 9 (by simp)) rfl
                                have e10 := hd_nth (hd 10 (by simp)) rfl
                                go_simp
                                refine hK _ _ ?_ ?_ HW
                                · simp [upd, e9, e10]
                                · exact rfl
                              refine auto_op 152 [11] (by kernel_rfl) (fun y w' HW hd K hK => ?_) ?_
                              · have e11 := hd_nth (hd 11 (by simp)) rfl
                                have hcl : ∀ p : Addr, p.block < V1.heap.size → w'.cell? p = V1.cell? p := fun p hp => HW.cell hp
                                go_simp
                                refine hK _ _ ?_ ?_ HW
                                · simp [upd, e11]
                                · exact rfl
                              refine auto_op 153 [0, 4, 8, 12] (by kernel_rfl) (fun y w' HW hd K hK => ?_) ?_
                              · have e0 := hd_nth (hd 0 (by simp)) rfl
                                have e4 := hd_nth (hd 4 (by simp)) rfl
                                have e8 := hd_nth (hd 8 (by simp)) rfl
                                have e12 := hd_nth (hd 12 (by simp)) rfl
                                go_simp
                                refine (HLP.out _ (HSV.out.below HW HSV.out.lt)).mono ?_
                                rintro e w3 ⟨rfl, rfl⟩
                                refine hK _ _ ?_ ?_ HW
                                · simp [upd, e0, e4, e8, e12]
                                · exact rfl
                              refine auto_op 139 [13] (by kernel_rfl) (fun y w' HW hd K hK => ?_) ?_
                              · have e13 := hd_nth (hd 13 (by simp)) rfl
                                go_simp
                                refine hK _ _ ?_ ?_ HW
                                · simp [upd, e13]
                                · exact rfl
                              refine auto_op 154 [14] (by kernel_rfl) (fun y w' HW hd K hK => ?_) ?_
                              · have e14 := hd_nth (hd 14 (by simp)) rfl
                                go_simp
                                refine hK _ _ ?_ ?_ HW
                                · simp [upd, e14]
                                · exact rfl
                              refine auto_op 155 [14] (by kernel_rfl) (fun y w' HW hd K hK => ?_) ?_
                              · have e14 := hd_nth (hd 14 (by simp)) rfl
                                go_simp
                                refine hK _ _ ?_ ?_ HW
                                · simp [upd, e14]
                                · exact rfl
                              refine auto_op 18 [15, 13, 0, 1, 2, 3, 4, 5, 6, 7, 8, 9, 10, 11, 12, 13, 14, 15] (by kernel_rfl) (fun y w' HW hd K hK => ?_) ?_
                              · have e0 := hd_nth (hd 0 (by simp)) rfl
                                have e1 := hd_nth (hd 1 (by simp)) rfl
                                have e2 := hd_nth (hd 2 (by simp)) rfl
                                have e3 := hd_nth (hd 3 (by simp)) rfl
                                have e4 := hd_nth (hd 4 (by simp)) rfl
                                have e5 := hd_nth (hd 5 (by simp)) rfl
                                have e6 := hd_nth (hd 6 (by simp)) rfl
                                have e7 := hd_nth (hd 7 (by simp)) rfl
                                have e8 := hd_nth (hd 8 (by simp)) rfl
                                have e9 := hd_nth (hd 9 (by simp)) rfl
                                have e10 := hd_nth (hd 10 (by simp)) rfl
                                have e11 := hd_nth (hd 11 (by simp)) rfl
                                have e12 := hd_nth (hd 12 (by simp)) rfl
                                have e13 := hd_nth (hd 13 (by simp)) rfl
                                have e14 := hd_nth (hd 14 (by simp)) rfl
                                have e15 := hd_nth (hd 15 (by simp)) rfl
                                go_simp
                                refine hK _ _ ?_ ?_ HW
                                · simp [upd, e0, e1, e2, e3, e4, e5, e6, e7, e8, e9, e10, e11, e12, e13, e14, e15]
                                · exact rfl
                              refine auto_last fun y w' HW hd K hK => ?_
                              have e0 := hd_nth (hd 0 (by omega)) rfl
                              have e1 := hd_nth (hd 1 (by omega)) rfl
                              have e2 := hd_nth (hd 2 (by omega)) rfl
                              have e3 := hd_nth (hd 3 (by omega)) rfl
                              have e4 := hd_nth (hd 4 (by omega)) rfl
                              have e5 := hd_nth (hd 5 (by omega)) rfl
                              have e6 := hd_nth (hd 6 (by omega)) rfl
                              have e7 := hd_nth (hd 7 (by omega)) rfl
                              have e8 := hd_nth (hd 8 (by omega)) rfl
                              have e9 := hd_nth (hd 9 (by omega)) rfl
                              have e10 := hd_nth (hd 10 (by omega)) rfl
                              have e11 := hd_nth (hd 11 (by omega)) rfl
                              have e12 := hd_nth (hd 12 (by omega)) rfl
                              have e13 := hd_nth (hd 13 (by omega)) rfl
                              have e14 := hd_nth (hd 14 (by omega)) rfl
                              have e15 := hd_nth (hd 15 (by omega)) rfl
                              have e16 := hd_nth (hd 16 (by omega)) rfl
                              have e17 := hd_nth (hd 17 (by omega)) rfl
                              go_simp
                              refine hK _ _ ?_
                              clear hd hK K e0 e1 e2 e3 e4 e5 e6 e7 e8 e9 e10 e11 e12 e13 e14 e15 e16 e17
                              have HBV2 := Lib.hid (HBV.out.trans (HW.mono HBV.out.size))
                              have HSV2 := Lib.hid (HSV.out.below HW HSV.out.lt)
                              have HRV2 := Lib.hid (HRV.out.below HW)
                              clear r2 r3 r4 s2 s3 s4 HSV HRV HBV HW
                              rename World => V2
                              have r2 := (HBV2.out.cell p2).trans T2.out
                              have r3 := (HBV2.out.cell p3).trans T3.out
                              have r4 := (HBV2.out.cell p4).trans T4.out
                              have s2 : (x2.add k).block < V2.heap.size := Nat.lt_of_lt_of_le p2 HBV2.out.size
                              have s3 : (x3.add k).block < V2.heap.size := Nat.lt_of_lt_of_le p3 HBV2.out.size
                              have s4 : (x4.add k).block < V2.heap.size := Nat.lt_of_lt_of_le p4 HBV2.out.size
                              go_upto_region 16 with fail
                              apply wp_region_auto [157, 158, 159, 160, 161, 162, 163, 164, 165, 166, 167, 168, 169, 170, 156, 171, 172, 20] [_, _, _, _, _, _, _, _, _, _, _, _, _, _, _, _, _, _] (fun W' => Below V2.heap.size V2 W')
                              case hm => kernel_rfl
                              case hT => intro y; simp only [setAll, List.setIfInBounds_toArray, List.set_cons_succ, List.set_cons_zero]; exact rfl
                              case hok => kernel_rfl
                              case hn => decide
                              case hw => exact (Below.refl _ _).drew
                              case hs =>
                                refine auto_op 157 [] (by kernel_rfl) (fun y w' HW hd K hK => ?_) ?_
                                · go_simp
                                  refine hK _ _ ?_ ?_ HW
                                  · simp [upd]
                                  · exact rfl
                                refine auto_op 158 [] (by kernel_rfl) (fun y w' HW hd K hK => ?_) ?_
                                · go_simp
                                  refine hK _ _ ?_ ?_ HW
                                  · simp [upd]
                                  · exact rfl
                                refine auto_op 159 [] (by kernel_rfl) (fun y w' HW hd K hK => ?_) ?_
                                · go_simp
                                  refine hK _ _ ?_ ?_ HW
                                  · simp [upd]
                                  · exact rfl
                                refine auto_op 160 [1, 2] (by kernel_rfl) (fun y w' HW hd K hK => ?_) ?_
                                · have e1 := hd_nth (hd 1 (by simp)) rfl
                                  have e2 := hd_nth (hd 2 (by simp)) rfl
                                  go_simp
                                  refine hK _ _ ?_ ?_ HW
                                  · simp [upd, e1, e2]
                                  · exact rfl
                                refine auto_op 161 [3] (by kernel_rfl) (fun y w' HW hd K hK => ?_) ?_
                                · have e3 := hd_nth (hd 3 (by simp)) rfl
                                  have hcl : ∀ p : Addr, p.block < V2.heap.size → w'.cell? p = V2.cell? p := fun p hp => HW.cell hp
                                  go_simp
                                  refine hK _ _ ?_ ?_ HW
                                  · simp [upd, e3]
                                  · exact rfl
                                refine auto_op 162 [] (by kernel_rfl) (fun y w' HW hd K hK => ?_) ?_
                                · go_simp
                                  refine hK _ _ ?_ ?_ HW
                                  · simp [upd]
                                  · exact rfl
                                refine auto_op 163 [] (by kernel_rfl) (fun y w' HW hd K hK => ?_) ?_
                                · go_simp
                                  refine hK _ _ ?_ ?_ HW
                                  · simp [upd]
                                  · exact rfl
                                refine auto_op 164 [5, 6] (by kernel_rfl) (fun y w' HW hd K hK => ?_) ?_
                                · have e5 := hd_nth (hd 5 (by simp)) rfl
                                  have e6 := hd_nth (hd 6 (by simp)) rfl
                                  go_simp
                                  refine hK _ _ ?_ ?_ HW
                                  · simp [upd, e5, e6]
                                  · exact rfl
                                refine auto_op 165 [7] (by kernel_rfl) (fun y w' HW hd K hK => ?_) ?_
                                · have e7 := hd_nth (hd 7 (by simp)) rfl
                                  have hcl : ∀ p : Addr, p.block < V2.heap.size → w'.cell? p = V2.cell? p := fun p hp => HW.cell hp
                                  go_simp
                                  refine hK _ _ ?_ ?_ HW
                                  · simp [upd, e7]
                                  · exact rfl
                                refine auto_op 166 [] (by kernel_rfl) (fun y w' HW hd K hK => ?_) ?_
                                · go_simp
                                  refine hK _ _ ?_ ?_ HW
                                  · simp [upd]
                                  · exact rfl
                                refine auto_op 167 [] (by kernel_rfl) (fun y w' HW hd K hK => ?_) ?_
                                · go_simp
                                  refine hK _ _ ?_ ?_ HW
                                  · simp [upd]
                                  · exact rfl
                                refine auto_op 168 [9, 10] (by kernel_rfl) (fun y w' HW hd K hK => ?_) ?_
                                · have e9 := hd_nth (hd 9 (by simp)) rfl
                                  have e10 := hd_nth (hd 10 (by simp)) rfl
                                  go_simp
                                  refine hK _ _ ?_ ?_ HW
                                  · simp [upd, e9, e10]
                                  · exact rfl
                                refine auto_op 169 [11] (by kernel_rfl) (fun y w' HW hd K hK => ?_) ?_
                                · have e11 := hd_nth (hd 11 (by simp)) rfl
                                  have hcl : ∀ p : Addr, p.block < V2.heap.size → w'.cell? p = V2.cell? p := fun p hp => HW.cell hp
                                  go_simp
                                  refine hK _ _ ?_ ?_ HW
                                  · simp [upd, e11]
                                  · exact rfl
                                refine auto_op 170 [0, 4, 8, 12] (by kernel_rfl) (fun y w' HW hd K hK => ?_) ?_
                                · have e0 := hd_nth (hd 0 (by simp)) rfl
                                  have e4 := hd_nth (hd 4 (by simp)) rfl
                                  have e8 := hd_nth (hd 8 (by simp)) rfl
                                  have e12 := hd_nth (hd 12 (by simp)) rfl
                                  go_simp
                                  refine (HLR.out _ (HRV2.out.below HW)).mono ?_
                                  rintro e w3 ⟨rfl, rfl⟩
                                  refine hK _ _ ?_ ?_ HW
                                  · simp [upd, e0, e4, e8, e12]
                                  · exact rfl
                                refine auto_op 156 [13] (by kernel_rfl) (fun y w' HW hd K hK => ?_) ?_
                                · have e13 := hd_nth (hd 13 (by simp)) rfl
                                  go_simp
                                  refine hK _ _ ?_ ?_ HW
                                  · simp [upd, e13]
                                  · exact rfl
                                refine auto_op 171 [14] (by kernel_rfl) (fun y w' HW hd K hK => ?_) ?_
                                · have e14 := hd_nth (hd 14 (by simp)) rfl
                                  go_simp
                                  refine hK _ _ ?_ ?_ HW
                                  · simp [upd, e14]
                                  · exact rfl
                                refine auto_op 172 [14] (by kernel_rfl) (fun y w' HW hd K hK => ?_) ?_
                                · have e14 := hd_nth (hd 14 (by simp)) rfl
                                  go_simp
                                  refine hK _ _ ?_ ?_ HW
                                  · simp [upd, e14]
                                  · exact rfl
                                refine auto_op 20 [15, 13, 0, 1, 2, 3, 4, 5, 6, 7, 8, 9, 10, 11, 12, 13, 14, 15] (by kernel_rfl) (fun y w' HW hd K hK => ?_) ?_
                                · have e0 := hd_nth (hd 0 (by simp)) rfl
                                  have e1 := hd_nth (hd 1 (by simp)) rfl
                                  have e2 := hd_nth (hd 2 (by simp)) rfl
                                  have e3 := hd_nth (hd 3 (by simp)) rfl
                                  have e4 := hd_nth (hd 4 (by simp)) rfl
                                  have e5 := hd_nth (hd 5 (by simp)) rfl
                                  have e6 := hd_nth (hd 6 (by simp)) rfl
                                  have e7 := hd_nth (hd 7 (by simp)) rfl
                                  have e8 := hd_nth (hd 8 (by simp)) rfl
                                  have e9 := hd_nth (hd 9 (by simp)) rfl
                                  have e10 := hd_nth (hd 10 (by simp)) rfl
                                  have e11 := hd_nth (hd 11 (by simp)) rfl
                                  have e12 := hd_nth (hd 12 (by simp)) rfl
                                  have e13 := hd_nth (hd 13 (by simp)) rfl
                                  have e14 := hd_nth (hd 14 (by simp)) rfl
                                  have e15 := hd_nth (hd 15 (by simp)) rfl
                                  go_simp
                                  refine hK _ _ ?_ ?_ HW
                                  · simp [upd, e0, e1, e2, e3, e4, e5, e6, e7, e8, e9, e10, e11, e12, e13, e14, e15]
                                  · exact rfl
                                refine auto_last fun y w' HW hd K hK => ?_
                                have e0 := hd_nth (hd 0 (by omega)) rfl
                                have e1 := hd_nth (hd 1 (by omega)) rfl
                                have e2 := hd_nth (hd 2 (by omega)) rfl
                                have e3 := hd_nth (hd 3 (by omega)) rfl
                                have e4 := hd_nth (hd 4 (by omega)) rfl
                                have e5 := hd_nth (hd 5 (by omega)) rfl
                                have e6 := hd_nth (hd 6 (by omega)) rfl
                                have e7 := hd_nth (hd 7 (by omega)) rfl
                                have e8 := hd_nth (hd 8 (by omega)) rfl
                                have e9 := hd_nth (hd 9 (by omega)) rfl
                                have e10 := hd_nth (hd 10 (by omega)) rfl
                                have e11 := hd_nth (hd 11 (by omega)) rfl
                                have e12 := hd_nth (hd 12 (by omega)) rfl
                                have e13 := hd_nth (hd 13 (by omega)) rfl
                                have e14 := hd_nth (hd 14 (by omega)) rfl
                                have e15 := hd_nth (hd 15 (by omega)) rfl
                                have e16 := hd_nth (hd 16 (by omega)) rfl
                                have e17 := hd_nth (hd 17 (by omega)) rfl
                                go_simp
                                refine hK _ _ ?_
                                clear hd hK K e0 e1 e2 e3 e4 e5 e6 e7 e8 e9 e10 e11 e12 e13 e14 e15 e16 e17
                                have HBV3 := Lib.hid (HBV2.out.trans (HW.mono HBV2.out.size))
                                have HSV3 := Lib.hid (HSV2.out.below HW HSV2.out.lt)
                                have HRV3 := Lib.hid (HRV2.out.below HW)
                                clear r2 r3 r4 s2 s3 s4 HSV2 HRV2 HBV2 HW HLP HLR
                                rename World => V3
                                have r2 := (HBV3.out.cell p2).trans T2.out
                                as_aux_lemma =>
                                  go_wp2_with fail
                                  refine (HBP.out V3 HSV3.out).mono ?_
                                  rintro e V4 ⟨ba1, bc1, rfl, hrow1, hb4⟩
                                  have HBV4 := Lib.hid (HBV3.out.trans (hb4.mono HBV3.out.size))
                                  have HSV4 := Lib.hid (HSV3.out.below hb4 HSV3.out.lt)
                                  have HRV4 := Lib.hid (HRV3.out.below hb4)
                                  have HROW1 := Lib.hid hrow1
                                  clear r2 HSV3 HRV3 HBV3 hb4 hrow1
                                  have r2 := (HBV4.out.cell p2).trans T2.out
                                  go_wp2_with fail
                                  refine (HBR.out V4 HRV4.out).mono ?_
                                  rintro e V5 ⟨ba2, bc2, rfl, hrow2, hb5⟩
                                  have HBV5 := Lib.hid (HBV4.out.trans (hb5.mono HBV4.out.size))
                                  have HSV5 := Lib.hid (HSV4.out.below hb5 HSV4.out.lt)
                                  have HRV5 := Lib.hid (HRV4.out.below hb5)
                                  have HROW3 := Lib.hid (HROW1.out.below hb5)
                                  have HROW4 := Lib.hid hrow2
                                  have HCV1 : Hid (∀ W, Below V5.heap.size V5 W → (convert 22 9 (.slice ba1 bq bc1)).run Try.prog W = .ok (.string (strOfNums bxs)) W) := fun W hW => run_convert_row Try.underlying22 Try.underlying5 Try.underlying9 ((HROW3.out.more (by have := hb5.size; omega)).below hW)
                                  have HCV2 : Hid (∀ W, Below V5.heap.size V5 W → (convert 22 9 (.slice ba2 bq bc2)).run Try.prog W = .ok (.string (strOfNums bxs)) W) := fun W hW => run_convert_row Try.underlying22 Try.underlying5 Try.underlying9 (HROW4.out.below hW)
                                  generalize strOfNums bxs = SB at HCV1 HCV2
                                  obtain ⟨fv, fvs, hfT⟩ := HRV5.out
                                  have f0 := hfT.cell0
                                  have f1 := hfT.lt
                                  obtain ⟨fa, fc, rfl⟩ := hfT.form0
                                  have HLN : Hid (∀ W, Below V5.heap.size V5 W → Calls Try.prog 20 #[.pointer (some ⟨w.heap.size, 0, none⟩)] W fun e w' => e = .returned (.int .i64 N) ∧ W = w') := fun W hW => len_of w.heap.size N W (HSV5.out.below hW HSV5.out.lt).cell1
                                  clear r2 HSV4 HRV4 HBV4 hb5 hrow2 HROW1 HROW3 HROW4 hbl hbq hfT HBP HBR
                                  have r2 := (HBV5.out.cell p2).trans T2.out
                                  have s2 : (x2.add k).block < V5.heap.size := Nat.lt_of_lt_of_le p2 HBV5.out.size
                                  go_upto_region 19 with fail
                                  apply wp_region_auto [191, 192, 193, 194, 195, 196, 197, 198, 199, 200, 201, 202, 203, 204, 205, 206, 207, 208, 209, 210, 211, 212, 213, 214, 215, 216, 217, 218, 219, 220, 221, 222, 223, 224, 225, 226, 227, 228, 229, 230, 231, 232, 233, 234] [_, _, _, _, _, _, _, _, _, _, _, _, _, _, _, _, _, _, _, _, _, _, _, _, _, _, _, _, _, _, _, _, _, _, _, _, _, _, _, _, _, _, _, _] (fun W' => Below V5.heap.size V5 W')
                                  case hm => kernel_rfl
                                  case hT => intro y; simp only [setAll, List.setIfInBounds_toArray, List.set_cons_succ, List.set_cons_zero]; exact rfl
                                  case hok => kernel_rfl
                                  case hn => decide
                                  case hw => exact (Below.refl _ _).drew
                                  case hs =>
                                    refine auto_op 191 [] (by kernel_rfl) (fun y w' HW hd K hK => ?_) ?_
                                    · go_simp
                                      refine hK _ _ ?_ ?_ HW
                                      · simp [upd]
                                      · exact rfl
                                    refine auto_op 192 [] (by kernel_rfl) (fun y w' HW hd K hK => ?_) ?_
                                    · go_simp
                                      refine hK _ _ ?_ ?_ HW
                                      · simp [upd]
                                      · exact rfl
                                    refine auto_op 193 [0, 1] (by kernel_rfl) (fun y w' HW hd K hK => ?_) ?_
                                    · have e0 := hd_nth (hd 0 (by simp)) rfl
                                      have e1 := hd_nth (hd 1 (by simp)) rfl
                                      go_simp
                                      refine hK _ _ ?_ ?_ HW
                                      · simp [upd, e0, e1]
                                      · exact rfl
                                    refine auto_op 194 [2] (by kernel_rfl) (fun y w' HW hd K hK => ?_) ?_
                                    · have e2 := hd_nth (hd 2 (by simp)) rfl
                                      go_simp
                                      refine hK _ _ ?_ ?_ HW
                                      · simp [upd, e2]
                                      · exact rfl
                                    refine auto_op 195 [3] (by kernel_rfl) (fun y w' HW hd K hK => ?_) ?_
                                    · have e3 := hd_nth (hd 3 (by simp)) rfl
                                      go_simp
                                      refine hK _ _ ?_ ?_ HW
                                      · simp [upd, e3]
                                      · exact rfl
                                    refine auto_op 196 [3] (by kernel_rfl) (fun y w' HW hd K hK => ?_) ?_
                                    · have e3 := hd_nth (hd 3 (by simp)) rfl
                                      go_simp
                                      refine hK _ _ ?_ ?_ HW
                                      · simp [upd, e3]
                                      · exact rfl
                                    refine auto_op 197 [4, 5, 3] (by kernel_rfl) (fun y w' HW hd K hK => ?_) ?_
                                    · have e3 := hd_nth (hd 3 (by simp)) rfl
                                      have e4 := hd_nth (hd 4 (by simp)) rfl
                                      have e5 := hd_nth (hd 5 (by simp)) rfl
                                      go_simp
                                      refine hK _ _ ?_ ?_ HW
                                      · simp [upd, e3, e4, e5]
                                      · exact rfl
                                    refine auto_op 198 [3, 6] (by kernel_rfl) (fun y w' HW hd K hK => ?_) ?_
                                    · have e3 := hd_nth (hd 3 (by simp)) rfl
                                      have e6 := hd_nth (hd 6 (by simp)) rfl
                                      go_simp
                                      refine hK _ _ ?_ ?_ HW
                                      · simp [upd, e3, e6]
                                      · exact rfl
                                    refine auto_op 199 [7, 3] (by kernel_rfl) (fun y w' HW hd K hK => ?_) ?_
                                    · have e3 := hd_nth (hd 3 (by simp)) rfl
                                      have e7 := hd_nth (hd 7 (by simp)) rfl
                                      go_simp
                                      refine hK _ _ ?_ ?_ HW
                                      · simp [upd, e3, e7]
                                      · exact rfl
                                    refine auto_op 200 [8] (by kernel_rfl) (fun y w' HW hd K hK => ?_) ?_
                                    · have e8 := hd_nth (hd 8 (by simp)) rfl
                                      go_simp
                                      refine hK _ _ ?_ ?_ HW
                                      · simp [upd, e8]
                                      · exact rfl
                                    refine auto_op 201 [9, 8] (by kernel_rfl) (fun y w' HW hd K hK => ?_) ?_
                                    · have e8 := hd_nth (hd 8 (by simp)) rfl
                                      have e9 := hd_nth (hd 9 (by simp)) rfl
                                      have hcv := HCV1.out w' HW
                                      go_simp
                                      refine hK _ _ ?_ ?_ HW
                                      · simp [upd, e8, e9]
                                      · exact rfl
                                    refine auto_op 202 [8] (by kernel_rfl) (fun y w' HW hd K hK => ?_) ?_
                                    · have e8 := hd_nth (hd 8 (by simp)) rfl
                                      go_simp
                                      refine hK _ _ ?_ ?_ HW
                                      · simp [upd, e8]
                                      · exact rfl
                                    refine auto_op 203 [11, 8] (by kernel_rfl) (fun y w' HW hd K hK => ?_) ?_
                                    · have e8 := hd_nth (hd 8 (by simp)) rfl
                                      have e11 := hd_nth (hd 11 (by simp)) rfl
                                      have hcv := HCV2.out w' HW
                                      go_simp
                                      refine hK _ _ ?_ ?_ HW
                                      · simp [upd, e8, e11]
                                      · exact rfl
                                    refine auto_op 204 [10, 12, 8] (by kernel_rfl) (fun y w' HW hd K hK => ?_) ?_
                                    · have e8 := hd_nth (hd 8 (by simp)) rfl
                                      have e10 := hd_nth (hd 10 (by simp)) rfl
                                      have e12 := hd_nth (hd 12 (by simp)) rfl
                                      go_simp
                                      refine hK _ _ ?_ ?_ HW
                                      · simp [upd, e8, e10, e12]
                                      · exact rfl
                                    refine auto_op 205 [8, 13] (by kernel_rfl) (fun y w' HW hd K hK => ?_) ?_
                                    · have e8 := hd_nth (hd 8 (by simp)) rfl
                                      have e13 := hd_nth (hd 13 (by simp)) rfl
                                      go_simp
                                      refine hK _ _ ?_ ?_ HW
                                      · simp [upd, e8, e13]
                                      · exact rfl
                                    refine auto_op 206 [14, 8] (by kernel_rfl) (fun y w' HW hd K hK => ?_) ?_
                                    · have e8 := hd_nth (hd 8 (by simp)) rfl
                                      have e14 := hd_nth (hd 14 (by simp)) rfl
                                      go_simp
                                      refine hK _ _ ?_ ?_ HW
                                      · simp [upd, e8, e14]
                                      · exact rfl
                                    refine auto_op 207 [15] (by kernel_rfl) (fun y w' HW hd K hK => ?_) ?_
                                    · have e15 := hd_nth (hd 15 (by simp)) rfl
                                      go_simp
                                      refine hK _ _ ?_ ?_ HW
                                      · simp [upd, e15]
                                      · exact rfl
                                    refine auto_op 208 [15] (by kernel_rfl) (fun y w' HW hd K hK => ?_) ?_
                                    · have e15 := hd_nth (hd 15 (by simp)) rfl
                                      go_simp
                                      refine hK _ _ ?_ ?_ HW
                                      · simp [upd, e15]
                                      · exact rfl
                                    refine auto_op 209 [16, 17, 15] (by kernel_rfl) (fun y w' HW hd K hK => ?_) ?_
                                    · have e15 := hd_nth (hd 15 (by simp)) rfl
                                      have e16 := hd_nth (hd 16 (by simp)) rfl
                                      have e17 := hd_nth (hd 17 (by simp)) rfl
                                      go_simp
                                      refine hK _ _ ?_ ?_ HW
                                      · simp [upd, e15, e16, e17]
                                      · exact rfl
                                    refine auto_op 210 [15, 18] (by kernel_rfl) (fun y w' HW hd K hK => ?_) ?_
                                    · have e15 := hd_nth (hd 15 (by simp)) rfl
                                      have e18 := hd_nth (hd 18 (by simp)) rfl
                                      go_simp
                                      refine hK _ _ ?_ ?_ HW
                                      · simp [upd, e15, e18]
                                      · exact rfl
                                    refine auto_op 211 [19, 15] (by kernel_rfl) (fun y w' HW hd K hK => ?_) ?_
                                    · have e15 := hd_nth (hd 15 (by simp)) rfl
                                      have e19 := hd_nth (hd 19 (by simp)) rfl
                                      go_simp
                                      refine hK _ _ ?_ ?_ HW
                                      · simp [upd, e15, e19]
                                      · exact rfl
                                    refine auto_op 212 [20] (by kernel_rfl) (fun y w' HW hd K hK => ?_) ?_
                                    · have e20 := hd_nth (hd 20 (by simp)) rfl
                                      go_simp
                                      refine hK _ _ ?_ ?_ HW
                                      · simp [upd, e20]
                                      · exact rfl
                                    refine auto_op 213 [20] (by kernel_rfl) (fun y w' HW hd K hK => ?_) ?_
                                    · have e20 := hd_nth (hd 20 (by simp)) rfl
                                      go_simp
                                      refine hK _ _ ?_ ?_ HW
                                      · simp [upd, e20]
                                      · exact rfl
                                    refine auto_op 214 [20] (by kernel_rfl) (fun y w' HW hd K hK => ?_) ?_
                                    · have e20 := hd_nth (hd 20 (by simp)) rfl
                                      go_simp
                                      refine hK _ _ ?_ ?_ HW
                                      · simp [upd, e20]
                                      · exact rfl
                                    refine auto_op 215 [22, 23, 20] (by kernel_rfl) (fun y w' HW hd K hK => ?_) ?_
                                    · have e20 := hd_nth (hd 20 (by simp)) rfl
                                      have e22 := hd_nth (hd 22 (by simp)) rfl
                                      have e23 := hd_nth (hd 23 (by simp)) rfl
                                      go_simp
                                      refine hK _ _ ?_ ?_ HW
                                      · simp [upd, e20, e22, e23]
                                      · exact rfl
                                    refine auto_op 216 [24, 20] (by kernel_rfl) (fun y w' HW hd K hK => ?_) ?_
                                    · have e20 := hd_nth (hd 20 (by simp)) rfl
                                      have e24 := hd_nth (hd 24 (by simp)) rfl
                                      have hcl : ∀ p : Addr, p.block < V5.heap.size → w'.cell? p = V5.cell? p := fun p hp => HW.cell hp
                                      go_simp
                                      refine hK _ _ ?_ ?_ HW
                                      · simp [upd, e20, e24]
                                      · exact rfl
                                    refine auto_op 217 [21, 25, 20, 20] (by kernel_rfl) (fun y w' HW hd K hK => ?_) ?_
                                    · have e20 := hd_nth (hd 20 (by simp)) rfl
                                      have e21 := hd_nth (hd 21 (by simp)) rfl
                                      have e25 := hd_nth (hd 25 (by simp)) rfl
                                      go_simp
                                      refine (HCP.out _ (HSV5.out.below HW HSV5.out.lt)).mono ?_
                                      rintro e w3 ⟨rfl, rfl⟩
                                      refine hK _ _ ?_ ?_ HW
                                      · simp [upd, e20, e21, e25]
                                      · exact rfl
                                    refine auto_op 218 [20] (by kernel_rfl) (fun y w' HW hd K hK => ?_) ?_
                                    · have e20 := hd_nth (hd 20 (by simp)) rfl
                                      go_simp
                                      refine hK _ _ ?_ ?_ HW
                                      · simp [upd, e20]
                                      · exact rfl
                                    refine auto_op 219 [20] (by kernel_rfl) (fun y w' HW hd K hK => ?_) ?_
                                    · have e20 := hd_nth (hd 20 (by simp)) rfl
                                      go_simp
                                      refine hK _ _ ?_ ?_ HW
                                      · simp [upd, e20]
                                      · exact rfl
                                    refine auto_op 220 [20] (by kernel_rfl) (fun y w' HW hd K hK => ?_) ?_
                                    · have e20 := hd_nth (hd 20 (by simp)) rfl
                                      go_simp
                                      refine hK _ _ ?_ ?_ HW
                                      · simp [upd, e20]
                                      · exact rfl
                                    refine auto_op 221 [28, 29, 20] (by kernel_rfl) (fun y w' HW hd K hK => ?_) ?_
                                    · have e20 := hd_nth (hd 20 (by simp)) rfl
                                      have e28 := hd_nth (hd 28 (by simp)) rfl
                                      have e29 := hd_nth (hd 29 (by simp)) rfl
                                      go_simp
                                      refine hK _ _ ?_ ?_ HW
                                      · simp [upd, e20, e28, e29]
                                      · exact rfl
                                    refine auto_op 222 [30, 20] (by kernel_rfl) (fun y w' HW hd K hK => ?_) ?_
                                    · have e20 := hd_nth (hd 20 (by simp)) rfl
                                      have e30 := hd_nth (hd 30 (by simp)) rfl
                                      have hcl : ∀ p : Addr, p.block < V5.heap.size → w'.cell? p = V5.cell? p := fun p hp => HW.cell hp
                                      go_simp
                                      refine hK _ _ ?_ ?_ HW
                                      · simp [upd, e20, e30]
                                      · exact rfl
                                    refine auto_op 223 [27, 31, 26, 20] (by kernel_rfl) (fun y w' HW hd K hK => ?_) ?_
                                    · have e20 := hd_nth (hd 20 (by simp)) rfl
                                      have e26 := hd_nth (hd 26 (by simp)) rfl
                                      have e27 := hd_nth (hd 27 (by simp)) rfl
                                      have e31 := hd_nth (hd 31 (by simp)) rfl
                                      go_simp
                                      refine (HCR.out _ (HRV5.out.below HW)).mono ?_
                                      rintro e w3 ⟨rfl, rfl⟩
                                      refine hK _ _ ?_ ?_ HW
                                      · simp [upd, e20, e26, e27, e31]
                                      · exact rfl
                                    refine auto_op 224 [26, 32, 20] (by kernel_rfl) (fun y w' HW hd K hK => ?_) ?_
                                    · have e20 := hd_nth (hd 20 (by simp)) rfl
                                      have e26 := hd_nth (hd 26 (by simp)) rfl
                                      have e32 := hd_nth (hd 32 (by simp)) rfl
                                      go_simp
                                      refine hK _ _ ?_ ?_ HW
                                      · simp [upd, e20, e26, e32]
                                      · exact rfl
                                    refine auto_op 225 [20, 33] (by kernel_rfl) (fun y w' HW hd K hK => ?_) ?_
                                    · have e20 := hd_nth (hd 20 (by simp)) rfl
                                      have e33 := hd_nth (hd 33 (by simp)) rfl
                                      go_simp
                                      refine hK _ _ ?_ ?_ HW
                                      · simp [upd, e20, e33]
                                      · exact rfl
                                    refine auto_op 226 [34, 32] (by kernel_rfl) (fun y w' HW hd K hK => ?_) ?_
                                    · have e32 := hd_nth (hd 32 (by simp)) rfl
                                      have e34 := hd_nth (hd 34 (by simp)) rfl
                                      go_simp
                                      refine hK _ _ ?_ ?_ HW
                                      · simp [upd, e32, e34]
                                      · exact rfl
                                    refine auto_op 227 [35] (by kernel_rfl) (fun y w' HW hd K hK => ?_) ?_
                                    · have e35 := hd_nth (hd 35 (by simp)) rfl
                                      go_simp
                                      refine hK _ _ ?_ ?_ HW
                                      · simp [upd, e35]
                                      · exact rfl
                                    refine auto_op 228 [36, 35, 35] (by kernel_rfl) (fun y w' HW hd K hK => ?_) ?_
                                    · have e35 := hd_nth (hd 35 (by simp)) rfl
                                      have e36 := hd_nth (hd 36 (by simp)) rfl
                                      go_simp
                                      refine (HLN.out _ HW).mono ?_
                                      rintro e w3 ⟨rfl, rfl⟩
                                      refine hK _ _ ?_ ?_ HW
                                      · simp [upd, e35, e36]
                                      · exact rfl
                                    refine auto_op 229 [35] (by kernel_rfl) (fun y w' HW hd K hK => ?_) ?_
                                    · have e35 := hd_nth (hd 35 (by simp)) rfl
                                      go_simp
                                      refine hK _ _ ?_ ?_ HW
                                      · simp [upd, e35]
                                      · exact rfl
                                    refine auto_op 230 [38, 35] (by kernel_rfl) (fun y w' HW hd K hK => ?_) ?_
                                    · have e35 := hd_nth (hd 35 (by simp)) rfl
                                      have e38 := hd_nth (hd 38 (by simp)) rfl
                                      go_simp
                                      refine hK _ _ ?_ ?_ HW
                                      · simp [upd, e35, e38]
                                      · exact rfl
                                    refine auto_op 231 [39, 35] (by kernel_rfl) (fun y w' HW hd K hK => ?_) ?_
                                    · have e35 := hd_nth (hd 35 (by simp)) rfl
                                      have e39 := hd_nth (hd 39 (by simp)) rfl
                                      go_simp
                                      refine hK _ _ ?_ ?_ HW
                                      · simp [upd, e35, e39]
                                      · exact rfl
                                    refine auto_op 232 [40, 35] (by kernel_rfl) (fun y w' HW hd K hK => ?_) ?_
                                    · have e35 := hd_nth (hd 35 (by simp)) rfl
                                      have e40 := hd_nth (hd 40 (by simp)) rfl
                                      have hcl : ∀ p : Addr, p.block < V5.heap.size → w'.cell? p = V5.cell? p := fun p hp => HW.cell hp
                                      go_simp
                                      refine hK _ _ ?_ ?_ HW
                                      · simp [upd, e35, e40]
                                      · exact rfl
                                    refine auto_op 233 [41, 35] (by kernel_rfl) (fun y w' HW hd K hK => ?_) ?_
                                    · have e35 := hd_nth (hd 35 (by simp)) rfl
                                      have e41 := hd_nth (hd 41 (by simp)) rfl
                                      go_simp
                                      refine hK _ _ ?_ ?_ HW
                                      · simp [upd, e35, e41]
                                      · exact rfl
                                    refine auto_op 234 [37, 42, 35] (by kernel_rfl) (fun y w' HW hd K hK => ?_) ?_
                                    · have e35 := hd_nth (hd 35 (by simp)) rfl
                                      have e37 := hd_nth (hd 37 (by simp)) rfl
                                      have e42 := hd_nth (hd 42 (by simp)) rfl
                                      go_simp
                                      refine hK _ _ ?_ ?_ HW
                                      · simp [upd, e35, e37, e42]
                                      · exact rfl
                                    refine auto_last fun y w' HW hd K hK => ?_
                                    have e0 := hd_nth (hd 0 (by omega)) rfl
                                    have e1 := hd_nth (hd 1 (by omega)) rfl
                                    have e2 := hd_nth (hd 2 (by omega)) rfl
                                    have e3 := hd_nth (hd 3 (by omega)) rfl
                                    have e4 := hd_nth (hd 4 (by omega)) rfl
                                    have e5 := hd_nth (hd 5 (by omega)) rfl
                                    have e6 := hd_nth (hd 6 (by omega)) rfl
                                    have e7 := hd_nth (hd 7 (by omega)) rfl
                                    have e8 := hd_nth (hd 8 (by omega)) rfl
                                    have e9 := hd_nth (hd 9 (by omega)) rfl
                                    have e10 := hd_nth (hd 10 (by omega)) rfl
                                    have e11 := hd_nth (hd 11 (by omega)) rfl
                                    have e12 := hd_nth (hd 12 (by omega)) rfl
                                    have e13 := hd_nth (hd 13 (by omega)) rfl
                                    have e14 := hd_nth (hd 14 (by omega)) rfl
                                    have e15 := hd_nth (hd 15 (by omega)) rfl
                                    have e16 := hd_nth (hd 16 (by omega)) rfl
                                    have e17 := hd_nth (hd 17 (by omega)) rfl
                                    have e18 := hd_nth (hd 18 (by omega)) rfl
                                    have e19 := hd_nth (hd 19 (by omega)) rfl
                                    have e20 := hd_nth (hd 20 (by omega)) rfl
                                    have e21 := hd_nth (hd 21 (by omega)) rfl
                                    have e22 := hd_nth (hd 22 (by omega)) rfl
                                    have e23 := hd_nth (hd 23 (by omega)) rfl
                                    have e24 := hd_nth (hd 24 (by omega)) rfl
                                    have e25 := hd_nth (hd 25 (by omega)) rfl
                                    have e26 := hd_nth (hd 26 (by omega)) rfl
                                    have e27 := hd_nth (hd 27 (by omega)) rfl
                                    have e28 := hd_nth (hd 28 (by omega)) rfl
                                    have e29 := hd_nth (hd 29 (by omega)) rfl
                                    have e30 := hd_nth (hd 30 (by omega)) rfl
                                    have e31 := hd_nth (hd 31 (by omega)) rfl
                                    have e32 := hd_nth (hd 32 (by omega)) rfl
                                    have e33 := hd_nth (hd 33 (by omega)) rfl
                                    have e34 := hd_nth (hd 34 (by omega)) rfl
                                    have e35 := hd_nth (hd 35 (by omega)) rfl
                                    have e36 := hd_nth (hd 36 (by omega)) rfl
                                    have e37 := hd_nth (hd 37 (by omega)) rfl
                                    have e38 := hd_nth (hd 38 (by omega)) rfl
                                    have e39 := hd_nth (hd 39 (by omega)) rfl
                                    have e40 := hd_nth (hd 40 (by omega)) rfl
                                    have e41 := hd_nth (hd 41 (by omega)) rfl
                                    have e42 := hd_nth (hd 42 (by omega)) rfl
                                    have e43 := hd_nth (hd 43 (by omega)) rfl
                                    go_simp
                                    refine hK _ _ ?_
                                    clear hd hK K e0 e1 e2 e3 e4 e5 e6 e7 e8 e9 e10 e11 e12 e13 e14 e15 e16 e17 e18 e19 e20 e21 e22 e23 e24 e25 e26 e27 e28 e29 e30 e31 e32 e33 e34 e35 e36 e37 e38 e39 e40 e41 e42 e43
                                    have HBV6 := Lib.hid (HBV5.out.trans (HW.mono HBV5.out.size))
                                    have HSV6 := Lib.hid (HSV5.out.below HW HSV5.out.lt)
                                    have HRV6 := Lib.hid (HRV5.out.below HW)
                                    clear r2 s2 HSV5 HRV5 HBV5 HW HCV1 HCV2 HCP HCR HLN f0 f1
                                    rename World => V6
                                    go_wp2
                                    go_roundw
                                    case rel => exact ⟨k + 1, Lr, by omega, by go_num, HSV6, HRV6, HBV6⟩
                                    case measure => simp [intOf]; omega
                    · as_aux_lemma =>
                        have g4 : (y1 % 5 == 4) = false := by simpa using hkind
                        obtain ⟨zz, Lr, hP, hA, hLr1, hLr2⟩ := save_both w.heap.size bt (w.heap.size + 1) N y2 y3 y4 y5 Lq HS.out.2.1 HS.out.2.2.1 HN.out hy5.1 hy5.2
                        have HP := Lib.hid hP
                        have HA := Lib.hid hA
                        have HJ : Hid (JR wr w.heap.size w.heap.size bt N Lq Lr false false wr.drew) := ⟨(Below.refl _ _).drew, HS.out.of_block rfl, HR.out.below (Below.refl _ _).drew, Nat.le_refl _, HS.out.lt⟩
                        clear hP hA hkind
                        go_upto_region 13 with fail
                        apply wp_region_autoL [102, 103, 104, 105, 106, 107, 108, 109, 110, 111, 112, 113, 114, 115, 116, 117, 118, 119, 120, 121, 122, 123, 124, 125, 126, 127, 128, 129, 130, 131, 132, 133, 134, 135, 136, 137] [_, _, _, _, _, _, _, _, _, _, _, _, _, _, _, _, _, _, _, _, _, _, _, _, _, _, _, _, _, _, _, _, _, _, _, _] (fun L W' => JR wr w.heap.size w.heap.size bt N Lq Lr (L 17) (L 35) W')
                        case hm => kernel_rfl
                        case hT => intro y; simp only [setAll, List.setIfInBounds_toArray, List.set_cons_succ, List.set_cons_zero]; exact rfl
                        case hok => kernel_rfl
                        case hn => decide
                        case hw => exact fun L hL => (by simp only [hL 17 (by decide), hL 35 (by decide)]; exact HJ.out)
                        case hs =>
                          refine autoL_op 102 [] (by kernel_rfl) (fun L y w' hL HW hd K hK => ?_) ?_
                          · go_simp
                            refine hK _ _ ?_ ?_ HW
                            · simp [upd]
                            · exact rfl
                          refine autoL_op 103 [] (by kernel_rfl) (fun L y w' hL HW hd K hK => ?_) ?_
                          · go_simp
                            refine hK _ _ ?_ ?_ HW
                            · simp [upd]
                            · exact rfl
                          refine autoL_op 104 [] (by kernel_rfl) (fun L y w' hL HW hd K hK => ?_) ?_
                          · go_simp
                            refine hK _ _ ?_ ?_ HW
                            · simp [upd]
                            · exact rfl
                          refine autoL_op 105 [1, 2] (by kernel_rfl) (fun L y w' hL HW hd K hK => ?_) ?_
                          · have e1 := hd_nth (hd 1 (by simp)) rfl
                            have e2 := hd_nth (hd 2 (by simp)) rfl
                            go_simp
                            refine hK _ _ ?_ ?_ HW
                            · simp [upd, e1, e2]
                            · exact rfl
                          refine autoL_op 106 [3] (by kernel_rfl) (fun L y w' hL HW hd K hK => ?_) ?_
                          · have e3 := hd_nth (hd 3 (by simp)) rfl
                            have hcl : ∀ p : Addr, p.block < w.heap.size → w'.cell? p = wr.cell? p := fun p hp => HW.1.cell hp
                            go_simp
                            refine hK _ _ ?_ ?_ HW
                            · simp [upd, e3]
                            · exact rfl
                          refine autoL_op 107 [] (by kernel_rfl) (fun L y w' hL HW hd K hK => ?_) ?_
                          · go_simp
                            refine hK _ _ ?_ ?_ HW
                            · simp [upd]
                            · exact rfl
                          refine autoL_op 108 [] (by kernel_rfl) (fun L y w' hL HW hd K hK => ?_) ?_
                          · go_simp
                            refine hK _ _ ?_ ?_ HW
                            · simp [upd]
                            · exact rfl
                          refine autoL_op 109 [5, 6] (by kernel_rfl) (fun L y w' hL HW hd K hK => ?_) ?_
                          · have e5 := hd_nth (hd 5 (by simp)) rfl
                            have e6 := hd_nth (hd 6 (by simp)) rfl
                            go_simp
                            refine hK _ _ ?_ ?_ HW
                            · simp [upd, e5, e6]
                            · exact rfl
                          refine autoL_op 110 [7] (by kernel_rfl) (fun L y w' hL HW hd K hK => ?_) ?_
                          · have e7 := hd_nth (hd 7 (by simp)) rfl
                            have hcl : ∀ p : Addr, p.block < w.heap.size → w'.cell? p = wr.cell? p := fun p hp => HW.1.cell hp
                            go_simp
                            refine hK _ _ ?_ ?_ HW
                            · simp [upd, e7]
                            · exact rfl
                          refine autoL_op 111 [] (by kernel_rfl) (fun L y w' hL HW hd K hK => ?_) ?_
                          · go_simp
                            refine hK _ _ ?_ ?_ HW
                            · simp [upd]
                            · exact rfl
                          refine autoL_op 112 [] (by kernel_rfl) (fun L y w' hL HW hd K hK => ?_) ?_
                          · go_simp
                            refine hK _ _ ?_ ?_ HW
                            · simp [upd]
                            · exact rfl
                          refine autoL_op 113 [9, 10] (by kernel_rfl) (fun L y w' hL HW hd K hK => ?_) ?_
                          · have e9 := hd_nth (hd 9 (by simp)) rfl
                            have e10 := hd_nth (hd 10 (by simp)) rfl
                            go_simp
                            refine hK _ _ ?_ ?_ HW
                            · simp [upd, e9, e10]
                            · exact rfl
                          refine autoL_op 114 [11] (by kernel_rfl) (fun L y w' hL HW hd K hK => ?_) ?_
                          · have e11 := hd_nth (hd 11 (by simp)) rfl
                            have hcl : ∀ p : Addr, p.block < w.heap.size → w'.cell? p = wr.cell? p := fun p hp => HW.1.cell hp
                            go_simp
                            refine hK _ _ ?_ ?_ HW
                            · simp [upd, e11]
                            · exact rfl
                          refine autoL_op 115 [] (by kernel_rfl) (fun L y w' hL HW hd K hK => ?_) ?_
                          · go_simp
                            refine hK _ _ ?_ ?_ HW
                            · simp [upd]
                            · exact rfl
                          refine autoL_op 116 [] (by kernel_rfl) (fun L y w' hL HW hd K hK => ?_) ?_
                          · go_simp
                            refine hK _ _ ?_ ?_ HW
                            · simp [upd]
                            · exact rfl
                          refine autoL_op 117 [13, 14] (by kernel_rfl) (fun L y w' hL HW hd K hK => ?_) ?_
                          · have e13 := hd_nth (hd 13 (by simp)) rfl
                            have e14 := hd_nth (hd 14 (by simp)) rfl
                            go_simp
                            refine hK _ _ ?_ ?_ HW
                            · simp [upd, e13, e14]
                            · exact rfl
                          refine autoL_op 118 [15] (by kernel_rfl) (fun L y w' hL HW hd K hK => ?_) ?_
                          · have e15 := hd_nth (hd 15 (by simp)) rfl
                            have hcl : ∀ p : Addr, p.block < w.heap.size → w'.cell? p = wr.cell? p := fun p hp => HW.1.cell hp
                            go_simp
                            refine hK _ _ ?_ ?_ HW
                            · simp [upd, e15]
                            · exact rfl
                          refine autoL_op 119 [0, 4, 8, 12, 16] (by kernel_rfl) (fun L y w' hL HW hd K hK => ?_) ?_
                          · have e0 := hd_nth (hd 0 (by simp)) rfl
                            have e4 := hd_nth (hd 4 (by simp)) rfl
                            have e8 := hd_nth (hd 8 (by simp)) rfl
                            have e12 := hd_nth (hd 12 (by simp)) rfl
                            have e16 := hd_nth (hd 16 (by simp)) rfl
                            go_simp
                            have HW0 : JR wr w.heap.size w.heap.size bt N Lq Lr false (L 35) w' := by have h := HW; simp only [hL] at h; exact h
                            refine (HP.out _ HW0.2.1).mono ?_
                            rintro e w3 ⟨rfl, hS3, hg3⟩
                            refine hK _ _ ?_ ?_ (HW0.actP hS3 hg3)
                            · simp [upd, e0, e4, e8, e12, e16]
                            · exact rfl
                          refine autoL_op 120 [] (by kernel_rfl) (fun L y w' hL HW hd K hK => ?_) ?_
                          · go_simp
                            refine hK _ _ ?_ ?_ HW
                            · simp [upd]
                            · exact rfl
                          refine autoL_op 121 [] (by kernel_rfl) (fun L y w' hL HW hd K hK => ?_) ?_
                          · go_simp
                            refine hK _ _ ?_ ?_ HW
                            · simp [upd]
                            · exact rfl
                          refine autoL_op 122 [] (by kernel_rfl) (fun L y w' hL HW hd K hK => ?_) ?_
                          · go_simp
                            refine hK _ _ ?_ ?_ HW
                            · simp [upd]
                            · exact rfl
                          refine autoL_op 123 [19, 20] (by kernel_rfl) (fun L y w' hL HW hd K hK => ?_) ?_
                          · have e19 := hd_nth (hd 19 (by simp)) rfl
                            have e20 := hd_nth (hd 20 (by simp)) rfl
                            go_simp
                            refine hK _ _ ?_ ?_ HW
                            · simp [upd, e19, e20]
                            · exact rfl
                          refine autoL_op 124 [21] (by kernel_rfl) (fun L y w' hL HW hd K hK => ?_) ?_
                          · have e21 := hd_nth (hd 21 (by simp)) rfl
                            have hcl : ∀ p : Addr, p.block < w.heap.size → w'.cell? p = wr.cell? p := fun p hp => HW.1.cell hp
                            go_simp
                            refine hK _ _ ?_ ?_ HW
                            · simp [upd, e21]
                            · exact rfl
                          refine autoL_op 125 [] (by kernel_rfl) (fun L y w' hL HW hd K hK => ?_) ?_
                          · go_simp
                            refine hK _ _ ?_ ?_ HW
                            · simp [upd]
                            · exact rfl
                          refine autoL_op 126 [] (by kernel_rfl) (fun L y w' hL HW hd K hK => ?_) ?_
                          · go_simp
                            refine hK _ _ ?_ ?_ HW
                            · simp [upd]
                            · exact rfl
                          refine autoL_op 127 [23, 24] (by kernel_rfl) (fun L y w' hL HW hd K hK => ?_) ?_
                          · have e23 := hd_nth (hd 23 (by simp)) rfl
                            have e24 := hd_nth (hd 24 (by simp)) rfl
                            go_simp
                            refine hK _ _ ?_ ?_ HW
                            · simp [upd, e23, e24]
                            · exact rfl
                          refine autoL_op 128 [25] (by kernel_rfl) (fun L y w' hL HW hd K hK => ?_) ?_
                          · have e25 := hd_nth (hd 25 (by simp)) rfl
                            have hcl : ∀ p : Addr, p.block < w.heap.size → w'.cell? p = wr.cell? p := fun p hp => HW.1.cell hp
                            go_simp
                            refine hK _ _ ?_ ?_ HW
                            · simp [upd, e25]
                            · exact rfl
                          refine autoL_op 129 [] (by kernel_rfl) (fun L y w' hL HW hd K hK => ?_) ?_
                          · go_simp
                            refine hK _ _ ?_ ?_ HW
                            · simp [upd]
                            · exact rfl
                          refine autoL_op 130 [] (by kernel_rfl) (fun L y w' hL HW hd K hK => ?_) ?_
                          · go_simp
                            refine hK _ _ ?_ ?_ HW
                            · simp [upd]
                            · exact rfl
                          refine autoL_op 131 [27, 28] (by kernel_rfl) (fun L y w' hL HW hd K hK => ?_) ?_
                          · have e27 := hd_nth (hd 27 (by simp)) rfl
                            have e28 := hd_nth (hd 28 (by simp)) rfl
                            go_simp
                            refine hK _ _ ?_ ?_ HW
                            · simp [upd, e27, e28]
                            · exact rfl
                          refine autoL_op 132 [29] (by kernel_rfl) (fun L y w' hL HW hd K hK => ?_) ?_
                          · have e29 := hd_nth (hd 29 (by simp)) rfl
                            have hcl : ∀ p : Addr, p.block < w.heap.size → w'.cell? p = wr.cell? p := fun p hp => HW.1.cell hp
                            go_simp
                            refine hK _ _ ?_ ?_ HW
                            · simp [upd, e29]
                            · exact rfl
                          refine autoL_op 133 [] (by kernel_rfl) (fun L y w' hL HW hd K hK => ?_) ?_
                          · go_simp
                            refine hK _ _ ?_ ?_ HW
                            · simp [upd]
                            · exact rfl
                          refine autoL_op 134 [] (by kernel_rfl) (fun L y w' hL HW hd K hK => ?_) ?_
                          · go_simp
                            refine hK _ _ ?_ ?_ HW
                            · simp [upd]
                            · exact rfl
                          refine autoL_op 135 [31, 32] (by kernel_rfl) (fun L y w' hL HW hd K hK => ?_) ?_
                          · have e31 := hd_nth (hd 31 (by simp)) rfl
                            have e32 := hd_nth (hd 32 (by simp)) rfl
                            go_simp
                            refine hK _ _ ?_ ?_ HW
                            · simp [upd, e31, e32]
                            · exact rfl
                          refine autoL_op 136 [33] (by kernel_rfl) (fun L y w' hL HW hd K hK => ?_) ?_
                          · have e33 := hd_nth (hd 33 (by simp)) rfl
                            have hcl : ∀ p : Addr, p.block < w.heap.size → w'.cell? p = wr.cell? p := fun p hp => HW.1.cell hp
                            go_simp
                            refine hK _ _ ?_ ?_ HW
                            · simp [upd, e33]
                            · exact rfl
                          refine autoL_op 137 [18, 22, 26, 30, 34, 17] (by kernel_rfl) (fun L y w' hL HW hd K hK => ?_) ?_
                          · have e17 := hd_nth (hd 17 (by simp)) rfl
                            have e18 := hd_nth (hd 18 (by simp)) rfl
                            have e22 := hd_nth (hd 22 (by simp)) rfl
                            have e26 := hd_nth (hd 26 (by simp)) rfl
                            have e30 := hd_nth (hd 30 (by simp)) rfl
                            have e34 := hd_nth (hd 34 (by simp)) rfl
                            go_simp
                            have HW0 : JR wr w.heap.size w.heap.size bt N Lq Lr (L 17) false w' := by have h := HW; simp only [hL] at h; exact h
                            refine (HA.out _ HW0.2.2.1 HW0.2.2.2.2).mono ?_
                            rintro e w3 ⟨rfl, hR3, hb3⟩
                            refine hK _ _ ?_ ?_ (HW0.actR hR3 hb3)
                            · simp [upd, e17, e18, e22, e26, e30, e34]
                            · exact rfl
                          refine autoL_last fun L y w' hLs HW hd K hK => ?_
                          have e0 := hd_nth (hd 0 (by omega)) rfl
                          have e1 := hd_nth (hd 1 (by omega)) rfl
                          have e2 := hd_nth (hd 2 (by omega)) rfl
                          have e3 := hd_nth (hd 3 (by omega)) rfl
                          have e4 := hd_nth (hd 4 (by omega)) rfl
                          have e5 := hd_nth (hd 5 (by omega)) rfl
                          have e6 := hd_nth (hd 6 (by omega)) rfl
                          have e7 := hd_nth (hd 7 (by omega)) rfl
                          have e8 := hd_nth (hd 8 (by omega)) rfl
                          have e9 := hd_nth (hd 9 (by omega)) rfl
                          have e10 := hd_nth (hd 10 (by omega)) rfl
                          have e11 := hd_nth (hd 11 (by omega)) rfl
                          have e12 := hd_nth (hd 12 (by omega)) rfl
                          have e13 := hd_nth (hd 13 (by omega)) rfl
                          have e14 := hd_nth (hd 14 (by omega)) rfl
                          have e15 := hd_nth (hd 15 (by omega)) rfl
                          have e16 := hd_nth (hd 16 (by omega)) rfl
                          have e17 := hd_nth (hd 17 (by omega)) rfl
                          have e18 := hd_nth (hd 18 (by omega)) rfl
                          have e19 := hd_nth (hd 19 (by omega)) rfl
                          have e20 := hd_nth (hd 20 (by omega)) rfl
                          have e21 := hd_nth (hd 21 (by omega)) rfl
                          have e22 := hd_nth (hd 22 (by omega)) rfl
                          have e23 := hd_nth (hd 23 (by omega)) rfl
                          have e24 := hd_nth (hd 24 (by omega)) rfl
                          have e25 := hd_nth (hd 25 (by omega)) rfl
                          have e26 := hd_nth (hd 26 (by omega)) rfl
                          have e27 := hd_nth (hd 27 (by omega)) rfl
                          have e28 := hd_nth (hd 28 (by omega)) rfl
                          have e29 := hd_nth (hd 29 (by omega)) rfl
                          have e30 := hd_nth (hd 30 (by omega)) rfl
                          have e31 := hd_nth (hd 31 (by omega)) rfl
                          have e32 := hd_nth (hd 32 (by omega)) rfl
                          have e33 := hd_nth (hd 33 (by omega)) rfl
                          have e34 := hd_nth (hd 34 (by omega)) rfl
                          have e35 := hd_nth (hd 35 (by omega)) rfl
                          have HWF := Lib.hid (show JR wr w.heap.size w.heap.size bt N Lq Lr true true w' by have h := HW; simp only [hLs 17 (by omega), hLs 35 (by omega)] at h; exact h)
                          go_simp
                          refine hK _ _ ?_
                          clear hd hK K e0 e1 e2 e3 e4 e5 e6 e7 e8 e9 e10 e11 e12 e13 e14 e15 e16 e17 e18 e19 e20 e21 e22 e23 e24 e25 e26 e27 e28 e29 e30 e31 e32 e33 e34 e35
                          have HBV := Lib.hid (HB.out.trans HWF.out.1)
                          have HSV : Hid (St w' w.heap.size N Lr) := HWF.out.2.1
                          have HRV : Hid (RF w' bt (w.heap.size + 1) N Lr) := HWF.out.2.2.1
                          have r2 := (HWF.out.1.cell p2).trans q2
                          have r3 := (HWF.out.1.cell p3).trans q3
                          have r4 := (HWF.out.1.cell p4).trans q4
                          clear q1 q2 q3 q4 q5 HW HWF HP HA HJ HS HR HB
                          rename World => V1
                          obtain ⟨lu, lz, hlp, hlr⟩ := load_both w.heap.size bt (w.heap.size + 1) N y2 y3 y4 Lr HN.out
                          obtain ⟨bq, bxs, bz, hbl, hbq, hbp, hbr⟩ := bytes_both w.heap.size bt (w.heap.size + 1) N y2 Lr HSV.out.2.1 HN.out
                          obtain ⟨cr, hcp, hcr⟩ := clean_both w.heap.size bt (w.heap.size + 1) N y2 Lr HN.out
                          have HLP := Lib.hid hlp
                          have HLR := Lib.hid hlr
                          have HBP := Lib.hid hbp
                          have HBR := Lib.hid hbr
                          have HCP := Lib.hid hcp
                          have HCR := Lib.hid hcr
                          have s2 : (x2.add k).block < V1.heap.size := Nat.lt_of_lt_of_le p2 HBV.out.size
                          have s3 : (x3.add k).block < V1.heap.size := Nat.lt_of_lt_of_le p3 HBV.out.size
                          have s4 : (x4.add k).block < V1.heap.size := Nat.lt_of_lt_of_le p4 HBV.out.size
                          clear hlp hlr hbp hbr hcp hcr
                          as_aux_lemma =>
                            go_upto_region 15 with fail
                            apply wp_region_auto [140, 141, 142, 143, 144, 145, 146, 147, 148, 149, 150, 151, 152, 153, 139, 154, 155, 18] [_, _, _, _, _, _, _, _, _, _, _, _, _, _, _, _, _, _] (fun W' => Below V1.heap.size V1 W')
                            case hm => kernel_rfl
                            case hT => intro y; simp only [setAll, List.setIfInBounds_toArray, List.set_cons_succ, List.set_cons_zero]; exact rfl
                            case hok => kernel_rfl
                            case hn => decide
                            case hw => exact (Below.refl _ _).drew
                            case hs =>
                              refine auto_op 140 [] (by kernel_rfl) (fun y w' HW hd K hK => ?_) ?_
                              · go_simp
                                refine hK _ _ ?_ ?_ HW
                                · simp [upd]
                                · exact rfl
                              refine auto_op 141 [] (by kernel_rfl) (fun y w' HW hd K hK => ?_) ?_
                              · go_simp
                                refine hK _ _ ?_ ?_ HW
                                · simp [upd]
                                · exact rfl
                              refine auto_op 142 [] (by kernel_rfl) (fun y w' HW hd K hK => ?_) ?_
                              · go_simp
                                refine hK _ _ ?_ ?_ HW
                                · simp [upd]
                                · exact rfl
                              refine auto_op 143 [1, 2] (by kernel_rfl) (fun y w' HW hd K hK => ?_) ?_
                              · have e1 := hd_nth (hd 1 (by simp)) rfl
                                have e2 := hd_nth (hd 2 (by simp)) rfl
                                go_simp
                                refine hK _ _ ?_ ?_ HW
                                · simp [upd, e1, e2]
                                · exact rfl
                              refine auto_op 144 [3] (by kernel_rfl) (fun y w' HW hd K hK => ?_) ?_
                              · have e3 := hd_nth (hd 3 (by simp)) rfl
                                have hcl : ∀ p : Addr, p.block < V1.heap.size → w'.cell? p = V1.cell? p := fun p hp => HW.cell hp
                                go_simp
                                refine hK _ _ ?_ ?_ HW
                                · simp [upd, e3]
                                · exact rfl
                              refine auto_op 145 [] (by kernel_rfl) (fun y w' HW hd K hK => ?_) ?_
                              · go_simp
                                refine hK _ _ ?_ ?_ HW
                                · simp [upd]
                                · exact rfl
                              refine auto_op 146 [] (by kernel_rfl) (fun y w' HW hd K hK => ?_) ?_
                              · go_simp
                                refine hK _ _ ?_ ?_ HW
                                · simp [upd]
                                · exact rfl
                              refine auto_op 147 [5, 6] (by kernel_rfl) (fun y w' HW hd K hK => ?_) ?_
                              · have e5 := hd_nth (hd 5 (by simp)) rfl
                                have e6 := hd_nth (hd 6 (by simp)) rfl
                                go_simp
                                refine hK _ _ ?_ ?_ HW
                                · simp [upd, e5, e6]
                                · exact rfl
                              refine auto_op 148 [7] (by kernel_rfl) (fun y w' HW hd K hK => ?_) ?_
                              · have e7 := hd_nth (hd 7 (by simp)) rfl
                                have hcl : ∀ p : Addr, p.block < V1.heap.size → w'.cell? p = V1.cell? p := fun p hp => HW.cell hp
                                go_simp
                                refine hK _ _ ?_ ?_ HW
                                · simp [upd, e7]
                                · exact rfl
                              refine auto_op 149 [] (by kernel_rfl) (fun y w' HW hd K hK => ?_) ?_
                              · go_simp
                                refine hK _ _ ?_ ?_ HW
                                · simp [upd]
                                · exact rfl
                              refine auto_op 150 [] (by kernel_rfl) (fun y w' HW hd K hK => ?_) ?_
                              · go_simp
                                refine hK _ _ ?_ ?_ HW
                                · simp [upd]
                                · exact rfl
                              refine auto_op 151 [9, 10] (by kernel_rfl) (fun y w' HW hd K hK => ?_) ?_
                              · have e9 := hd_nth (hd 9 (by simp)) rfl
                                have e10 := hd_nth (hd 10 (by simp)) rfl
                                go_simp
                                refine hK _ _ ?_ ?_ HW
                                · simp [upd, e9, e10]
                                · exact rfl
                              refine auto_op 152 [11] (by kernel_rfl) (fun y w' HW hd K hK => ?_) ?_
                              · have e11 := hd_nth (hd 11 (by simp)) rfl
                                have hcl : ∀ p : Addr, p.block < V1.heap.size → w'.cell? p = V1.cell? p := fun p hp => HW.cell hp
                                go_simp
                                refine hK _ _ ?_ ?_ HW
                                · simp [upd, e11]
                                · exact rfl
                              refine auto_op 153 [0, 4, 8, 12] (by kernel_rfl) (fun y w' HW hd K hK => ?_) ?_
                              · have e0 := hd_nth (hd 0 (by simp)) rfl
                                have e4 := hd_nth (hd 4 (by simp)) rfl
                                have e8 := hd_nth (hd 8 (by simp)) rfl
                                have e12 := hd_nth (hd 12 (by simp)) rfl
                                go_simp
                                refine (HLP.out _ (HSV.out.below HW HSV.out.lt)).mono ?_
                                rintro e w3 ⟨rfl, rfl⟩
                                refine hK _ _ ?_ ?_ HW
                                · simp [upd, e0, e4, e8, e12]
                                · exact rfl
                              refine auto_op 139 [13] (by kernel_rfl) (fun y w' HW hd K hK => ?_) ?_
                              · have e13 := hd_nth (hd 13 (by simp)) rfl
                                go_simp
                                refine hK _ _ ?_ ?_ HW
                                · simp [upd, e13]
                                · exact rfl
                              refine auto_op 154 [14] (by kernel_rfl) (fun y w' HW hd K hK => ?_) ?_
                              · have e14 := hd_nth (hd 14 (by simp)) rfl
                                go_simp
                                refine hK _ _ ?_ ?_ HW
                                · simp [upd, e14]
                                · exact rfl
                              refine auto_op 155 [14] (by kernel_rfl) (fun y w' HW hd K hK => ?_) ?_
                              · have e14 := hd_nth (hd 14 (by simp)) rfl
                                go_simp
                                refine hK _ _ ?_ ?_ HW
                                · simp [upd, e14]
                                · exact rfl
                              refine auto_op 18 [15, 13, 0, 1, 2, 3, 4, 5, 6, 7, 8, 9, 10, 11, 12, 13, 14, 15] (by kernel_rfl) (fun y w' HW hd K hK => ?_) ?_
                              · have e0 := hd_nth (hd 0 (by simp)) rfl
                                have e1 := hd_nth (hd 1 (by simp)) rfl
                                have e2 := hd_nth (hd 2 (by simp)) rfl
                                have e3 := hd_nth (hd 3 (by simp)) rfl
                                have e4 := hd_nth (hd 4 (by simp)) rfl
                                have e5 := hd_nth (hd 5 (by simp)) rfl
                                have e6 := hd_nth (hd 6 (by simp)) rfl
                                have e7 := hd_nth (hd 7 (by simp)) rfl
                                have e8 := hd_nth (hd 8 (by simp)) rfl
                                have e9 := hd_nth (hd 9 (by simp)) rfl
                                have e10 := hd_nth (hd 10 (by simp)) rfl
                                have e11 := hd_nth (hd 11 (by simp)) rfl
                                have e12 := hd_nth (hd 12 (by simp)) rfl
                                have e13 := hd_nth (hd 13 (by simp)) rfl
                                have e14 := hd_nth (hd 14 (by simp)) rfl
                                have e15 := hd_nth (hd 15 (by simp)) rfl
                                go_simp
                                refine hK _ _ ?_ ?_ HW
                                · simp [upd, e0, e1, e2, e3, e4, e5, e6, e7, e8, e9, e10, e11, e12, e13, e14, e15]
                                · exact rfl
                              refine auto_last fun y w' HW hd K hK => ?_
                              have e0 := hd_nth (hd 0 (by omega)) rfl
                              have e1 := hd_nth (hd 1 (by omega)) rfl
                              have e2 := hd_nth (hd 2 (by omega)) rfl
                              have e3 := hd_nth (hd 3 (by omega)) rfl
                              have e4 := hd_nth (hd 4 (by omega)) rfl
                              have e5 := hd_nth (hd 5 (by omega)) rfl
                              have e6 := hd_nth (hd 6 (by omega)) rfl
                              have e7 := hd_nth (hd 7 (by omega)) rfl
                              have e8 := hd_nth (hd 8 (by omega)) rfl
                              have e9 := hd_nth (hd 9 (by omega)) rfl
                              have e10 := hd_nth (hd 10 (by omega)) rfl
                              have e11 := hd_nth (hd 11 (by omega)) rfl
                              have e12 := hd_nth (hd 12 (by omega)) rfl
                              have e13 := hd_nth (hd 13 (by omega)) rfl
                              have e14 := hd_nth (hd 14 (by omega)) rfl
                              have e15 := hd_nth (hd 15 (by omega)) rfl
                              have e16 := hd_nth (hd 16 (by omega)) rfl
                              have e17 := hd_nth (hd 17 (by omega)) rfl
                              go_simp
                              refine hK _ _ ?_
                              clear hd hK K e0 e1 e2 e3 e4 e5 e6 e7 e8 e9 e10 e11 e12 e13 e14 e15 e16 e17
                              have HBV2 := Lib.hid (HBV.out.trans (HW.mono HBV.out.size))
                              have HSV2 := Lib.hid (HSV.out.below HW HSV.out.lt)
                              have HRV2 := Lib.hid (HRV.out.below HW)
                              clear r2 r3 r4 s2 s3 s4 HSV HRV HBV HW
                              rename World => V2
                              have r2 := (HBV2.out.cell p2).trans T2.out
                              have r3 := (HBV2.out.cell p3).trans T3.out
                              have r4 := (HBV2.out.cell p4).trans T4.out
                              have s2 : (x2.add k).block < V2.heap.size := Nat.lt_of_lt_of_le p2 HBV2.out.size
                              have s3 : (x3.add k).block < V2.heap.size := Nat.lt_of_lt_of_le p3 HBV2.out.size
                              have s4 : (x4.add k).block < V2.heap.size := Nat.lt_of_lt_of_le p4 HBV2.out.size
                              go_upto_region 16 with fail
                              apply wp_region_auto [157, 158, 159, 160, 161, 162, 163, 164, 165, 166, 167, 168, 169, 170, 156, 171, 172, 20] [_, _, _, _, _, _, _, _, _, _, _, _, _, _, _, _, _, _] (fun W' => Below V2.heap.size V2 W')
                              case hm => kernel_rfl
                              case hT => intro y; simp only [setAll, List.setIfInBounds_toArray, List.set_cons_succ, List.set_cons_zero]; exact rfl
                              case hok => kernel_rfl
                              case hn => decide
                              case hw => exact (Below.refl _ _).drew
                              case hs =>
                                refine auto_op 157 [] (by kernel_rfl) (fun y w' HW hd K hK => ?_) ?_
                                · go_simp
                                  refine hK _ _ ?_ ?_ HW
                                  · simp [upd]
                                  · exact rfl
                                refine auto_op 158 [] (by kernel_rfl) (fun y w' HW hd K hK => ?_) ?_
                                · go_simp
                                  refine hK _ _ ?_ ?_ HW
                                  · simp [upd]
                                  · exact rfl
                                refine auto_op 159 [] (by kernel_rfl) (fun y w' HW hd K hK => ?_) ?_
                                · go_simp
                                  refine hK _ _ ?_ ?_ HW
                                  · simp [upd]
                                  · exact rfl
                                refine auto_op 160 [1, 2] (by kernel_rfl) (fun y w' HW hd K hK => ?_) ?_
                                · have e1 := hd_nth (hd 1 (by simp)) rfl
                                  have e2 := hd_nth (hd 2 (by simp)) rfl
                                  go_simp
                                  refine hK _ _ ?_ ?_ HW
                                  · simp [upd, e1, e2]
                                  · exact rfl
                                refine auto_op 161 [3] (by kernel_rfl) (fun y w' HW hd K hK => ?_) ?_
                                · have e3 := hd_nth (hd 3 (by simp)) rfl
                                  have hcl : ∀ p : Addr, p.block < V2.heap.size → w'.cell? p = V2.cell? p := fun p hp => HW.cell hp
                                  go_simp
                                  refine hK _ _ ?_ ?_ HW
                                  · simp [upd, e3]
                                  · exact rfl
                                refine auto_op 162 [] (by kernel_rfl) (fun y w' HW hd K hK => ?_) ?_
                                · go_simp
                                  refine hK _ _ ?_ ?_ HW
                                  · simp [upd]
                                  · exact rfl
                                refine auto_op 163 [] (by kernel_rfl) (fun y w' HW hd K hK => ?_) ?_
                                · go_simp
                                  refine hK _ _ ?_ ?_ HW
                                  · simp [upd]
                                  · exact rfl
                                refine auto_op 164 [5, 6] (by kernel_rfl) (fun y w' HW hd K hK => ?_) ?_
                                · have e5 := hd_nth (hd 5 (by simp)) rfl
                                  have e6 := hd_nth (hd 6 (by simp)) rfl
                                  go_simp
                                  refine hK _ _ ?_ ?_ HW
                                  · simp [upd, e5, e6]
                                  · exact rfl
                                refine auto_op 165 [7] (by kernel_rfl) (fun y w' HW hd K hK => ?_) ?_
                                · have e7 := hd_nth (hd 7 (by simp)) rfl
                                  have hcl : ∀ p : Addr, p.block < V2.heap.size → w'.cell? p = V2.cell? p := fun p hp => HW.cell hp
                                  go_simp
                                  refine hK _ _ ?_ ?_ HW
                                  · simp [upd, e7]
                                  · exact rfl
                                refine auto_op 166 [] (by kernel_rfl) (fun y w' HW hd K hK => ?_) ?_
                                · go_simp
                                  refine hK _ _ ?_ ?_ HW
                                  · simp [upd]
                                  · exact rfl
                                refine auto_op 167 [] (by kernel_rfl) (fun y w' HW hd K hK => ?_) ?_
                                · go_simp
                                  refine hK _ _ ?_ ?_ HW
                                  · simp [upd]
                                  · exact rfl
                                refine auto_op 168 [9, 10] (by kernel_rfl) (fun y w' HW hd K hK => ?_) ?_
                                · have e9 := hd_nth (hd 9 (by simp)) rfl
                                  have e10 := hd_nth (hd 10 (by simp)) rfl
                                  go_simp
                                  refine hK _ _ ?_ ?_ HW
                                  · simp [upd, e9, e10]
                                  · exact rfl
                                refine auto_op 169 [11] (by kernel_rfl) (fun y w' HW hd K hK => ?_) ?_
                                · have e11 := hd_nth (hd 11 (by simp)) rfl
                                  have hcl : ∀ p : Addr, p.block < V2.heap.size → w'.cell? p = V2.cell? p := fun p hp => HW.cell hp
                                  go_simp
                                  refine hK _ _ ?_ ?_ HW
                                  · simp [upd, e11]
                                  · exact rfl
                                refine auto_op 170 [0, 4, 8, 12] (by kernel_rfl) (fun y w' HW hd K hK => ?_) ?_
                                · have e0 := hd_nth (hd 0 (by simp)) rfl
                                  have e4 := hd_nth (hd 4 (by simp)) rfl
                                  have e8 := hd_nth (hd 8 (by simp)) rfl
                                  have e12 := hd_nth (hd 12 (by simp)) rfl
                                  go_simp
                                  refine (HLR.out _ (HRV2.out.below HW)).mono ?_
                                  rintro e w3 ⟨rfl, rfl⟩
                                  refine hK _ _ ?_ ?_ HW
                                  · simp [upd, e0, e4, e8, e12]
                                  · exact rfl
                                refine auto_op 156 [13] (by kernel_rfl) (fun y w' HW hd K hK => ?_) ?_
                                · have e13 := hd_nth (hd 13 (by simp)) rfl
                                  go_simp
                                  refine hK _ _ ?_ ?_ HW
                                  · simp [upd, e13]
                                  · exact rfl
                                refine auto_op 171 [14] (by kernel_rfl) (fun y w' HW hd K hK => ?_) ?_
                                · have e14 := hd_nth (hd 14 (by simp)) rfl
                                  go_simp
                                  refine hK _ _ ?_ ?_ HW
                                  · simp [upd, e14]
                                  · exact rfl
                                refine auto_op 172 [14] (by kernel_rfl) (fun y w' HW hd K hK => ?_) ?_
                                · have e14 := hd_nth (hd 14 (by simp)) rfl
                                  go_simp
                                  refine hK _ _ ?_ ?_ HW
                                  · simp [upd, e14]
                                  · exact rfl
                                refine auto_op 20 [15, 13, 0, 1, 2, 3, 4, 5, 6, 7, 8, 9, 10, 11, 12, 13, 14, 15] (by kernel_rfl) (fun y w' HW hd K hK => ?_) ?_
                                · have e0 := hd_nth (hd 0 (by simp)) rfl
                                  have e1 := hd_nth (hd 1 (by simp)) rfl
                                  have e2 := hd_nth (hd 2 (by simp)) rfl
                                  have e3 := hd_nth (hd 3 (by simp)) rfl
                                  have e4 := hd_nth (hd 4 (by simp)) rfl
                                  have e5 := hd_nth (hd 5 (by simp)) rfl
                                  have e6 := hd_nth (hd 6 (by simp)) rfl
                                  have e7 := hd_nth (hd 7 (by simp)) rfl
                                  have e8 := hd_nth (hd 8 (by simp)) rfl
                                  have e9 := hd_nth (hd 9 (by simp)) rfl
                                  have e10 := hd_nth (hd 10 (by simp)) rfl
                                  have e11 := hd_nth (hd 11 (by simp)) rfl
                                  have e12 := hd_nth (hd 12 (by simp)) rfl
                                  have e13 := hd_nth (hd 13 (by simp)) rfl
                                  have e14 := hd_nth (hd 14 (by simp)) rfl
                                  have e15 := hd_nth (hd 15 (by simp)) rfl
                                  go_simp
                                  refine hK _ _ ?_ ?_ HW
                                  · simp [upd, e0, e1, e2, e3, e4, e5, e6, e7, e8, e9, e10, e11, e12, e13, e14, e15]
                                  · exact rfl
                                refine auto_last fun y w' HW hd K hK => ?_
                                have e0 := hd_nth (hd 0 (by omega)) rfl
                                have e1 := hd_nth (hd 1 (by omega)) rfl
                                have e2 := hd_nth (hd 2 (by omega)) rfl
                                have e3 := hd_nth (hd 3 (by omega)) rfl
                                have e4 := hd_nth (hd 4 (by omega)) rfl
                                have e5 := hd_nth (hd 5 (by omega)) rfl
                                have e6 := hd_nth (hd 6 (by omega)) rfl
                                have e7 := hd_nth (hd 7 (by omega)) rfl
                                have e8 := hd_nth (hd 8 (by omega)) rfl
                                have e9 := hd_nth (hd 9 (by omega)) rfl
                                have e10 := hd_nth (hd 10 (by omega)) rfl
                                have e11 := hd_nth (hd 11 (by omega)) rfl
                                have e12 := hd_nth (hd 12 (by omega)) rfl
                                have e13 := hd_nth (hd 13 (by omega)) rfl
                                have e14 := hd_nth (hd 14 (by omega)) rfl
                                have e15 := hd_nth (hd 15 (by omega)) rfl
                                have e16 := hd_nth (hd 16 (by omega)) rfl
                                have e17 := hd_nth (hd 17 (by omega)) rfl
                                go_simp
                                refine hK _ _ ?_
                                clear hd hK K e0 e1 e2 e3 e4 e5 e6 e7 e8 e9 e10 e11 e12 e13 e14 e15 e16 e17
                                have HBV3 := Lib.hid (HBV2.out.trans (HW.mono HBV2.out.size))
                                have HSV3 := Lib.hid (HSV2.out.below HW HSV2.out.lt)
                                have HRV3 := Lib.hid (HRV2.out.below HW)
                                clear r2 r3 r4 s2 s3 s4 HSV2 HRV2 HBV2 HW HLP HLR
                                rename World => V3
                                have r2 := (HBV3.out.cell p2).trans T2.out
                                as_aux_lemma =>
                                  go_wp2_with fail
                                  refine (HBP.out V3 HSV3.out).mono ?_
                                  rintro e V4 ⟨ba1, bc1, rfl, hrow1, hb4⟩
                                  have HBV4 := Lib.hid (HBV3.out.trans (hb4.mono HBV3.out.size))
                                  have HSV4 := Lib.hid (HSV3.out.below hb4 HSV3.out.lt)
                                  have HRV4 := Lib.hid (HRV3.out.below hb4)
                                  have HROW1 := Lib.hid hrow1
                                  clear r2 HSV3 HRV3 HBV3 hb4 hrow1
                                  have r2 := (HBV4.out.cell p2).trans T2.out
                                  go_wp2_with fail
                                  refine (HBR.out V4 HRV4.out).mono ?_
                                  rintro e V5 ⟨ba2, bc2, rfl, hrow2, hb5⟩
                                  have HBV5 := Lib.hid (HBV4.out.trans (hb5.mono HBV4.out.size))
                                  have HSV5 := Lib.hid (HSV4.out.below hb5 HSV4.out.lt)
                                  have HRV5 := Lib.hid (HRV4.out.below hb5)
                                  have HROW3 := Lib.hid (HROW1.out.below hb5)
                                  have HROW4 := Lib.hid hrow2
                                  have HCV1 : Hid (∀ W, Below V5.heap.size V5 W → (convert 22 9 (.slice ba1 bq bc1)).run Try.prog W = .ok (.string (strOfNums bxs)) W) := fun W hW => run_convert_row Try.underlying22 Try.underlying5 Try.underlying9 ((HROW3.out.more (by have := hb5.size; omega)).below hW)
                                  have HCV2 : Hid (∀ W, Below V5.heap.size V5 W → (convert 22 9 (.slice ba2 bq bc2)).run Try.prog W = .ok (.string (strOfNums bxs)) W) := fun W hW => run_convert_row Try.underlying22 Try.underlying5 Try.underlying9 (HROW4.out.below hW)
                                  generalize strOfNums bxs = SB at HCV1 HCV2
                                  obtain ⟨fv, fvs, hfT⟩ := HRV5.out
                                  have f0 := hfT.cell0
                                  have f1 := hfT.lt
                                  obtain ⟨fa, fc, rfl⟩ := hfT.form0
                                  have HLN : Hid (∀ W, Below V5.heap.size V5 W → Calls Try.prog 20 #[.pointer (some ⟨w.heap.size, 0, none⟩)] W fun e w' => e = .returned (.int .i64 N) ∧ W = w') := fun W hW => len_of w.heap.size N W (HSV5.out.below hW HSV5.out.lt).cell1
                                  clear r2 HSV4 HRV4 HBV4 hb5 hrow2 HROW1 HROW3 HROW4 hbl hbq hfT HBP HBR
                                  have r2 := (HBV5.out.cell p2).trans T2.out
                                  have s2 : (x2.add k).block < V5.heap.size := Nat.lt_of_lt_of_le p2 HBV5.out.size
                                  go_upto_region 19 with fail
                                  apply wp_region_auto [191, 192, 193, 194, 195, 196, 197, 198, 199, 200, 201, 202, 203, 204, 205, 206, 207, 208, 209, 210, 211, 212, 213, 214, 215, 216, 217, 218, 219, 220, 221, 222, 223, 224, 225, 226, 227, 228, 229, 230, 231, 232, 233, 234] [_, _, _, _, _, _, _, _, _, _, _, _, _, _, _, _, _, _, _, _, _, _, _, _, _, _, _, _, _, _, _, _, _, _, _, _, _, _, _, _, _, _, _, _] (fun W' => Below V5.heap.size V5 W')
                                  case hm => kernel_rfl
                                  case hT => intro y; simp only [setAll, List.setIfInBounds_toArray, List.set_cons_succ, List.set_cons_zero]; exact rfl
                                  case hok => kernel_rfl
                                  case hn => decide
                                  case hw => exact (Below.refl _ _).drew
                                  case hs =>
                                    refine auto_op 191 [] (by kernel_rfl) (fun y w' HW hd K hK => ?_) ?_
                                    · go_simp
                                      refine hK _ _ ?_ ?_ HW
                                      · simp [upd]
                                      · exact rfl
                                    refine auto_op 192 [] (by kernel_rfl) (fun y w' HW hd K hK => ?_) ?_
                                    · go_simp
                                      refine hK _ _ ?_ ?_ HW
                                      · simp [upd]
                                      · exact rfl
                                    refine auto_op 193 [0, 1] (by kernel_rfl) (fun y w' HW hd K hK => ?_) ?_
                                    · have e0 := hd_nth (hd 0 (by simp)) rfl
                                      have e1 := hd_nth (hd 1 (by simp)) rfl
                                      go_simp
                                      refine hK _ _ ?_ ?_ HW
                                      · simp [upd, e0, e1]
                                      · exact rfl
                                    refine auto_op 194 [2] (by kernel_rfl) (fun y w' HW hd K hK => ?_) ?_
                                    · have e2 := hd_nth (hd 2 (by simp)) rfl
                                      go_simp
                                      refine hK _ _ ?_ ?_ HW
                                      · simp [upd, e2]
                                      · exact rfl
                                    refine auto_op 195 [3] (by kernel_rfl) (fun y w' HW hd K hK => ?_) ?_
                                    · have e3 := hd_nth (hd 3 (by simp)) rfl
                                      go_simp
                                      refine hK _ _ ?_ ?_ HW
                                      · simp [upd, e3]
                                      · exact rfl
                                    refine auto_op 196 [3] (by kernel_rfl) (fun y w' HW hd K hK => ?_) ?_
                                    · have e3 := hd_nth (hd 3 (by simp)) rfl
                                      go_simp
                                      refine hK _ _ ?_ ?_ HW
                                      · simp [upd, e3]
                                      · exact rfl
                                    refine auto_op 197 [4, 5, 3] (by kernel_rfl) (fun y w' HW hd K hK => ?_) ?_
                                    · have e3 := hd_nth (hd 3 (by simp)) rfl
                                      have e4 := hd_nth (hd 4 (by simp)) rfl
                                      have e5 := hd_nth (hd 5 (by simp)) rfl
                                      go_simp
                                      refine hK _ _ ?_ ?_ HW
                                      · simp [upd, e3, e4, e5]
                                      · exact rfl
                                    refine auto_op 198 [3, 6] (by kernel_rfl) (fun y w' HW hd K hK => ?_) ?_
                                    · have e3 := hd_nth (hd 3 (by simp)) rfl
                                      have e6 := hd_nth (hd 6 (by simp)) rfl
                                      go_simp
                                      refine hK _ _ ?_ ?_ HW
                                      · simp [upd, e3, e6]
                                      · exact rfl
                                    refine auto_op 199 [7, 3] (by kernel_rfl) (fun y w' HW hd K hK => ?_) ?_
                                    · have e3 := hd_nth (hd 3 (by simp)) rfl
                                      have e7 := hd_nth (hd 7 (by simp)) rfl
                                      go_simp
                                      refine hK _ _ ?_ ?_ HW
                                      · simp [upd, e3, e7]
                                      · exact rfl
                                    refine auto_op 200 [8] (by kernel_rfl) (fun y w' HW hd K hK => ?_) ?_
                                    · have e8 := hd_nth (hd 8 (by simp)) rfl
                                      go_simp
                                      refine hK _ _ ?_ ?_ HW
                                      · simp [upd, e8]
                                      · exact rfl
                                    refine auto_op 201 [9, 8] (by kernel_rfl) (fun y w' HW hd K hK => ?_) ?_
                                    · have e8 := hd_nth (hd 8 (by simp)) rfl
                                      have e9 := hd_nth (hd 9 (by simp)) rfl
                                      have hcv := HCV1.out w' HW
                                      go_simp
                                      refine hK _ _ ?_ ?_ HW
                                      · simp [upd, e8, e9]
                                      · exact rfl
                                    refine auto_op 202 [8] (by kernel_rfl) (fun y w' HW hd K hK => ?_) ?_
                                    · have e8 := hd_nth (hd 8 (by simp)) rfl
                                      go_simp
                                      refine hK _ _ ?_ ?_ HW
                                      · simp [upd, e8]
                                      · exact rfl
                                    refine auto_op 203 [11, 8] (by kernel_rfl) (fun y w' HW hd K hK => ?_) ?_
                                    · have e8 := hd_nth (hd 8 (by simp)) rfl
                                      have e11 := hd_nth (hd 11 (by simp)) rfl
                                      have hcv := HCV2.out w' HW
                                      go_simp
                                      refine hK _ _ ?_ ?_ HW
                                      · simp [upd, e8, e11]
                                      · exact rfl
                                    refine auto_op 204 [10, 12, 8] (by kernel_rfl) (fun y w' HW hd K hK => ?_) ?_
                                    · have e8 := hd_nth (hd 8 (by simp)) rfl
                                      have e10 := hd_nth (hd 10 (by simp)) rfl
                                      have e12 := hd_nth (hd 12 (by simp)) rfl
                                      go_simp
                                      refine hK _ _ ?_ ?_ HW
                                      · simp [upd, e8, e10, e12]
                                      · exact rfl
                                    refine auto_op 205 [8, 13] (by kernel_rfl) (fun y w' HW hd K hK => ?_) ?_
                                    · have e8 := hd_nth (hd 8 (by simp)) rfl
                                      have e13 := hd_nth (hd 13 (by simp)) rfl
                                      go_simp
                                      refine hK _ _ ?_ ?_ HW
                                      · simp [upd, e8, e13]
                                      · exact rfl
                                    refine auto_op 206 [14, 8] (by kernel_rfl) (fun y w' HW hd K hK => ?_) ?_
                                    · have e8 := hd_nth (hd 8 (by simp)) rfl
                                      have e14 := hd_nth (hd 14 (by simp)) rfl
                                      go_simp
                                      refine hK _ _ ?_ ?_ HW
                                      · simp [upd, e8, e14]
                                      · exact rfl
                                    refine auto_op 207 [15] (by kernel_rfl) (fun y w' HW hd K hK => ?_) ?_
                                    · have e15 := hd_nth (hd 15 (by simp)) rfl
                                      go_simp
                                      refine hK _ _ ?_ ?_ HW
                                      · simp [upd, e15]
                                      · exact rfl
                                    refine auto_op 208 [15] (by kernel_rfl) (fun y w' HW hd K hK => ?_) ?_
                                    · have e15 := hd_nth (hd 15 (by simp)) rfl
                                      go_simp
                                      refine hK _ _ ?_ ?_ HW
                                      · simp [upd, e15]
                                      · exact rfl
                                    refine auto_op 209 [16, 17, 15] (by kernel_rfl) (fun y w' HW hd K hK => ?_) ?_
                                    · have e15 := hd_nth (hd 15 (by simp)) rfl
                                      have e16 := hd_nth (hd 16 (by simp)) rfl
                                      have e17 := hd_nth (hd 17 (by simp)) rfl
                                      go_simp
                                      refine hK _ _ ?_ ?_ HW
                                      · simp [upd, e15, e16, e17]
                                      · exact rfl
                                    refine auto_op 210 [15, 18] (by kernel_rfl) (fun y w' HW hd K hK => ?_) ?_
                                    · have e15 := hd_nth (hd 15 (by simp)) rfl
                                      have e18 := hd_nth (hd 18 (by simp)) rfl
                                      go_simp
                                      refine hK _ _ ?_ ?_ HW
                                      · simp [upd, e15, e18]
                                      · exact rfl
                                    refine auto_op 211 [19, 15] (by kernel_rfl) (fun y w' HW hd K hK => ?_) ?_
                                    · have e15 := hd_nth (hd 15 (by simp)) rfl
                                      have e19 := hd_nth (hd 19 (by simp)) rfl
                                      go_simp
                                      refine hK _ _ ?_ ?_ HW
                                      · simp [upd, e15, e19]
                                      · exact rfl
                                    refine auto_op 212 [20] (by kernel_rfl) (fun y w' HW hd K hK => ?_) ?_
                                    · have e20 := hd_nth (hd 20 (by simp)) rfl
                                      go_simp
                                      refine hK _ _ ?_ ?_ HW
                                      · simp [upd, e20]
                                      · exact rfl
                                    refine auto_op 213 [20] (by kernel_rfl) (fun y w' HW hd K hK => ?_) ?_
                                    · have e20 := hd_nth (hd 20 (by simp)) rfl
                                      go_simp
                                      refine hK _ _ ?_ ?_ HW
                                      · simp [upd, e20]
                                      · exact rfl
                                    refine auto_op 214 [20] (by kernel_rfl) (fun y w' HW hd K hK => ?_) ?_
                                    · have e20 := hd_nth (hd 20 (by simp)) rfl
                                      go_simp
                                      refine hK _ _ ?_ ?_ HW
                                      · simp [upd, e20]
                                      · exact rfl
                                    refine auto_op 215 [22, 23, 20] (by kernel_rfl) (fun y w' HW hd K hK => ?_) ?_
                                    · have e20 := hd_nth (hd 20 (by simp)) rfl
                                      have e22 := hd_nth (hd 22 (by simp)) rfl
                                      have e23 := hd_nth (hd 23 (by simp)) rfl
                                      go_simp
                                      refine hK _ _ ?_ ?_ HW
                                      · simp [upd, e20, e22, e23]
                                      · exact rfl
                                    refine auto_op 216 [24, 20] (by kernel_rfl) (fun y w' HW hd K hK => ?_) ?_
                                    · have e20 := hd_nth (hd 20 (by simp)) rfl
                                      have e24 := hd_nth (hd 24 (by simp)) rfl
                                      have hcl : ∀ p : Addr, p.block < V5.heap.size → w'.cell? p = V5.cell? p := fun p hp => HW.cell hp
                                      go_simp
                                      refine hK _ _ ?_ ?_ HW
                                      · simp [upd, e20, e24]
                                      · exact rfl
                                    refine auto_op 217 [21, 25, 20, 20] (by kernel_rfl) (fun y w' HW hd K hK => ?_) ?_
                                    · have e20 := hd_nth (hd 20 (by simp)) rfl
                                      have e21 := hd_nth (hd 21 (by simp)) rfl
                                      have e25 := hd_nth (hd 25 (by simp)) rfl
                                      go_simp
                                      refine (HCP.out _ (HSV5.out.below HW HSV5.out.lt)).mono ?_
                                      rintro e w3 ⟨rfl, rfl⟩
                                      refine hK _ _ ?_ ?_ HW
                                      · simp [upd, e20, e21, e25]
                                      · exact rfl
                                    refine auto_op 218 [20] (by kernel_rfl) (fun y w' HW hd K hK => ?_) ?_
                                    · have e20 := hd_nth (hd 20 (by simp)) rfl
                                      go_simp
                                      refine hK _ _ ?_ ?_ HW
                                      · simp [upd, e20]
                                      · exact rfl
                                    refine auto_op 219 [20] (by kernel_rfl) (fun y w' HW hd K hK => ?_) ?_
                                    · have e20 := hd_nth (hd 20 (by simp)) rfl
                                      go_simp
                                      refine hK _ _ ?_ ?_ HW
                                      · simp [upd, e20]
                                      · exact rfl
                                    refine auto_op 220 [20] (by kernel_rfl) (fun y w' HW hd K hK => ?_) ?_
                                    · have e20 := hd_nth (hd 20 (by simp)) rfl
                                      go_simp
                                      refine hK _ _ ?_ ?_ HW
                                      · simp [upd, e20]
                                      · exact rfl
                                    refine auto_op 221 [28, 29, 20] (by kernel_rfl) (fun y w' HW hd K hK => ?_) ?_
                                    · have e20 := hd_nth (hd 20 (by simp)) rfl
                                      have e28 := hd_nth (hd 28 (by simp)) rfl
                                      have e29 := hd_nth (hd 29 (by simp)) rfl
                                      go_simp
                                      refine hK _ _ ?_ ?_ HW
                                      · simp [upd, e20, e28, e29]
                                      · exact rfl
                                    refine auto_op 222 [30, 20] (by kernel_rfl) (fun y w' HW hd K hK => ?_) ?_
                                    · have e20 := hd_nth (hd 20 (by simp)) rfl
                                      have e30 := hd_nth (hd 30 (by simp)) rfl
                                      have hcl : ∀ p : Addr, p.block < V5.heap.size → w'.cell? p = V5.cell? p := fun p hp => HW.cell hp
                                      go_simp
                                      refine hK _ _ ?_ ?_ HW
                                      · simp [upd, e20, e30]
                                      · exact rfl
                                    refine auto_op 223 [27, 31, 26, 20] (by kernel_rfl) (fun y w' HW hd K hK => ?_) ?_
                                    · have e20 := hd_nth (hd 20 (by simp)) rfl
                                      have e26 := hd_nth (hd 26 (by simp)) rfl
                                      have e27 := hd_nth (hd 27 (by simp)) rfl
                                      have e31 := hd_nth (hd 31 (by simp)) rfl
                                      go_simp
                                      refine (HCR.out _ (HRV5.out.below HW)).mono ?_
                                      rintro e w3 ⟨rfl, rfl⟩
                                      refine hK _ _ ?_ ?_ HW
                                      · simp [upd, e20, e26, e27, e31]
                                      · exact rfl
                                    refine auto_op 224 [26, 32, 20] (by kernel_rfl) (fun y w' HW hd K hK => ?_) ?_
                                    · have e20 := hd_nth (hd 20 (by simp)) rfl
                                      have e26 := hd_nth (hd 26 (by simp)) rfl
                                      have e32 := hd_nth (hd 32 (by simp)) rfl
                                      go_simp
                                      refine hK _ _ ?_ ?_ HW
                                      · simp [upd, e20, e26, e32]
                                      · exact rfl
                                    refine auto_op 225 [20, 33] (by kernel_rfl) (fun y w' HW hd K hK => ?_) ?_
                                    · have e20 := hd_nth (hd 20 (by simp)) rfl
                                      have e33 := hd_nth (hd 33 (by simp)) rfl
                                      go_simp
                                      refine hK _ _ ?_ ?_ HW
                                      · simp [upd, e20, e33]
                                      · exact rfl
                                    refine auto_op 226 [34, 32] (by kernel_rfl) (fun y w' HW hd K hK => ?_) ?_
                                    · have e32 := hd_nth (hd 32 (by simp)) rfl
                                      have e34 := hd_nth (hd 34 (by simp)) rfl
                                      go_simp
                                      refine hK _ _ ?_ ?_ HW
                                      · simp [upd, e32, e34]
                                      · exact rfl
                                    refine auto_op 227 [35] (by kernel_rfl) (fun y w' HW hd K hK => ?_) ?_
                                    · have e35 := hd_nth (hd 35 (by simp)) rfl
                                      go_simp
                                      refine hK _ _ ?_ ?_ HW
                                      · simp [upd, e35]
                                      · exact rfl
                                    refine auto_op 228 [36, 35, 35] (by kernel_rfl) (fun y w' HW hd K hK => ?_) ?_
                                    · have e35 := hd_nth (hd 35 (by simp)) rfl
                                      have e36 := hd_nth (hd 36 (by simp)) rfl
                                      go_simp
                                      refine (HLN.out _ HW).mono ?_
                                      rintro e w3 ⟨rfl, rfl⟩
                                      refine hK _ _ ?_ ?_ HW
                                      · simp [upd, e35, e36]
                                      · exact rfl
                                    refine auto_op 229 [35] (by kernel_rfl) (fun y w' HW hd K hK => ?_) ?_
                                    · have e35 := hd_nth (hd 35 (by simp)) rfl
                                      go_simp
                                      refine hK _ _ ?_ ?_ HW
                                      · simp [upd, e35]
                                      · exact rfl
                                    refine auto_op 230 [38, 35] (by kernel_rfl) (fun y w' HW hd K hK => ?_) ?_
                                    · have e35 := hd_nth (hd 35 (by simp)) rfl
                                      have e38 := hd_nth (hd 38 (by simp)) rfl
                                      go_simp
                                      refine hK _ _ ?_ ?_ HW
                                      · simp [upd, e35, e38]
                                      · exact rfl
                                    refine auto_op 231 [39, 35] (by kernel_rfl) (fun y w' HW hd K hK => ?_) ?_
                                    · have e35 := hd_nth (hd 35 (by simp)) rfl
                                      have e39 := hd_nth (hd 39 (by simp)) rfl
                                      go_simp
                                      refine hK _ _ ?_ ?_ HW
                                      · simp [upd, e35, e39]
                                      · exact rfl
                                    refine auto_op 232 [40, 35] (by kernel_rfl) (fun y w' HW hd K hK => ?_) ?_
                                    · have e35 := hd_nth (hd 35 (by simp)) rfl
                                      have e40 := hd_nth (hd 40 (by simp)) rfl
                                      have hcl : ∀ p : Addr, p.block < V5.heap.size → w'.cell? p = V5.cell? p := fun p hp => HW.cell hp
                                      go_simp
                                      refine hK _ _ ?_ ?_ HW
                                      · simp [upd, e35, e40]
                                      · exact rfl
                                    refine auto_op 233 [41, 35] (by kernel_rfl) (fun y w' HW hd K hK => ?_) ?_
                                    · have e35 := hd_nth (hd 35 (by simp)) rfl
                                      have e41 := hd_nth (hd 41 (by simp)) rfl
                                      go_simp
                                      refine hK _ _ ?_ ?_ HW
                                      · simp [upd, e35, e41]
                                      · exact rfl
                                    refine auto_op 234 [37, 42, 35] (by kernel_rfl) (fun y w' HW hd K hK => ?_) ?_
                                    · have e35 := hd_nth (hd 35 (by simp)) rfl
                                      have e37 := hd_nth (hd 37 (by simp)) rfl
                                      have e42 := hd_nth (hd 42 (by simp)) rfl
                                      go_simp
                                      refine hK _ _ ?_ ?_ HW
                                      · simp [upd, e35, e37, e42]
                                      · exact rfl
                                    refine auto_last fun y w' HW hd K hK => ?_
                                    have e0 := hd_nth (hd 0 (by omega)) rfl
                                    have e1 := hd_nth (hd 1 (by omega)) rfl
                                    have e2 := hd_nth (hd 2 (by omega)) rfl
                                    have e3 := hd_nth (hd 3 (by omega)) rfl
                                    have e4 := hd_nth (hd 4 (by omega)) rfl
                                    have e5 := hd_nth (hd 5 (by omega)) rfl
                                    have e6 := hd_nth (hd 6 (by omega)) rfl
                                    have e7 := hd_nth (hd 7 (by omega)) rfl
                                    have e8 := hd_nth (hd 8 (by omega)) rfl
                                    have e9 := hd_nth (hd 9 (by omega)) rfl
                                    have e10 := hd_nth (hd 10 (by omega)) rfl
                                    have e11 := hd_nth (hd 11 (by omega)) rfl
                                    have e12 := hd_nth (hd 12 (by omega)) rfl
                                    have e13 := hd_nth (hd 13 (by omega)) rfl
                                    have e14 := hd_nth (hd 14 (by omega)) rfl
                                    have e15 := hd_nth (hd 15 (by omega)) rfl
                                    have e16 := hd_nth (hd 16 (by omega)) rfl
                                    have e17 := hd_nth (hd 17 (by omega)) rfl
                                    have e18 := hd_nth (hd 18 (by omega)) rfl
                                    have e19 := hd_nth (hd 19 (by omega)) rfl
                                    have e20 := hd_nth (hd 20 (by omega)) rfl
                                    have e21 := hd_nth (hd 21 (by omega)) rfl
                                    have e22 := hd_nth (hd 22 (by omega)) rfl
                                    have e23 := hd_nth (hd 23 (by omega)) rfl
                                    have e24 := hd_nth (hd 24 (by omega)) rfl
                                    have e25 := hd_nth (hd 25 (by omega)) rfl
                                    have e26 := hd_nth (hd 26 (by omega)) rfl
                                    have e27 := hd_nth (hd 27 (by omega)) rfl
                                    have e28 := hd_nth (hd 28 (by omega)) rfl
                                    have e29 := hd_nth (hd 29 (by omega)) rfl
                                    have e30 := hd_nth (hd 30 (by omega)) rfl
                                    have e31 := hd_nth (hd 31 (by omega)) rfl
                                    have e32 := hd_nth (hd 32 (by omega)) rfl
                                    have e33 := hd_nth (hd 33 (by omega)) rfl
                                    have e34 := hd_nth (hd 34 (by omega)) rfl
                                    have e35 := hd_nth (hd 35 (by omega)) rfl
                                    have e36 := hd_nth (hd 36 (by omega)) rfl
                                    have e37 := hd_nth (hd 37 (by omega)) rfl
                                    have e38 := hd_nth (hd 38 (by omega)) rfl
                                    have e39 := hd_nth (hd 39 (by omega)) rfl
                                    have e40 := hd_nth (hd 40 (by omega)) rfl
                                    have e41 := hd_nth (hd 41 (by omega)) rfl
                                    have e42 := hd_nth (hd 42 (by omega)) rfl
                                    have e43 := hd_nth (hd 43 (by omega)) rfl
                                    go_simp
                                    refine hK _ _ ?_
                                    clear hd hK K e0 e1 e2 e3 e4 e5 e6 e7 e8 e9 e10 e11 e12 e13 e14 e15 e16 e17 e18 e19 e20 e21 e22 e23 e24 e25 e26 e27 e28 e29 e30 e31 e32 e33 e34 e35 e36 e37 e38 e39 e40 e41 e42 e43
                                    have HBV6 := Lib.hid (HBV5.out.trans (HW.mono HBV5.out.size))
                                    have HSV6 := Lib.hid (HSV5.out.below HW HSV5.out.lt)
                                    have HRV6 := Lib.hid (HRV5.out.below HW)
                                    clear r2 s2 HSV5 HRV5 HBV5 HW HCV1 HCV2 HCP HCR HLN f0 f1
                                    rename World => V6
                                    go_wp2
                                    go_roundw
                                    case rel => exact ⟨k + 1, Lr, by omega, by go_num, HSV6, HRV6, HBV6⟩
                                    case measure => simp [intOf]; omega
                  · have d6 : ¬ (k : Int) < 60 := by omega
                    as_aux_lemma =>
                      go_wp2
                      go_meet
                      exact HB
                · have d5 : ¬ (k : Int) < (n5 : Int) := by omega
                  as_aux_lemma =>
                    go_wp2
                    go_meet
                    exact HB
              · have d4 : ¬ (k : Int) < (n4 : Int) := by omega
                as_aux_lemma =>
                  go_wp2
                  go_meet
                  exact HB
            · have d3 : ¬ (k : Int) < (n3 : Int) := by omega
              as_aux_lemma =>
                go_wp2
                go_meet
                exact HB
          · have d2 : ¬ (k : Int) < (n2 : Int) := by omega
            as_aux_lemma =>
              go_wp2
              go_meet
              exact HB
        · have d1 : ¬ (k : Int) < (n1 : Int) := by omega
          as_aux_lemma =>
            go_wp2
            go_meet
            exact HB
    case rest =>
      as_aux_lemma =>
        have HBc := hcut
        clear hcut HS2 HT HB2
        go_wp2_with fail
        refine (awake_any _).mono ?_
        rintro e w3 ⟨rfl, hb3⟩
        have HB3 := Lib.hid (HBc.out.trans (hb3.mono HBc.out.size))
        clear hb3
        go_wp2
        go_ret
        exact ⟨rfl, HB3.out⟩
end Go.Proofs.Ytdckmbkgnlmphaa.Fr
