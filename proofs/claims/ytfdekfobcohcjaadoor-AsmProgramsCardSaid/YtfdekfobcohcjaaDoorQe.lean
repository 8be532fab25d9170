/- Package asm: Text of a right instruction. -/
import Derived.Test.YtfdekfobcohcjaaDoorQd
namespace Go.Proofs.YtfdekfobcohcjaaDoor.As
open Go.RowKit Ut Is Pl
set_option linter.unusedVariables false
set_option maxRecDepth 100000
set_option maxHeartbeats 8000000

def textK (n : Nat) (d a b m : Int) (k : Nat) : List UInt8 := joinB (nameAt n) (((partsN n).take k).map (wordP d a b m))
theorem textK_all (n : Nat) (d a b m : Int) : textK n d a b m (partsN n).length = textL n d a b m := by unfold textK textL; rw [List.take_length]
theorem textK_zero (n : Nat) (d a b m : Int) : textK n d a b m 0 = nameAt n := by simp [textK, joinB]
theorem textK_succ (n : Nat) (d a b m : Int) (k : Nat) (h : k < (partsN n).length) : textK n d a b m (k + 1) = textK n d a b m k ++ (32 :: (((partsN n).getD k (0, [])).2 ++ Lib.itoa (fld d a b m ((partsN n).getD k (0, [])).1))) := by
  unfold textK joinB
  have e : (partsN n).take (k + 1) = (partsN n).take k ++ [(partsN n).getD k (0, [])] := by
    rw [List.take_add_one, List.getElem?_eq_getElem h]
    simp [List.getD, h]
  rw [e]
  simp [wordP]
theorem tb_app2 (a b : List UInt8) : tb a ++ tb b = tb (a ++ b) := by
  apply ByteArray.ext
  simp [tb, ByteArray.data_append]
theorem text_good (n : Nat) (d a b m : Int) (hv : validB n d a b m = true) (w : World) (hw : Held w) :
    Calls Tryd.prog 7 #[insV n d a b m] w fun e w' => e = .returned (.tuple #[.string (tb (textL n d a b m)), .int .i64 0]) ∧ Below w.heap.size w w' := by
  obtain ⟨⟨hn1, hn2⟩, hd, ha, hbb, hm1, hm2⟩ := valid_bounds hv
  have hn42 : n < 42 := by omega
  have hb0 := ins_below n d a b m w
  have HKD : Hid (Held (insW n d a b m w)) := Lib.hid (hw.more hb0)
  have HB0 := Lib.hid hb0
  have HI0 := Lib.hid (ins_at n d a b m w)
  have HK : Hid (∀ w, HasT w → Calls Tryd.prog 17 #[insV n d a b m] w fun e w' => e = .returned (.bool true) ∧ Below w.heap.size w w') := Lib.hid fun w hw => valid_any n d a b m true hv w hw
  obtain ⟨NV, hNV⟩ : ∃ NV, NV = Value.agg (nameL.map encS).toArray := ⟨_, rfl⟩
  have HN : Hid (∀ W, Calls Tryd.prog 18 #[] W fun e w' => e = .returned NV ∧ Below W.heap.size W w') := Lib.hid (by rw [hNV]; exact names_any)
  obtain ⟨S0, hS0⟩ : ∃ S0, S0 = tb (nameAt n) := ⟨_, rfl⟩
  have hix : ∀ W, (Instr.index 46 NV (.int .i64 n)).run Tryd.prog W = .ok (.string S0) W := by rw [hNV, hS0]; exact index_names n hn42
  have HS0 := Lib.hid hS0
  have HSH := Lib.hid (text_short hv).1
  have HN42 := Lib.hid hn42
  have HL3 := Lib.hid (parts_len n hn42)
  have hz : ∀ j, -10000 < fld d a b m j ∧ fld d a b m j < 10000 := fun j => by unfold fld; repeat' split
                                                                               all_goals omega
  have HZ := Lib.hid hz
  have HNM := Lib.hid (name_good n hn42).2.2.2.1
  clear hNV hS0 hv hw hb0 hd ha hbb hm1 hm2 hn42 hz
  go_enter Tryd.func7, Tryd.ntmps7
  go_wp2_with fail
  refine (HK.out _ HKD.out.has).mono ?_
  rintro e w1 ⟨rfl, hb1⟩
  have hi1 := HI0.out.more hb1
  obtain ⟨c0, _, _, _, _⟩ := hi1.cells
  have hlt1 := hi1.lt
  have HI1 := Lib.hid hi1
  have HB1 := Lib.hid (HB0.out.trans (hb1.mono HB0.out.size))
  have HD1 := Lib.hid (HKD.out.more hb1)
  clear hi1 hb1
  go_wp2
  apply wp_region_auto [10, 11, 12, 13] [_, _, _, _] (fun W' => Below w1.heap.size w1 W')
  case hm => kernel_rfl
  case hT => intro y; simp only [setAll, List.setIfInBounds_toArray, List.set_cons_succ, List.set_cons_zero]; exact rfl
  case hok => kernel_rfl
  case hn => decide
  case hw => exact (Below.refl _ _).drew
  case hs =>
    refine auto_op 10 [] (by kernel_rfl) (fun y w' HW hd K hK => ?_) ?_
    · go_simp
      refine (HN.out _).mono ?_
      rintro e w3 ⟨rfl, hb3⟩
      refine hK _ _ ?_ ?_ (HW.trans (hb3.mono HW.size))
      · simp [upd]
      · exact rfl
    refine auto_op 11 [] (by kernel_rfl) (fun y w' HW hd K hK => ?_) ?_
    · go_simp
      refine hK _ _ ?_ ?_ HW
      · simp [upd]
      · exact rfl
    refine auto_op 12 [1] (by kernel_rfl) (fun y w' HW hd K hK => ?_) ?_
    · have e1 := hd_nth (hd 1 (by simp)) rfl
      have hcl : ∀ p : Addr, p.block < w1.heap.size → w'.cell? p = w1.cell? p := fun p hp => HW.cell hp
      go_simp
      refine hK _ _ ?_ ?_ HW
      · simp [upd, e1]
      · exact rfl
    refine auto_op 13 [0, 2] (by kernel_rfl) (fun y w' HW hd K hK => ?_) ?_
    · have e0 := hd_nth (hd 0 (by simp)) rfl
      have e2 := hd_nth (hd 2 (by simp)) rfl
      go_simp
      refine hK _ _ ?_ ?_ HW
      · simp [upd, e0, e2]
      · exact rfl
    refine auto_last fun y w' HW hd K hK => ?_
    have e0 := hd_nth (hd 0 (by omega)) rfl
    have e1 := hd_nth (hd 1 (by omega)) rfl
    have e2 := hd_nth (hd 2 (by omega)) rfl
    have e3 := hd_nth (hd 3 (by omega)) rfl
    go_simp
    refine hK _ _ ?_
    clear hd hK K e0 e1 e2 e3
    have hi2 := HI1.out.more HW
    have HD2 := Lib.hid (HD1.out.more HW)
    have HB2 := Lib.hid (HB1.out.trans (HW.mono HB1.out.size))
    have hp := parts_any n d a b m (by omega) (by omega) _ w' HD2.out.has hi2
    rw [Int.toNat_natCast] at hp
    have HI2 := Lib.hid hi2
    clear HW c0 hi2 hix
    go_wp2_with fail
    refine hp.mono ?_
    rintro e w4 ⟨v, rfl, hown, hb4⟩
    clear hp
    obtain ⟨ga, cap, rfl, hcap1, hcap2, hrow⟩ := hown.row
    have hi4 := HI2.out.more hb4
    have HR := Lib.hid hrow
    have HI4 := Lib.hid hi4
    have HD4 := Lib.hid (HD2.out.more hb4)
    have HB4 := Lib.hid (HB2.out.trans (hb4.mono HB2.out.size))
    have HTS := Lib.hid (fun k (hk : k < (partsN n).length) => textK_succ n d a b m k hk)
    have HTA := Lib.hid (textK_all n d a b m)
    have HPA := Lib.hid (fun k (hk : k < (partsN n).length) => parts_at n HN42.out k hk)
    have HT0 := Lib.hid (textK_zero n d a b m)
    have hL := HL3.out
    unfold maxLen at hcap2
    clear hown hrow hb4 hi4
    generalize hPL : (partsN n).length = PL at hL hcap1 HTS HTA HPA HR ⊢
    clear hPL
    go_wp2
    go_loopw [4, 16] (fun t i wr => ∃ k : Nat, k ≤ PL ∧ i = .int .i64 k ∧ t = .string (tb (textK n d a b m k)) ∧ (textK n d a b m k).length ≤ 5 + 8 * k ∧ Below w4.heap.size w4 wr) (fun _ i _ => PL - (intOf i).toNat)
    case atStart => exact ⟨0, Nat.zero_le _, rfl, by rw [HT0.out, ← HS0.out], by rw [HT0.out]; have := HNM.out; omega, Below.refl _ _⟩
    case round =>
      obtain ⟨k, hk, rfl, rfl, hlen, hbw⟩ := hrel
      by_cases hlt : k < PL
      · obtain ⟨g, rfl, hg, q1, q2⟩ := HR.out k hlt
        obtain ⟨j1, j4, hmk⟩ := HPA.out k hlt
        have hts := HTS.out k hlt
        have r1 := (hbw.cell (p := ⟨g, k * 2, none⟩) hg).trans q1
        have r2 := (hbw.cell (p := ⟨g, k * 2 + 1, none⟩) hg).trans q2
        have hi5 := HI4.out.more hbw
        have hD5 := HD4.out.more hbw
        have r3 := InsAt.fld hi5 _ j1 j4
        have hzz := HZ.out ((partsN n).getD k (0, [])).1
        generalize (partsN n).getD k (0, []) = q at r1 r2 r3 hts hmk hzz j1 j4
        obtain ⟨j, mk⟩ := q
        simp only at r1 r2 r3 hts hmk hzz j1 j4
        have hglt : g < wr.heap.size := Nat.lt_of_lt_of_le hg hbw.size
        have hplt : w.heap.size < wr.heap.size := hi5.lt
        generalize fld d a b m j = z at r3 hts hzz
        have hit := Lib.hid (fun W hW => itoa_any z (by omega) (by omega) W hW)
        have hil := itoa_len z hzz.1 hzz.2
        have hml : mk.length ≤ 1 := by rcases hmk with rfl | rfl <;> decide
        have HTS1 := Lib.hid hts
        have HLN := Lib.hid hlen
        have HIL := Lib.hid hil
        have HML := Lib.hid hml
        have hus : (tb (textK n d a b m k)).size ≤ 50 := by rw [tb_size]; omega
        have hms : (tb mk).size ≤ 1 := by rw [tb_size]; exact hml
        have hns : (tb (Lib.itoa z)).size ≤ 5 := by rw [tb_size]; exact hil
        clear q1 q2 hts hmk hlen hil hml hzz hi5
        generalize hUT : tb (textK n d a b m k) = ut at hus ⊢
        have HUT := Lib.hid hUT
        generalize hMT : tb mk = mt at hms r2
        have HMT := Lib.hid hMT
        generalize hNT : tb (Lib.itoa z) = nt at hns hit
        have HNT := Lib.hid hNT
        clear hUT hMT hNT
        have hc1 : ¬ 9223372036854775807 < 1 + mt.size := by omega
        have hc2 : ¬ 9223372036854775807 < (1 + mt.size) + nt.size := by omega
        have hc3 : ¬ 9223372036854775807 < (({ data := #[32] } : ByteArray) ++ mt).size + nt.size := by rw [ByteArray.size_append]; exact hc2
        have hc4 : ¬ 9223372036854775807 < ut.size + ((1 + mt.size) + nt.size) := by omega
        have hc5 : ¬ 9223372036854775807 < ut.size + ((({ data := #[32] } : ByteArray) ++ mt) ++ nt).size := by rw [ByteArray.size_append, ByteArray.size_append]; exact hc4
        have HBW := Lib.hid hbw
        clear hbw
        go_wp2
        obtain ⟨V1, hV1⟩ : ∃ V1, V1 = wr.alloc (.cells [Value.pointer (some ⟨w.heap.size, j, none⟩), .string mt].toArray 53) := ⟨_, rfl⟩
        have hnew : V1.heap[wr.heap.size]? = some (.cells [Value.pointer (some ⟨w.heap.size, j, none⟩), .string mt].toArray 53 (0, 0)) := by rw [hV1]; exact heap_alloc_new _ _
        have hbV : Below wr.heap.size wr V1 := by rw [hV1]; exact (Below.refl _ _).alloc (Nat.le_refl _) _
        rw [← hV1]
        have d0 := cell_of hnew 0 _ rfl
        have d1 := cell_of hnew 1 _ rfl
        have d3 := (hbV.cell (p := ⟨w.heap.size, j, none⟩) hplt).trans r3
        have hl1 : wr.heap.size < V1.heap.size := (Array.getElem?_eq_some_iff.1 hnew).1
        have hl2 : w.heap.size < V1.heap.size := by omega
        have HDV := Lib.hid (hD5.more hbV)
        have HBV := Lib.hid (HBW.out.trans (hbV.mono HBW.out.size))
        clear hV1 hnew hbV r1 r2 r3 hD5
        apply wp_region_auto [20, 21, 22, 23, 24, 25, 26, 27, 28, 29, 30] [_, _, _, _, _, _, _, _, _, _, _] (fun W' => Below V1.heap.size V1 W')
        case hm => kernel_rfl
        case hT => intro y; simp only [setAll, List.setIfInBounds_toArray, List.set_cons_succ, List.set_cons_zero]; exact rfl
        case hok => kernel_rfl
        case hn => decide
        case hw => exact (Below.refl _ _).drew
        case hs =>
          refine auto_op 20 [] (by kernel_rfl) (fun y w' HW hd K hK => ?_) ?_
          · go_simp
            refine hK _ _ ?_ ?_ HW
            · simp [upd]
            · exact rfl
          refine auto_op 21 [] (by kernel_rfl) (fun y w' HW hd K hK => ?_) ?_
          · go_simp
            refine hK _ _ ?_ ?_ HW
            · simp [upd]
            · exact rfl
          refine auto_op 22 [1] (by kernel_rfl) (fun y w' HW hd K hK => ?_) ?_
          · have e1 := hd_nth (hd 1 (by simp)) rfl
            have hcl : ∀ p : Addr, p.block < V1.heap.size → w'.cell? p = V1.cell? p := fun p hp => HW.cell hp
            go_simp
            refine hK _ _ ?_ ?_ HW
            · simp [upd, e1]
            · exact rfl
          refine auto_op 23 [2] (by kernel_rfl) (fun y w' HW hd K hK => ?_) ?_
          · have e2 := hd_nth (hd 2 (by simp)) rfl
            go_simp
            refine hK _ _ ?_ ?_ HW
            · simp [upd, e2]
            · exact rfl
          refine auto_op 24 [] (by kernel_rfl) (fun y w' HW hd K hK => ?_) ?_
          · go_simp
            refine hK _ _ ?_ ?_ HW
            · simp [upd]
            · exact rfl
          refine auto_op 25 [4] (by kernel_rfl) (fun y w' HW hd K hK => ?_) ?_
          · have e4 := hd_nth (hd 4 (by simp)) rfl
            have hcl : ∀ p : Addr, p.block < V1.heap.size → w'.cell? p = V1.cell? p := fun p hp => HW.cell hp
            go_simp
            refine hK _ _ ?_ ?_ HW
            · simp [upd, e4]
            · exact rfl
          refine auto_op 26 [5] (by kernel_rfl) (fun y w' HW hd K hK => ?_) ?_
          · have e5 := hd_nth (hd 5 (by simp)) rfl
            go_simp
            refine hK _ _ ?_ ?_ HW
            · simp [upd, e5]
            · exact rfl
          refine auto_op 27 [6] (by kernel_rfl) (fun y w' HW hd K hK => ?_) ?_
          · have e6 := hd_nth (hd 6 (by simp)) rfl
            have hcl : ∀ p : Addr, p.block < V1.heap.size → w'.cell? p = V1.cell? p := fun p hp => HW.cell hp
            go_simp
            refine hK _ _ ?_ ?_ HW
            · simp [upd, e6]
            · exact rfl
          refine auto_op 28 [7] (by kernel_rfl) (fun y w' HW hd K hK => ?_) ?_
          · have e7 := hd_nth (hd 7 (by simp)) rfl
            go_simp
            refine (hit.out _ (HDV.out.more HW)).mono ?_
            rintro e w3 ⟨rfl, hb3⟩
            refine hK _ _ ?_ ?_ (HW.trans (hb3.mono HW.size))
            · simp [upd, e7]
            · exact rfl
          refine auto_op 29 [3, 8] (by kernel_rfl) (fun y w' HW hd K hK => ?_) ?_
          · have e3 := hd_nth (hd 3 (by simp)) rfl
            have e8 := hd_nth (hd 8 (by simp)) rfl
            go_simp
            refine hK _ _ ?_ ?_ HW
            · simp [upd, e3, e8]
            · exact rfl
          refine auto_op 30 [0, 9] (by kernel_rfl) (fun y w' HW hd K hK => ?_) ?_
          · have e0 := hd_nth (hd 0 (by simp)) rfl
            have e9 := hd_nth (hd 9 (by simp)) rfl
            go_simp
            refine hK _ _ ?_ ?_ HW
            · simp [upd, e0, e9]
            · exact rfl
          refine auto_last fun y w' HW hd K hK => ?_
          have e0 := hd_nth (hd 0 (by omega)) rfl
          have e1 := hd_nth (hd 1 (by omega)) rfl
          have e2 := hd_nth (hd 2 (by omega)) rfl
          have e3 := hd_nth (hd 3 (by omega)) rfl
          have e4 := hd_nth (hd 4 (by omega)) rfl
          have e5 := hd_nth (hd 5 (by omega)) rfl
          have e6 := hd_nth (hd 6 (by omega)) rfl
          have e7 := hd_nth (hd 7 (by omega)) rfl
          have e8 := hd_nth (hd 8 (by omega)) rfl
          have e9 := hd_nth (hd 9 (by omega)) rfl
          have e10 := hd_nth (hd 10 (by omega)) rfl
          go_simp
          refine hK _ _ ?_
          clear hd hK K e0 e1 e2 e3 e4 e5 e6 e7 e8 e9 e10
          have HBN := Lib.hid (HBV.out.trans (HW.mono HBV.out.size))
          clear HW
          go_wp2
          go_roundw
          case rel =>
            refine ⟨k + 1, by omega, by go_num, ?_, ?_, HBN.out⟩
            · rw [HTS1.out, ← tb_app2, HUT.out, ← HMT.out, ← HNT.out]
              show Value.string (ut ++ _) = Value.string (ut ++ tb ([32] ++ (mk ++ Lib.itoa z)))
              rw [← tb_app2, ← tb_app2]
              congr 2
            · rw [HTS1.out]
              have h1 := HLN.out
              have h2 := HML.out
              have h3 := HIL.out
              simp only [List.length_append, List.length_cons]
              omega
          case measure => simp [intOf]; omega
      · obtain rfl : k = PL := by omega
        have HBN := Lib.hid (HB4.out.trans (hbw.mono HB4.out.size))
        rw [HTA.out]
        clear hbw hlen
        generalize hU : tb (textL n d a b m) = ut
        have HU := Lib.hid hU
        clear hU
        go_wp2
        go_ret2
        exact ⟨by rw [HU.out]; rfl, HBN.out⟩
/-- Text's answer -/
def txS (o d a b m : Int) : ByteArray := if validB o d a b m = true then tb (textL o.toNat d a b m) else ⟨#[]⟩
def txE (o d a b m : Int) : Int := if validB o d a b m = true then 0 else 6
theorem text_any (o d a b m : Int) (w : World) (hw : Held w) :
    Calls Tryd.prog 7 #[insV o d a b m] w fun e w' => e = .returned (.tuple #[.string (txS o d a b m), .int .i64 (txE o d a b m)]) ∧ Below w.heap.size w w' := by
  unfold txS txE
  by_cases hv : validB o d a b m = true
  · obtain ⟨n, rfl⟩ : ∃ n : Nat, o = n := ⟨o.toNat, by have := (valid_bounds hv).1; omega⟩
    rw [if_pos hv, if_pos hv, Int.toNat_natCast]
    exact text_good n d a b m hv w hw
  · rw [if_neg hv, if_neg hv]
    exact text_bad o d a b m (by simpa using hv) w hw
end Go.Proofs.YtfdekfobcohcjaaDoor.As
