/- The document's Parse of an instruction's text. -/
import Derived.Test.YtfdekfobcohcjaaDoorQp
import Derived.Test.YtfdekfobcohcjaaDoorEq
namespace Go.Proofs.YtfdekfobcohcjaaDoor.As
open Go.RowKit Ut Is Pl
set_option linter.unusedVariables false
set_option maxRecDepth 100000
set_option maxHeartbeats 8000000

theorem refParse_none (s : ByteArray) (hs : s.size ≤ 1099511627776) (h : wordsL s.data.toList = none) (w : World) :
    Calls Tryd.prog 11 #[.string s] w fun e w' => e = .returned (.tuple #[insV 0 0 0 0 0, .int .i64 6]) ∧ Below w.heap.size w w' := by
  have hb := Lib.hid (ins_below 0 0 0 0 0 w)
  have HQ0 := Lib.hid (ins_at 0 0 0 0 0 w)
  have HS := Lib.hid (fun W => refSplit_any s hs W.heap.size W (Nat.le_refl _))
  rw [h] at HS
  have HSet : Hid (∀ (W : World) (j : Nat) (v : Value), Below w.heap.size w W → Below w.heap.size w (W.setCell ⟨w.heap.size, j, none⟩ v)) := Lib.hid fun W j v h => h.setCell (p := ⟨w.heap.size, j, none⟩) (by simp) _
  clear h hs
  go_enter Tryd.func11, Tryd.ntmps11
  go_wp2_with fail
  refine (HS.out _).mono ?_
  rintro e w1 ⟨v, rfl, _, _, hb1⟩
  have hq := HQ0.out.more hb1
  obtain ⟨r0, r1, r2, r3, r4⟩ := hq.cells
  have f0 := hq.frozen 0 (by omega)
  have f1 := hq.frozen 1 (by omega)
  have f2 := hq.frozen 2 (by omega)
  have f3 := hq.frozen 3 (by omega)
  have f4 := hq.frozen 4 (by omega)
  have hz := hq.lt
  have HB1 := Lib.hid (hb.out.trans (hb1.mono hb.out.size))
  clear hb1 hq
  go_wp2
  exact bodyPost_ret (v := .tuple #[insV 0 0 0 0 0, .int .i64 6]) (by simp [results, Tryd.results11, go_sem, r0, r1, r2, r3, r4]) rfl ⟨rfl, HSet.out _ _ _ (HSet.out _ _ _ (HSet.out _ _ _ (HSet.out _ _ _ (HSet.out _ _ _ HB1.out))))⟩
theorem words_le {s : ByteArray} {x : List UInt8} {xs : List (List UInt8)} {l : List UInt8} (hl : s.data.toList = l) (h : wordsL l = some (x :: xs)) (c : Nat) (hc : c < xs.length) : (xs.getD c []).length ≤ s.size := by
  have hm : xs.getD c [] ∈ xs := by
    simp [List.getD, hc]
  have h1 : (32 :: xs.getD c []) ∈ xs.map (32 :: ·) := List.mem_map.2 ⟨_, hm, rfl⟩
  have h2 := (List.sublist_flatten_of_mem h1).length_le
  have h3 := congrArg List.length (words_back2 h)
  have h4 : l.length = s.size := by rw [← hl]; rfl
  simp only [List.length_append, List.length_cons] at h2 h3
  omega
theorem refParse_some (s : ByteArray) (hs : s.size ≤ 1099511627776) (x : List UInt8) (xs : List (List UInt8)) (h : wordsL s.data.toList = some (x :: xs)) (w : World) :
    Calls Tryd.prog 11 #[.string s] w fun e w' => e = .returned (.tuple #[parV s.data.toList, .int .i64 (parE s.data.toList)]) ∧ Below w.heap.size w w' := by
  have hb := Lib.hid (ins_below 0 0 0 0 0 w)
  have HQ0 := Lib.hid (ins_at 0 0 0 0 0 w)
  have HS := Lib.hid (fun W => refSplit_any s hs W.heap.size W (Nat.le_refl _))
  rw [h] at HS
  simp only [Option.isSome_some, Option.getD_some] at HS
  have HN := Lib.hid refNames_any
  have HH := Lib.hid h
  have HSet : Hid (∀ (W : World) (j : Nat) (v : Value), Below w.heap.size w W → Below w.heap.size w (W.setCell ⟨w.heap.size, j, none⟩ v)) := Lib.hid fun W j v h => h.setCell (p := ⟨w.heap.size, j, none⟩) (by simp) _
  obtain ⟨l, hl⟩ : ∃ l, s.data.toList = l := ⟨_, rfl⟩
  have HWL := Lib.hid (fun c (hc : c < xs.length) => words_le hl (hl ▸ h) c hc)
  rw [hl] at HH ⊢
  clear h hl
  go_enter Tryd.func11, Tryd.ntmps11
  generalize hQQ : bodyPost _ _ _ = QQ
  have HQQ := Lib.hid hQQ
  clear hQQ
  go_wp2_with fail
  refine (HS.out _).mono ?_
  rintro e w1 ⟨v, rfl, hown, hlen, hb1⟩
  obtain ⟨ga, cap, rfl, hcap1, hcap2, hrow⟩ := hown.row
  have HRW := Lib.hid hrow
  have HQ1 := Lib.hid (HQ0.out.more hb1)
  have HB1 := Lib.hid (hb.out.trans (hb1.mono hb.out.size))
  obtain ⟨NW, hNW⟩ : ∃ NW, (x :: xs).length = NW := ⟨_, rfl⟩
  have HNW := Lib.hid hNW
  rw [hNW] at hcap1 hlen
  rw [hNW]
  clear hown hrow hb1 HQ0 hNW HS
  go_wp2_with fail
  refine (HN.out _).mono ?_
  rintro e w2 ⟨rfl, hg2, hgc, hb2⟩
  have HNR := Lib.hid (refNames_row hg2 hgc)
  have HQ2 := Lib.hid (HQ1.out.more hb2)
  have HB2 := Lib.hid (HB1.out.trans (hb2.mono HB1.out.size))
  have hrw2 : RowS w2 w2.heap.size ga NW (x :: xs) := (HNW.out ▸ HRW.out.below hb2).more hb2.size
  have HRW2 := Lib.hid hrw2
  have hnw1 : 1 ≤ NW := by have : (x :: xs).length = NW := HNW.out; simp at this; omega
  have hnx : xs.length + 1 = NW := HNW.out
  have HNX := Lib.hid hnx
  obtain ⟨xa, rfl, hxa, hxc⟩ := hrw2.at 0 (by omega)
  have hxc2 : w2.cell? xa = some (.string (tb x)) := (congrArg w2.cell? (addr_zero xa).symm).trans hxc
  have HXC := Lib.hid hxc2
  have hnw0 : 0 < NW := by omega
  have hnw2 : NW ≤ 1099511627777 := by omega
  obtain ⟨xt, hxt⟩ : ∃ xt, xt = tb x := ⟨_, rfl⟩
  have HXT := Lib.hid hxt
  unfold maxLen at hcap2
  clear hb2 hrw2 hxc hxc2 hgc HN HRW hnx hxt
  go_wp2
  go_loopw [7] (fun i wr => ∃ k : Nat, 1 ≤ k ∧ k ≤ 42 ∧ i = .int .i64 k ∧ (∀ j, 1 ≤ j → j < k → nameAt j ≠ x) ∧ Below w2.heap.size w2 wr) (fun i _ => 42 - (intOf i).toNat)
  case atStart => exact ⟨1, Nat.le_refl _, by omega, rfl, fun j h1 h2 => by omega, Below.refl _ _⟩
  case round =>
    obtain ⟨k, hk1, hk2, rfl, hno, hbw⟩ := hrel
    have HNO := Lib.hid hno
    have HBW := Lib.hid hbw
    have hqw := HQ2.out.more hbw
    have HQW := Lib.hid hqw
    clear hno
    by_cases hlt : k < 42
    · obtain ⟨na, hna, hnb, hnc⟩ := HNR.out.at k hlt
      obtain rfl : ⟨w1.heap.size, 0, none⟩ = na := by injection hna
      rw [add_plain] at hnc
      have q1 := (hbw.cell (p := ⟨w1.heap.size, k, none⟩) hg2).trans hnc
      have q2 := (hbw.cell hxa).trans HXC.out
      have hl1 : w1.heap.size < wr.heap.size := Nat.lt_of_lt_of_le hg2 hbw.size
      have hl2 : xa.block < wr.heap.size := Nat.lt_of_lt_of_le hxa hbw.size
      have hkz : (k : Int) ≤ 41 := by omega
      have hkz2 : (k : Int) < 42 := by omega
      have e41 : nameL.getD k [] = nameAt k := rfl
      rw [e41] at q1
      rw [← HXT.out] at q2
      obtain ⟨nt, hnt⟩ : ∃ nt, nt = tb (nameAt k) := ⟨_, rfl⟩
      rw [← hnt] at q1
      have HNT := Lib.hid hnt
      clear hnt hnc hna hnb hqw e41 hbw
      by_cases he : nameAt k = x
      · have hne : (nt.toList == xt.toList) = true := by rw [ByteArray.toList_eq, ByteArray.toList_eq, HNT.out, HXT.out, beq_iff_eq]; exact he
        have hne2 : (nt.toList != xt.toList) = false := by rw [bne, hne]; rfl
        have HE := Lib.hid he
        clear he
        go_upto_region 8 with fail
        apply wp_region_auto [31, 32, 33, 34, 35, 36, 37] [_, _, _, _, _, _, _] (fun W' => Below wr.heap.size wr W')
        case hm => kernel_rfl
        case hT => intro y; simp only [setAll, List.setIfInBounds_toArray, List.set_cons_succ, List.set_cons_zero]; exact rfl
        case hok => kernel_rfl
        case hn => decide
        case hw => exact (Below.refl _ _).drew
        case hs =>
          refine auto_op 31 [] (by kernel_rfl) (fun y w' HW hd K hK => ?_) ?_
          · go_simp
            refine hK _ _ ?_ ?_ HW
            · simp [upd]
            · exact rfl
          refine auto_op 32 [] (by kernel_rfl) (fun y w' HW hd K hK => ?_) ?_
          · go_simp
            refine hK _ _ ?_ ?_ HW
            · simp [upd]
            · exact rfl
          refine auto_op 33 [0, 1] (by kernel_rfl) (fun y w' HW hd K hK => ?_) ?_
          · have e0 := hd_nth (hd 0 (by simp)) rfl
            have e1 := hd_nth (hd 1 (by simp)) rfl
            go_simp
            refine hK _ _ ?_ ?_ HW
            · simp [upd, e0, e1]
            · exact rfl
          refine auto_op 34 [2] (by kernel_rfl) (fun y w' HW hd K hK => ?_) ?_
          · have e2 := hd_nth (hd 2 (by simp)) rfl
            have hcl : ∀ p : Addr, p.block < wr.heap.size → w'.cell? p = wr.cell? p := fun p hp => HW.cell hp
            go_simp
            refine hK _ _ ?_ ?_ HW
            · simp [upd, e2]
            · exact rfl
          refine auto_op 35 [] (by kernel_rfl) (fun y w' HW hd K hK => ?_) ?_
          · go_simp
            refine hK _ _ ?_ ?_ HW
            · simp [upd]
            · exact rfl
          refine auto_op 36 [4] (by kernel_rfl) (fun y w' HW hd K hK => ?_) ?_
          · have e4 := hd_nth (hd 4 (by simp)) rfl
            go_simp
            refine hK _ _ ?_ ?_ HW
            · simp [upd, e4]
            · exact rfl
          refine auto_op 37 [5] (by kernel_rfl) (fun y w' HW hd K hK => ?_) ?_
          · have e5 := hd_nth (hd 5 (by simp)) rfl
            have hcl : ∀ p : Addr, p.block < wr.heap.size → w'.cell? p = wr.cell? p := fun p hp => HW.cell hp
            go_simp
            refine hK _ _ ?_ ?_ HW
            · simp [upd, e5]
            · exact rfl
          refine auto_last fun y w' HW hd K hK => ?_
          have e0 := hd_nth (hd 0 (by omega)) rfl
          have e1 := hd_nth (hd 1 (by omega)) rfl
          have e2 := hd_nth (hd 2 (by omega)) rfl
          have e3 := hd_nth (hd 3 (by omega)) rfl
          have e4 := hd_nth (hd 4 (by omega)) rfl
          have e5 := hd_nth (hd 5 (by omega)) rfl
          have e6 := hd_nth (hd 6 (by omega)) rfl
          go_simp
          refine hK _ _ ?_
          clear hd hK K e0 e1 e2 e3 e4 e5 e6
          have HQ3 := Lib.hid (HQW.out.more HW)
          have HB3 := Lib.hid (HBW.out.trans (HW.mono HBW.out.size))
          have hidx : idxL x nameL 0 = (k : Int) := by rw [← HE.out]; exact (name_good k hlt).1
          have HIDX := Lib.hid hidx
          have HH3 := Lib.hid (refHas_any k hk1 (by omega))
          clear HW hidx q1 q2
          go_wp2_with fail
          refine (HH3.out _).mono ?_
          rintro e w4 ⟨rfl, rfl⟩
          have HB4 := Lib.hid (HB2.out.trans (HB3.out.mono HB2.out.size))
          obtain ⟨V, hV⟩ : ∃ V, V = (insW k 0 0 0 0 w').alloc (.cells [.bool (hD k), .bool (hA k), .bool (hB k), .bool (hI k)].toArray 4) := ⟨_, rfl⟩
          have hz1 : (insW k 0 0 0 0 w').heap.size = w'.heap.size + 1 := by simp
          have hnew : V.heap[w'.heap.size + 1]? = some (.cells [.bool (hD k), .bool (hA k), .bool (hB k), .bool (hI k)].toArray 4 (0, 0)) := by rw [hV, ← hz1]; exact heap_alloc_new _ _
          have hbI : Below w'.heap.size w' V := by rw [hV]; exact (ins_below k 0 0 0 0 w').alloc (by rw [hz1]; omega) _
          have hbV : Below (insW k 0 0 0 0 w').heap.size (insW k 0 0 0 0 w') V := by rw [hV]; exact (Below.refl _ _).alloc (Nat.le_refl _) _
          have hIV : InsF V w'.heap.size k (fun _ => 0) := InsAt.more (ins_at k 0 0 0 0 w') hbV
          have hcl : ∀ j, j < 4 → V.cell? ⟨w'.heap.size + 1, j, none⟩ = some (.bool (hasK k (j + 1))) := fun j hj => by
            refine cell_of hnew j _ ?_
            rcases (show j = 0 ∨ j = 1 ∨ j = 2 ∨ j = 3 by omega) with rfl | rfl | rfl | rfl <;> rfl
          have hgs : w'.heap.size + 1 < V.heap.size := (Array.getElem?_eq_some_iff.1 hnew).1
          have HV := Lib.hid hV
          have HIV := Lib.hid hIV
          have HCL := Lib.hid hcl
          have HQV := Lib.hid (HQ3.out.more hbI)
          have HBV := Lib.hid (HB4.out.trans (hbI.mono HB4.out.size))
          have hw2V : w2.heap.size ≤ w'.heap.size := HB3.out.size
          have HRV := Lib.hid (HRW2.out.below (HB3.out.trans (hbI.mono HB3.out.size)))
          have hw0 : w.heap.size < w'.heap.size := HQ3.out.lt
          have HST := Lib.hid hw0
          clear hV hnew hbI hbV hIV hcl
          go_wp2
          go_loopw [14, 15] (fun t i wr => ∃ q c : Nat, q ≤ 4 ∧ i = .int .i64 q ∧ t = .int .i64 ((c : Int) + 1) ∧ c = (partsF k q).length ∧ c ≤ xs.length ∧ goodF (partsF k q) xs = true ∧ InsF wr w'.heap.size k (fldF (partsF k q) xs) ∧ V.grownBy wr (some w'.heap.size)) (fun _ i _ => 4 - (intOf i).toNat)
          case atStart =>
            refine ⟨0, 0, by omega, rfl, rfl, by rw [partsF_zero]; rfl, by omega, by rw [partsF_zero]; rfl, ?_, ?_⟩
            · rw [partsF_zero]
              have := HIV.out
              rw [HV.out] at this
              exact this
            · rw [HV.out]
              exact grown_of_below (Below.refl _ _) _
          case round =>
            obtain ⟨q, c, hq, rfl, rfl, hc, hcx, hgd, hins, hgr⟩ := hrel
            have HC := Lib.hid hc
            have HCX := Lib.hid hcx
            have HGD := Lib.hid hgd
            have HIN := Lib.hid hins
            have HGR := Lib.hid hgr
            have hgsb : w'.heap.size + 1 ≠ w'.heap.size := by omega
            have hqr : InsAt wr w.heap.size 0 0 0 0 0 := (hgr.block _ (InsAt.lt HQV.out) (fun e => by injection e with e; omega)).trans HQV.out
            have HBR := Lib.hid (HBV.out.grown hgr HBV.out.size (fun i hi => by injection hi with hi; omega))
            obtain ⟨r0, r1, r2, r3, r4⟩ := hqr.cells
            have f0 := hqr.frozen 0 (by omega)
            have f1 := hqr.frozen 1 (by omega)
            have f2 := hqr.frozen 2 (by omega)
            have f3 := hqr.frozen 3 (by omega)
            have f4 := hqr.frozen 4 (by omega)
            have hz := hqr.lt
            have hlb := InsAt.lt hins
            have hgs2 : w'.heap.size + 1 < wr.heap.size := Nat.lt_of_lt_of_le hgs hgr.size
            have hxr : xa.block < wr.heap.size := by omega
            have hc4 : c ≤ 4 := by rw [hc]; exact partsF_len k q
            clear hc hcx hgr hqr
            rcases (show q = 0 ∨ q = 1 ∨ q = 2 ∨ q = 3 ∨ q = 4 by omega) with rfl | rfl | rfl | rfl | rfl
            · -- part 1
              have hcell := (World.cell?_of_block (a := ⟨w'.heap.size + 1, 0, none⟩) (HGR.out.block _ hgs (fun e => hgsb (by injection e)))).trans (HCL.out 0 (by omega))
              clear hins hgd
              cases hg : hasK k (0 + 1)
              · rw [show hasK k (0 + 1) = false from hg] at hcell
                have HE := Lib.hid (par_skip (n := k) (k := 0) (by omega) hg)
                clear hg
                go_wp2
                go_roundw
                case rel => exact ⟨1, c, by omega, rfl, rfl, by rw [HE.out]; exact HC.out, HCX.out, by rw [HE.out]; exact HGD.out, by rw [HE.out]; exact HIN.out, HGR.out⟩
                case measure => simp [intOf]
              · rw [show hasK k (0 + 1) = true from hg] at hcell
                have HG := Lib.hid hg
                clear hg
                by_cases hcx2 : c < xs.length
                · obtain ⟨wd, hwd⟩ : ∃ wd, wd = xs.getD c [] := ⟨_, rfl⟩
                  have hwl : wd.length ≤ s.size := by rw [hwd]; exact HWL.out c hcx2
                  obtain ⟨wt, hwt⟩ : ∃ wt, wt = tb wd := ⟨_, rfl⟩
                  have hwl2 : wt.data.toList = wd := by rw [hwt]; rfl
                  have hws : wt.size ≤ 1099511627776 := by rw [hwt, tb_size]; omega
                  have hcall := fun W => part_reg wt hws W
                  rw [hwl2] at hcall
                  obtain ⟨ya, hya, hyb, hyc⟩ := HRV.out.at (c + 1) (by have := HNX.out; omega)
                  obtain rfl : xa = ya := by injection hya
                  rw [show (x :: xs).getD (c + 1) [] = wd from by rw [hwd]; rfl, ← hwt] at hyc
                  have y7 : wr.cell? ⟨xa.block, xa.off + (c + 1), none⟩ = some (.string wt) := by
                    have e : xa.add (c + 1) = ⟨xa.block, xa.off + (c + 1), none⟩ := by unfold Addr.add; rw [if_neg (by omega)]
                    rw [← e]
                    refine (World.cell?_of_block (HGR.out.block _ (by rw [block_of_add]; omega) (fun e => ?_))).trans hyc
                    rw [block_of_add] at e
                    injection e with e
                    omega
                  have hxi : decide ((c : Int) + 1 < (NW : Int)) = true := decide_eq_true (by have := HNX.out; omega)
                  have hxi2 : ¬ (NW : Int) ≤ (c : Int) + 1 := by have := HNX.out; omega
                  have hxi3 : (c : Int) + 1 < (NW : Int) := by have := HNX.out; omega
                  have hxn : c + 1 < NW := by have := HNX.out; omega
                  have HCALL := Lib.hid hcall
                  have HWD := Lib.hid hwd
                  clear hcall hwl2 hwd hwl hwt hyc hya hyb hws
                  cases ht : rgB wd
                  · have hp : parT l = false := par_wrong (n := k) (k := 0) hlt HH.out HIDX.out (by omega) HG.out (by rw [← HC.out]; exact hcx2) (by rw [if_pos (show 0 < 3 by decide), ← HC.out, ← HWD.out]; exact ht)
                    have HP := Lib.hid hp
                    rw [ht] at HCALL
                    clear hp ht
                    go_wp2_with fail
                    refine (HCALL.out _).mono ?_
                    rintro e w6 ⟨rfl, rfl⟩
                    go_wp2
                    rw [← HQQ.out]
                    exact bodyPost_ret (v := .tuple #[insV 0 0 0 0 0, .int .i64 6]) (by simp [results, Tryd.results11, go_sem, r0, r1, r2, r3, r4]) rfl ⟨by unfold parV parE; rw [HP.out, if_neg (by decide), if_neg (by decide)], HSet.out _ _ _ (HSet.out _ _ _ (HSet.out _ _ _ (HSet.out _ _ _ (HSet.out _ _ _ HBR.out))))⟩
                  · have HSTP := Lib.hid (par_step (n := k) (xs := xs) (k := 0) (by omega) HG.out (by rw [← HC.out]; exact hcx2) (by rw [if_pos (show 0 < 3 by decide), ← HC.out, ← HWD.out]; exact ht) HGD.out)
                    rw [ht] at HCALL
                    have fz := InsAt.frozen HIN.out 1 (by omega)
                    obtain ⟨_, i1, i2, i3, i4⟩ := InsAt.cells HIN.out
                    clear ht
                    obtain ⟨z, hz2⟩ : ∃ z, z = (rgZ wd : Int) := ⟨_, rfl⟩
                    rw [← hz2] at HCALL
                    have HZ := Lib.hid hz2
                    clear hz2
                    go_wp2_with fail
                    refine (HCALL.out _).mono ?_
                    rintro e w6 ⟨rfl, rfl⟩
                    go_wp2
                    go_roundw
                    case rel =>
                      obtain ⟨s1, s2, s3⟩ := HSTP.out
                      rw [if_pos (show 0 < 3 by decide), ← HC.out, ← HWD.out] at s3
                      refine ⟨1, c + 1, by omega, rfl, by go_num, by rw [s1, ← HC.out], by omega, s2, ?_, grown_trans HGR.out (grown_set (Below.refl _ _))⟩
                      rw [s3, ← HZ.out]
                      exact InsF.set HIN.out 1 (by omega) (by omega) z
                    case measure => simp [intOf]
                · have hp : parT l = false := par_few (n := k) (k := 0) HH.out HIDX.out (by omega) HG.out (by rw [← HC.out]; omega)
                  have HP := Lib.hid hp
                  have hxi2 : (NW : Int) ≤ (c : Int) + 1 := by have := HNX.out; omega
                  have hxi3 : ¬ (c : Int) + 1 < (NW : Int) := by have := HNX.out; omega
                  clear hp
                  go_wp2
                  rw [← HQQ.out]
                  exact bodyPost_ret (v := .tuple #[insV 0 0 0 0 0, .int .i64 6]) (by simp [results, Tryd.results11, go_sem, r0, r1, r2, r3, r4]) rfl ⟨by unfold parV parE; rw [HP.out, if_neg (by decide), if_neg (by decide)], HSet.out _ _ _ (HSet.out _ _ _ (HSet.out _ _ _ (HSet.out _ _ _ (HSet.out _ _ _ HBR.out))))⟩
            · -- part 2
              have hcell := (World.cell?_of_block (a := ⟨w'.heap.size + 1, 1, none⟩) (HGR.out.block _ hgs (fun e => hgsb (by injection e)))).trans (HCL.out 1 (by omega))
              clear hins hgd
              cases hg : hasK k (1 + 1)
              · rw [show hasK k (1 + 1) = false from hg] at hcell
                have HE := Lib.hid (par_skip (n := k) (k := 1) (by omega) hg)
                clear hg
                go_wp2
                go_roundw
                case rel => exact ⟨2, c, by omega, rfl, rfl, by rw [HE.out]; exact HC.out, HCX.out, by rw [HE.out]; exact HGD.out, by rw [HE.out]; exact HIN.out, HGR.out⟩
                case measure => simp [intOf]
              · rw [show hasK k (1 + 1) = true from hg] at hcell
                have HG := Lib.hid hg
                clear hg
                by_cases hcx2 : c < xs.length
                · obtain ⟨wd, hwd⟩ : ∃ wd, wd = xs.getD c [] := ⟨_, rfl⟩
                  have hwl : wd.length ≤ s.size := by rw [hwd]; exact HWL.out c hcx2
                  obtain ⟨wt, hwt⟩ : ∃ wt, wt = tb wd := ⟨_, rfl⟩
                  have hwl2 : wt.data.toList = wd := by rw [hwt]; rfl
                  have hws : wt.size ≤ 1099511627776 := by rw [hwt, tb_size]; omega
                  have hcall := fun W => part_reg wt hws W
                  rw [hwl2] at hcall
                  obtain ⟨ya, hya, hyb, hyc⟩ := HRV.out.at (c + 1) (by have := HNX.out; omega)
                  obtain rfl : xa = ya := by injection hya
                  rw [show (x :: xs).getD (c + 1) [] = wd from by rw [hwd]; rfl, ← hwt] at hyc
                  have y7 : wr.cell? ⟨xa.block, xa.off + (c + 1), none⟩ = some (.string wt) := by
                    have e : xa.add (c + 1) = ⟨xa.block, xa.off + (c + 1), none⟩ := by unfold Addr.add; rw [if_neg (by omega)]
                    rw [← e]
                    refine (World.cell?_of_block (HGR.out.block _ (by rw [block_of_add]; omega) (fun e => ?_))).trans hyc
                    rw [block_of_add] at e
                    injection e with e
                    omega
                  have hxi : decide ((c : Int) + 1 < (NW : Int)) = true := decide_eq_true (by have := HNX.out; omega)
                  have hxi2 : ¬ (NW : Int) ≤ (c : Int) + 1 := by have := HNX.out; omega
                  have hxi3 : (c : Int) + 1 < (NW : Int) := by have := HNX.out; omega
                  have hxn : c + 1 < NW := by have := HNX.out; omega
                  have HCALL := Lib.hid hcall
                  have HWD := Lib.hid hwd
                  clear hcall hwl2 hwd hwl hwt hyc hya hyb hws
                  cases ht : rgB wd
                  · have hp : parT l = false := par_wrong (n := k) (k := 1) hlt HH.out HIDX.out (by omega) HG.out (by rw [← HC.out]; exact hcx2) (by rw [if_pos (show 1 < 3 by decide), ← HC.out, ← HWD.out]; exact ht)
                    have HP := Lib.hid hp
                    rw [ht] at HCALL
                    clear hp ht
                    go_wp2_with fail
                    refine (HCALL.out _).mono ?_
                    rintro e w6 ⟨rfl, rfl⟩
                    go_wp2
                    rw [← HQQ.out]
                    exact bodyPost_ret (v := .tuple #[insV 0 0 0 0 0, .int .i64 6]) (by simp [results, Tryd.results11, go_sem, r0, r1, r2, r3, r4]) rfl ⟨by unfold parV parE; rw [HP.out, if_neg (by decide), if_neg (by decide)], HSet.out _ _ _ (HSet.out _ _ _ (HSet.out _ _ _ (HSet.out _ _ _ (HSet.out _ _ _ HBR.out))))⟩
                  · have HSTP := Lib.hid (par_step (n := k) (xs := xs) (k := 1) (by omega) HG.out (by rw [← HC.out]; exact hcx2) (by rw [if_pos (show 1 < 3 by decide), ← HC.out, ← HWD.out]; exact ht) HGD.out)
                    rw [ht] at HCALL
                    have fz := InsAt.frozen HIN.out 2 (by omega)
                    obtain ⟨_, i1, i2, i3, i4⟩ := InsAt.cells HIN.out
                    clear ht
                    obtain ⟨z, hz2⟩ : ∃ z, z = (rgZ wd : Int) := ⟨_, rfl⟩
                    rw [← hz2] at HCALL
                    have HZ := Lib.hid hz2
                    clear hz2
                    go_wp2_with fail
                    refine (HCALL.out _).mono ?_
                    rintro e w6 ⟨rfl, rfl⟩
                    go_wp2
                    go_roundw
                    case rel =>
                      obtain ⟨s1, s2, s3⟩ := HSTP.out
                      rw [if_pos (show 1 < 3 by decide), ← HC.out, ← HWD.out] at s3
                      refine ⟨2, c + 1, by omega, rfl, by go_num, by rw [s1, ← HC.out], by omega, s2, ?_, grown_trans HGR.out (grown_set (Below.refl _ _))⟩
                      rw [s3, ← HZ.out]
                      exact InsF.set HIN.out 2 (by omega) (by omega) z
                    case measure => simp [intOf]
                · have hp : parT l = false := par_few (n := k) (k := 1) HH.out HIDX.out (by omega) HG.out (by rw [← HC.out]; omega)
                  have HP := Lib.hid hp
                  have hxi2 : (NW : Int) ≤ (c : Int) + 1 := by have := HNX.out; omega
                  have hxi3 : ¬ (c : Int) + 1 < (NW : Int) := by have := HNX.out; omega
                  clear hp
                  go_wp2
                  rw [← HQQ.out]
                  exact bodyPost_ret (v := .tuple #[insV 0 0 0 0 0, .int .i64 6]) (by simp [results, Tryd.results11, go_sem, r0, r1, r2, r3, r4]) rfl ⟨by unfold parV parE; rw [HP.out, if_neg (by decide), if_neg (by decide)], HSet.out _ _ _ (HSet.out _ _ _ (HSet.out _ _ _ (HSet.out _ _ _ (HSet.out _ _ _ HBR.out))))⟩
            · -- part 3
              have hcell := (World.cell?_of_block (a := ⟨w'.heap.size + 1, 2, none⟩) (HGR.out.block _ hgs (fun e => hgsb (by injection e)))).trans (HCL.out 2 (by omega))
              clear hins hgd
              cases hg : hasK k (2 + 1)
              · rw [show hasK k (2 + 1) = false from hg] at hcell
                have HE := Lib.hid (par_skip (n := k) (k := 2) (by omega) hg)
                clear hg
                go_wp2
                go_roundw
                case rel => exact ⟨3, c, by omega, rfl, rfl, by rw [HE.out]; exact HC.out, HCX.out, by rw [HE.out]; exact HGD.out, by rw [HE.out]; exact HIN.out, HGR.out⟩
                case measure => simp [intOf]
              · rw [show hasK k (2 + 1) = true from hg] at hcell
                have HG := Lib.hid hg
                clear hg
                by_cases hcx2 : c < xs.length
                · obtain ⟨wd, hwd⟩ : ∃ wd, wd = xs.getD c [] := ⟨_, rfl⟩
                  have hwl : wd.length ≤ s.size := by rw [hwd]; exact HWL.out c hcx2
                  obtain ⟨wt, hwt⟩ : ∃ wt, wt = tb wd := ⟨_, rfl⟩
                  have hwl2 : wt.data.toList = wd := by rw [hwt]; rfl
                  have hws : wt.size ≤ 1099511627776 := by rw [hwt, tb_size]; omega
                  have hcall := fun W => part_reg wt hws W
                  rw [hwl2] at hcall
                  obtain ⟨ya, hya, hyb, hyc⟩ := HRV.out.at (c + 1) (by have := HNX.out; omega)
                  obtain rfl : xa = ya := by injection hya
                  rw [show (x :: xs).getD (c + 1) [] = wd from by rw [hwd]; rfl, ← hwt] at hyc
                  have y7 : wr.cell? ⟨xa.block, xa.off + (c + 1), none⟩ = some (.string wt) := by
                    have e : xa.add (c + 1) = ⟨xa.block, xa.off + (c + 1), none⟩ := by unfold Addr.add; rw [if_neg (by omega)]
                    rw [← e]
                    refine (World.cell?_of_block (HGR.out.block _ (by rw [block_of_add]; omega) (fun e => ?_))).trans hyc
                    rw [block_of_add] at e
                    injection e with e
                    omega
                  have hxi : decide ((c : Int) + 1 < (NW : Int)) = true := decide_eq_true (by have := HNX.out; omega)
                  have hxi2 : ¬ (NW : Int) ≤ (c : Int) + 1 := by have := HNX.out; omega
                  have hxi3 : (c : Int) + 1 < (NW : Int) := by have := HNX.out; omega
                  have hxn : c + 1 < NW := by have := HNX.out; omega
                  have HCALL := Lib.hid hcall
                  have HWD := Lib.hid hwd
                  clear hcall hwl2 hwd hwl hwt hyc hya hyb hws
                  cases ht : rgB wd
                  · have hp : parT l = false := par_wrong (n := k) (k := 2) hlt HH.out HIDX.out (by omega) HG.out (by rw [← HC.out]; exact hcx2) (by rw [if_pos (show 2 < 3 by decide), ← HC.out, ← HWD.out]; exact ht)
                    have HP := Lib.hid hp
                    rw [ht] at HCALL
                    clear hp ht
                    go_wp2_with fail
                    refine (HCALL.out _).mono ?_
                    rintro e w6 ⟨rfl, rfl⟩
                    go_wp2
                    rw [← HQQ.out]
                    exact bodyPost_ret (v := .tuple #[insV 0 0 0 0 0, .int .i64 6]) (by simp [results, Tryd.results11, go_sem, r0, r1, r2, r3, r4]) rfl ⟨by unfold parV parE; rw [HP.out, if_neg (by decide), if_neg (by decide)], HSet.out _ _ _ (HSet.out _ _ _ (HSet.out _ _ _ (HSet.out _ _ _ (HSet.out _ _ _ HBR.out))))⟩
                  · have HSTP := Lib.hid (par_step (n := k) (xs := xs) (k := 2) (by omega) HG.out (by rw [← HC.out]; exact hcx2) (by rw [if_pos (show 2 < 3 by decide), ← HC.out, ← HWD.out]; exact ht) HGD.out)
                    rw [ht] at HCALL
                    have fz := InsAt.frozen HIN.out 3 (by omega)
                    obtain ⟨_, i1, i2, i3, i4⟩ := InsAt.cells HIN.out
                    clear ht
                    obtain ⟨z, hz2⟩ : ∃ z, z = (rgZ wd : Int) := ⟨_, rfl⟩
                    rw [← hz2] at HCALL
                    have HZ := Lib.hid hz2
                    clear hz2
                    go_wp2_with fail
                    refine (HCALL.out _).mono ?_
                    rintro e w6 ⟨rfl, rfl⟩
                    go_wp2
                    go_roundw
                    case rel =>
                      obtain ⟨s1, s2, s3⟩ := HSTP.out
                      rw [if_pos (show 2 < 3 by decide), ← HC.out, ← HWD.out] at s3
                      refine ⟨3, c + 1, by omega, rfl, by go_num, by rw [s1, ← HC.out], by omega, s2, ?_, grown_trans HGR.out (grown_set (Below.refl _ _))⟩
                      rw [s3, ← HZ.out]
                      exact InsF.set HIN.out 3 (by omega) (by omega) z
                    case measure => simp [intOf]
                · have hp : parT l = false := par_few (n := k) (k := 2) HH.out HIDX.out (by omega) HG.out (by rw [← HC.out]; omega)
                  have HP := Lib.hid hp
                  have hxi2 : (NW : Int) ≤ (c : Int) + 1 := by have := HNX.out; omega
                  have hxi3 : ¬ (c : Int) + 1 < (NW : Int) := by have := HNX.out; omega
                  clear hp
                  go_wp2
                  rw [← HQQ.out]
                  exact bodyPost_ret (v := .tuple #[insV 0 0 0 0 0, .int .i64 6]) (by simp [results, Tryd.results11, go_sem, r0, r1, r2, r3, r4]) rfl ⟨by unfold parV parE; rw [HP.out, if_neg (by decide), if_neg (by decide)], HSet.out _ _ _ (HSet.out _ _ _ (HSet.out _ _ _ (HSet.out _ _ _ (HSet.out _ _ _ HBR.out))))⟩
            · -- part 4
              have hcell := (World.cell?_of_block (a := ⟨w'.heap.size + 1, 3, none⟩) (HGR.out.block _ hgs (fun e => hgsb (by injection e)))).trans (HCL.out 3 (by omega))
              clear hins hgd
              cases hg : hasK k (3 + 1)
              · rw [show hasK k (3 + 1) = false from hg] at hcell
                have HE := Lib.hid (par_skip (n := k) (k := 3) (by omega) hg)
                clear hg
                go_wp2
                go_roundw
                case rel => exact ⟨4, c, by omega, rfl, rfl, by rw [HE.out]; exact HC.out, HCX.out, by rw [HE.out]; exact HGD.out, by rw [HE.out]; exact HIN.out, HGR.out⟩
                case measure => simp [intOf]
              · rw [show hasK k (3 + 1) = true from hg] at hcell
                have HG := Lib.hid hg
                clear hg
                by_cases hcx2 : c < xs.length
                · obtain ⟨wd, hwd⟩ : ∃ wd, wd = xs.getD c [] := ⟨_, rfl⟩
                  have hwl : wd.length ≤ s.size := by rw [hwd]; exact HWL.out c hcx2
                  obtain ⟨wt, hwt⟩ : ∃ wt, wt = tb wd := ⟨_, rfl⟩
                  have hwl2 : wt.data.toList = wd := by rw [hwt]; rfl
                  have hws : wt.size ≤ 1099511627776 := by rw [hwt, tb_size]; omega
                  have hcall := fun W => part_imm wt hws W
                  rw [hwl2] at hcall
                  obtain ⟨ya, hya, hyb, hyc⟩ := HRV.out.at (c + 1) (by have := HNX.out; omega)
                  obtain rfl : xa = ya := by injection hya
                  rw [show (x :: xs).getD (c + 1) [] = wd from by rw [hwd]; rfl, ← hwt] at hyc
                  have y7 : wr.cell? ⟨xa.block, xa.off + (c + 1), none⟩ = some (.string wt) := by
                    have e : xa.add (c + 1) = ⟨xa.block, xa.off + (c + 1), none⟩ := by unfold Addr.add; rw [if_neg (by omega)]
                    rw [← e]
                    refine (World.cell?_of_block (HGR.out.block _ (by rw [block_of_add]; omega) (fun e => ?_))).trans hyc
                    rw [block_of_add] at e
                    injection e with e
                    omega
                  have hxi : decide ((c : Int) + 1 < (NW : Int)) = true := decide_eq_true (by have := HNX.out; omega)
                  have hxi2 : ¬ (NW : Int) ≤ (c : Int) + 1 := by have := HNX.out; omega
                  have hxi3 : (c : Int) + 1 < (NW : Int) := by have := HNX.out; omega
                  have hxn : c + 1 < NW := by have := HNX.out; omega
                  have HCALL := Lib.hid hcall
                  have HWD := Lib.hid hwd
                  clear hcall hwl2 hwd hwl hwt hyc hya hyb hws
                  cases ht : sgB wd
                  · have hp : parT l = false := par_wrong (n := k) (k := 3) hlt HH.out HIDX.out (by omega) HG.out (by rw [← HC.out]; exact hcx2) (by rw [if_neg (show ¬ 3 < 3 by decide), ← HC.out, ← HWD.out]; exact ht)
                    have HP := Lib.hid hp
                    rw [ht] at HCALL
                    clear hp ht
                    go_wp2_with fail
                    refine (HCALL.out _).mono ?_
                    rintro e w6 ⟨rfl, rfl⟩
                    go_wp2
                    rw [← HQQ.out]
                    exact bodyPost_ret (v := .tuple #[insV 0 0 0 0 0, .int .i64 6]) (by simp [results, Tryd.results11, go_sem, r0, r1, r2, r3, r4]) rfl ⟨by unfold parV parE; rw [HP.out, if_neg (by decide), if_neg (by decide)], HSet.out _ _ _ (HSet.out _ _ _ (HSet.out _ _ _ (HSet.out _ _ _ (HSet.out _ _ _ HBR.out))))⟩
                  · have HSTP := Lib.hid (par_step (n := k) (xs := xs) (k := 3) (by omega) HG.out (by rw [← HC.out]; exact hcx2) (by rw [if_neg (show ¬ 3 < 3 by decide), ← HC.out, ← HWD.out]; exact ht) HGD.out)
                    rw [ht] at HCALL
                    have fz := InsAt.frozen HIN.out 4 (by omega)
                    obtain ⟨_, i1, i2, i3, i4⟩ := InsAt.cells HIN.out
                    clear ht
                    obtain ⟨z, hz2⟩ : ∃ z, z = (sgZ wd) := ⟨_, rfl⟩
                    rw [← hz2] at HCALL
                    have HZ := Lib.hid hz2
                    clear hz2
                    go_wp2_with fail
                    refine (HCALL.out _).mono ?_
                    rintro e w6 ⟨rfl, rfl⟩
                    go_wp2
                    go_roundw
                    case rel =>
                      obtain ⟨s1, s2, s3⟩ := HSTP.out
                      rw [if_neg (show ¬ 3 < 3 by decide), ← HC.out, ← HWD.out] at s3
                      refine ⟨4, c + 1, by omega, rfl, by go_num, by rw [s1, ← HC.out], by omega, s2, ?_, grown_trans HGR.out (grown_set (Below.refl _ _))⟩
                      rw [s3, ← HZ.out]
                      exact InsF.set HIN.out 4 (by omega) (by omega) z
                    case measure => simp [intOf]
                · have hp : parT l = false := par_few (n := k) (k := 3) HH.out HIDX.out (by omega) HG.out (by rw [← HC.out]; omega)
                  have HP := Lib.hid hp
                  have hxi2 : (NW : Int) ≤ (c : Int) + 1 := by have := HNX.out; omega
                  have hxi3 : ¬ (c : Int) + 1 < (NW : Int) := by have := HNX.out; omega
                  clear hp
                  go_wp2
                  rw [← HQQ.out]
                  exact bodyPost_ret (v := .tuple #[insV 0 0 0 0 0, .int .i64 6]) (by simp [results, Tryd.results11, go_sem, r0, r1, r2, r3, r4]) rfl ⟨by unfold parV parE; rw [HP.out, if_neg (by decide), if_neg (by decide)], HSet.out _ _ _ (HSet.out _ _ _ (HSet.out _ _ _ (HSet.out _ _ _ (HSet.out _ _ _ HBR.out))))⟩
            · obtain ⟨p1, p2, p3⟩ := par_end HH.out HIDX.out hgd
              rw [← HC.out] at p3
              obtain ⟨_, i1, i2, i3, i4⟩ := InsAt.cells hins
              have i0 := (InsAt.cells hins).1
              have q1 := p2 1
              have q2 := p2 2
              have q3 := p2 3
              have q4 := p2 4
              have hins2 : InsAt wr w'.heap.size k (fldF (partsF k 4) xs 1) (fldF (partsF k 4) xs 2) (fldF (partsF k 4) xs 3) (fldF (partsF k 4) xs 4) := hins
              generalize fldF (partsF k 4) xs 1 = d1 at i1 p3 q1 hins2
              generalize fldF (partsF k 4) xs 2 = d2 at i2 p3 q2 hins2
              generalize fldF (partsF k 4) xs 3 = d3 at i3 p3 q3 hins2
              generalize fldF (partsF k 4) xs 4 = d4 at i4 p3 q4 hins2
              have P1 := Lib.hid p1
              have P3 := Lib.hid p3
              have Q1 := Lib.hid q1
              have Q2 := Lib.hid q2
              have Q3 := Lib.hid q3
              have Q4 := Lib.hid q4
              have HI2 := Lib.hid hins2
              clear p1 p2 p3 q1 q2 q3 q4 hins2 hins hgd HGD HIN
              by_cases hl : xs.length = c
              · have h9 : (((c : Int) + 1) == (NW : Int)) = true := by rw [beq_iff_eq]; have := HNX.out; omega
                have h9' : (((c : Int) + 1) != (NW : Int)) = false := by rw [bne_eq_false_iff_eq]; have := HNX.out; omega
                obtain ⟨t, ht⟩ : ∃ t, t = validB k d1 d2 d3 d4 := ⟨_, rfl⟩
                have HVAL := Lib.hid (fun W => refValid_any k d1 d2 d3 d4 t ht.symm W)
                have hpt : parT l = t := by rw [P3.out, decide_eq_true hl, ← ht, Bool.true_and]
                have HP := Lib.hid hpt
                clear hpt ht
                go_wp2_with fail
                refine (HVAL.out _).mono ?_
                rintro e w6 ⟨rfl, hb6⟩
                have hqr : InsAt w6 w.heap.size 0 0 0 0 0 := (hb6.block _ hz).trans (show InsAt wr w.heap.size 0 0 0 0 0 from (HGR.out.block _ (InsAt.lt HQV.out) (fun e => by injection e with e; omega)).trans HQV.out)
                have hi6 := HI2.out.more hb6
                have HB6 := Lib.hid (HBR.out.trans (hb6.mono HBR.out.size))
                clear r0 r1 r2 r3 r4 f0 f1 f2 f3 f4 hz i0 i1 i2 i3 i4 hlb
                obtain ⟨r0, r1, r2, r3, r4⟩ := hqr.cells
                have f0 := hqr.frozen 0 (by omega)
                have f1 := hqr.frozen 1 (by omega)
                have f2 := hqr.frozen 2 (by omega)
                have f3 := hqr.frozen 3 (by omega)
                have f4 := hqr.frozen 4 (by omega)
                have hz := hqr.lt
                obtain ⟨i0, i1, i2, i3, i4⟩ := hi6.cells
                have hlb := hi6.lt
                clear hqr hi6 hb6
                cases t
                · go_wp2
                  rw [← HQQ.out]
                  exact bodyPost_ret (v := .tuple #[insV 0 0 0 0 0, .int .i64 6]) (by simp [results, Tryd.results11, go_sem, r0, r1, r2, r3, r4]) rfl ⟨by unfold parV parE; rw [HP.out, if_neg (by decide), if_neg (by decide)], HSet.out _ _ _ (HSet.out _ _ _ (HSet.out _ _ _ (HSet.out _ _ _ (HSet.out _ _ _ HB6.out))))⟩
                · go_wp2
                  rw [← HQQ.out]
                  exact bodyPost_ret (v := .tuple #[insV k d1 d2 d3 d4, .int .i64 0]) (by simp [results, Tryd.results11, go_sem, r0, r1, r2, r3, r4]) rfl ⟨by unfold parV parE; rw [HP.out, if_pos rfl, if_pos rfl, P1.out, Q1.out, Q2.out, Q3.out, Q4.out], HSet.out _ _ _ (HSet.out _ _ _ (HSet.out _ _ _ (HSet.out _ _ _ (HSet.out _ _ _ HB6.out))))⟩
              · have h9 : (((c : Int) + 1) == (NW : Int)) = false := by rw [beq_eq_false_iff_ne]; have := HNX.out; omega
                have h9' : (((c : Int) + 1) != (NW : Int)) = true := by rw [bne_iff_ne]; have := HNX.out; omega
                have hpt : parT l = false := by rw [P3.out, decide_eq_false hl, Bool.false_and]
                have HP := Lib.hid hpt
                clear hpt
                go_wp2
                rw [← HQQ.out]
                exact bodyPost_ret (v := .tuple #[insV 0 0 0 0 0, .int .i64 6]) (by simp [results, Tryd.results11, go_sem, r0, r1, r2, r3, r4]) rfl ⟨by unfold parV parE; rw [HP.out, if_neg (by decide), if_neg (by decide)], HSet.out _ _ _ (HSet.out _ _ _ (HSet.out _ _ _ (HSet.out _ _ _ (HSet.out _ _ _ HBR.out))))⟩
      · have hne : (nt.toList == xt.toList) = false := by rw [ByteArray.toList_eq, ByteArray.toList_eq, HNT.out, HXT.out, beq_eq_false_iff_ne]; exact he
        have hne2 : (nt.toList != xt.toList) = true := by rw [bne, hne]; rfl
        have HE := Lib.hid he
        clear he
        go_upto_region 8 with fail
        apply wp_region_auto [31, 32, 33, 34, 35, 36, 37] [_, _, _, _, _, _, _] (fun W' => Below wr.heap.size wr W')
        case hm => kernel_rfl
        case hT => intro y; simp only [setAll, List.setIfInBounds_toArray, List.set_cons_succ, List.set_cons_zero]; exact rfl
        case hok => kernel_rfl
        case hn => decide
        case hw => exact (Below.refl _ _).drew
        case hs =>
          refine auto_op 31 [] (by kernel_rfl) (fun y w' HW hd K hK => ?_) ?_
          · go_simp
            refine hK _ _ ?_ ?_ HW
            · simp [upd]
            · exact rfl
          refine auto_op 32 [] (by kernel_rfl) (fun y w' HW hd K hK => ?_) ?_
          · go_simp
            refine hK _ _ ?_ ?_ HW
            · simp [upd]
            · exact rfl
          refine auto_op 33 [0, 1] (by kernel_rfl) (fun y w' HW hd K hK => ?_) ?_
          · have e0 := hd_nth (hd 0 (by simp)) rfl
            have e1 := hd_nth (hd 1 (by simp)) rfl
            go_simp
            refine hK _ _ ?_ ?_ HW
            · simp [upd, e0, e1]
            · exact rfl
          refine auto_op 34 [2] (by kernel_rfl) (fun y w' HW hd K hK => ?_) ?_
          · have e2 := hd_nth (hd 2 (by simp)) rfl
            have hcl : ∀ p : Addr, p.block < wr.heap.size → w'.cell? p = wr.cell? p := fun p hp => HW.cell hp
            go_simp
            refine hK _ _ ?_ ?_ HW
            · simp [upd, e2]
            · exact rfl
          refine auto_op 35 [] (by kernel_rfl) (fun y w' HW hd K hK => ?_) ?_
          · go_simp
            refine hK _ _ ?_ ?_ HW
            · simp [upd]
            · exact rfl
          refine auto_op 36 [4] (by kernel_rfl) (fun y w' HW hd K hK => ?_) ?_
          · have e4 := hd_nth (hd 4 (by simp)) rfl
            go_simp
            refine hK _ _ ?_ ?_ HW
            · simp [upd, e4]
            · exact rfl
          refine auto_op 37 [5] (by kernel_rfl) (fun y w' HW hd K hK => ?_) ?_
          · have e5 := hd_nth (hd 5 (by simp)) rfl
            have hcl : ∀ p : Addr, p.block < wr.heap.size → w'.cell? p = wr.cell? p := fun p hp => HW.cell hp
            go_simp
            refine hK _ _ ?_ ?_ HW
            · simp [upd, e5]
            · exact rfl
          refine auto_last fun y w' HW hd K hK => ?_
          have e0 := hd_nth (hd 0 (by omega)) rfl
          have e1 := hd_nth (hd 1 (by omega)) rfl
          have e2 := hd_nth (hd 2 (by omega)) rfl
          have e3 := hd_nth (hd 3 (by omega)) rfl
          have e4 := hd_nth (hd 4 (by omega)) rfl
          have e5 := hd_nth (hd 5 (by omega)) rfl
          have e6 := hd_nth (hd 6 (by omega)) rfl
          go_simp
          refine hK _ _ ?_
          clear hd hK K e0 e1 e2 e3 e4 e5 e6
          have HB3 := Lib.hid (HBW.out.trans (HW.mono HBW.out.size))
          clear HW q1 q2
          go_wp2
          go_roundw
          case rel => exact ⟨k + 1, by omega, by omega, by go_num, fun j h1 h2 => by
            by_cases e : j = k
            · subst e; exact HE.out
            · exact HNO.out j h1 (by omega), HB3.out⟩
          case measure => simp [intOf]; omega
    · obtain rfl : k = 42 := by omega
      have hp := par_noname HH.out HNO.out
      have HP := Lib.hid hp
      obtain ⟨r0, r1, r2, r3, r4⟩ := hqw.cells
      have f0 := hqw.frozen 0 (by omega)
      have f1 := hqw.frozen 1 (by omega)
      have f2 := hqw.frozen 2 (by omega)
      have f3 := hqw.frozen 3 (by omega)
      have f4 := hqw.frozen 4 (by omega)
      have hz := hqw.lt
      have HB3 := Lib.hid (HB2.out.trans (hbw.mono HB2.out.size))
      clear hqw hp hbw
      go_wp2
      rw [← HQQ.out]
      exact bodyPost_ret (v := .tuple #[insV 0 0 0 0 0, .int .i64 6]) (by simp [results, Tryd.results11, go_sem, r0, r1, r2, r3, r4]) rfl ⟨by unfold parV parE; rw [HP.out, if_neg (by decide), if_neg (by decide)], HSet.out _ _ _ (HSet.out _ _ _ (HSet.out _ _ _ (HSet.out _ _ _ (HSet.out _ _ _ HB3.out))))⟩
theorem refParse_any (s : ByteArray) (hs : s.size ≤ 1099511627776) (w : World) :
    Calls Tryd.prog 11 #[.string s] w fun e w' => e = .returned (.tuple #[parV s.data.toList, .int .i64 (parE s.data.toList)]) ∧ Below w.heap.size w w' := by
  cases h : wordsL s.data.toList with
  | none =>
    have hp := par_none h
    unfold parV parE
    rw [hp, if_neg (by decide), if_neg (by decide)]
    exact refParse_none s hs h w
  | some ws =>
    obtain ⟨x, xs, rfl⟩ := wordsL_ne2 h
    exact refParse_some s hs x xs h w
end Go.Proofs.YtfdekfobcohcjaaDoor.As
