/- Several texts in one: Vf Vg -/
import Derived.Test.YtniaclhmfmkikaaGreatDoorZ20
section
/- Package core: askew, jump, jumpByRegister, call, stop. -/
namespace Go.Proofs.YtniaclhmfmkikaaGreatDoor.Ex
open Go.RowKit Ut
set_option maxRecDepth 100000
set_option linter.unusedVariables false
set_option maxHeartbeats 4000000

theorem askew_any (j rb cb i : Nat) (J : Job) (p : Int) (R : List Int) (Q : List Nat) (w : World) (h : Env w j rb cb i J p R Q) :
    Calls Tryz.prog 62 #[.pointer (some ⟨j, 0, none⟩)] w fun e w' => e = .returned (Eff.val (trapE 2 (adr J.va J.m))) ∧ Env w' j rb cb i J p R Q ∧ Kp [rb, cb] w w' := by
  have HRUN := eff_run w
  have HB := Lib.hid (eff_below w)
  have HN := Lib.hid (eff_blk w)
  have HLT := Lib.hid h.lts
  have HG := Lib.hid (not_old HLT.out)
  have HE := Lib.hid (h.below HB.out)
  have HK := Lib.hid (Kp.of_below (S := [rb, cb]) HB.out)
  clear h
  go_enter Tryz.func62, Tryz.ntmps62
  generalize hQQ : bodyPost _ _ _ = QQ
  have HQQ := Lib.hid hQQ
  clear hQQ
  go_upto_region 0 with fail
  refine wp_region_lit ?_
  refine Great.wpList_allocTo rfl (some 2) rfl (.pointer (some ⟨w.heap.size, 0, none⟩)) (.cells zeroE.cs.toArray 32) (HRUN.out _ _ rfl) ?_
  generalize hW : w.alloc (.cells zeroE.cs.toArray 32) = W at HB HN HE HK ⊢
  clear HRUN hW
  have HEW := HE
  have HNW := HN
  have HKW := HK
  clear HE HN HK
  go_wp2_with fail
  refine (address_any j rb cb J W HEW.out.job).mono ?_
  rintro e U ⟨rfl, hb⟩
  have HEU := Lib.hid (HEW.out.below hb)
  have HNU := Lib.hid (HNW.out.below hb HNW.out.lt)
  have HKU := Lib.hid (HKW.out.trans (Kp.of_below hb))
  clear hb HEW HNW HKW
  go_wp2_with fail
  refine (trap_any 2 (adr J.va J.m) U).mono ?_
  rintro e V ⟨rfl, hb⟩
  have HEV := Lib.hid (HEU.out.below hb)
  have HNV := Lib.hid (HNU.out.below hb HNU.out.lt)
  have HKV := Lib.hid (HKU.out.trans (Kp.of_below hb))
  clear hb HEU HNU HKU
  go_simp
  rename_i hK
  refine hK _ _ ?_
  clear hK
  refine wpList_store_rowTo rfl 32 _ _ rfl rfl w.heap.size (Eff.cs (trapE 2 (adr J.va J.m))).toArray (by kernel_rfl) (by kernel_rfl) 32 zeroE.cs.toArray HNV.out (size_eff _) rfl (one_eff _) ?_
  obtain ⟨hE9, hK9, hN9⟩ := fin_eff HKV.out HEV.out HLT.out HNV.out (trapE 2 (adr J.va J.m))
  have HE9 := Lib.hid hE9
  have HK9 := Lib.hid hK9
  have HN9 := Lib.hid hN9
  clear hE9 hK9 hN9 HEV HKV HNV
  generalize World.setRow _ w.heap.size (Eff.cs (trapE 2 (adr J.va J.m))).toArray = W9 at HE9 HK9 HN9 ⊢
  go_wp2
  rw [← HQQ.out]
  exact bodyPost_ret (v := Eff.val (trapE 2 (adr J.va J.m))) (results_cell_row Tryz.results62 _ _ _ _ _ _ _ rfl HN9.out Tryz.underlying32 rfl (size_eff _)) rfl ⟨rfl, HE9.out, HK9.out⟩
theorem jump_is (j rb cb i : Nat) (J : Job) (p : Int) (R : List Int) (Q : List Nat) (w : World) (h : Env w j rb cb i J p R Q) :
    Calls Tryz.prog 66 #[.pointer (some ⟨j, 0, none⟩)] w fun e w' => e = .returned (Eff.val (doneE (tgt J.pc J.m))) ∧ Env w' j rb cb i J (tgt J.pc J.m) (Rg.setR R J.d J.nx) Q ∧ Kp [rb, cb] w w' := by
  have HRUN := eff_run w
  have HB := Lib.hid (eff_below w)
  have HN := Lib.hid (eff_blk w)
  have HLT := Lib.hid h.lts
  have HG := Lib.hid (not_old HLT.out)
  have HE := Lib.hid (h.below HB.out)
  have HK := Lib.hid (Kp.of_below (S := [rb, cb]) HB.out)
  clear h
  go_enter Tryz.func66, Tryz.ntmps66
  generalize hQQ : bodyPost _ _ _ = QQ
  have HQQ := Lib.hid hQQ
  clear hQQ
  go_upto_region 0 with fail
  refine wp_region_lit ?_
  refine Great.wpList_allocTo rfl (some 2) rfl (.pointer (some ⟨w.heap.size, 0, none⟩)) (.cells zeroE.cs.toArray 32) (HRUN.out _ _ rfl) ?_
  generalize hW : w.alloc (.cells zeroE.cs.toArray 32) = W at HB HN HE HK ⊢
  clear HRUN hW
  have HEW := HE
  have HNW := HN
  have HKW := HK
  clear HE HN HK
  have c10 : W.cell? ⟨j, 10, none⟩ = some (.int .u32 J.nx) := HEW.out.job.cell 10 _ rfl
  have hlt := HEW.out.job.lt
  go_wp2_with fail
  clear c10 hlt
  refine (put_any j rb cb i J p R Q J.nx W HEW.out).mono ?_
  rintro e U ⟨rfl, hE, hK⟩
  have HEU := Lib.hid hE
  have HNU := Lib.hid (Blk.kp HNW.out hK HG.out)
  have HKU := Lib.hid (HKW.out.trans hK)
  clear hE hK HEW HNW HKW
  go_wp2_with fail
  refine (target_any j rb cb J U HEU.out.job).mono ?_
  rintro e X ⟨rfl, hb⟩
  have HEX := Lib.hid (HEU.out.below hb)
  have HNX := Lib.hid (HNU.out.below hb HNU.out.lt)
  have HKX := Lib.hid (HKU.out.trans (Kp.of_below hb))
  clear hb HEU HNU HKU
  go_wp2_with fail
  refine (done_any j rb cb i J p _ Q (tgt J.pc J.m) X HEX.out).mono ?_
  rintro e V ⟨rfl, hE, hK⟩
  have HEV := Lib.hid hE
  have HNV := Lib.hid (Blk.kp HNX.out hK HG.out)
  have HKV := Lib.hid (HKX.out.trans hK)
  clear hE hK HEX HNX HKX
  go_simp
  rename_i hK
  refine hK _ _ ?_
  clear hK
  refine wpList_store_rowTo rfl 32 _ _ rfl rfl w.heap.size (Eff.cs (doneE (tgt J.pc J.m))).toArray (by kernel_rfl) (by kernel_rfl) 32 zeroE.cs.toArray HNV.out (size_eff _) rfl (one_eff _) ?_
  obtain ⟨hE9, hK9, hN9⟩ := fin_eff HKV.out HEV.out HLT.out HNV.out (doneE (tgt J.pc J.m))
  have HE9 := Lib.hid hE9
  have HK9 := Lib.hid hK9
  have HN9 := Lib.hid hN9
  clear hE9 hK9 hN9 HEV HKV HNV
  generalize World.setRow _ w.heap.size (Eff.cs (doneE (tgt J.pc J.m))).toArray = W9 at HE9 HK9 HN9 ⊢
  go_wp2
  rw [← HQQ.out]
  exact bodyPost_ret (v := Eff.val (doneE (tgt J.pc J.m))) (results_cell_row Tryz.results66 _ _ _ _ _ _ _ rfl HN9.out Tryz.underlying32 rfl (size_eff _)) rfl ⟨rfl, HE9.out, HK9.out⟩
theorem jumpr_is (j rb cb i : Nat) (J : Job) (p : Int) (R : List Int) (Q : List Nat) (w : World) (h : Env w j rb cb i J p R Q) :
    Calls Tryz.prog 67 #[.pointer (some ⟨j, 0, none⟩)] w fun e w' => e = .returned (Eff.val (doneE (adr J.va J.m))) ∧ Env w' j rb cb i J (adr J.va J.m) (Rg.setR R J.d J.nx) Q ∧ Kp [rb, cb] w w' := by
  have HRUN := eff_run w
  have HB := Lib.hid (eff_below w)
  have HN := Lib.hid (eff_blk w)
  have HLT := Lib.hid h.lts
  have HG := Lib.hid (not_old HLT.out)
  have HE := Lib.hid (h.below HB.out)
  have HK := Lib.hid (Kp.of_below (S := [rb, cb]) HB.out)
  clear h
  go_enter Tryz.func67, Tryz.ntmps67
  generalize hQQ : bodyPost _ _ _ = QQ
  have HQQ := Lib.hid hQQ
  clear hQQ
  go_upto_region 0 with fail
  refine wp_region_lit ?_
  refine Great.wpList_allocTo rfl (some 2) rfl (.pointer (some ⟨w.heap.size, 0, none⟩)) (.cells zeroE.cs.toArray 32) (HRUN.out _ _ rfl) ?_
  generalize hW : w.alloc (.cells zeroE.cs.toArray 32) = W at HB HN HE HK ⊢
  clear HRUN hW
  have HEW := HE
  have HNW := HN
  have HKW := HK
  clear HE HN HK
  have c10 : W.cell? ⟨j, 10, none⟩ = some (.int .u32 J.nx) := HEW.out.job.cell 10 _ rfl
  have hlt := HEW.out.job.lt
  go_wp2_with fail
  clear c10 hlt
  refine (put_any j rb cb i J p R Q J.nx W HEW.out).mono ?_
  rintro e U ⟨rfl, hE, hK⟩
  have HEU := Lib.hid hE
  have HNU := Lib.hid (Blk.kp HNW.out hK HG.out)
  have HKU := Lib.hid (HKW.out.trans hK)
  clear hE hK HEW HNW HKW
  go_wp2_with fail
  refine (address_any j rb cb J U HEU.out.job).mono ?_
  rintro e X ⟨rfl, hb⟩
  have HEX := Lib.hid (HEU.out.below hb)
  have HNX := Lib.hid (HNU.out.below hb HNU.out.lt)
  have HKX := Lib.hid (HKU.out.trans (Kp.of_below hb))
  clear hb HEU HNU HKU
  go_wp2_with fail
  refine (done_any j rb cb i J p _ Q (adr J.va J.m) X HEX.out).mono ?_
  rintro e V ⟨rfl, hE, hK⟩
  have HEV := Lib.hid hE
  have HNV := Lib.hid (Blk.kp HNX.out hK HG.out)
  have HKV := Lib.hid (HKX.out.trans hK)
  clear hE hK HEX HNX HKX
  go_simp
  rename_i hK
  refine hK _ _ ?_
  clear hK
  refine wpList_store_rowTo rfl 32 _ _ rfl rfl w.heap.size (Eff.cs (doneE (adr J.va J.m))).toArray (by kernel_rfl) (by kernel_rfl) 32 zeroE.cs.toArray HNV.out (size_eff _) rfl (one_eff _) ?_
  obtain ⟨hE9, hK9, hN9⟩ := fin_eff HKV.out HEV.out HLT.out HNV.out (doneE (adr J.va J.m))
  have HE9 := Lib.hid hE9
  have HK9 := Lib.hid hK9
  have HN9 := Lib.hid hN9
  clear hE9 hK9 hN9 HEV HKV HNV
  generalize World.setRow _ w.heap.size (Eff.cs (doneE (adr J.va J.m))).toArray = W9 at HE9 HK9 HN9 ⊢
  go_wp2
  rw [← HQQ.out]
  exact bodyPost_ret (v := Eff.val (doneE (adr J.va J.m))) (results_cell_row Tryz.results67 _ _ _ _ _ _ _ rfl HN9.out Tryz.underlying32 rfl (size_eff _)) rfl ⟨rfl, HE9.out, HK9.out⟩
theorem call_is (j rb cb i : Nat) (J : Job) (p : Int) (R : List Int) (Q : List Nat) (w : World) (h : Env w j rb cb i J p R Q) :
    Calls Tryz.prog 68 #[.pointer (some ⟨j, 0, none⟩)] w fun e w' => e = .returned (Eff.val (trapE 6 0)) ∧ Env w' j rb cb i J p R Q ∧ Kp [rb, cb] w w' := by
  have HRUN := eff_run w
  have HB := Lib.hid (eff_below w)
  have HN := Lib.hid (eff_blk w)
  have HLT := Lib.hid h.lts
  have HG := Lib.hid (not_old HLT.out)
  have HE := Lib.hid (h.below HB.out)
  have HK := Lib.hid (Kp.of_below (S := [rb, cb]) HB.out)
  clear h
  go_enter Tryz.func68, Tryz.ntmps68
  generalize hQQ : bodyPost _ _ _ = QQ
  have HQQ := Lib.hid hQQ
  clear hQQ
  go_upto_region 0 with fail
  refine wp_region_lit ?_
  refine Great.wpList_allocTo rfl (some 2) rfl (.pointer (some ⟨w.heap.size, 0, none⟩)) (.cells zeroE.cs.toArray 32) (HRUN.out _ _ rfl) ?_
  generalize hW : w.alloc (.cells zeroE.cs.toArray 32) = W at HB HN HE HK ⊢
  clear HRUN hW
  have HEW := HE
  have HNW := HN
  have HKW := HK
  clear HE HN HK
  go_wp2_with fail
  refine (trap_any 6 0 W).mono ?_
  rintro e V ⟨rfl, hb⟩
  have HEV := Lib.hid (HEW.out.below hb)
  have HNV := Lib.hid (HNW.out.below hb HNW.out.lt)
  have HKV := Lib.hid (HKW.out.trans (Kp.of_below hb))
  clear hb HEW HNW HKW
  go_simp
  rename_i hK
  refine hK _ _ ?_
  clear hK
  refine wpList_store_rowTo rfl 32 _ _ rfl rfl w.heap.size (Eff.cs (trapE 6 0)).toArray (by kernel_rfl) (by kernel_rfl) 32 zeroE.cs.toArray HNV.out (size_eff _) rfl (one_eff _) ?_
  obtain ⟨hE9, hK9, hN9⟩ := fin_eff HKV.out HEV.out HLT.out HNV.out (trapE 6 0)
  have HE9 := Lib.hid hE9
  have HK9 := Lib.hid hK9
  have HN9 := Lib.hid hN9
  clear hE9 hK9 hN9 HEV HKV HNV
  generalize World.setRow _ w.heap.size (Eff.cs (trapE 6 0)).toArray = W9 at HE9 HK9 HN9 ⊢
  go_wp2
  rw [← HQQ.out]
  exact bodyPost_ret (v := Eff.val (trapE 6 0)) (results_cell_row Tryz.results68 _ _ _ _ _ _ _ rfl HN9.out Tryz.underlying32 rfl (size_eff _)) rfl ⟨rfl, HE9.out, HK9.out⟩
theorem stop_is (j rb cb i : Nat) (J : Job) (p : Int) (R : List Int) (Q : List Nat) (w : World) (h : Env w j rb cb i J p R Q) :
    Calls Tryz.prog 69 #[.pointer (some ⟨j, 0, none⟩)] w fun e w' => e = .returned (Eff.val (trapE 8 J.pc)) ∧ Env w' j rb cb i J p R Q ∧ Kp [rb, cb] w w' := by
  have HRUN := eff_run w
  have HB := Lib.hid (eff_below w)
  have HN := Lib.hid (eff_blk w)
  have HLT := Lib.hid h.lts
  have HG := Lib.hid (not_old HLT.out)
  have HE := Lib.hid (h.below HB.out)
  have HK := Lib.hid (Kp.of_below (S := [rb, cb]) HB.out)
  clear h
  go_enter Tryz.func69, Tryz.ntmps69
  generalize hQQ : bodyPost _ _ _ = QQ
  have HQQ := Lib.hid hQQ
  clear hQQ
  go_upto_region 0 with fail
  refine wp_region_lit ?_
  refine Great.wpList_allocTo rfl (some 2) rfl (.pointer (some ⟨w.heap.size, 0, none⟩)) (.cells zeroE.cs.toArray 32) (HRUN.out _ _ rfl) ?_
  generalize hW : w.alloc (.cells zeroE.cs.toArray 32) = W at HB HN HE HK ⊢
  clear HRUN hW
  have HEW := HE
  have HNW := HN
  have HKW := HK
  clear HE HN HK
  have c9 : W.cell? ⟨j, 9, none⟩ = some (.int .u32 J.pc) := HEW.out.job.cell 9 _ rfl
  have hlt := HEW.out.job.lt
  go_wp2_with fail
  clear c9 hlt
  refine (trap_any 8 J.pc W).mono ?_
  rintro e V ⟨rfl, hb⟩
  have HEV := Lib.hid (HEW.out.below hb)
  have HNV := Lib.hid (HNW.out.below hb HNW.out.lt)
  have HKV := Lib.hid (HKW.out.trans (Kp.of_below hb))
  clear hb HEW HNW HKW
  go_simp
  rename_i hK
  refine hK _ _ ?_
  clear hK
  refine wpList_store_rowTo rfl 32 _ _ rfl rfl w.heap.size (Eff.cs (trapE 8 J.pc)).toArray (by kernel_rfl) (by kernel_rfl) 32 zeroE.cs.toArray HNV.out (size_eff _) rfl (one_eff _) ?_
  obtain ⟨hE9, hK9, hN9⟩ := fin_eff HKV.out HEV.out HLT.out HNV.out (trapE 8 J.pc)
  have HE9 := Lib.hid hE9
  have HK9 := Lib.hid hK9
  have HN9 := Lib.hid hN9
  clear hE9 hK9 hN9 HEV HKV HNV
  generalize World.setRow _ w.heap.size (Eff.cs (trapE 8 J.pc)).toArray = W9 at HE9 HK9 HN9 ⊢
  go_wp2
  rw [← HQQ.out]
  exact bodyPost_ret (v := Eff.val (trapE 8 J.pc)) (results_cell_row Tryz.results69 _ _ _ _ _ _ _ rfl HN9.out Tryz.underlying32 rfl (size_eff _)) rfl ⟨rfl, HE9.out, HK9.out⟩
end Go.Proofs.YtniaclhmfmkikaaGreatDoor.Ex
end
section
/- Package core: branch. -/
namespace Go.Proofs.YtniaclhmfmkikaaGreatDoor.Ex
open Go.RowKit Ut
set_option maxRecDepth 100000
set_option linter.unusedVariables false
set_option maxHeartbeats 4000000

theorem branch_yes (j rb cb i : Nat) (J : Job) (p : Int) (R : List Int) (Q : List Nat) (w : World) (h : Env w j rb cb i J p R Q) (u : Int) (hd : ∀ V, Calls Tryz.prog 95 #[.int .i64 J.o, .int .u32 J.va, .int .u32 J.vb] V fun e w' => e = .returned (.tuple #[.bool true, .int .i64 u]) ∧ Below V.heap.size V w') :
    Calls Tryz.prog 65 #[.pointer (some ⟨j, 0, none⟩)] w fun e w' => e = .returned (Eff.val (doneE (tgt J.pc J.m))) ∧ Env w' j rb cb i J (tgt J.pc J.m) R Q ∧ Kp [rb, cb] w w' := by
  have HD := Lib.hid hd
  clear hd
  have HRUN := eff_run w
  have HB := Lib.hid (eff_below w)
  have HN := Lib.hid (eff_blk w)
  have HLT := Lib.hid h.lts
  have HG := Lib.hid (not_old HLT.out)
  have HE := Lib.hid (h.below HB.out)
  have HK := Lib.hid (Kp.of_below (S := [rb, cb]) HB.out)
  clear h
  go_enter Tryz.func65, Tryz.ntmps65
  generalize hQQ : bodyPost _ _ _ = QQ
  have HQQ := Lib.hid hQQ
  clear hQQ
  go_upto_region 0 with fail
  refine wp_region_lit ?_
  refine Great.wpList_allocTo rfl (some 2) rfl (.pointer (some ⟨w.heap.size, 0, none⟩)) (.cells zeroE.cs.toArray 32) (HRUN.out _ _ rfl) ?_
  generalize hW : w.alloc (.cells zeroE.cs.toArray 32) = W at HB HN HE HK ⊢
  clear HRUN hW
  have HEW := HE
  have HNW := HN
  have HKW := HK
  clear HE HN HK
  have c0 : W.cell? ⟨j, 0, none⟩ = some (.int .i64 J.o) := HEW.out.job.cell 0 _ rfl
  have c11 : W.cell? ⟨j, 11, none⟩ = some (.int .u32 J.va) := HEW.out.job.cell 11 _ rfl
  have c12 : W.cell? ⟨j, 12, none⟩ = some (.int .u32 J.vb) := HEW.out.job.cell 12 _ rfl
  have hlt := HEW.out.job.lt
  go_upto_region 1 with fail
  simp only [Act.put, List.setIfInBounds_toArray, List.set_cons_succ, List.set_cons_zero]
  apply wp_region_auto [6, 7, 8, 9, 10, 11, 12, 13, 14, 15, 16, 17, 18, 19, 5, 20, 21, 3] [_, _, _, _, _, _, _, _, _, _, _, _, _, _, _, _, _, _] (fun W' => Below W.heap.size W W')
  case hm => kernel_rfl
  case hT => intro y; simp only [setAll, List.setIfInBounds_toArray, List.set_cons_succ, List.set_cons_zero]; exact rfl
  case hok => kernel_rfl
  case hn => decide
  case hw => exact (Below.refl _ _).drew
  case hs =>
    refine auto_op 6 [] (by kernel_rfl) (fun y w' HW hd K hK => ?_) ?_
    · go_simp
      refine hK _ _ ?_ ?_ HW
      · simp [upd]
      · exact rfl
    refine auto_op 7 [0] (by kernel_rfl) (fun y w' HW hd K hK => ?_) ?_
    · have e0 := hd_nth (hd 0 (by simp)) rfl
      go_simp
      refine hK _ _ ?_ ?_ HW
      · simp [upd, e0]
      · exact rfl
    refine auto_op 8 [1] (by kernel_rfl) (fun y w' HW hd K hK => ?_) ?_
    · have e1 := hd_nth (hd 1 (by simp)) rfl
      go_simp
      refine hK _ _ ?_ ?_ HW
      · simp [upd, e1]
      · exact rfl
    refine auto_op 9 [2] (by kernel_rfl) (fun y w' HW hd K hK => ?_) ?_
    · have e2 := hd_nth (hd 2 (by simp)) rfl
      go_simp
      refine hK _ _ ?_ ?_ HW
      · simp [upd, e2]
      · exact rfl
    refine auto_op 10 [3] (by kernel_rfl) (fun y w' HW hd K hK => ?_) ?_
    · have e3 := hd_nth (hd 3 (by simp)) rfl
      have hcl : ∀ p : Addr, p.block < W.heap.size → w'.cell? p = W.cell? p := fun p hp => HW.cell hp
      go_simp
      refine hK _ _ ?_ ?_ HW
      · simp [upd, e3]
      · exact rfl
    refine auto_op 11 [] (by kernel_rfl) (fun y w' HW hd K hK => ?_) ?_
    · go_simp
      refine hK _ _ ?_ ?_ HW
      · simp [upd]
      · exact rfl
    refine auto_op 12 [5] (by kernel_rfl) (fun y w' HW hd K hK => ?_) ?_
    · have e5 := hd_nth (hd 5 (by simp)) rfl
      go_simp
      refine hK _ _ ?_ ?_ HW
      · simp [upd, e5]
      · exact rfl
    refine auto_op 13 [6] (by kernel_rfl) (fun y w' HW hd K hK => ?_) ?_
    · have e6 := hd_nth (hd 6 (by simp)) rfl
      go_simp
      refine hK _ _ ?_ ?_ HW
      · simp [upd, e6]
      · exact rfl
    refine auto_op 14 [7] (by kernel_rfl) (fun y w' HW hd K hK => ?_) ?_
    · have e7 := hd_nth (hd 7 (by simp)) rfl
      have hcl : ∀ p : Addr, p.block < W.heap.size → w'.cell? p = W.cell? p := fun p hp => HW.cell hp
      go_simp
      refine hK _ _ ?_ ?_ HW
      · simp [upd, e7]
      · exact rfl
    refine auto_op 15 [] (by kernel_rfl) (fun y w' HW hd K hK => ?_) ?_
    · go_simp
      refine hK _ _ ?_ ?_ HW
      · simp [upd]
      · exact rfl
    refine auto_op 16 [9] (by kernel_rfl) (fun y w' HW hd K hK => ?_) ?_
    · have e9 := hd_nth (hd 9 (by simp)) rfl
      go_simp
      refine hK _ _ ?_ ?_ HW
      · simp [upd, e9]
      · exact rfl
    refine auto_op 17 [10] (by kernel_rfl) (fun y w' HW hd K hK => ?_) ?_
    · have e10 := hd_nth (hd 10 (by simp)) rfl
      go_simp
      refine hK _ _ ?_ ?_ HW
      · simp [upd, e10]
      · exact rfl
    refine auto_op 18 [11] (by kernel_rfl) (fun y w' HW hd K hK => ?_) ?_
    · have e11 := hd_nth (hd 11 (by simp)) rfl
      have hcl : ∀ p : Addr, p.block < W.heap.size → w'.cell? p = W.cell? p := fun p hp => HW.cell hp
      go_simp
      refine hK _ _ ?_ ?_ HW
      · simp [upd, e11]
      · exact rfl
    refine auto_op 19 [4, 8, 12] (by kernel_rfl) (fun y w' HW hd K hK => ?_) ?_
    · have e4 := hd_nth (hd 4 (by simp)) rfl
      have e8 := hd_nth (hd 8 (by simp)) rfl
      have e12 := hd_nth (hd 12 (by simp)) rfl
      go_simp
      refine (HD.out _).mono ?_
      rintro e w3 ⟨rfl, hb3⟩
      refine hK _ _ ?_ ?_ (HW.trans (hb3.mono HW.size))
      · simp [upd, e4, e8, e12]
      · exact rfl
    refine auto_op 5 [13] (by kernel_rfl) (fun y w' HW hd K hK => ?_) ?_
    · have e13 := hd_nth (hd 13 (by simp)) rfl
      go_simp
      refine hK _ _ ?_ ?_ HW
      · simp [upd, e13]
      · exact rfl
    refine auto_op 20 [14] (by kernel_rfl) (fun y w' HW hd K hK => ?_) ?_
    · have e14 := hd_nth (hd 14 (by simp)) rfl
      go_simp
      refine hK _ _ ?_ ?_ HW
      · simp [upd, e14]
      · exact rfl
    refine auto_op 21 [14] (by kernel_rfl) (fun y w' HW hd K hK => ?_) ?_
    · have e14 := hd_nth (hd 14 (by simp)) rfl
      go_simp
      refine hK _ _ ?_ ?_ HW
      · simp [upd, e14]
      · exact rfl
    refine auto_op 3 [15, 13, 0, 1, 2, 3, 4, 5, 6, 7, 8, 9, 10, 11, 12, 13, 14, 15] (by kernel_rfl) (fun y w' HW hd K hK => ?_) ?_
    · have e0 := hd_nth (hd 0 (by simp)) rfl
      have e1 := hd_nth (hd 1 (by simp)) rfl
      have e2 := hd_nth (hd 2 (by simp)) rfl
      have e3 := hd_nth (hd 3 (by simp)) rfl
      have e4 := hd_nth (hd 4 (by simp)) rfl
      have e5 := hd_nth (hd 5 (by simp)) rfl
      have e6 := hd_nth (hd 6 (by simp)) rfl
      have e7 := hd_nth (hd 7 (by simp)) rfl
      have e8 := hd_nth (hd 8 (by simp)) rfl
      have e9 := hd_nth (hd 9 (by simp)) rfl
      have e10 := hd_nth (hd 10 (by simp)) rfl
      have e11 := hd_nth (hd 11 (by simp)) rfl
      have e12 := hd_nth (hd 12 (by simp)) rfl
      have e13 := hd_nth (hd 13 (by simp)) rfl
      have e14 := hd_nth (hd 14 (by simp)) rfl
      have e15 := hd_nth (hd 15 (by simp)) rfl
      go_simp
      refine hK _ _ ?_ ?_ HW
      · simp [upd, e0, e1, e2, e3, e4, e5, e6, e7, e8, e9, e10, e11, e12, e13, e14, e15]
      · exact rfl
    refine auto_last fun y w' HW hd K hK => ?_
    have e0 := hd_nth (hd 0 (by omega)) rfl
    have e1 := hd_nth (hd 1 (by omega)) rfl
    have e2 := hd_nth (hd 2 (by omega)) rfl
    have e3 := hd_nth (hd 3 (by omega)) rfl
    have e4 := hd_nth (hd 4 (by omega)) rfl
    have e5 := hd_nth (hd 5 (by omega)) rfl
    have e6 := hd_nth (hd 6 (by omega)) rfl
    have e7 := hd_nth (hd 7 (by omega)) rfl
    have e8 := hd_nth (hd 8 (by omega)) rfl
    have e9 := hd_nth (hd 9 (by omega)) rfl
    have e10 := hd_nth (hd 10 (by omega)) rfl
    have e11 := hd_nth (hd 11 (by omega)) rfl
    have e12 := hd_nth (hd 12 (by omega)) rfl
    have e13 := hd_nth (hd 13 (by omega)) rfl
    have e14 := hd_nth (hd 14 (by omega)) rfl
    have e15 := hd_nth (hd 15 (by omega)) rfl
    have e16 := hd_nth (hd 16 (by omega)) rfl
    have e17 := hd_nth (hd 17 (by omega)) rfl
    go_simp
    refine hK _ _ ?_
    clear hd hK K e0 e1 e2 e3 e4 e5 e6 e7 e8 e9 e10 e11 e12 e13 e14 e15 e16 e17
    have HEU := Lib.hid (HEW.out.below HW)
    have HNU := Lib.hid (HNW.out.below HW HNW.out.lt)
    have HKU := Lib.hid (HKW.out.trans (Kp.of_below HW))
    clear HW c0 c11 c12 hlt
    go_wp2_with fail
    refine (target_any j rb cb J w' HEU.out.job).mono ?_
    rintro e X ⟨rfl, hb⟩
    have HEX := Lib.hid (HEU.out.below hb)
    have HNX := Lib.hid (HNU.out.below hb HNU.out.lt)
    have HKX := Lib.hid (HKU.out.trans (Kp.of_below hb))
    clear hb HEU HNU HKU
    go_wp2_with fail
    refine (done_any j rb cb i J p R Q (tgt J.pc J.m) X HEX.out).mono ?_
    rintro e V ⟨rfl, hE, hK⟩
    have HEV := Lib.hid hE
    have HNV := Lib.hid (Blk.kp HNX.out hK HG.out)
    have HKV := Lib.hid (HKX.out.trans hK)
    clear hE hK HEX HNX HKX
    go_simp
    rename_i hK
    refine hK _ _ ?_
    clear hK
    refine wpList_store_rowTo rfl 32 _ _ rfl rfl w.heap.size (Eff.cs (doneE (tgt J.pc J.m))).toArray (by kernel_rfl) (by kernel_rfl) 32 zeroE.cs.toArray HNV.out (size_eff _) rfl (one_eff _) ?_
    obtain ⟨hE9, hK9, hN9⟩ := fin_eff HKV.out HEV.out HLT.out HNV.out (doneE (tgt J.pc J.m))
    have HE9 := Lib.hid hE9
    have HK9 := Lib.hid hK9
    have HN9 := Lib.hid hN9
    clear hE9 hK9 hN9 HEV HKV HNV
    generalize World.setRow _ w.heap.size (Eff.cs (doneE (tgt J.pc J.m))).toArray = W9 at HE9 HK9 HN9 ⊢
    go_wp2
    rw [← HQQ.out]
    exact bodyPost_ret (v := Eff.val (doneE (tgt J.pc J.m))) (results_cell_row Tryz.results65 _ _ _ _ _ _ _ rfl HN9.out Tryz.underlying32 rfl (size_eff _)) rfl ⟨rfl, HE9.out, HK9.out⟩
theorem branch_no (j rb cb i : Nat) (J : Job) (p : Int) (R : List Int) (Q : List Nat) (w : World) (h : Env w j rb cb i J p R Q) (u : Int) (hd : ∀ V, Calls Tryz.prog 95 #[.int .i64 J.o, .int .u32 J.va, .int .u32 J.vb] V fun e w' => e = .returned (.tuple #[.bool false, .int .i64 u]) ∧ Below V.heap.size V w') :
    Calls Tryz.prog 65 #[.pointer (some ⟨j, 0, none⟩)] w fun e w' => e = .returned (Eff.val (doneE J.nx)) ∧ Env w' j rb cb i J J.nx R Q ∧ Kp [rb, cb] w w' := by
  have HD := Lib.hid hd
  clear hd
  have HRUN := eff_run w
  have HB := Lib.hid (eff_below w)
  have HN := Lib.hid (eff_blk w)
  have HLT := Lib.hid h.lts
  have HG := Lib.hid (not_old HLT.out)
  have HE := Lib.hid (h.below HB.out)
  have HK := Lib.hid (Kp.of_below (S := [rb, cb]) HB.out)
  clear h
  go_enter Tryz.func65, Tryz.ntmps65
  generalize hQQ : bodyPost _ _ _ = QQ
  have HQQ := Lib.hid hQQ
  clear hQQ
  go_upto_region 0 with fail
  refine wp_region_lit ?_
  refine Great.wpList_allocTo rfl (some 2) rfl (.pointer (some ⟨w.heap.size, 0, none⟩)) (.cells zeroE.cs.toArray 32) (HRUN.out _ _ rfl) ?_
  generalize hW : w.alloc (.cells zeroE.cs.toArray 32) = W at HB HN HE HK ⊢
  clear HRUN hW
  have HEW := HE
  have HNW := HN
  have HKW := HK
  clear HE HN HK
  have c0 : W.cell? ⟨j, 0, none⟩ = some (.int .i64 J.o) := HEW.out.job.cell 0 _ rfl
  have c11 : W.cell? ⟨j, 11, none⟩ = some (.int .u32 J.va) := HEW.out.job.cell 11 _ rfl
  have c12 : W.cell? ⟨j, 12, none⟩ = some (.int .u32 J.vb) := HEW.out.job.cell 12 _ rfl
  have hlt := HEW.out.job.lt
  go_upto_region 1 with fail
  simp only [Act.put, List.setIfInBounds_toArray, List.set_cons_succ, List.set_cons_zero]
  apply wp_region_auto [6, 7, 8, 9, 10, 11, 12, 13, 14, 15, 16, 17, 18, 19, 5, 20, 21, 3] [_, _, _, _, _, _, _, _, _, _, _, _, _, _, _, _, _, _] (fun W' => Below W.heap.size W W')
  case hm => kernel_rfl
  case hT => intro y; simp only [setAll, List.setIfInBounds_toArray, List.set_cons_succ, List.set_cons_zero]; exact rfl
  case hok => kernel_rfl
  case hn => decide
  case hw => exact (Below.refl _ _).drew
  case hs =>
    refine auto_op 6 [] (by kernel_rfl) (fun y w' HW hd K hK => ?_) ?_
    · go_simp
      refine hK _ _ ?_ ?_ HW
      · simp [upd]
      · exact rfl
    refine auto_op 7 [0] (by kernel_rfl) (fun y w' HW hd K hK => ?_) ?_
    · have e0 := hd_nth (hd 0 (by simp)) rfl
      go_simp
      refine hK _ _ ?_ ?_ HW
      · simp [upd, e0]
      · exact rfl
    refine auto_op 8 [1] (by kernel_rfl) (fun y w' HW hd K hK => ?_) ?_
    · have e1 := hd_nth (hd 1 (by simp)) rfl
      go_simp
      refine hK _ _ ?_ ?_ HW
      · simp [upd, e1]
      · exact rfl
    refine auto_op 9 [2] (by kernel_rfl) (fun y w' HW hd K hK => ?_) ?_
    · have e2 := hd_nth (hd 2 (by simp)) rfl
      go_simp
      refine hK _ _ ?_ ?_ HW
      · simp [upd, e2]
      · exact rfl
    refine auto_op 10 [3] (by kernel_rfl) (fun y w' HW hd K hK => ?_) ?_
    · have e3 := hd_nth (hd 3 (by simp)) rfl
      have hcl : ∀ p : Addr, p.block < W.heap.size → w'.cell? p = W.cell? p := fun p hp => HW.cell hp
      go_simp
      refine hK _ _ ?_ ?_ HW
      · simp [upd, e3]
      · exact rfl
    refine auto_op 11 [] (by kernel_rfl) (fun y w' HW hd K hK => ?_) ?_
    · go_simp
      refine hK _ _ ?_ ?_ HW
      · simp [upd]
      · exact rfl
    refine auto_op 12 [5] (by kernel_rfl) (fun y w' HW hd K hK => ?_) ?_
    · have e5 := hd_nth (hd 5 (by simp)) rfl
      go_simp
      refine hK _ _ ?_ ?_ HW
      · simp [upd, e5]
      · exact rfl
    refine auto_op 13 [6] (by kernel_rfl) (fun y w' HW hd K hK => ?_) ?_
    · have e6 := hd_nth (hd 6 (by simp)) rfl
      go_simp
      refine hK _ _ ?_ ?_ HW
      · simp [upd, e6]
      · exact rfl
    refine auto_op 14 [7] (by kernel_rfl) (fun y w' HW hd K hK => ?_) ?_
    · have e7 := hd_nth (hd 7 (by simp)) rfl
      have hcl : ∀ p : Addr, p.block < W.heap.size → w'.cell? p = W.cell? p := fun p hp => HW.cell hp
      go_simp
      refine hK _ _ ?_ ?_ HW
      · simp [upd, e7]
      · exact rfl
    refine auto_op 15 [] (by kernel_rfl) (fun y w' HW hd K hK => ?_) ?_
    · go_simp
      refine hK _ _ ?_ ?_ HW
      · simp [upd]
      · exact rfl
    refine auto_op 16 [9] (by kernel_rfl) (fun y w' HW hd K hK => ?_) ?_
    · have e9 := hd_nth (hd 9 (by simp)) rfl
      go_simp
      refine hK _ _ ?_ ?_ HW
      · simp [upd, e9]
      · exact rfl
    refine auto_op 17 [10] (by kernel_rfl) (fun y w' HW hd K hK => ?_) ?_
    · have e10 := hd_nth (hd 10 (by simp)) rfl
      go_simp
      refine hK _ _ ?_ ?_ HW
      · simp [upd, e10]
      · exact rfl
    refine auto_op 18 [11] (by kernel_rfl) (fun y w' HW hd K hK => ?_) ?_
    · have e11 := hd_nth (hd 11 (by simp)) rfl
      have hcl : ∀ p : Addr, p.block < W.heap.size → w'.cell? p = W.cell? p := fun p hp => HW.cell hp
      go_simp
      refine hK _ _ ?_ ?_ HW
      · simp [upd, e11]
      · exact rfl
    refine auto_op 19 [4, 8, 12] (by kernel_rfl) (fun y w' HW hd K hK => ?_) ?_
    · have e4 := hd_nth (hd 4 (by simp)) rfl
      have e8 := hd_nth (hd 8 (by simp)) rfl
      have e12 := hd_nth (hd 12 (by simp)) rfl
      go_simp
      refine (HD.out _).mono ?_
      rintro e w3 ⟨rfl, hb3⟩
      refine hK _ _ ?_ ?_ (HW.trans (hb3.mono HW.size))
      · simp [upd, e4, e8, e12]
      · exact rfl
    refine auto_op 5 [13] (by kernel_rfl) (fun y w' HW hd K hK => ?_) ?_
    · have e13 := hd_nth (hd 13 (by simp)) rfl
      go_simp
      refine hK _ _ ?_ ?_ HW
      · simp [upd, e13]
      · exact rfl
    refine auto_op 20 [14] (by kernel_rfl) (fun y w' HW hd K hK => ?_) ?_
    · have e14 := hd_nth (hd 14 (by simp)) rfl
      go_simp
      refine hK _ _ ?_ ?_ HW
      · simp [upd, e14]
      · exact rfl
    refine auto_op 21 [14] (by kernel_rfl) (fun y w' HW hd K hK => ?_) ?_
    · have e14 := hd_nth (hd 14 (by simp)) rfl
      go_simp
      refine hK _ _ ?_ ?_ HW
      · simp [upd, e14]
      · exact rfl
    refine auto_op 3 [15, 13, 0, 1, 2, 3, 4, 5, 6, 7, 8, 9, 10, 11, 12, 13, 14, 15] (by kernel_rfl) (fun y w' HW hd K hK => ?_) ?_
    · have e0 := hd_nth (hd 0 (by simp)) rfl
      have e1 := hd_nth (hd 1 (by simp)) rfl
      have e2 := hd_nth (hd 2 (by simp)) rfl
      have e3 := hd_nth (hd 3 (by simp)) rfl
      have e4 := hd_nth (hd 4 (by simp)) rfl
      have e5 := hd_nth (hd 5 (by simp)) rfl
      have e6 := hd_nth (hd 6 (by simp)) rfl
      have e7 := hd_nth (hd 7 (by simp)) rfl
      have e8 := hd_nth (hd 8 (by simp)) rfl
      have e9 := hd_nth (hd 9 (by simp)) rfl
      have e10 := hd_nth (hd 10 (by simp)) rfl
      have e11 := hd_nth (hd 11 (by simp)) rfl
      have e12 := hd_nth (hd 12 (by simp)) rfl
      have e13 := hd_nth (hd 13 (by simp)) rfl
      have e14 := hd_nth (hd 14 (by simp)) rfl
      have e15 := hd_nth (hd 15 (by simp)) rfl
      go_simp
      refine hK _ _ ?_ ?_ HW
      · simp [upd, e0, e1, e2, e3, e4, e5, e6, e7, e8, e9, e10, e11, e12, e13, e14, e15]
      · exact rfl
    refine auto_last fun y w' HW hd K hK => ?_
    have e0 := hd_nth (hd 0 (by omega)) rfl
    have e1 := hd_nth (hd 1 (by omega)) rfl
    have e2 := hd_nth (hd 2 (by omega)) rfl
    have e3 := hd_nth (hd 3 (by omega)) rfl
    have e4 := hd_nth (hd 4 (by omega)) rfl
    have e5 := hd_nth (hd 5 (by omega)) rfl
    have e6 := hd_nth (hd 6 (by omega)) rfl
    have e7 := hd_nth (hd 7 (by omega)) rfl
    have e8 := hd_nth (hd 8 (by omega)) rfl
    have e9 := hd_nth (hd 9 (by omega)) rfl
    have e10 := hd_nth (hd 10 (by omega)) rfl
    have e11 := hd_nth (hd 11 (by omega)) rfl
    have e12 := hd_nth (hd 12 (by omega)) rfl
    have e13 := hd_nth (hd 13 (by omega)) rfl
    have e14 := hd_nth (hd 14 (by omega)) rfl
    have e15 := hd_nth (hd 15 (by omega)) rfl
    have e16 := hd_nth (hd 16 (by omega)) rfl
    have e17 := hd_nth (hd 17 (by omega)) rfl
    go_simp
    refine hK _ _ ?_
    clear hd hK K e0 e1 e2 e3 e4 e5 e6 e7 e8 e9 e10 e11 e12 e13 e14 e15 e16 e17
    have HEU := Lib.hid (HEW.out.below HW)
    have HNU := Lib.hid (HNW.out.below HW HNW.out.lt)
    have HKU := Lib.hid (HKW.out.trans (Kp.of_below HW))
    clear HW c0 c11 c12 hlt
    have c10 : w'.cell? ⟨j, 10, none⟩ = some (.int .u32 J.nx) := HEU.out.job.cell 10 _ rfl
    have hlt := HEU.out.job.lt
    go_wp2_with fail
    clear c10 hlt
    refine (done_any j rb cb i J p R Q J.nx w' HEU.out).mono ?_
    rintro e V ⟨rfl, hE, hK⟩
    have HEV := Lib.hid hE
    have HNV := Lib.hid (Blk.kp HNU.out hK HG.out)
    have HKV := Lib.hid (HKU.out.trans hK)
    clear hE hK HEU HNU HKU
    go_simp
    rename_i hK
    refine hK _ _ ?_
    clear hK
    refine wpList_store_rowTo rfl 32 _ _ rfl rfl w.heap.size (Eff.cs (doneE J.nx)).toArray (by kernel_rfl) (by kernel_rfl) 32 zeroE.cs.toArray HNV.out (size_eff _) rfl (one_eff _) ?_
    obtain ⟨hE9, hK9, hN9⟩ := fin_eff HKV.out HEV.out HLT.out HNV.out (doneE J.nx)
    have HE9 := Lib.hid hE9
    have HK9 := Lib.hid hK9
    have HN9 := Lib.hid hN9
    clear hE9 hK9 hN9 HEV HKV HNV
    generalize World.setRow _ w.heap.size (Eff.cs (doneE J.nx)).toArray = W9 at HE9 HK9 HN9 ⊢
    go_wp2
    rw [← HQQ.out]
    exact bodyPost_ret (v := Eff.val (doneE J.nx)) (results_cell_row Tryz.results65 _ _ _ _ _ _ _ rfl HN9.out Tryz.underlying32 rfl (size_eff _)) rfl ⟨rfl, HE9.out, HK9.out⟩
end Go.Proofs.YtniaclhmfmkikaaGreatDoor.Ex
end
