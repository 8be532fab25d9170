/- Several texts in one: Vs -/
import Derived.Test.YtniaclhmfmkikaaGreatDoorZ22
section
/- The document's core: system. -/
namespace Go.Proofs.YtniaclhmfmkikaaGreatDoor.Ex
open Go.RowKit Ut
set_option maxRecDepth 100000
set_option linter.unusedVariables false
set_option maxHeartbeats 4000000

theorem refSys_34 (d a b m : Int) (ab bb i : Nat) (p : Int) (R : List Int) (Q : List Nat) (clock : Int) (w : World) (h : Doc w ab bb i p R Q) :
    Calls Tryz.prog 39 #[Is.insV 34 d a b m, .pointer (some ⟨ab, 0, none⟩), .pointer (some ⟨bb, 0, none⟩), .int .i64 clock] w fun e w' => e = .returned (Eff.val (trapE 6 0)) ∧ Doc w' ab bb i p R Q ∧ Kp [ab, bb] w w' := by
  obtain ⟨U, hU, hb, hI, hN, hs⟩ := two_new w 34 d a b m
  have HU := Lib.hid hU
  have HEU := Lib.hid (h.below hb)
  have HIU := Lib.hid hI
  have HNU := Lib.hid hN
  have HKU := Lib.hid (Kp.of_below (S := [ab, bb]) hb)
  have HLT := Lib.hid h.lts
  have HG := Lib.hid (not_old2 HLT.out).2
  have HR2 := eff_run2 (Is.insW 34 d a b m w)
  obtain ⟨r0, r1, r2, r3, r4⟩ := hI.cells
  have hlt := hI.lt
  have c16 : U.cell? ⟨ab, 16, none⟩ = some (.int .u32 p) := HEU.out.reg.pc
  have hla := HEU.out.reg.1.lt
  have HX1 : Hid ((p + 4) % 4294967296 = nxt p) := Lib.hid rfl
  clear h hU hb hI hN hs
  go_enter Tryz.func39, Tryz.ntmps39
  generalize hQQ : bodyPost _ _ _ = QQ
  have HQQ := Lib.hid hQQ
  clear hQQ
  go_upto_region 0 with fail
  refine wp_region_lit ?_
  refine Great.wpList_boxTo rfl 37 _ rfl _ rfl w.heap.size rfl #[.int .i64 34, .int .i64 d, .int .i64 a, .int .i64 b, .int .i64 m] rfl ?_
  refine Great.wpList_allocTo rfl (some 8) rfl (.pointer (some ⟨w.heap.size + 1, 0, none⟩)) (.cells zeroE.cs.toArray 32) (HR2.out _ _ rfl _ (by simp)) ?_
  rw [show (w.alloc (.cells #[.int .i64 34, .int .i64 d, .int .i64 a, .int .i64 b, .int .i64 m] 37)).alloc (.cells zeroE.cs.toArray 32) = U from HU.out.symm]
  clear HR2 HU
  go_upto_region 2 with fail
  rw [HX1.out]
  go_wp2_with fail
  clear r0 r1 r2 r3 r4 hlt c16 hla
  refine (refTrap_any 6 0 U).mono ?_
  rintro e V ⟨rfl, hb⟩
  have HEV := Lib.hid (HEU.out.below hb)
  have HIV := Lib.hid (HIU.out.more hb)
  have HNV := Lib.hid (HNU.out.below hb HNU.out.lt)
  have HKV := Lib.hid (HKU.out.trans (Kp.of_below hb))
  clear hb HEU HIU HNU HKU
  go_simp
  rename_i hK
  refine hK _ _ ?_
  clear hK
  refine wpList_store_rowTo rfl 32 _ _ rfl rfl (w.heap.size + 1) (Eff.cs (trapE 6 0)).toArray (by kernel_rfl) (by kernel_rfl) 32 zeroE.cs.toArray HNV.out (size_eff _) rfl (one_eff _) ?_
  obtain ⟨hE9, hK9, hN9⟩ := fin_doc HKV.out HEV.out HLT.out (Nat.le_succ _) HNV.out (trapE 6 0)
  have HE9 := Lib.hid hE9
  have HK9 := Lib.hid hK9
  have HN9 := Lib.hid hN9
  clear hE9 hK9 hN9 HEV HKV HNV
  generalize World.setRow _ (w.heap.size + 1) (Eff.cs (trapE 6 0)).toArray = W9 at HE9 HK9 HN9 ⊢
  go_wp2
  rw [← HQQ.out]
  exact bodyPost_ret (v := Eff.val (trapE 6 0)) (results_cell_row Tryz.results39 _ _ _ _ _ _ _ rfl HN9.out Tryz.underlying32 rfl (size_eff _)) rfl ⟨rfl, HE9.out, HK9.out⟩
theorem refSys_41 (d a b m : Int) (ab bb i : Nat) (p : Int) (R : List Int) (Q : List Nat) (clock : Int) (w : World) (h : Doc w ab bb i p R Q) :
    Calls Tryz.prog 39 #[Is.insV 41 d a b m, .pointer (some ⟨ab, 0, none⟩), .pointer (some ⟨bb, 0, none⟩), .int .i64 clock] w fun e w' => e = .returned (Eff.val (trapE 8 p)) ∧ Doc w' ab bb i p R Q ∧ Kp [ab, bb] w w' := by
  obtain ⟨U, hU, hb, hI, hN, hs⟩ := two_new w 41 d a b m
  have HU := Lib.hid hU
  have HEU := Lib.hid (h.below hb)
  have HIU := Lib.hid hI
  have HNU := Lib.hid hN
  have HKU := Lib.hid (Kp.of_below (S := [ab, bb]) hb)
  have HLT := Lib.hid h.lts
  have HG := Lib.hid (not_old2 HLT.out).2
  have HR2 := eff_run2 (Is.insW 41 d a b m w)
  obtain ⟨r0, r1, r2, r3, r4⟩ := hI.cells
  have hlt := hI.lt
  have c16 : U.cell? ⟨ab, 16, none⟩ = some (.int .u32 p) := HEU.out.reg.pc
  have hla := HEU.out.reg.1.lt
  have HX1 : Hid ((p + 4) % 4294967296 = nxt p) := Lib.hid rfl
  clear h hU hb hI hN hs
  go_enter Tryz.func39, Tryz.ntmps39
  generalize hQQ : bodyPost _ _ _ = QQ
  have HQQ := Lib.hid hQQ
  clear hQQ
  go_upto_region 0 with fail
  refine wp_region_lit ?_
  refine Great.wpList_boxTo rfl 37 _ rfl _ rfl w.heap.size rfl #[.int .i64 41, .int .i64 d, .int .i64 a, .int .i64 b, .int .i64 m] rfl ?_
  refine Great.wpList_allocTo rfl (some 8) rfl (.pointer (some ⟨w.heap.size + 1, 0, none⟩)) (.cells zeroE.cs.toArray 32) (HR2.out _ _ rfl _ (by simp)) ?_
  rw [show (w.alloc (.cells #[.int .i64 41, .int .i64 d, .int .i64 a, .int .i64 b, .int .i64 m] 37)).alloc (.cells zeroE.cs.toArray 32) = U from HU.out.symm]
  clear HR2 HU
  go_upto_region 2 with fail
  rw [HX1.out]
  go_wp2_with fail
  clear r0 r1 r2 r3 r4 hlt c16 hla
  refine (refTrap_any 8 p U).mono ?_
  rintro e V ⟨rfl, hb⟩
  have HEV := Lib.hid (HEU.out.below hb)
  have HIV := Lib.hid (HIU.out.more hb)
  have HNV := Lib.hid (HNU.out.below hb HNU.out.lt)
  have HKV := Lib.hid (HKU.out.trans (Kp.of_below hb))
  clear hb HEU HIU HNU HKU
  go_simp
  rename_i hK
  refine hK _ _ ?_
  clear hK
  refine wpList_store_rowTo rfl 32 _ _ rfl rfl (w.heap.size + 1) (Eff.cs (trapE 8 p)).toArray (by kernel_rfl) (by kernel_rfl) 32 zeroE.cs.toArray HNV.out (size_eff _) rfl (one_eff _) ?_
  obtain ⟨hE9, hK9, hN9⟩ := fin_doc HKV.out HEV.out HLT.out (Nat.le_succ _) HNV.out (trapE 8 p)
  have HE9 := Lib.hid hE9
  have HK9 := Lib.hid hK9
  have HN9 := Lib.hid hN9
  clear hE9 hK9 hN9 HEV HKV HNV
  generalize World.setRow _ (w.heap.size + 1) (Eff.cs (trapE 8 p)).toArray = W9 at HE9 HK9 HN9 ⊢
  go_wp2
  rw [← HQQ.out]
  exact bodyPost_ret (v := Eff.val (trapE 8 p)) (results_cell_row Tryz.results39 _ _ _ _ _ _ _ rfl HN9.out Tryz.underlying32 rfl (size_eff _)) rfl ⟨rfl, HE9.out, HK9.out⟩
theorem refSys_35 (d a b m : Int) (ab bb i : Nat) (p : Int) (R : List Int) (Q : List Nat) (clock : Int) (w : World) (h : Doc w ab bb i p R Q) :
    Calls Tryz.prog 39 #[Is.insV 35 d a b m, .pointer (some ⟨ab, 0, none⟩), .pointer (some ⟨bb, 0, none⟩), .int .i64 clock] w fun e w' => e = .returned (Eff.val (askE 4 (nxt p))) ∧ Doc w' ab bb i p R Q ∧ Kp [ab, bb] w w' := by
  obtain ⟨U, hU, hb, hI, hN, hs⟩ := two_new w 35 d a b m
  have HU := Lib.hid hU
  have HEU := Lib.hid (h.below hb)
  have HIU := Lib.hid hI
  have HNU := Lib.hid hN
  have HKU := Lib.hid (Kp.of_below (S := [ab, bb]) hb)
  have HLT := Lib.hid h.lts
  have HG := Lib.hid (not_old2 HLT.out).2
  have HR2 := eff_run2 (Is.insW 35 d a b m w)
  obtain ⟨r0, r1, r2, r3, r4⟩ := hI.cells
  have hlt := hI.lt
  have c16 : U.cell? ⟨ab, 16, none⟩ = some (.int .u32 p) := HEU.out.reg.pc
  have hla := HEU.out.reg.1.lt
  have HX1 : Hid ((p + 4) % 4294967296 = nxt p) := Lib.hid rfl
  clear h hU hb hI hN hs
  go_enter Tryz.func39, Tryz.ntmps39
  generalize hQQ : bodyPost _ _ _ = QQ
  have HQQ := Lib.hid hQQ
  clear hQQ
  go_upto_region 0 with fail
  refine wp_region_lit ?_
  refine Great.wpList_boxTo rfl 37 _ rfl _ rfl w.heap.size rfl #[.int .i64 35, .int .i64 d, .int .i64 a, .int .i64 b, .int .i64 m] rfl ?_
  refine Great.wpList_allocTo rfl (some 8) rfl (.pointer (some ⟨w.heap.size + 1, 0, none⟩)) (.cells zeroE.cs.toArray 32) (HR2.out _ _ rfl _ (by simp)) ?_
  rw [show (w.alloc (.cells #[.int .i64 35, .int .i64 d, .int .i64 a, .int .i64 b, .int .i64 m] 37)).alloc (.cells zeroE.cs.toArray 32) = U from HU.out.symm]
  clear HR2 HU
  go_upto_region 2 with fail
  rw [HX1.out]
  go_upto_region 8 with fail
  refine wp_region_lit ?_
  refine Great.wpList_readTo rfl _ rfl (.int .u32 (nxt p)) (by kernel_rfl) ?_
  refine wpList_buildTo rfl 32 _ rfl _ rfl (Eff.cs (askE 4 (nxt p))).toArray (by kernel_rfl) ?_
  refine wpList_store_rowTo rfl 32 _ _ rfl rfl (w.heap.size + 1) (Eff.cs (askE 4 (nxt p))).toArray (by kernel_rfl) (by kernel_rfl) 32 zeroE.cs.toArray HNU.out (size_eff _) rfl (one_eff _) ?_
  obtain ⟨hE9, hK9, hN9⟩ := fin_doc HKU.out HEU.out HLT.out (Nat.le_succ _) HNU.out (askE 4 (nxt p))
  have HE9 := Lib.hid hE9
  have HK9 := Lib.hid hK9
  have HN9 := Lib.hid hN9
  clear hE9 hK9 hN9 HEU HKU HNU
  generalize World.setRow _ (w.heap.size + 1) (Eff.cs (askE 4 (nxt p))).toArray = W9 at HE9 HK9 HN9 ⊢
  go_wp2
  rw [← HQQ.out]
  exact bodyPost_ret (v := Eff.val (askE 4 (nxt p))) (results_cell_row Tryz.results39 _ _ _ _ _ _ _ rfl HN9.out Tryz.underlying32 rfl (size_eff _)) rfl ⟨rfl, HE9.out, HK9.out⟩
theorem refSys_40 (d a b m : Int) (ab bb i : Nat) (p : Int) (R : List Int) (Q : List Nat) (clock : Int) (w : World) (h : Doc w ab bb i p R Q) :
    Calls Tryz.prog 39 #[Is.insV 40 d a b m, .pointer (some ⟨ab, 0, none⟩), .pointer (some ⟨bb, 0, none⟩), .int .i64 clock] w fun e w' => e = .returned (Eff.val (askE 5 (nxt p))) ∧ Doc w' ab bb i p R Q ∧ Kp [ab, bb] w w' := by
  obtain ⟨U, hU, hb, hI, hN, hs⟩ := two_new w 40 d a b m
  have HU := Lib.hid hU
  have HEU := Lib.hid (h.below hb)
  have HIU := Lib.hid hI
  have HNU := Lib.hid hN
  have HKU := Lib.hid (Kp.of_below (S := [ab, bb]) hb)
  have HLT := Lib.hid h.lts
  have HG := Lib.hid (not_old2 HLT.out).2
  have HR2 := eff_run2 (Is.insW 40 d a b m w)
  obtain ⟨r0, r1, r2, r3, r4⟩ := hI.cells
  have hlt := hI.lt
  have c16 : U.cell? ⟨ab, 16, none⟩ = some (.int .u32 p) := HEU.out.reg.pc
  have hla := HEU.out.reg.1.lt
  have HX1 : Hid ((p + 4) % 4294967296 = nxt p) := Lib.hid rfl
  clear h hU hb hI hN hs
  go_enter Tryz.func39, Tryz.ntmps39
  generalize hQQ : bodyPost _ _ _ = QQ
  have HQQ := Lib.hid hQQ
  clear hQQ
  go_upto_region 0 with fail
  refine wp_region_lit ?_
  refine Great.wpList_boxTo rfl 37 _ rfl _ rfl w.heap.size rfl #[.int .i64 40, .int .i64 d, .int .i64 a, .int .i64 b, .int .i64 m] rfl ?_
  refine Great.wpList_allocTo rfl (some 8) rfl (.pointer (some ⟨w.heap.size + 1, 0, none⟩)) (.cells zeroE.cs.toArray 32) (HR2.out _ _ rfl _ (by simp)) ?_
  rw [show (w.alloc (.cells #[.int .i64 40, .int .i64 d, .int .i64 a, .int .i64 b, .int .i64 m] 37)).alloc (.cells zeroE.cs.toArray 32) = U from HU.out.symm]
  clear HR2 HU
  go_upto_region 2 with fail
  rw [HX1.out]
  go_upto_region 10 with fail
  refine wp_region_lit ?_
  refine Great.wpList_readTo rfl _ rfl (.int .u32 (nxt p)) (by kernel_rfl) ?_
  refine wpList_buildTo rfl 32 _ rfl _ rfl (Eff.cs (askE 5 (nxt p))).toArray (by kernel_rfl) ?_
  refine wpList_store_rowTo rfl 32 _ _ rfl rfl (w.heap.size + 1) (Eff.cs (askE 5 (nxt p))).toArray (by kernel_rfl) (by kernel_rfl) 32 zeroE.cs.toArray HNU.out (size_eff _) rfl (one_eff _) ?_
  obtain ⟨hE9, hK9, hN9⟩ := fin_doc HKU.out HEU.out HLT.out (Nat.le_succ _) HNU.out (askE 5 (nxt p))
  have HE9 := Lib.hid hE9
  have HK9 := Lib.hid hK9
  have HN9 := Lib.hid hN9
  clear hE9 hK9 hN9 HEU HKU HNU
  generalize World.setRow _ (w.heap.size + 1) (Eff.cs (askE 5 (nxt p))).toArray = W9 at HE9 HK9 HN9 ⊢
  go_wp2
  rw [← HQQ.out]
  exact bodyPost_ret (v := Eff.val (askE 5 (nxt p))) (results_cell_row Tryz.results39 _ _ _ _ _ _ _ rfl HN9.out Tryz.underlying32 rfl (size_eff _)) rfl ⟨rfl, HE9.out, HK9.out⟩
theorem refSys_39 (d a b m : Int) (ab bb i : Nat) (p : Int) (R : List Int) (Q : List Nat) (clock : Int) (w : World) (h : Doc w ab bb i p R Q) :
    Calls Tryz.prog 39 #[Is.insV 39 d a b m, .pointer (some ⟨ab, 0, none⟩), .pointer (some ⟨bb, 0, none⟩), .int .i64 clock] w fun e w' => e = .returned (Eff.val (askE 6 (nxt p))) ∧ Doc w' ab bb i p R Q ∧ Kp [ab, bb] w w' := by
  obtain ⟨U, hU, hb, hI, hN, hs⟩ := two_new w 39 d a b m
  have HU := Lib.hid hU
  have HEU := Lib.hid (h.below hb)
  have HIU := Lib.hid hI
  have HNU := Lib.hid hN
  have HKU := Lib.hid (Kp.of_below (S := [ab, bb]) hb)
  have HLT := Lib.hid h.lts
  have HG := Lib.hid (not_old2 HLT.out).2
  have HR2 := eff_run2 (Is.insW 39 d a b m w)
  obtain ⟨r0, r1, r2, r3, r4⟩ := hI.cells
  have hlt := hI.lt
  have c16 : U.cell? ⟨ab, 16, none⟩ = some (.int .u32 p) := HEU.out.reg.pc
  have hla := HEU.out.reg.1.lt
  have HX1 : Hid ((p + 4) % 4294967296 = nxt p) := Lib.hid rfl
  clear h hU hb hI hN hs
  go_enter Tryz.func39, Tryz.ntmps39
  generalize hQQ : bodyPost _ _ _ = QQ
  have HQQ := Lib.hid hQQ
  clear hQQ
  go_upto_region 0 with fail
  refine wp_region_lit ?_
  refine Great.wpList_boxTo rfl 37 _ rfl _ rfl w.heap.size rfl #[.int .i64 39, .int .i64 d, .int .i64 a, .int .i64 b, .int .i64 m] rfl ?_
  refine Great.wpList_allocTo rfl (some 8) rfl (.pointer (some ⟨w.heap.size + 1, 0, none⟩)) (.cells zeroE.cs.toArray 32) (HR2.out _ _ rfl _ (by simp)) ?_
  rw [show (w.alloc (.cells #[.int .i64 39, .int .i64 d, .int .i64 a, .int .i64 b, .int .i64 m] 37)).alloc (.cells zeroE.cs.toArray 32) = U from HU.out.symm]
  clear HR2 HU
  go_upto_region 2 with fail
  rw [HX1.out]
  go_upto_region 12 with fail
  refine wp_region_lit ?_
  refine Great.wpList_readTo rfl _ rfl (.int .u32 (nxt p)) (by kernel_rfl) ?_
  refine wpList_buildTo rfl 32 _ rfl _ rfl (Eff.cs (askE 6 (nxt p))).toArray (by kernel_rfl) ?_
  refine wpList_store_rowTo rfl 32 _ _ rfl rfl (w.heap.size + 1) (Eff.cs (askE 6 (nxt p))).toArray (by kernel_rfl) (by kernel_rfl) 32 zeroE.cs.toArray HNU.out (size_eff _) rfl (one_eff _) ?_
  obtain ⟨hE9, hK9, hN9⟩ := fin_doc HKU.out HEU.out HLT.out (Nat.le_succ _) HNU.out (askE 6 (nxt p))
  have HE9 := Lib.hid hE9
  have HK9 := Lib.hid hK9
  have HN9 := Lib.hid hN9
  clear hE9 hK9 hN9 HEU HKU HNU
  generalize World.setRow _ (w.heap.size + 1) (Eff.cs (askE 6 (nxt p))).toArray = W9 at HE9 HK9 HN9 ⊢
  go_wp2
  rw [← HQQ.out]
  exact bodyPost_ret (v := Eff.val (askE 6 (nxt p))) (results_cell_row Tryz.results39 _ _ _ _ _ _ _ rfl HN9.out Tryz.underlying32 rfl (size_eff _)) rfl ⟨rfl, HE9.out, HK9.out⟩
theorem refSys_36 (d a b m : Int) (ab bb i : Nat) (p : Int) (R : List Int) (Q : List Nat) (clock : Int) (w : World) (h : Doc w ab bb i p R Q) :
    Calls Tryz.prog 39 #[Is.insV 36 d a b m, .pointer (some ⟨ab, 0, none⟩), .pointer (some ⟨bb, 0, none⟩), .int .i64 clock] w fun e w' => e = .returned (Eff.val (doneE ((Q.getD 2 0 : Nat) : Int))) ∧ Doc w' ab bb i ((Q.getD 2 0 : Nat) : Int) R (Cs.lvR Q) ∧ Kp [ab, bb] w w' := by
  obtain ⟨U, hU, hb, hI, hN, hs⟩ := two_new w 36 d a b m
  have HU := Lib.hid hU
  have HEU := Lib.hid (h.below hb)
  have HIU := Lib.hid hI
  have HNU := Lib.hid hN
  have HKU := Lib.hid (Kp.of_below (S := [ab, bb]) hb)
  have HLT := Lib.hid h.lts
  have HG := Lib.hid (not_old2 HLT.out).2
  have HR2 := eff_run2 (Is.insW 36 d a b m w)
  obtain ⟨r0, r1, r2, r3, r4⟩ := hI.cells
  have hlt := hI.lt
  have c16 : U.cell? ⟨ab, 16, none⟩ = some (.int .u32 p) := HEU.out.reg.pc
  have hla := HEU.out.reg.1.lt
  have HX1 : Hid ((p + 4) % 4294967296 = nxt p) := Lib.hid rfl
  clear h hU hb hI hN hs
  go_enter Tryz.func39, Tryz.ntmps39
  generalize hQQ : bodyPost _ _ _ = QQ
  have HQQ := Lib.hid hQQ
  clear hQQ
  go_upto_region 0 with fail
  refine wp_region_lit ?_
  refine Great.wpList_boxTo rfl 37 _ rfl _ rfl w.heap.size rfl #[.int .i64 36, .int .i64 d, .int .i64 a, .int .i64 b, .int .i64 m] rfl ?_
  refine Great.wpList_allocTo rfl (some 8) rfl (.pointer (some ⟨w.heap.size + 1, 0, none⟩)) (.cells zeroE.cs.toArray 32) (HR2.out _ _ rfl _ (by simp)) ?_
  rw [show (w.alloc (.cells #[.int .i64 36, .int .i64 d, .int .i64 a, .int .i64 b, .int .i64 m] 37)).alloc (.cells zeroE.cs.toArray 32) = U from HU.out.symm]
  clear HR2 HU
  go_upto_region 2 with fail
  rw [HX1.out]
  go_wp2_with fail
  clear r0 r1 r2 r3 r4 hlt c16 hla
  refine (Cs.refLeave_any bb i Q U HEU.out.csr).mono ?_
  rintro e V ⟨rfl, hF, hg⟩
  have HEV := Lib.hid (HEU.out.csrs hF hg)
  have HNV := Lib.hid (Blk.kp HNU.out (Kp.of_grown (S := [ab, bb]) hg (by simp)) HG.out)
  have HKV := Lib.hid (HKU.out.trans (Kp.of_grown (S := [ab, bb]) hg (by simp)))
  clear hF hg HEU HNU HKU HIU
  go_wp2_with fail
  refine (refDone_any ab bb i p _ R _ V HEV.out).mono ?_
  rintro e Z ⟨rfl, hE, hK⟩
  have HEZ := Lib.hid hE
  have HNZ := Lib.hid (Blk.kp HNV.out hK HG.out)
  have HKZ := Lib.hid (HKV.out.trans hK)
  clear hE hK HEV HNV HKV
  go_simp
  rename_i hK
  refine hK _ _ ?_
  clear hK
  refine wpList_store_rowTo rfl 32 _ _ rfl rfl (w.heap.size + 1) (Eff.cs (doneE ((Q.getD 2 0 : Nat) : Int))).toArray (by kernel_rfl) (by kernel_rfl) 32 zeroE.cs.toArray HNZ.out (size_eff _) rfl (one_eff _) ?_
  obtain ⟨hE9, hK9, hN9⟩ := fin_doc HKZ.out HEZ.out HLT.out (Nat.le_succ _) HNZ.out (doneE ((Q.getD 2 0 : Nat) : Int))
  have HE9 := Lib.hid hE9
  have HK9 := Lib.hid hK9
  have HN9 := Lib.hid hN9
  clear hE9 hK9 hN9 HEZ HKZ HNZ
  generalize World.setRow _ (w.heap.size + 1) (Eff.cs (doneE ((Q.getD 2 0 : Nat) : Int))).toArray = W9 at HE9 HK9 HN9 ⊢
  go_wp2
  rw [← HQQ.out]
  exact bodyPost_ret (v := Eff.val (doneE ((Q.getD 2 0 : Nat) : Int))) (results_cell_row Tryz.results39 _ _ _ _ _ _ _ rfl HN9.out Tryz.underlying32 rfl (size_eff _)) rfl ⟨rfl, HE9.out, HK9.out⟩
theorem refSys_37 (d a b m : Int) (ab bb i : Nat) (p : Int) (R : List Int) (Q : List Nat) (clock : Int) (w : World) (h : Doc w ab bb i p R Q) (x u : Int) (hx : Cs.rdZ Q i m clock = x) (hu : Cs.errZ Q m 9 = u) :
    Calls Tryz.prog 39 #[Is.insV 37 d a b m, .pointer (some ⟨ab, 0, none⟩), .pointer (some ⟨bb, 0, none⟩), .int .i64 clock] w fun e w' => e = .returned (Eff.val (doneE (nxt p))) ∧ Doc w' ab bb i (nxt p) (Rg.setR R d x) Q ∧ Kp [ab, bb] w w' := by
  obtain ⟨U, hU, hb, hI, hN, hs⟩ := two_new w 37 d a b m
  have HU := Lib.hid hU
  have HEU := Lib.hid (h.below hb)
  have HIU := Lib.hid hI
  have HNU := Lib.hid hN
  have HKU := Lib.hid (Kp.of_below (S := [ab, bb]) hb)
  have HLT := Lib.hid h.lts
  have HG := Lib.hid (not_old2 HLT.out).2
  have HR2 := eff_run2 (Is.insW 37 d a b m w)
  obtain ⟨r0, r1, r2, r3, r4⟩ := hI.cells
  have hlt := hI.lt
  have c16 : U.cell? ⟨ab, 16, none⟩ = some (.int .u32 p) := HEU.out.reg.pc
  have hla := HEU.out.reg.1.lt
  have HX1 : Hid ((p + 4) % 4294967296 = nxt p) := Lib.hid rfl
  have A3 := Lib.hid (Cs.refRead_any bb i m clock Q U HEU.out.csr)
  rw [hx, hu] at A3
  clear h hU hb hI hN hs
  go_enter Tryz.func39, Tryz.ntmps39
  generalize hQQ : bodyPost _ _ _ = QQ
  have HQQ := Lib.hid hQQ
  clear hQQ
  go_upto_region 0 with fail
  refine wp_region_lit ?_
  refine Great.wpList_boxTo rfl 37 _ rfl _ rfl w.heap.size rfl #[.int .i64 37, .int .i64 d, .int .i64 a, .int .i64 b, .int .i64 m] rfl ?_
  refine Great.wpList_allocTo rfl (some 8) rfl (.pointer (some ⟨w.heap.size + 1, 0, none⟩)) (.cells zeroE.cs.toArray 32) (HR2.out _ _ rfl _ (by simp)) ?_
  rw [show (w.alloc (.cells #[.int .i64 37, .int .i64 d, .int .i64 a, .int .i64 b, .int .i64 m] 37)).alloc (.cells zeroE.cs.toArray 32) = U from HU.out.symm]
  clear HR2 HU
  go_upto_region 2 with fail
  rw [HX1.out]
  go_wp2_with fail
  refine A3.out.mono ?_
  rintro e w1 ⟨rfl, rfl⟩
  go_wp2_with fail
  clear r0 r1 r2 r3 r4 hlt c16 hla
  clear HIU A3
  refine (Rg.refSet_any ab p d (x) R U HEU.out.reg).mono ?_
  rintro e X ⟨rfl, hF, hg⟩
  have HEX := Lib.hid (HEU.out.regs hF hg)
  have HNX := Lib.hid (Blk.kp HNU.out (Kp.of_grown (S := [ab, bb]) hg (by simp)) HG.out)
  have HKX := Lib.hid (HKU.out.trans (Kp.of_grown (S := [ab, bb]) hg (by simp)))
  clear hF hg HEU HNU HKU
  go_wp2_with fail
  refine (refDone_any ab bb i p (nxt p) _ Q X HEX.out).mono ?_
  rintro e Z ⟨rfl, hE, hK⟩
  have HEZ := Lib.hid hE
  have HNZ := Lib.hid (Blk.kp HNX.out hK HG.out)
  have HKZ := Lib.hid (HKX.out.trans hK)
  clear hE hK HEX HNX HKX
  go_simp
  rename_i hK
  refine hK _ _ ?_
  clear hK
  refine wpList_store_rowTo rfl 32 _ _ rfl rfl (w.heap.size + 1) (Eff.cs (doneE (nxt p))).toArray (by kernel_rfl) (by kernel_rfl) 32 zeroE.cs.toArray HNZ.out (size_eff _) rfl (one_eff _) ?_
  obtain ⟨hE9, hK9, hN9⟩ := fin_doc HKZ.out HEZ.out HLT.out (Nat.le_succ _) HNZ.out (doneE (nxt p))
  have HE9 := Lib.hid hE9
  have HK9 := Lib.hid hK9
  have HN9 := Lib.hid hN9
  clear hE9 hK9 hN9 HEZ HKZ HNZ
  generalize World.setRow _ (w.heap.size + 1) (Eff.cs (doneE (nxt p))).toArray = W9 at HE9 HK9 HN9 ⊢
  go_wp2
  rw [← HQQ.out]
  exact bodyPost_ret (v := Eff.val (doneE (nxt p))) (results_cell_row Tryz.results39 _ _ _ _ _ _ _ rfl HN9.out Tryz.underlying32 rfl (size_eff _)) rfl ⟨rfl, HE9.out, HK9.out⟩
theorem refSys_38_yes (d a b m : Int) (ab bb i : Nat) (p : Int) (R : List Int) (Q : List Nat) (clock : Int) (w : World) (h : Doc w ab bb i p R Q) (x : Nat) (ex : Rg.getR R a = (x : Int)) (hl : x < 4294967296) (hz : Cs.errZ Q m 7 = 0) :
    Calls Tryz.prog 39 #[Is.insV 38 d a b m, .pointer (some ⟨ab, 0, none⟩), .pointer (some ⟨bb, 0, none⟩), .int .i64 clock] w fun e w' => e = .returned (Eff.val (doneE (nxt p))) ∧ Doc w' ab bb i (nxt p) R (Cs.wrR Q m x) ∧ Kp [ab, bb] w w' := by
  obtain ⟨U, hU, hb, hI, hN, hs⟩ := two_new w 38 d a b m
  have HU := Lib.hid hU
  have HEU := Lib.hid (h.below hb)
  have HIU := Lib.hid hI
  have HNU := Lib.hid hN
  have HKU := Lib.hid (Kp.of_below (S := [ab, bb]) hb)
  have HLT := Lib.hid h.lts
  have HG := Lib.hid (not_old2 HLT.out).2
  have HR2 := eff_run2 (Is.insW 38 d a b m w)
  obtain ⟨r0, r1, r2, r3, r4⟩ := hI.cells
  have hlt := hI.lt
  have c16 : U.cell? ⟨ab, 16, none⟩ = some (.int .u32 p) := HEU.out.reg.pc
  have hla := HEU.out.reg.1.lt
  have HX1 : Hid ((p + 4) % 4294967296 = nxt p) := Lib.hid rfl
  have A1 := Lib.hid (Rg.refGet_any ab p a R U HEU.out.reg)
  rw [ex] at A1
  generalize Rg.errZ a = ua at A1
  have A3 := Lib.hid (Cs.refWrite_any bb i m x Q U HEU.out.csr hl)
  rw [hz] at A3
  have HG0 := Lib.hid (not_old2 HLT.out).1
  clear h hU hb hI hN hs
  go_enter Tryz.func39, Tryz.ntmps39
  generalize hQQ : bodyPost _ _ _ = QQ
  have HQQ := Lib.hid hQQ
  clear hQQ
  go_upto_region 0 with fail
  refine wp_region_lit ?_
  refine Great.wpList_boxTo rfl 37 _ rfl _ rfl w.heap.size rfl #[.int .i64 38, .int .i64 d, .int .i64 a, .int .i64 b, .int .i64 m] rfl ?_
  refine Great.wpList_allocTo rfl (some 8) rfl (.pointer (some ⟨w.heap.size + 1, 0, none⟩)) (.cells zeroE.cs.toArray 32) (HR2.out _ _ rfl _ (by simp)) ?_
  rw [show (w.alloc (.cells #[.int .i64 38, .int .i64 d, .int .i64 a, .int .i64 b, .int .i64 m] 37)).alloc (.cells zeroE.cs.toArray 32) = U from HU.out.symm]
  clear HR2 HU
  go_upto_region 2 with fail
  rw [HX1.out]
  go_wp2_with fail
  refine A1.out.mono ?_
  rintro e w1 ⟨rfl, rfl⟩
  go_wp2_with fail
  clear r0 r1 r2 r3 r4 hlt c16 hla
  refine A3.out.mono ?_
  rintro e V ⟨rfl, hF, hg⟩
  have HEV := Lib.hid (HEU.out.csrs hF hg)
  have HNV := Lib.hid (Blk.kp HNU.out (Kp.of_grown (S := [ab, bb]) hg (by simp)) HG.out)
  have HKV := Lib.hid (HKU.out.trans (Kp.of_grown (S := [ab, bb]) hg (by simp)))
  have HIV : Hid (Is.InsAt V w.heap.size 38 d a b m) := Lib.hid ((hg.block _ HIU.out.lt (fun e => HG0.out (by injection e with e; simp [e]))).trans HIU.out)
  clear hF hg HEU HNU HKU HIU A1 A3
  go_wp2_with fail
  refine (refDone_any ab bb i p (nxt p) R _ V HEV.out).mono ?_
  rintro e Z ⟨rfl, hE, hK⟩
  have HEZ := Lib.hid hE
  have HNZ := Lib.hid (Blk.kp HNV.out hK HG.out)
  have HKZ := Lib.hid (HKV.out.trans hK)
  clear hE hK HEV HNV HKV
  go_simp
  rename_i hK
  refine hK _ _ ?_
  clear hK
  refine wpList_store_rowTo rfl 32 _ _ rfl rfl (w.heap.size + 1) (Eff.cs (doneE (nxt p))).toArray (by kernel_rfl) (by kernel_rfl) 32 zeroE.cs.toArray HNZ.out (size_eff _) rfl (one_eff _) ?_
  obtain ⟨hE9, hK9, hN9⟩ := fin_doc HKZ.out HEZ.out HLT.out (Nat.le_succ _) HNZ.out (doneE (nxt p))
  have HE9 := Lib.hid hE9
  have HK9 := Lib.hid hK9
  have HN9 := Lib.hid hN9
  clear hE9 hK9 hN9 HEZ HKZ HNZ
  generalize World.setRow _ (w.heap.size + 1) (Eff.cs (doneE (nxt p))).toArray = W9 at HE9 HK9 HN9 ⊢
  go_wp2
  rw [← HQQ.out]
  exact bodyPost_ret (v := Eff.val (doneE (nxt p))) (results_cell_row Tryz.results39 _ _ _ _ _ _ _ rfl HN9.out Tryz.underlying32 rfl (size_eff _)) rfl ⟨rfl, HE9.out, HK9.out⟩
theorem refSys_38_no (d a b m : Int) (ab bb i : Nat) (p : Int) (R : List Int) (Q : List Nat) (clock : Int) (w : World) (h : Doc w ab bb i p R Q) (x : Nat) (ex : Rg.getR R a = (x : Int)) (hl : x < 4294967296) (u : Int) (hz : Cs.errZ Q m 7 = u) (hu : u ≠ 0) :
    Calls Tryz.prog 39 #[Is.insV 38 d a b m, .pointer (some ⟨ab, 0, none⟩), .pointer (some ⟨bb, 0, none⟩), .int .i64 clock] w fun e w' => e = .returned (Eff.val (trapE 1 (Is.encZ 38 d a b m))) ∧ Doc w' ab bb i p R Q ∧ Kp [ab, bb] w w' := by
  obtain ⟨U, hU, hb, hI, hN, hs⟩ := two_new w 38 d a b m
  have HU := Lib.hid hU
  have HEU := Lib.hid (h.below hb)
  have HIU := Lib.hid hI
  have HNU := Lib.hid hN
  have HKU := Lib.hid (Kp.of_below (S := [ab, bb]) hb)
  have HLT := Lib.hid h.lts
  have HG := Lib.hid (not_old2 HLT.out).2
  have HR2 := eff_run2 (Is.insW 38 d a b m w)
  obtain ⟨r0, r1, r2, r3, r4⟩ := hI.cells
  have hlt := hI.lt
  have c16 : U.cell? ⟨ab, 16, none⟩ = some (.int .u32 p) := HEU.out.reg.pc
  have hla := HEU.out.reg.1.lt
  have HX1 : Hid ((p + 4) % 4294967296 = nxt p) := Lib.hid rfl
  have A1 := Lib.hid (Rg.refGet_any ab p a R U HEU.out.reg)
  rw [ex] at A1
  generalize Rg.errZ a = ua at A1
  have A3 := Lib.hid (Cs.refWrite_any bb i m x Q U HEU.out.csr hl)
  rw [hz, show Cs.wrR Q m x = Q from if_neg (by rw [hz]; exact hu)] at A3
  have hu2 : (u != 0) = true := by simpa using hu
  have HG0 := Lib.hid (not_old2 HLT.out).1
  clear h hU hb hI hN hs
  go_enter Tryz.func39, Tryz.ntmps39
  generalize hQQ : bodyPost _ _ _ = QQ
  have HQQ := Lib.hid hQQ
  clear hQQ
  go_upto_region 0 with fail
  refine wp_region_lit ?_
  refine Great.wpList_boxTo rfl 37 _ rfl _ rfl w.heap.size rfl #[.int .i64 38, .int .i64 d, .int .i64 a, .int .i64 b, .int .i64 m] rfl ?_
  refine Great.wpList_allocTo rfl (some 8) rfl (.pointer (some ⟨w.heap.size + 1, 0, none⟩)) (.cells zeroE.cs.toArray 32) (HR2.out _ _ rfl _ (by simp)) ?_
  rw [show (w.alloc (.cells #[.int .i64 38, .int .i64 d, .int .i64 a, .int .i64 b, .int .i64 m] 37)).alloc (.cells zeroE.cs.toArray 32) = U from HU.out.symm]
  clear HR2 HU
  go_upto_region 2 with fail
  rw [HX1.out]
  go_wp2_with fail
  refine A1.out.mono ?_
  rintro e w1 ⟨rfl, rfl⟩
  go_wp2_with fail
  clear r0 r1 r2 r3 r4 hlt c16 hla
  refine A3.out.mono ?_
  rintro e V ⟨rfl, hF, hg⟩
  have HEV := Lib.hid (HEU.out.csrs hF hg)
  have HNV := Lib.hid (Blk.kp HNU.out (Kp.of_grown (S := [ab, bb]) hg (by simp)) HG.out)
  have HKV := Lib.hid (HKU.out.trans (Kp.of_grown (S := [ab, bb]) hg (by simp)))
  have HIV : Hid (Is.InsAt V w.heap.size 38 d a b m) := Lib.hid ((hg.block _ HIU.out.lt (fun e => HG0.out (by injection e with e; simp [e]))).trans HIU.out)
  clear hF hg HEU HNU HKU HIU A1 A3
  obtain ⟨r0, r1, r2, r3, r4⟩ := HIV.out.cells
  have hlt := HIV.out.lt
  go_wp2_with fail
  clear r0 r1 r2 r3 r4 hlt
  refine (refWord_any 38 d a b m _ rfl V).mono ?_
  rintro e X ⟨rfl, hb⟩
  have HEX := Lib.hid (HEV.out.below hb)
  have HIX := Lib.hid (HIV.out.more hb)
  have HNX := Lib.hid (HNV.out.below hb HNV.out.lt)
  have HKX := Lib.hid (HKV.out.trans (Kp.of_below hb))
  clear hb HEV HIV HNV HKV
  go_wp2_with fail
  refine (refTrap_any 1 (Is.encZ 38 d a b m) X).mono ?_
  rintro e Z ⟨rfl, hb⟩
  have HEZ := Lib.hid (HEX.out.below hb)
  have HIZ := Lib.hid (HIX.out.more hb)
  have HNZ := Lib.hid (HNX.out.below hb HNX.out.lt)
  have HKZ := Lib.hid (HKX.out.trans (Kp.of_below hb))
  clear hb HEX HIX HNX HKX
  go_simp
  rename_i hK
  refine hK _ _ ?_
  clear hK
  refine wpList_store_rowTo rfl 32 _ _ rfl rfl (w.heap.size + 1) (Eff.cs (trapE 1 (Is.encZ 38 d a b m))).toArray (by kernel_rfl) (by kernel_rfl) 32 zeroE.cs.toArray HNZ.out (size_eff _) rfl (one_eff _) ?_
  obtain ⟨hE9, hK9, hN9⟩ := fin_doc HKZ.out HEZ.out HLT.out (Nat.le_succ _) HNZ.out (trapE 1 (Is.encZ 38 d a b m))
  have HE9 := Lib.hid hE9
  have HK9 := Lib.hid hK9
  have HN9 := Lib.hid hN9
  clear hE9 hK9 hN9 HEZ HKZ HNZ
  generalize World.setRow _ (w.heap.size + 1) (Eff.cs (trapE 1 (Is.encZ 38 d a b m))).toArray = W9 at HE9 HK9 HN9 ⊢
  go_wp2
  rw [← HQQ.out]
  exact bodyPost_ret (v := Eff.val (trapE 1 (Is.encZ 38 d a b m))) (results_cell_row Tryz.results39 _ _ _ _ _ _ _ rfl HN9.out Tryz.underlying32 rfl (size_eff _)) rfl ⟨rfl, HE9.out, HK9.out⟩
end Go.Proofs.YtniaclhmfmkikaaGreatDoor.Ex
end
