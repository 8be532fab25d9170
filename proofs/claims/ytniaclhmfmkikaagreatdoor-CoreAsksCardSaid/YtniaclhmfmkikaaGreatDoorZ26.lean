/- Several texts in one: Vv Vd Ve -/
import Derived.Test.YtniaclhmfmkikaaGreatDoorZ22
import Derived.Test.YtniaclhmfmkikaaGreatDoorZ20
section
/- The document's core: access: stores. -/
namespace Go.Proofs.YtniaclhmfmkikaaGreatDoor.Ex
open Go.RowKit Ut
set_option maxRecDepth 100000
set_option linter.unusedVariables false
set_option maxHeartbeats 4000000

theorem refStore_26 (d a b m : Int) (ab bb i : Nat) (p : Int) (R : List Int) (Q : List Nat) (w : World) (h : Doc w ab bb i p R Q) (hR : RegOk R) (hq : adr (Rg.getR R a) m % 4 = 0) :
    Calls Tryz.prog 37 #[Is.insV 26 d a b m, .pointer (some ⟨ab, 0, none⟩)] w fun e w' => e = .returned (Eff.val (storeE (nxt p) (adr (Rg.getR R a) m) 4 (Rg.getR R b))) ∧ Doc w' ab bb i p R Q ∧ Kp [ab, bb] w w' := by
  obtain ⟨U, hU, hb, hI, hN, hs⟩ := two_new w 26 d a b m
  have HU := Lib.hid hU
  have HEU := Lib.hid (h.below hb)
  have HIU := Lib.hid hI
  have HNU := Lib.hid hN
  have HKU := Lib.hid (Kp.of_below (S := [ab, bb]) hb)
  have HLT := Lib.hid h.lts
  have HG := Lib.hid (not_old2 HLT.out).2
  have HR2 := eff_run2 (Is.insW 26 d a b m w)
  obtain ⟨r0, r1, r2, r3, r4⟩ := hI.cells
  have hlt := hI.lt
  have A1 := Lib.hid (Rg.refGet_any ab p a R U HEU.out.reg)
  have A2 := Lib.hid (Rg.refGet_any ab p b R U HEU.out.reg)
  have hx := hR.get a
  have hz := adr_in (Rg.getR R a) m
  have HZ : Hid ((Rg.getR R a + m % 4294967296) % 4294967296 = adr (Rg.getR R a) m) := Lib.hid (by unfold adr; omega)
  have c16 : U.cell? ⟨ab, 16, none⟩ = some (.int .u32 p) := HEU.out.reg.pc
  have hla := HEU.out.reg.1.lt
  generalize adr (Rg.getR R a) m = z at HZ hq hz ⊢
  generalize Rg.getR R a = x at A1 hx HZ
  generalize Rg.getR R b = y at A2 ⊢
  generalize Rg.errZ a = u at A1
  generalize Rg.errZ b = v at A2
  obtain ⟨x0, x1⟩ := hx
  have hq2 : (z % 4 != 0) = false := by rw [hq]; rfl
  clear hq
  clear h hU hb hI hN hs
  go_enter Tryz.func37, Tryz.ntmps37
  generalize hQQ : bodyPost _ _ _ = QQ
  have HQQ := Lib.hid hQQ
  clear hQQ
  go_upto_region 0 with fail
  refine wp_region_lit ?_
  refine Great.wpList_boxTo rfl 37 _ rfl _ rfl w.heap.size rfl #[.int .i64 26, .int .i64 d, .int .i64 a, .int .i64 b, .int .i64 m] rfl ?_
  refine Great.wpList_allocTo rfl (some 4) rfl (.pointer (some ⟨w.heap.size + 1, 0, none⟩)) (.cells zeroE.cs.toArray 32) (HR2.out _ _ rfl _ (by simp)) ?_
  rw [show (w.alloc (.cells #[.int .i64 26, .int .i64 d, .int .i64 a, .int .i64 b, .int .i64 m] 37)).alloc (.cells zeroE.cs.toArray 32) = U from HU.out.symm]
  clear HR2 HU
  go_wp2_with fail
  refine A1.out.mono ?_
  rintro e w1 ⟨rfl, rfl⟩
  go_wp2_with fail
  refine A2.out.mono ?_
  rintro e w1 ⟨rfl, rfl⟩
  go_upto_region 4 with fail
  rw [HZ.out]
  go_upto_region 11 with fail
  refine wp_region_lit ?_
  refine Great.wpList_readTo rfl _ rfl (.int .u32 z) (by kernel_rfl) ?_
  simp only [Act.put, List.setIfInBounds_toArray, List.set_cons_succ, List.set_cons_zero]
  refine Great.wpList_readTo rfl _ rfl (.int .i64 4) (by kernel_rfl) ?_
  simp only [Act.put, List.setIfInBounds_toArray, List.set_cons_succ, List.set_cons_zero]
  refine Great.wpList_readTo rfl _ rfl (.int .u32 y) (by kernel_rfl) ?_
  simp only [Act.put, List.setIfInBounds_toArray, List.set_cons_succ, List.set_cons_zero]
  refine Great.wpList_readTo rfl _ rfl (.pointer (some ⟨ab, 0, none⟩)) (by kernel_rfl) ?_
  simp only [Act.put, List.setIfInBounds_toArray, List.set_cons_succ, List.set_cons_zero]
  refine Great.wpList_readTo rfl _ rfl (.pointer (some ⟨ab, 0, none⟩)) (by kernel_rfl) ?_
  simp only [Act.put, List.setIfInBounds_toArray, List.set_cons_succ, List.set_cons_zero]
  refine Great.wpList_readTo rfl _ rfl (.pointer (some ⟨ab, 16, none⟩)) (by kernel_rfl) ?_
  simp only [Act.put, List.setIfInBounds_toArray, List.set_cons_succ, List.set_cons_zero]
  refine Great.wpList_readTo rfl _ rfl (.int .u32 p) (exec_load_u32 _ rfl ⟨ab, 16, none⟩ (by kernel_rfl) _ c16) ?_
  simp only [Act.put, List.setIfInBounds_toArray, List.set_cons_succ, List.set_cons_zero]
  refine Great.wpList_readTo rfl _ rfl (.int .u32 (nxt p)) (by kernel_rfl) ?_
  simp only [Act.put, List.setIfInBounds_toArray, List.set_cons_succ, List.set_cons_zero]
  refine wpList_buildTo rfl 32 _ rfl _ rfl (Eff.cs (storeE (nxt p) z 4 y)).toArray (by kernel_rfl) ?_
  refine wpList_store_rowTo rfl 32 _ _ rfl rfl (w.heap.size + 1) (Eff.cs (storeE (nxt p) z 4 y)).toArray (by kernel_rfl) (by kernel_rfl) 32 zeroE.cs.toArray HNU.out (size_eff _) rfl (one_eff _) ?_
  obtain ⟨hE9, hK9, hN9⟩ := fin_doc HKU.out HEU.out HLT.out (Nat.le_succ _) HNU.out (storeE (nxt p) z 4 y)
  have HE9 := Lib.hid hE9
  have HK9 := Lib.hid hK9
  have HN9 := Lib.hid hN9
  clear hE9 hK9 hN9 HEU HKU HNU
  generalize World.setRow _ (w.heap.size + 1) (Eff.cs (storeE (nxt p) z 4 y)).toArray = W9 at HE9 HK9 HN9 ⊢
  go_wp2
  rw [← HQQ.out]
  exact bodyPost_ret (v := Eff.val (storeE (nxt p) z 4 y)) (results_cell_row Tryz.results37 _ _ _ _ _ _ _ rfl HN9.out Tryz.underlying32 rfl (size_eff _)) rfl ⟨rfl, HE9.out, HK9.out⟩
theorem refStore_27 (d a b m : Int) (ab bb i : Nat) (p : Int) (R : List Int) (Q : List Nat) (w : World) (h : Doc w ab bb i p R Q) (hR : RegOk R) :
    Calls Tryz.prog 37 #[Is.insV 27 d a b m, .pointer (some ⟨ab, 0, none⟩)] w fun e w' => e = .returned (Eff.val (storeE (nxt p) (adr (Rg.getR R a) m) 1 (Rg.getR R b))) ∧ Doc w' ab bb i p R Q ∧ Kp [ab, bb] w w' := by
  obtain ⟨U, hU, hb, hI, hN, hs⟩ := two_new w 27 d a b m
  have HU := Lib.hid hU
  have HEU := Lib.hid (h.below hb)
  have HIU := Lib.hid hI
  have HNU := Lib.hid hN
  have HKU := Lib.hid (Kp.of_below (S := [ab, bb]) hb)
  have HLT := Lib.hid h.lts
  have HG := Lib.hid (not_old2 HLT.out).2
  have HR2 := eff_run2 (Is.insW 27 d a b m w)
  obtain ⟨r0, r1, r2, r3, r4⟩ := hI.cells
  have hlt := hI.lt
  have A1 := Lib.hid (Rg.refGet_any ab p a R U HEU.out.reg)
  have A2 := Lib.hid (Rg.refGet_any ab p b R U HEU.out.reg)
  have hx := hR.get a
  have hz := adr_in (Rg.getR R a) m
  have HZ : Hid ((Rg.getR R a + m % 4294967296) % 4294967296 = adr (Rg.getR R a) m) := Lib.hid (by unfold adr; omega)
  have c16 : U.cell? ⟨ab, 16, none⟩ = some (.int .u32 p) := HEU.out.reg.pc
  have hla := HEU.out.reg.1.lt
  generalize adr (Rg.getR R a) m = z at HZ hz ⊢
  generalize Rg.getR R a = x at A1 hx HZ
  generalize Rg.getR R b = y at A2 ⊢
  generalize Rg.errZ a = u at A1
  generalize Rg.errZ b = v at A2
  obtain ⟨x0, x1⟩ := hx
  clear h hU hb hI hN hs
  go_enter Tryz.func37, Tryz.ntmps37
  generalize hQQ : bodyPost _ _ _ = QQ
  have HQQ := Lib.hid hQQ
  clear hQQ
  go_upto_region 0 with fail
  refine wp_region_lit ?_
  refine Great.wpList_boxTo rfl 37 _ rfl _ rfl w.heap.size rfl #[.int .i64 27, .int .i64 d, .int .i64 a, .int .i64 b, .int .i64 m] rfl ?_
  refine Great.wpList_allocTo rfl (some 4) rfl (.pointer (some ⟨w.heap.size + 1, 0, none⟩)) (.cells zeroE.cs.toArray 32) (HR2.out _ _ rfl _ (by simp)) ?_
  rw [show (w.alloc (.cells #[.int .i64 27, .int .i64 d, .int .i64 a, .int .i64 b, .int .i64 m] 37)).alloc (.cells zeroE.cs.toArray 32) = U from HU.out.symm]
  clear HR2 HU
  go_wp2_with fail
  refine A1.out.mono ?_
  rintro e w1 ⟨rfl, rfl⟩
  go_wp2_with fail
  refine A2.out.mono ?_
  rintro e w1 ⟨rfl, rfl⟩
  go_upto_region 4 with fail
  rw [HZ.out]
  go_upto_region 11 with fail
  refine wp_region_lit ?_
  refine Great.wpList_readTo rfl _ rfl (.int .u32 z) (by kernel_rfl) ?_
  simp only [Act.put, List.setIfInBounds_toArray, List.set_cons_succ, List.set_cons_zero]
  refine Great.wpList_readTo rfl _ rfl (.int .i64 1) (by kernel_rfl) ?_
  simp only [Act.put, List.setIfInBounds_toArray, List.set_cons_succ, List.set_cons_zero]
  refine Great.wpList_readTo rfl _ rfl (.int .u32 y) (by kernel_rfl) ?_
  simp only [Act.put, List.setIfInBounds_toArray, List.set_cons_succ, List.set_cons_zero]
  refine Great.wpList_readTo rfl _ rfl (.pointer (some ⟨ab, 0, none⟩)) (by kernel_rfl) ?_
  simp only [Act.put, List.setIfInBounds_toArray, List.set_cons_succ, List.set_cons_zero]
  refine Great.wpList_readTo rfl _ rfl (.pointer (some ⟨ab, 0, none⟩)) (by kernel_rfl) ?_
  simp only [Act.put, List.setIfInBounds_toArray, List.set_cons_succ, List.set_cons_zero]
  refine Great.wpList_readTo rfl _ rfl (.pointer (some ⟨ab, 16, none⟩)) (by kernel_rfl) ?_
  simp only [Act.put, List.setIfInBounds_toArray, List.set_cons_succ, List.set_cons_zero]
  refine Great.wpList_readTo rfl _ rfl (.int .u32 p) (exec_load_u32 _ rfl ⟨ab, 16, none⟩ (by kernel_rfl) _ c16) ?_
  simp only [Act.put, List.setIfInBounds_toArray, List.set_cons_succ, List.set_cons_zero]
  refine Great.wpList_readTo rfl _ rfl (.int .u32 (nxt p)) (by kernel_rfl) ?_
  simp only [Act.put, List.setIfInBounds_toArray, List.set_cons_succ, List.set_cons_zero]
  refine wpList_buildTo rfl 32 _ rfl _ rfl (Eff.cs (storeE (nxt p) z 1 y)).toArray (by kernel_rfl) ?_
  refine wpList_store_rowTo rfl 32 _ _ rfl rfl (w.heap.size + 1) (Eff.cs (storeE (nxt p) z 1 y)).toArray (by kernel_rfl) (by kernel_rfl) 32 zeroE.cs.toArray HNU.out (size_eff _) rfl (one_eff _) ?_
  obtain ⟨hE9, hK9, hN9⟩ := fin_doc HKU.out HEU.out HLT.out (Nat.le_succ _) HNU.out (storeE (nxt p) z 1 y)
  have HE9 := Lib.hid hE9
  have HK9 := Lib.hid hK9
  have HN9 := Lib.hid hN9
  clear hE9 hK9 hN9 HEU HKU HNU
  generalize World.setRow _ (w.heap.size + 1) (Eff.cs (storeE (nxt p) z 1 y)).toArray = W9 at HE9 HK9 HN9 ⊢
  go_wp2
  rw [← HQQ.out]
  exact bodyPost_ret (v := Eff.val (storeE (nxt p) z 1 y)) (results_cell_row Tryz.results37 _ _ _ _ _ _ _ rfl HN9.out Tryz.underlying32 rfl (size_eff _)) rfl ⟨rfl, HE9.out, HK9.out⟩
end Go.Proofs.YtniaclhmfmkikaaGreatDoor.Ex
end
section
/- Package core: a job's methods, of what the user's mode may do. -/
namespace Go.Proofs.YtniaclhmfmkikaaGreatDoor.Ex
open Go.RowKit Ut
set_option maxRecDepth 100000
set_option linter.unusedVariables false
set_option maxHeartbeats 4000000

theorem reckon_is (j rb cb i : Nat) (J : Job) (p : Int) (R : List Int) (Q : List Nat) (w : World) (h : Env w j rb cb i J p R Q) (z u : Int) (hd : ∀ V, Calls Tryz.prog 89 #[.int .i64 J.plain, .int .u32 J.va, .int .u32 J.vb] V fun e w' => e = .returned (.tuple #[.int .u32 z, .int .i64 u]) ∧ Below V.heap.size V w') :
    Calls Tryz.prog 59 #[.pointer (some ⟨j, 0, none⟩)] w fun e w' => e = .returned (Eff.val (doneE J.nx)) ∧ Env w' j rb cb i J J.nx (Rg.setR R J.d z) Q ∧ Kp [rb, cb] w w' := by
  have HD := Lib.hid hd
  clear hd
  have HRUN := eff_run w
  have HB := Lib.hid (eff_below w)
  have HN := Lib.hid (eff_blk w)
  have HLT := Lib.hid h.lts
  have HG := Lib.hid (not_old HLT.out)
  have HE := Lib.hid (h.below HB.out)
  have HK := Lib.hid (Kp.of_below (S := [rb, cb]) HB.out)
  clear h
  go_enter Tryz.func59, Tryz.ntmps59
  generalize hQQ : bodyPost _ _ _ = QQ
  have HQQ := Lib.hid hQQ
  clear hQQ
  go_upto_region 0 with fail
  refine wp_region_lit ?_
  refine Great.wpList_allocTo rfl (some 2) rfl (.pointer (some ⟨w.heap.size, 0, none⟩)) (.cells zeroE.cs.toArray 32) (HRUN.out _ _ rfl) ?_
  generalize hW : w.alloc (.cells zeroE.cs.toArray 32) = W at HB HN HE HK ⊢
  clear HRUN hW
  have HEW := HE
  have HNW := HN
  have HKW := HK
  clear HE HN HK
  have c8 : W.cell? ⟨j, 8, none⟩ = some (.int .i64 J.plain) := HEW.out.job.cell 8 _ rfl
  have c11 : W.cell? ⟨j, 11, none⟩ = some (.int .u32 J.va) := HEW.out.job.cell 11 _ rfl
  have c12 : W.cell? ⟨j, 12, none⟩ = some (.int .u32 J.vb) := HEW.out.job.cell 12 _ rfl
  have hlt := HEW.out.job.lt
  go_upto_region 1 with fail
  simp only [Act.put, List.setIfInBounds_toArray, List.set_cons_succ, List.set_cons_zero]
  apply wp_region_auto [6, 7, 8, 9, 10, 11, 12, 13, 14, 15, 16, 17, 18, 5, 19, 20, 3] [_, _, _, _, _, _, _, _, _, _, _, _, _, _, _, _, _] (fun W' => Below W.heap.size W W')
  case hm => kernel_rfl
  case hT => intro y; simp only [setAll, List.setIfInBounds_toArray, List.set_cons_succ, List.set_cons_zero]; exact rfl
  case hok => kernel_rfl
  case hn => decide
  case hw => exact (Below.refl _ _).drew
  case hs =>
    refine auto_op 6 [] (by kernel_rfl) (fun y w' HW hd K hK => ?_) ?_
    · go_simp
      refine hK _ _ ?_ ?_ HW
      · simp [upd]
      · exact rfl
    refine auto_op 7 [0] (by kernel_rfl) (fun y w' HW hd K hK => ?_) ?_
    · have e0 := hd_nth (hd 0 (by simp)) rfl
      go_simp
      refine hK _ _ ?_ ?_ HW
      · simp [upd, e0]
      · exact rfl
    refine auto_op 8 [1] (by kernel_rfl) (fun y w' HW hd K hK => ?_) ?_
    · have e1 := hd_nth (hd 1 (by simp)) rfl
      go_simp
      refine hK _ _ ?_ ?_ HW
      · simp [upd, e1]
      · exact rfl
    refine auto_op 9 [2] (by kernel_rfl) (fun y w' HW hd K hK => ?_) ?_
    · have e2 := hd_nth (hd 2 (by simp)) rfl
      have hcl : ∀ p : Addr, p.block < W.heap.size → w'.cell? p = W.cell? p := fun p hp => HW.cell hp
      go_simp
      refine hK _ _ ?_ ?_ HW
      · simp [upd, e2]
      · exact rfl
    refine auto_op 10 [] (by kernel_rfl) (fun y w' HW hd K hK => ?_) ?_
    · go_simp
      refine hK _ _ ?_ ?_ HW
      · simp [upd]
      · exact rfl
    refine auto_op 11 [4] (by kernel_rfl) (fun y w' HW hd K hK => ?_) ?_
    · have e4 := hd_nth (hd 4 (by simp)) rfl
      go_simp
      refine hK _ _ ?_ ?_ HW
      · simp [upd, e4]
      · exact rfl
    refine auto_op 12 [5] (by kernel_rfl) (fun y w' HW hd K hK => ?_) ?_
    · have e5 := hd_nth (hd 5 (by simp)) rfl
      go_simp
      refine hK _ _ ?_ ?_ HW
      · simp [upd, e5]
      · exact rfl
    refine auto_op 13 [6] (by kernel_rfl) (fun y w' HW hd K hK => ?_) ?_
    · have e6 := hd_nth (hd 6 (by simp)) rfl
      have hcl : ∀ p : Addr, p.block < W.heap.size → w'.cell? p = W.cell? p := fun p hp => HW.cell hp
      go_simp
      refine hK _ _ ?_ ?_ HW
      · simp [upd, e6]
      · exact rfl
    refine auto_op 14 [] (by kernel_rfl) (fun y w' HW hd K hK => ?_) ?_
    · go_simp
      refine hK _ _ ?_ ?_ HW
      · simp [upd]
      · exact rfl
    refine auto_op 15 [8] (by kernel_rfl) (fun y w' HW hd K hK => ?_) ?_
    · have e8 := hd_nth (hd 8 (by simp)) rfl
      go_simp
      refine hK _ _ ?_ ?_ HW
      · simp [upd, e8]
      · exact rfl
    refine auto_op 16 [9] (by kernel_rfl) (fun y w' HW hd K hK => ?_) ?_
    · have e9 := hd_nth (hd 9 (by simp)) rfl
      go_simp
      refine hK _ _ ?_ ?_ HW
      · simp [upd, e9]
      · exact rfl
    refine auto_op 17 [10] (by kernel_rfl) (fun y w' HW hd K hK => ?_) ?_
    · have e10 := hd_nth (hd 10 (by simp)) rfl
      have hcl : ∀ p : Addr, p.block < W.heap.size → w'.cell? p = W.cell? p := fun p hp => HW.cell hp
      go_simp
      refine hK _ _ ?_ ?_ HW
      · simp [upd, e10]
      · exact rfl
    refine auto_op 18 [3, 7, 11] (by kernel_rfl) (fun y w' HW hd K hK => ?_) ?_
    · have e3 := hd_nth (hd 3 (by simp)) rfl
      have e7 := hd_nth (hd 7 (by simp)) rfl
      have e11 := hd_nth (hd 11 (by simp)) rfl
      go_simp
      refine (HD.out _).mono ?_
      rintro e w3 ⟨rfl, hb3⟩
      refine hK _ _ ?_ ?_ (HW.trans (hb3.mono HW.size))
      · simp [upd, e3, e7, e11]
      · exact rfl
    refine auto_op 5 [12] (by kernel_rfl) (fun y w' HW hd K hK => ?_) ?_
    · have e12 := hd_nth (hd 12 (by simp)) rfl
      go_simp
      refine hK _ _ ?_ ?_ HW
      · simp [upd, e12]
      · exact rfl
    refine auto_op 19 [13] (by kernel_rfl) (fun y w' HW hd K hK => ?_) ?_
    · have e13 := hd_nth (hd 13 (by simp)) rfl
      go_simp
      refine hK _ _ ?_ ?_ HW
      · simp [upd, e13]
      · exact rfl
    refine auto_op 20 [13] (by kernel_rfl) (fun y w' HW hd K hK => ?_) ?_
    · have e13 := hd_nth (hd 13 (by simp)) rfl
      go_simp
      refine hK _ _ ?_ ?_ HW
      · simp [upd, e13]
      · exact rfl
    refine auto_op 3 [14, 12, 0, 1, 2, 3, 4, 5, 6, 7, 8, 9, 10, 11, 12, 13, 14] (by kernel_rfl) (fun y w' HW hd K hK => ?_) ?_
    · have e0 := hd_nth (hd 0 (by simp)) rfl
      have e1 := hd_nth (hd 1 (by simp)) rfl
      have e2 := hd_nth (hd 2 (by simp)) rfl
      have e3 := hd_nth (hd 3 (by simp)) rfl
      have e4 := hd_nth (hd 4 (by simp)) rfl
      have e5 := hd_nth (hd 5 (by simp)) rfl
      have e6 := hd_nth (hd 6 (by simp)) rfl
      have e7 := hd_nth (hd 7 (by simp)) rfl
      have e8 := hd_nth (hd 8 (by simp)) rfl
      have e9 := hd_nth (hd 9 (by simp)) rfl
      have e10 := hd_nth (hd 10 (by simp)) rfl
      have e11 := hd_nth (hd 11 (by simp)) rfl
      have e12 := hd_nth (hd 12 (by simp)) rfl
      have e13 := hd_nth (hd 13 (by simp)) rfl
      have e14 := hd_nth (hd 14 (by simp)) rfl
      go_simp
      refine hK _ _ ?_ ?_ HW
      · simp [upd, e0, e1, e2, e3, e4, e5, e6, e7, e8, e9, e10, e11, e12, e13, e14]
      · exact rfl
    refine auto_last fun y w' HW hd K hK => ?_
    have e0 := hd_nth (hd 0 (by omega)) rfl
    have e1 := hd_nth (hd 1 (by omega)) rfl
    have e2 := hd_nth (hd 2 (by omega)) rfl
    have e3 := hd_nth (hd 3 (by omega)) rfl
    have e4 := hd_nth (hd 4 (by omega)) rfl
    have e5 := hd_nth (hd 5 (by omega)) rfl
    have e6 := hd_nth (hd 6 (by omega)) rfl
    have e7 := hd_nth (hd 7 (by omega)) rfl
    have e8 := hd_nth (hd 8 (by omega)) rfl
    have e9 := hd_nth (hd 9 (by omega)) rfl
    have e10 := hd_nth (hd 10 (by omega)) rfl
    have e11 := hd_nth (hd 11 (by omega)) rfl
    have e12 := hd_nth (hd 12 (by omega)) rfl
    have e13 := hd_nth (hd 13 (by omega)) rfl
    have e14 := hd_nth (hd 14 (by omega)) rfl
    have e15 := hd_nth (hd 15 (by omega)) rfl
    have e16 := hd_nth (hd 16 (by omega)) rfl
    go_simp
    refine hK _ _ ?_
    clear hd hK K e0 e1 e2 e3 e4 e5 e6 e7 e8 e9 e10 e11 e12 e13 e14 e15 e16
    have HEU := Lib.hid (HEW.out.below HW)
    have HNU := Lib.hid (HNW.out.below HW HNW.out.lt)
    have HKU := Lib.hid (HKW.out.trans (Kp.of_below HW))
    clear HW c8 c11 c12 hlt
    go_wp2_with fail
    refine (give_any j rb cb i J p R Q z w' HEU.out).mono ?_
    rintro e V ⟨rfl, hE, hK⟩
    have HEV := Lib.hid hE
    have HNV := Lib.hid (Blk.kp HNU.out hK HG.out)
    have HKV := Lib.hid (HKU.out.trans hK)
    clear hE hK HEU HNU HKU
    go_simp
    rename_i hK
    refine hK _ _ ?_
    clear hK
    refine wpList_store_rowTo rfl 32 _ _ rfl rfl w.heap.size (Eff.cs (doneE J.nx)).toArray (by kernel_rfl) (by kernel_rfl) 32 zeroE.cs.toArray HNV.out (size_eff _) rfl (one_eff _) ?_
    obtain ⟨hE9, hK9, hN9⟩ := fin_eff HKV.out HEV.out HLT.out HNV.out (doneE J.nx)
    have HE9 := Lib.hid hE9
    have HK9 := Lib.hid hK9
    have HN9 := Lib.hid hN9
    clear hE9 hK9 hN9 HEV HKV HNV
    generalize World.setRow _ w.heap.size (Eff.cs (doneE J.nx)).toArray = W9 at HE9 HK9 HN9 ⊢
    go_wp2
    rw [← HQQ.out]
    exact bodyPost_ret (v := Eff.val (doneE J.nx)) (results_cell_row Tryz.results59 _ _ _ _ _ _ _ rfl HN9.out Tryz.underlying32 rfl (size_eff _)) rfl ⟨rfl, HE9.out, HK9.out⟩
theorem upper_is (j rb cb i : Nat) (J : Job) (p : Int) (R : List Int) (Q : List Nat) (w : World) (h : Env w j rb cb i J p R Q) :
    Calls Tryz.prog 60 #[.pointer (some ⟨j, 0, none⟩)] w fun e w' => e = .returned (Eff.val (doneE J.nx)) ∧ Env w' j rb cb i J J.nx (Rg.setR R J.d (J.m % 4294967296 * 262144 % 4294967296)) Q ∧ Kp [rb, cb] w w' := by
  have HRUN := eff_run w
  have HB := Lib.hid (eff_below w)
  have HN := Lib.hid (eff_blk w)
  have HLT := Lib.hid h.lts
  have HG := Lib.hid (not_old HLT.out)
  have HE := Lib.hid (h.below HB.out)
  have HK := Lib.hid (Kp.of_below (S := [rb, cb]) HB.out)
  clear h
  go_enter Tryz.func60, Tryz.ntmps60
  generalize hQQ : bodyPost _ _ _ = QQ
  have HQQ := Lib.hid hQQ
  clear hQQ
  go_upto_region 0 with fail
  refine wp_region_lit ?_
  refine Great.wpList_allocTo rfl (some 2) rfl (.pointer (some ⟨w.heap.size, 0, none⟩)) (.cells zeroE.cs.toArray 32) (HRUN.out _ _ rfl) ?_
  generalize hW : w.alloc (.cells zeroE.cs.toArray 32) = W at HB HN HE HK ⊢
  clear HRUN hW
  have HEW := HE
  have HNW := HN
  have HKW := HK
  clear HE HN HK
  have c4 : W.cell? ⟨j, 4, none⟩ = some (.int .i64 J.m) := HEW.out.job.cell 4 _ rfl
  have hlt := HEW.out.job.lt
  go_wp2_with fail
  refine (Al.upper_any J.m W).mono ?_
  rintro e U ⟨rfl, rfl⟩
  clear c4 hlt
  go_wp2_with fail
  refine (give_any j rb cb i J p R Q _ W HEW.out).mono ?_
  rintro e V ⟨rfl, hE, hK⟩
  have HEV := Lib.hid hE
  have HNV := Lib.hid (Blk.kp HNW.out hK HG.out)
  have HKV := Lib.hid (HKW.out.trans hK)
  clear hE hK HEW HNW HKW
  go_simp
  rename_i hK
  refine hK _ _ ?_
  clear hK
  refine wpList_store_rowTo rfl 32 _ _ rfl rfl w.heap.size (Eff.cs (doneE J.nx)).toArray (by kernel_rfl) (by kernel_rfl) 32 zeroE.cs.toArray HNV.out (size_eff _) rfl (one_eff _) ?_
  obtain ⟨hE9, hK9, hN9⟩ := fin_eff HKV.out HEV.out HLT.out HNV.out (doneE J.nx)
  have HE9 := Lib.hid hE9
  have HK9 := Lib.hid hK9
  have HN9 := Lib.hid hN9
  clear hE9 hK9 hN9 HEV HKV HNV
  generalize World.setRow _ w.heap.size (Eff.cs (doneE J.nx)).toArray = W9 at HE9 HK9 HN9 ⊢
  go_wp2
  rw [← HQQ.out]
  exact bodyPost_ret (v := Eff.val (doneE J.nx)) (results_cell_row Tryz.results60 _ _ _ _ _ _ _ rfl HN9.out Tryz.underlying32 rfl (size_eff _)) rfl ⟨rfl, HE9.out, HK9.out⟩
end Go.Proofs.YtniaclhmfmkikaaGreatDoor.Ex
end
section
/- Package core: load, store. -/
namespace Go.Proofs.YtniaclhmfmkikaaGreatDoor.Ex
open Go.RowKit Ut
set_option maxRecDepth 100000
set_option linter.unusedVariables false
set_option maxHeartbeats 4000000

theorem splice_eff (E : Eff) : splice zeroE.cs 0 E.cs = E.cs := by simp [splice, Eff.cs]
theorem load_is (j rb cb i : Nat) (J : Job) (p : Int) (R : List Int) (Q : List Nat) (w : World) (h : Env w j rb cb i J p R Q) :
    Calls Tryz.prog 63 #[.pointer (some ⟨j, 0, none⟩)] w fun e w' => e = .returned (Eff.val (loadE J.nx (adr J.va J.m) (wdZ J.o) (J.o == 24) J.d)) ∧ Env w' j rb cb i J p R Q ∧ Kp [rb, cb] w w' := by
  have HRUN := eff_run w
  have HB := Lib.hid (eff_below w)
  have HN := Lib.hid (eff_blk w)
  have HLT := Lib.hid h.lts
  have HG := Lib.hid (not_old HLT.out)
  have HE := Lib.hid (h.below HB.out)
  have HK := Lib.hid (Kp.of_below (S := [rb, cb]) HB.out)
  clear h
  go_enter Tryz.func63, Tryz.ntmps63
  generalize hQQ : bodyPost _ _ _ = QQ
  have HQQ := Lib.hid hQQ
  clear hQQ
  go_upto_region 0 with fail
  refine wp_region_lit ?_
  refine Great.wpList_allocTo rfl (some 2) rfl (.pointer (some ⟨w.heap.size, 0, none⟩)) (.cells zeroE.cs.toArray 32) (HRUN.out _ _ rfl) ?_
  generalize hW : w.alloc (.cells zeroE.cs.toArray 32) = W at HB HN HE HK ⊢
  clear HRUN hW
  have HEW := HE
  have HNW := HN
  have HKW := HK
  clear HE HN HK
  have c0 : W.cell? ⟨j, 0, none⟩ = some (.int .i64 J.o) := HEW.out.job.cell 0 _ rfl
  have c1 : W.cell? ⟨j, 1, none⟩ = some (.int .i64 J.d) := HEW.out.job.cell 1 _ rfl
  have c10 : W.cell? ⟨j, 10, none⟩ = some (.int .u32 J.nx) := HEW.out.job.cell 10 _ rfl
  have hlt := HEW.out.job.lt
  have HA : Hid (∀ V, Below W.heap.size W V → Calls Tryz.prog 92 #[.pointer (some ⟨j, 0, none⟩)] V fun e w' => e = .returned (.int .u32 (adr J.va J.m)) ∧ Below V.heap.size V w') := Lib.hid fun V hb => address_any j rb cb J V (HEW.out.job.more hb)
  have HWD : Hid (∀ V, Below W.heap.size W V → Calls Tryz.prog 94 #[.pointer (some ⟨j, 0, none⟩)] V fun e w' => e = .returned (.int .i64 (wdZ J.o)) ∧ V = w') := Lib.hid fun V hb => width_any j rb cb J V (HEW.out.job.more hb) _ rfl
  go_upto_region 1 with fail
  simp only [Act.put, List.setIfInBounds_toArray, List.set_cons_succ, List.set_cons_zero]
  apply wp_region_auto [3, 4, 5, 6, 7, 8, 9, 10, 11, 12, 13, 14, 15, 16, 17, 18, 19, 20, 21, 22] [_, _, _, _, _, _, _, _, _, _, _, _, _, _, _, _, _, _, _, _] (fun W' => Below W.heap.size W W')
  case hm => kernel_rfl
  case hT => intro y; simp only [setAll, List.setIfInBounds_toArray, List.set_cons_succ, List.set_cons_zero]; exact rfl
  case hok => kernel_rfl
  case hn => decide
  case hw => exact (Below.refl _ _).drew
  case hs =>
    refine auto_op 3 [] (by kernel_rfl) (fun y w' HW hd K hK => ?_) ?_
    · go_simp
      refine hK _ _ ?_ ?_ HW
      · simp [upd]
      · exact rfl
    refine auto_op 4 [0] (by kernel_rfl) (fun y w' HW hd K hK => ?_) ?_
    · have e0 := hd_nth (hd 0 (by simp)) rfl
      go_simp
      refine hK _ _ ?_ ?_ HW
      · simp [upd, e0]
      · exact rfl
    refine auto_op 5 [1] (by kernel_rfl) (fun y w' HW hd K hK => ?_) ?_
    · have e1 := hd_nth (hd 1 (by simp)) rfl
      go_simp
      refine hK _ _ ?_ ?_ HW
      · simp [upd, e1]
      · exact rfl
    refine auto_op 6 [2] (by kernel_rfl) (fun y w' HW hd K hK => ?_) ?_
    · have e2 := hd_nth (hd 2 (by simp)) rfl
      have hcl : ∀ p : Addr, p.block < W.heap.size → w'.cell? p = W.cell? p := fun p hp => HW.cell hp
      go_simp
      refine hK _ _ ?_ ?_ HW
      · simp [upd, e2]
      · exact rfl
    refine auto_op 7 [] (by kernel_rfl) (fun y w' HW hd K hK => ?_) ?_
    · go_simp
      refine hK _ _ ?_ ?_ HW
      · simp [upd]
      · exact rfl
    refine auto_op 8 [4] (by kernel_rfl) (fun y w' HW hd K hK => ?_) ?_
    · have e4 := hd_nth (hd 4 (by simp)) rfl
      go_simp
      refine (HA.out _ HW).mono ?_
      rintro e w3 ⟨rfl, hb3⟩
      refine hK _ _ ?_ ?_ (HW.trans (hb3.mono HW.size))
      · simp [upd, e4]
      · exact rfl
    refine auto_op 9 [] (by kernel_rfl) (fun y w' HW hd K hK => ?_) ?_
    · go_simp
      refine hK _ _ ?_ ?_ HW
      · simp [upd]
      · exact rfl
    refine auto_op 10 [6, 5] (by kernel_rfl) (fun y w' HW hd K hK => ?_) ?_
    · have e5 := hd_nth (hd 5 (by simp)) rfl
      have e6 := hd_nth (hd 6 (by simp)) rfl
      go_simp
      refine (HWD.out _ HW).mono ?_
      rintro e w3 ⟨rfl, rfl⟩
      refine hK _ _ ?_ ?_ HW
      · simp [upd, e5, e6]
      · exact rfl
    refine auto_op 11 [] (by kernel_rfl) (fun y w' HW hd K hK => ?_) ?_
    · go_simp
      refine hK _ _ ?_ ?_ HW
      · simp [upd]
      · exact rfl
    refine auto_op 12 [8] (by kernel_rfl) (fun y w' HW hd K hK => ?_) ?_
    · have e8 := hd_nth (hd 8 (by simp)) rfl
      go_simp
      refine hK _ _ ?_ ?_ HW
      · simp [upd, e8]
      · exact rfl
    refine auto_op 13 [9] (by kernel_rfl) (fun y w' HW hd K hK => ?_) ?_
    · have e9 := hd_nth (hd 9 (by simp)) rfl
      go_simp
      refine hK _ _ ?_ ?_ HW
      · simp [upd, e9]
      · exact rfl
    refine auto_op 14 [10] (by kernel_rfl) (fun y w' HW hd K hK => ?_) ?_
    · have e10 := hd_nth (hd 10 (by simp)) rfl
      go_simp
      refine hK _ _ ?_ ?_ HW
      · simp [upd, e10]
      · exact rfl
    refine auto_op 15 [11] (by kernel_rfl) (fun y w' HW hd K hK => ?_) ?_
    · have e11 := hd_nth (hd 11 (by simp)) rfl
      have hcl : ∀ p : Addr, p.block < W.heap.size → w'.cell? p = W.cell? p := fun p hp => HW.cell hp
      go_simp
      refine hK _ _ ?_ ?_ HW
      · simp [upd, e11]
      · exact rfl
    refine auto_op 16 [12] (by kernel_rfl) (fun y w' HW hd K hK => ?_) ?_
    · have e12 := hd_nth (hd 12 (by simp)) rfl
      go_simp
      refine hK _ _ ?_ ?_ HW
      · simp [upd, e12]
      · exact rfl
    refine auto_op 17 [] (by kernel_rfl) (fun y w' HW hd K hK => ?_) ?_
    · go_simp
      refine hK _ _ ?_ ?_ HW
      · simp [upd]
      · exact rfl
    refine auto_op 18 [14] (by kernel_rfl) (fun y w' HW hd K hK => ?_) ?_
    · have e14 := hd_nth (hd 14 (by simp)) rfl
      go_simp
      refine hK _ _ ?_ ?_ HW
      · simp [upd, e14]
      · exact rfl
    refine auto_op 19 [15] (by kernel_rfl) (fun y w' HW hd K hK => ?_) ?_
    · have e15 := hd_nth (hd 15 (by simp)) rfl
      go_simp
      refine hK _ _ ?_ ?_ HW
      · simp [upd, e15]
      · exact rfl
    refine auto_op 20 [16] (by kernel_rfl) (fun y w' HW hd K hK => ?_) ?_
    · have e16 := hd_nth (hd 16 (by simp)) rfl
      go_simp
      refine hK _ _ ?_ ?_ HW
      · simp [upd, e16]
      · exact rfl
    refine auto_op 21 [17] (by kernel_rfl) (fun y w' HW hd K hK => ?_) ?_
    · have e17 := hd_nth (hd 17 (by simp)) rfl
      have hcl : ∀ p : Addr, p.block < W.heap.size → w'.cell? p = W.cell? p := fun p hp => HW.cell hp
      go_simp
      refine hK _ _ ?_ ?_ HW
      · simp [upd, e17]
      · exact rfl
    refine auto_op 22 [3, 5, 7, 13, 18] (by kernel_rfl) (fun y w' HW hd K hK => ?_) ?_
    · have e3 := hd_nth (hd 3 (by simp)) rfl
      have e5 := hd_nth (hd 5 (by simp)) rfl
      have e7 := hd_nth (hd 7 (by simp)) rfl
      have e13 := hd_nth (hd 13 (by simp)) rfl
      have e18 := hd_nth (hd 18 (by simp)) rfl
      go_simp
      refine hK _ _ ?_ ?_ HW
      · simp [upd, e3, e5, e7, e13, e18]
      · exact rfl
    refine auto_last fun y w' HW hd K hK => ?_
    have e0 := hd_nth (hd 0 (by omega)) rfl
    have e1 := hd_nth (hd 1 (by omega)) rfl
    have e2 := hd_nth (hd 2 (by omega)) rfl
    have e3 := hd_nth (hd 3 (by omega)) rfl
    have e4 := hd_nth (hd 4 (by omega)) rfl
    have e5 := hd_nth (hd 5 (by omega)) rfl
    have e6 := hd_nth (hd 6 (by omega)) rfl
    have e7 := hd_nth (hd 7 (by omega)) rfl
    have e8 := hd_nth (hd 8 (by omega)) rfl
    have e9 := hd_nth (hd 9 (by omega)) rfl
    have e10 := hd_nth (hd 10 (by omega)) rfl
    have e11 := hd_nth (hd 11 (by omega)) rfl
    have e12 := hd_nth (hd 12 (by omega)) rfl
    have e13 := hd_nth (hd 13 (by omega)) rfl
    have e14 := hd_nth (hd 14 (by omega)) rfl
    have e15 := hd_nth (hd 15 (by omega)) rfl
    have e16 := hd_nth (hd 16 (by omega)) rfl
    have e17 := hd_nth (hd 17 (by omega)) rfl
    have e18 := hd_nth (hd 18 (by omega)) rfl
    have e19 := hd_nth (hd 19 (by omega)) rfl
    have HEU := Lib.hid (HEW.out.below HW)
    have HNU := Lib.hid (HNW.out.below HW HNW.out.lt)
    have HKU := Lib.hid (HKW.out.trans (Kp.of_below HW))
    have el' : y 19 = .agg (Eff.cs (loadE J.nx (adr J.va J.m) (wdZ J.o) (J.o == 24) J.d)).toArray := by
      rw [e19]
      rfl
    refine step_store_blk (a := ⟨_, _⟩) (by kernel_rfl) 32 (.tmp 2) (.tmp 22) (by exact rfl) w.heap.size 0 32 zeroE.cs (Eff.cs (loadE J.nx (adr J.va J.m) (wdZ J.o) (J.o == 24) J.d)) (by kernel_rfl) (by exact el') HNU.out (size_effL _) (Nat.le_refl 9) (one_effL _) ?_
    refine hK _ _ ?_
    rw [splice_eff]
    clear hd hK K e0 e1 e2 e3 e4 e5 e6 e7 e8 e9 e10 e11 e12 e13 e14 e15 e16 e17 e18 e19 el'
    obtain ⟨hE9, hK9, hN9⟩ := fin_eff HKU.out HEU.out HLT.out HNU.out (loadE J.nx (adr J.va J.m) (wdZ J.o) (J.o == 24) J.d)
    have HE9 := Lib.hid hE9
    have HK9 := Lib.hid hK9
    have HN9 := Lib.hid hN9
    clear hE9 hK9 hN9 HEU HKU HNU HW
    generalize World.setRow _ w.heap.size (Eff.cs (loadE J.nx (adr J.va J.m) (wdZ J.o) (J.o == 24) J.d)).toArray = W9 at HE9 HK9 HN9 ⊢
    go_wp2
    rw [← HQQ.out]
    exact bodyPost_ret (v := Eff.val (loadE J.nx (adr J.va J.m) (wdZ J.o) (J.o == 24) J.d)) (results_cell_row Tryz.results63 _ _ _ _ _ _ _ rfl HN9.out Tryz.underlying32 rfl (size_eff _)) rfl ⟨rfl, HE9.out, HK9.out⟩
theorem store_is (j rb cb i : Nat) (J : Job) (p : Int) (R : List Int) (Q : List Nat) (w : World) (h : Env w j rb cb i J p R Q) :
    Calls Tryz.prog 64 #[.pointer (some ⟨j, 0, none⟩)] w fun e w' => e = .returned (Eff.val (storeE J.nx (adr J.va J.m) (wdZ J.o) J.vb)) ∧ Env w' j rb cb i J p R Q ∧ Kp [rb, cb] w w' := by
  have HRUN := eff_run w
  have HB := Lib.hid (eff_below w)
  have HN := Lib.hid (eff_blk w)
  have HLT := Lib.hid h.lts
  have HG := Lib.hid (not_old HLT.out)
  have HE := Lib.hid (h.below HB.out)
  have HK := Lib.hid (Kp.of_below (S := [rb, cb]) HB.out)
  clear h
  go_enter Tryz.func64, Tryz.ntmps64
  generalize hQQ : bodyPost _ _ _ = QQ
  have HQQ := Lib.hid hQQ
  clear hQQ
  go_upto_region 0 with fail
  refine wp_region_lit ?_
  refine Great.wpList_allocTo rfl (some 2) rfl (.pointer (some ⟨w.heap.size, 0, none⟩)) (.cells zeroE.cs.toArray 32) (HRUN.out _ _ rfl) ?_
  generalize hW : w.alloc (.cells zeroE.cs.toArray 32) = W at HB HN HE HK ⊢
  clear HRUN hW
  have HEW := HE
  have HNW := HN
  have HKW := HK
  clear HE HN HK
  have c10 : W.cell? ⟨j, 10, none⟩ = some (.int .u32 J.nx) := HEW.out.job.cell 10 _ rfl
  have c12 : W.cell? ⟨j, 12, none⟩ = some (.int .u32 J.vb) := HEW.out.job.cell 12 _ rfl
  have hlt := HEW.out.job.lt
  have HA : Hid (∀ V, Below W.heap.size W V → Calls Tryz.prog 92 #[.pointer (some ⟨j, 0, none⟩)] V fun e w' => e = .returned (.int .u32 (adr J.va J.m)) ∧ Below V.heap.size V w') := Lib.hid fun V hb => address_any j rb cb J V (HEW.out.job.more hb)
  have HWD : Hid (∀ V, Below W.heap.size W V → Calls Tryz.prog 94 #[.pointer (some ⟨j, 0, none⟩)] V fun e w' => e = .returned (.int .i64 (wdZ J.o)) ∧ V = w') := Lib.hid fun V hb => width_any j rb cb J V (HEW.out.job.more hb) _ rfl
  go_upto_region 1 with fail
  simp only [Act.put, List.setIfInBounds_toArray, List.set_cons_succ, List.set_cons_zero]
  apply wp_region_auto [3, 4, 5, 6, 7, 8, 9, 10, 11, 12, 13, 14, 15] [_, _, _, _, _, _, _, _, _, _, _, _, _] (fun W' => Below W.heap.size W W')
  case hm => kernel_rfl
  case hT => intro y; simp only [setAll, List.setIfInBounds_toArray, List.set_cons_succ, List.set_cons_zero]; exact rfl
  case hok => kernel_rfl
  case hn => decide
  case hw => exact (Below.refl _ _).drew
  case hs =>
    refine auto_op 3 [] (by kernel_rfl) (fun y w' HW hd K hK => ?_) ?_
    · go_simp
      refine hK _ _ ?_ ?_ HW
      · simp [upd]
      · exact rfl
    refine auto_op 4 [0] (by kernel_rfl) (fun y w' HW hd K hK => ?_) ?_
    · have e0 := hd_nth (hd 0 (by simp)) rfl
      go_simp
      refine hK _ _ ?_ ?_ HW
      · simp [upd, e0]
      · exact rfl
    refine auto_op 5 [1] (by kernel_rfl) (fun y w' HW hd K hK => ?_) ?_
    · have e1 := hd_nth (hd 1 (by simp)) rfl
      go_simp
      refine hK _ _ ?_ ?_ HW
      · simp [upd, e1]
      · exact rfl
    refine auto_op 6 [2] (by kernel_rfl) (fun y w' HW hd K hK => ?_) ?_
    · have e2 := hd_nth (hd 2 (by simp)) rfl
      have hcl : ∀ p : Addr, p.block < W.heap.size → w'.cell? p = W.cell? p := fun p hp => HW.cell hp
      go_simp
      refine hK _ _ ?_ ?_ HW
      · simp [upd, e2]
      · exact rfl
    refine auto_op 7 [] (by kernel_rfl) (fun y w' HW hd K hK => ?_) ?_
    · go_simp
      refine hK _ _ ?_ ?_ HW
      · simp [upd]
      · exact rfl
    refine auto_op 8 [4] (by kernel_rfl) (fun y w' HW hd K hK => ?_) ?_
    · have e4 := hd_nth (hd 4 (by simp)) rfl
      go_simp
      refine (HA.out _ HW).mono ?_
      rintro e w3 ⟨rfl, hb3⟩
      refine hK _ _ ?_ ?_ (HW.trans (hb3.mono HW.size))
      · simp [upd, e4]
      · exact rfl
    refine auto_op 9 [] (by kernel_rfl) (fun y w' HW hd K hK => ?_) ?_
    · go_simp
      refine hK _ _ ?_ ?_ HW
      · simp [upd]
      · exact rfl
    refine auto_op 10 [6, 5] (by kernel_rfl) (fun y w' HW hd K hK => ?_) ?_
    · have e5 := hd_nth (hd 5 (by simp)) rfl
      have e6 := hd_nth (hd 6 (by simp)) rfl
      go_simp
      refine (HWD.out _ HW).mono ?_
      rintro e w3 ⟨rfl, rfl⟩
      refine hK _ _ ?_ ?_ HW
      · simp [upd, e5, e6]
      · exact rfl
    refine auto_op 11 [] (by kernel_rfl) (fun y w' HW hd K hK => ?_) ?_
    · go_simp
      refine hK _ _ ?_ ?_ HW
      · simp [upd]
      · exact rfl
    refine auto_op 12 [8] (by kernel_rfl) (fun y w' HW hd K hK => ?_) ?_
    · have e8 := hd_nth (hd 8 (by simp)) rfl
      go_simp
      refine hK _ _ ?_ ?_ HW
      · simp [upd, e8]
      · exact rfl
    refine auto_op 13 [9] (by kernel_rfl) (fun y w' HW hd K hK => ?_) ?_
    · have e9 := hd_nth (hd 9 (by simp)) rfl
      go_simp
      refine hK _ _ ?_ ?_ HW
      · simp [upd, e9]
      · exact rfl
    refine auto_op 14 [10] (by kernel_rfl) (fun y w' HW hd K hK => ?_) ?_
    · have e10 := hd_nth (hd 10 (by simp)) rfl
      have hcl : ∀ p : Addr, p.block < W.heap.size → w'.cell? p = W.cell? p := fun p hp => HW.cell hp
      go_simp
      refine hK _ _ ?_ ?_ HW
      · simp [upd, e10]
      · exact rfl
    refine auto_op 15 [3, 5, 7, 11] (by kernel_rfl) (fun y w' HW hd K hK => ?_) ?_
    · have e3 := hd_nth (hd 3 (by simp)) rfl
      have e5 := hd_nth (hd 5 (by simp)) rfl
      have e7 := hd_nth (hd 7 (by simp)) rfl
      have e11 := hd_nth (hd 11 (by simp)) rfl
      go_simp
      refine hK _ _ ?_ ?_ HW
      · simp [upd, e3, e5, e7, e11]
      · exact rfl
    refine auto_last fun y w' HW hd K hK => ?_
    have e0 := hd_nth (hd 0 (by omega)) rfl
    have e1 := hd_nth (hd 1 (by omega)) rfl
    have e2 := hd_nth (hd 2 (by omega)) rfl
    have e3 := hd_nth (hd 3 (by omega)) rfl
    have e4 := hd_nth (hd 4 (by omega)) rfl
    have e5 := hd_nth (hd 5 (by omega)) rfl
    have e6 := hd_nth (hd 6 (by omega)) rfl
    have e7 := hd_nth (hd 7 (by omega)) rfl
    have e8 := hd_nth (hd 8 (by omega)) rfl
    have e9 := hd_nth (hd 9 (by omega)) rfl
    have e10 := hd_nth (hd 10 (by omega)) rfl
    have e11 := hd_nth (hd 11 (by omega)) rfl
    have e12 := hd_nth (hd 12 (by omega)) rfl
    have HEU := Lib.hid (HEW.out.below HW)
    have HNU := Lib.hid (HNW.out.below HW HNW.out.lt)
    have HKU := Lib.hid (HKW.out.trans (Kp.of_below HW))
    have el' : y 12 = .agg (Eff.cs (storeE J.nx (adr J.va J.m) (wdZ J.o) J.vb)).toArray := by
      rw [e12]
      rfl
    refine step_store_blk (a := ⟨_, _⟩) (by kernel_rfl) 32 (.tmp 2) (.tmp 15) (by exact rfl) w.heap.size 0 32 zeroE.cs (Eff.cs (storeE J.nx (adr J.va J.m) (wdZ J.o) J.vb)) (by kernel_rfl) (by exact el') HNU.out (size_effL _) (Nat.le_refl 9) (one_effL _) ?_
    refine hK _ _ ?_
    rw [splice_eff]
    clear hd hK K e0 e1 e2 e3 e4 e5 e6 e7 e8 e9 e10 e11 e12 el'
    obtain ⟨hE9, hK9, hN9⟩ := fin_eff HKU.out HEU.out HLT.out HNU.out (storeE J.nx (adr J.va J.m) (wdZ J.o) J.vb)
    have HE9 := Lib.hid hE9
    have HK9 := Lib.hid hK9
    have HN9 := Lib.hid hN9
    clear hE9 hK9 hN9 HEU HKU HNU HW
    generalize World.setRow _ w.heap.size (Eff.cs (storeE J.nx (adr J.va J.m) (wdZ J.o) J.vb)).toArray = W9 at HE9 HK9 HN9 ⊢
    go_wp2
    rw [← HQQ.out]
    exact bodyPost_ret (v := Eff.val (storeE J.nx (adr J.va J.m) (wdZ J.o) J.vb)) (results_cell_row Tryz.results64 _ _ _ _ _ _ _ rfl HN9.out Tryz.underlying32 rfl (size_eff _)) rfl ⟨rfl, HE9.out, HK9.out⟩
end Go.Proofs.YtniaclhmfmkikaaGreatDoor.Ex
end
