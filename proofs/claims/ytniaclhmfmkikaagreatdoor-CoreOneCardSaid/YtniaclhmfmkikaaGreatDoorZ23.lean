/- Several texts in one: Vr -/
import Derived.Test.YtniaclhmfmkikaaGreatDoorZ22
section
/- The document's core: jump. -/
namespace Go.Proofs.YtniaclhmfmkikaaGreatDoor.Ex
open Go.RowKit Ut
set_option maxRecDepth 100000
set_option linter.unusedVariables false
set_option maxHeartbeats 4000000

theorem tgt_wrap2 (p m : Int) : IntKind.u32.wrap (p + IntKind.u32.wrap (4 * IntKind.u32.wrap m)) = tgt p m := by
  simp [IntKind.wrap, IntKind.bits, IntKind.signed, tgt]
  omega
theorem refJump_32 (d a b m : Int) (ab bb i : Nat) (p : Int) (R : List Int) (Q : List Nat) (w : World) (h : Doc w ab bb i p R Q) :
    Calls Tryz.prog 38 #[Is.insV 32 d a b m, .pointer (some ⟨ab, 0, none⟩)] w fun e w' => e = .returned (Eff.val (doneE (tgt p m))) ∧ Doc w' ab bb i (tgt p m) (Rg.setR R d (nxt p)) Q ∧ Kp [ab, bb] w w' := by
  obtain ⟨U, hU, hb, hI, hN, hs⟩ := two_new w 32 d a b m
  have HU := Lib.hid hU
  have HEU := Lib.hid (h.below hb)
  have HIU := Lib.hid hI
  have HNU := Lib.hid hN
  have HKU := Lib.hid (Kp.of_below (S := [ab, bb]) hb)
  have HLT := Lib.hid h.lts
  have HG := Lib.hid (not_old2 HLT.out).2
  have HR2 := eff_run2 (Is.insW 32 d a b m w)
  obtain ⟨r0, r1, r2, r3, r4⟩ := hI.cells
  have hlt := hI.lt
  have A1 := Lib.hid (Rg.refGet_any ab p a R U HEU.out.reg)
  have A2 := Lib.hid (Rg.refGet_any ab p b R U HEU.out.reg)
  have c16 : U.cell? ⟨ab, 16, none⟩ = some (.int .u32 p) := HEU.out.reg.pc
  have hla := HEU.out.reg.1.lt
  have HX1 : Hid ((p + 4) % 4294967296 = nxt p) := Lib.hid rfl
  have HX2 := Lib.hid (tgt_wrap2 p m)
  generalize Rg.getR R a = x at A1
  generalize Rg.getR R b = yy at A2
  generalize Rg.errZ a = u at A1
  generalize Rg.errZ b = v at A2
  clear h hU hb hI hN hs
  go_enter Tryz.func38, Tryz.ntmps38
  generalize hQQ : bodyPost _ _ _ = QQ
  have HQQ := Lib.hid hQQ
  clear hQQ
  go_upto_region 0 with fail
  refine wp_region_lit ?_
  refine Great.wpList_boxTo rfl 37 _ rfl _ rfl w.heap.size rfl #[.int .i64 32, .int .i64 d, .int .i64 a, .int .i64 b, .int .i64 m] rfl ?_
  refine Great.wpList_allocTo rfl (some 4) rfl (.pointer (some ⟨w.heap.size + 1, 0, none⟩)) (.cells zeroE.cs.toArray 32) (HR2.out _ _ rfl _ (by simp)) ?_
  rw [show (w.alloc (.cells #[.int .i64 32, .int .i64 d, .int .i64 a, .int .i64 b, .int .i64 m] 37)).alloc (.cells zeroE.cs.toArray 32) = U from HU.out.symm]
  clear HR2 HU
  go_wp2_with fail
  refine A1.out.mono ?_
  rintro e w1 ⟨rfl, rfl⟩
  go_wp2_with fail
  refine A2.out.mono ?_
  rintro e w1 ⟨rfl, rfl⟩
  go_upto_region 4 with fail
  rw [HX1.out]
  apply wp_region_auto [32, 33, 34, 35, 36, 37, 38, 39, 40] [_, _, _, _, _, _, _, _, _] (fun W' => Below U.heap.size U W')
  case hm => kernel_rfl
  case hT => intro y; simp only [setAll, List.setIfInBounds_toArray, List.set_cons_succ, List.set_cons_zero]; exact rfl
  case hok => kernel_rfl
  case hn => decide
  case hw => exact (Below.refl _ _).drew
  case hs =>
    refine auto_op 32 [] (by kernel_rfl) (fun y w' HW hd K hK => ?_) ?_
    · go_simp
      refine hK _ _ ?_ ?_ HW
      · simp [upd]
      · exact rfl
    refine auto_op 33 [0] (by kernel_rfl) (fun y w' HW hd K hK => ?_) ?_
    · have e0 := hd_nth (hd 0 (by simp)) rfl
      go_simp
      refine hK _ _ ?_ ?_ HW
      · simp [upd, e0]
      · exact rfl
    refine auto_op 34 [1] (by kernel_rfl) (fun y w' HW hd K hK => ?_) ?_
    · have e1 := hd_nth (hd 1 (by simp)) rfl
      go_simp
      refine hK _ _ ?_ ?_ HW
      · simp [upd, e1]
      · exact rfl
    refine auto_op 35 [2] (by kernel_rfl) (fun y w' HW hd K hK => ?_) ?_
    · have e2 := hd_nth (hd 2 (by simp)) rfl
      have hcl : ∀ p : Addr, p.block < U.heap.size → w'.cell? p = U.cell? p := fun p hp => HW.cell hp
      go_simp
      refine hK _ _ ?_ ?_ HW
      · simp [upd, e2]
      · exact rfl
    refine auto_op 36 [] (by kernel_rfl) (fun y w' HW hd K hK => ?_) ?_
    · go_simp
      refine hK _ _ ?_ ?_ HW
      · simp [upd]
      · exact rfl
    refine auto_op 37 [4] (by kernel_rfl) (fun y w' HW hd K hK => ?_) ?_
    · have e4 := hd_nth (hd 4 (by simp)) rfl
      have hcl : ∀ p : Addr, p.block < U.heap.size → w'.cell? p = U.cell? p := fun p hp => HW.cell hp
      go_simp
      refine hK _ _ ?_ ?_ HW
      · simp [upd, e4]
      · exact rfl
    refine auto_op 38 [5] (by kernel_rfl) (fun y w' HW hd K hK => ?_) ?_
    · have e5 := hd_nth (hd 5 (by simp)) rfl
      go_simp
      refine hK _ _ ?_ ?_ HW
      · simp [upd, e5]
      · exact rfl
    refine auto_op 39 [6] (by kernel_rfl) (fun y w' HW hd K hK => ?_) ?_
    · have e6 := hd_nth (hd 6 (by simp)) rfl
      go_simp
      refine hK _ _ ?_ ?_ HW
      · simp [upd, e6]
      · exact rfl
    refine auto_op 40 [3, 7] (by kernel_rfl) (fun y w' HW hd K hK => ?_) ?_
    · have e3 := hd_nth (hd 3 (by simp)) rfl
      have e7 := hd_nth (hd 7 (by simp)) rfl
      go_simp
      refine hK _ _ ?_ ?_ HW
      · simp [upd, e3, e7]
      · exact rfl
    refine auto_last fun y w' HW hd K hK => ?_
    have e0 := hd_nth (hd 0 (by omega)) rfl
    have e1 := hd_nth (hd 1 (by omega)) rfl
    have e2 := hd_nth (hd 2 (by omega)) rfl
    have e3 := hd_nth (hd 3 (by omega)) rfl
    have e4 := hd_nth (hd 4 (by omega)) rfl
    have e5 := hd_nth (hd 5 (by omega)) rfl
    have e6 := hd_nth (hd 6 (by omega)) rfl
    have e7 := hd_nth (hd 7 (by omega)) rfl
    have e8 := hd_nth (hd 8 (by omega)) rfl
    go_simp
    refine hK _ _ ?_
    clear hd hK K e0 e1 e2 e3 e4 e5 e6 e7 e8
    rw [HX2.out]
    have HEV := Lib.hid (HEU.out.below HW)
    have HIV := Lib.hid (HIU.out.more HW)
    have HNV := Lib.hid (HNU.out.below HW HNU.out.lt)
    have HKV := Lib.hid (HKU.out.trans (Kp.of_below HW))
    clear r0 r1 r2 r3 r4 hlt c16 hla HW HX1 HX2
    obtain ⟨r0, r1, r2, r3, r4⟩ := HIV.out.cells
    have hlt := HIV.out.lt
    go_wp2_with fail
    clear r0 r1 r2 r3 r4 hlt HIV
    refine (Rg.refSet_any ab p d (nxt p) R w' HEV.out.reg).mono ?_
    rintro e X ⟨rfl, hF, hg⟩
    have HEX := Lib.hid (HEV.out.regs hF hg)
    have HNX := Lib.hid (Blk.kp HNV.out (Kp.of_grown (S := [ab, bb]) hg (by simp)) HG.out)
    have HKX := Lib.hid (HKV.out.trans (Kp.of_grown (S := [ab, bb]) hg (by simp)))
    clear hF hg HEV HNV HKV
    go_wp2_with fail
    refine (refDone_any ab bb i p (tgt p m) _ Q X HEX.out).mono ?_
    rintro e Z ⟨rfl, hE, hK⟩
    have HEZ := Lib.hid hE
    have HNZ := Lib.hid (Blk.kp HNX.out hK HG.out)
    have HKZ := Lib.hid (HKX.out.trans hK)
    clear hE hK HEX HNX HKX
    go_simp
    rename_i hK
    refine hK _ _ ?_
    clear hK
    refine wpList_store_rowTo rfl 32 _ _ rfl rfl (w.heap.size + 1) (Eff.cs (doneE (tgt p m))).toArray (by kernel_rfl) (by kernel_rfl) 32 zeroE.cs.toArray HNZ.out (size_eff _) rfl (one_eff _) ?_
    obtain ⟨hE9, hK9, hN9⟩ := fin_doc HKZ.out HEZ.out HLT.out (Nat.le_succ _) HNZ.out (doneE (tgt p m))
    have HE9 := Lib.hid hE9
    have HK9 := Lib.hid hK9
    have HN9 := Lib.hid hN9
    clear hE9 hK9 hN9 HEZ HKZ HNZ
    generalize World.setRow _ (w.heap.size + 1) (Eff.cs (doneE (tgt p m))).toArray = W9 at HE9 HK9 HN9 ⊢
    go_wp2
    rw [← HQQ.out]
    exact bodyPost_ret (v := Eff.val (doneE (tgt p m))) (results_cell_row Tryz.results38 _ _ _ _ _ _ _ rfl HN9.out Tryz.underlying32 rfl (size_eff _)) rfl ⟨rfl, HE9.out, HK9.out⟩
theorem refJump_33 (d a b m : Int) (ab bb i : Nat) (p : Int) (R : List Int) (Q : List Nat) (w : World) (h : Doc w ab bb i p R Q) (hR : RegOk R) :
    Calls Tryz.prog 38 #[Is.insV 33 d a b m, .pointer (some ⟨ab, 0, none⟩)] w fun e w' => e = .returned (Eff.val (doneE (adr (Rg.getR R a) m))) ∧ Doc w' ab bb i (adr (Rg.getR R a) m) (Rg.setR R d (nxt p)) Q ∧ Kp [ab, bb] w w' := by
  obtain ⟨U, hU, hb, hI, hN, hs⟩ := two_new w 33 d a b m
  have HU := Lib.hid hU
  have HEU := Lib.hid (h.below hb)
  have HIU := Lib.hid hI
  have HNU := Lib.hid hN
  have HKU := Lib.hid (Kp.of_below (S := [ab, bb]) hb)
  have HLT := Lib.hid h.lts
  have HG := Lib.hid (not_old2 HLT.out).2
  have HR2 := eff_run2 (Is.insW 33 d a b m w)
  obtain ⟨r0, r1, r2, r3, r4⟩ := hI.cells
  have hlt := hI.lt
  have A1 := Lib.hid (Rg.refGet_any ab p a R U HEU.out.reg)
  have A2 := Lib.hid (Rg.refGet_any ab p b R U HEU.out.reg)
  have c16 : U.cell? ⟨ab, 16, none⟩ = some (.int .u32 p) := HEU.out.reg.pc
  have hla := HEU.out.reg.1.lt
  have HX1 : Hid ((p + 4) % 4294967296 = nxt p) := Lib.hid rfl
  have HX2 := Lib.hid (tgt_wrap2 p m)
  have HX3 : Hid ((Rg.getR R a + m % 4294967296) % 4294967296 = adr (Rg.getR R a) m) := Lib.hid (by unfold adr; omega)
  have hx := hR.get a
  generalize adr (Rg.getR R a) m = q at HX3 ⊢
  generalize Rg.getR R a = x at A1 HX3 hx
  generalize Rg.getR R b = yy at A2
  generalize Rg.errZ a = u at A1
  generalize Rg.errZ b = v at A2
  obtain ⟨x0, x1⟩ := hx
  clear h hU hb hI hN hs
  go_enter Tryz.func38, Tryz.ntmps38
  generalize hQQ : bodyPost _ _ _ = QQ
  have HQQ := Lib.hid hQQ
  clear hQQ
  go_upto_region 0 with fail
  refine wp_region_lit ?_
  refine Great.wpList_boxTo rfl 37 _ rfl _ rfl w.heap.size rfl #[.int .i64 33, .int .i64 d, .int .i64 a, .int .i64 b, .int .i64 m] rfl ?_
  refine Great.wpList_allocTo rfl (some 4) rfl (.pointer (some ⟨w.heap.size + 1, 0, none⟩)) (.cells zeroE.cs.toArray 32) (HR2.out _ _ rfl _ (by simp)) ?_
  rw [show (w.alloc (.cells #[.int .i64 33, .int .i64 d, .int .i64 a, .int .i64 b, .int .i64 m] 37)).alloc (.cells zeroE.cs.toArray 32) = U from HU.out.symm]
  clear HR2 HU
  go_wp2_with fail
  refine A1.out.mono ?_
  rintro e w1 ⟨rfl, rfl⟩
  go_wp2_with fail
  refine A2.out.mono ?_
  rintro e w1 ⟨rfl, rfl⟩
  go_upto_region 4 with fail
  rw [HX1.out]
  apply wp_region_auto [32, 33, 34, 35, 36, 37, 38, 39, 40] [_, _, _, _, _, _, _, _, _] (fun W' => Below U.heap.size U W')
  case hm => kernel_rfl
  case hT => intro y; simp only [setAll, List.setIfInBounds_toArray, List.set_cons_succ, List.set_cons_zero]; exact rfl
  case hok => kernel_rfl
  case hn => decide
  case hw => exact (Below.refl _ _).drew
  case hs =>
    refine auto_op 32 [] (by kernel_rfl) (fun y w' HW hd K hK => ?_) ?_
    · go_simp
      refine hK _ _ ?_ ?_ HW
      · simp [upd]
      · exact rfl
    refine auto_op 33 [0] (by kernel_rfl) (fun y w' HW hd K hK => ?_) ?_
    · have e0 := hd_nth (hd 0 (by simp)) rfl
      go_simp
      refine hK _ _ ?_ ?_ HW
      · simp [upd, e0]
      · exact rfl
    refine auto_op 34 [1] (by kernel_rfl) (fun y w' HW hd K hK => ?_) ?_
    · have e1 := hd_nth (hd 1 (by simp)) rfl
      go_simp
      refine hK _ _ ?_ ?_ HW
      · simp [upd, e1]
      · exact rfl
    refine auto_op 35 [2] (by kernel_rfl) (fun y w' HW hd K hK => ?_) ?_
    · have e2 := hd_nth (hd 2 (by simp)) rfl
      have hcl : ∀ p : Addr, p.block < U.heap.size → w'.cell? p = U.cell? p := fun p hp => HW.cell hp
      go_simp
      refine hK _ _ ?_ ?_ HW
      · simp [upd, e2]
      · exact rfl
    refine auto_op 36 [] (by kernel_rfl) (fun y w' HW hd K hK => ?_) ?_
    · go_simp
      refine hK _ _ ?_ ?_ HW
      · simp [upd]
      · exact rfl
    refine auto_op 37 [4] (by kernel_rfl) (fun y w' HW hd K hK => ?_) ?_
    · have e4 := hd_nth (hd 4 (by simp)) rfl
      have hcl : ∀ p : Addr, p.block < U.heap.size → w'.cell? p = U.cell? p := fun p hp => HW.cell hp
      go_simp
      refine hK _ _ ?_ ?_ HW
      · simp [upd, e4]
      · exact rfl
    refine auto_op 38 [5] (by kernel_rfl) (fun y w' HW hd K hK => ?_) ?_
    · have e5 := hd_nth (hd 5 (by simp)) rfl
      go_simp
      refine hK _ _ ?_ ?_ HW
      · simp [upd, e5]
      · exact rfl
    refine auto_op 39 [6] (by kernel_rfl) (fun y w' HW hd K hK => ?_) ?_
    · have e6 := hd_nth (hd 6 (by simp)) rfl
      go_simp
      refine hK _ _ ?_ ?_ HW
      · simp [upd, e6]
      · exact rfl
    refine auto_op 40 [3, 7] (by kernel_rfl) (fun y w' HW hd K hK => ?_) ?_
    · have e3 := hd_nth (hd 3 (by simp)) rfl
      have e7 := hd_nth (hd 7 (by simp)) rfl
      go_simp
      refine hK _ _ ?_ ?_ HW
      · simp [upd, e3, e7]
      · exact rfl
    refine auto_last fun y w' HW hd K hK => ?_
    have e0 := hd_nth (hd 0 (by omega)) rfl
    have e1 := hd_nth (hd 1 (by omega)) rfl
    have e2 := hd_nth (hd 2 (by omega)) rfl
    have e3 := hd_nth (hd 3 (by omega)) rfl
    have e4 := hd_nth (hd 4 (by omega)) rfl
    have e5 := hd_nth (hd 5 (by omega)) rfl
    have e6 := hd_nth (hd 6 (by omega)) rfl
    have e7 := hd_nth (hd 7 (by omega)) rfl
    have e8 := hd_nth (hd 8 (by omega)) rfl
    go_simp
    refine hK _ _ ?_
    clear hd hK K e0 e1 e2 e3 e4 e5 e6 e7 e8
    rw [HX2.out]
    have HEV := Lib.hid (HEU.out.below HW)
    have HIV := Lib.hid (HIU.out.more HW)
    have HNV := Lib.hid (HNU.out.below HW HNU.out.lt)
    have HKV := Lib.hid (HKU.out.trans (Kp.of_below HW))
    clear r0 r1 r2 r3 r4 hlt c16 hla HW HX1 HX2
    obtain ⟨r0, r1, r2, r3, r4⟩ := HIV.out.cells
    have hlt := HIV.out.lt
    go_wp2_with fail
    rw [HX3.out]
    clear r0 r1 r2 r3 r4 hlt HIV
    refine (Rg.refSet_any ab p d (nxt p) R w' HEV.out.reg).mono ?_
    rintro e X ⟨rfl, hF, hg⟩
    have HEX := Lib.hid (HEV.out.regs hF hg)
    have HNX := Lib.hid (Blk.kp HNV.out (Kp.of_grown (S := [ab, bb]) hg (by simp)) HG.out)
    have HKX := Lib.hid (HKV.out.trans (Kp.of_grown (S := [ab, bb]) hg (by simp)))
    clear hF hg HEV HNV HKV
    go_wp2_with fail
    refine (refDone_any ab bb i p q _ Q X HEX.out).mono ?_
    rintro e Z ⟨rfl, hE, hK⟩
    have HEZ := Lib.hid hE
    have HNZ := Lib.hid (Blk.kp HNX.out hK HG.out)
    have HKZ := Lib.hid (HKX.out.trans hK)
    clear hE hK HEX HNX HKX
    go_simp
    rename_i hK
    refine hK _ _ ?_
    clear hK
    refine wpList_store_rowTo rfl 32 _ _ rfl rfl (w.heap.size + 1) (Eff.cs (doneE q)).toArray (by kernel_rfl) (by kernel_rfl) 32 zeroE.cs.toArray HNZ.out (size_eff _) rfl (one_eff _) ?_
    obtain ⟨hE9, hK9, hN9⟩ := fin_doc HKZ.out HEZ.out HLT.out (Nat.le_succ _) HNZ.out (doneE q)
    have HE9 := Lib.hid hE9
    have HK9 := Lib.hid hK9
    have HN9 := Lib.hid hN9
    clear hE9 hK9 hN9 HEZ HKZ HNZ
    generalize World.setRow _ (w.heap.size + 1) (Eff.cs (doneE q)).toArray = W9 at HE9 HK9 HN9 ⊢
    go_wp2
    rw [← HQQ.out]
    exact bodyPost_ret (v := Eff.val (doneE q)) (results_cell_row Tryz.results38 _ _ _ _ _ _ _ rfl HN9.out Tryz.underlying32 rfl (size_eff _)) rfl ⟨rfl, HE9.out, HK9.out⟩
theorem refBranch_yes (o d a b m : Int) (ab bb i : Nat) (p : Int) (R : List Int) (Q : List Nat) (w : World) (h : Doc w ab bb i p R Q) (ho : 28 ≤ o ∧ o ≤ 31) (x yy : Nat) (ex : Rg.getR R a = (x : Int)) (ey : Rg.getR R b = (yy : Int)) (ht : Al.takeN o x yy = true) :
    Calls Tryz.prog 38 #[Is.insV o d a b m, .pointer (some ⟨ab, 0, none⟩)] w fun e w' => e = .returned (Eff.val (doneE (tgt p m))) ∧ Doc w' ab bb i (tgt p m) R Q ∧ Kp [ab, bb] w w' := by
  obtain ⟨U, hU, hb, hI, hN, hs⟩ := two_new w o d a b m
  have HU := Lib.hid hU
  have HEU := Lib.hid (h.below hb)
  have HIU := Lib.hid hI
  have HNU := Lib.hid hN
  have HKU := Lib.hid (Kp.of_below (S := [ab, bb]) hb)
  have HLT := Lib.hid h.lts
  have HG := Lib.hid (not_old2 HLT.out).2
  have HR2 := eff_run2 (Is.insW o d a b m w)
  obtain ⟨r0, r1, r2, r3, r4⟩ := hI.cells
  have hlt := hI.lt
  have A1 := Lib.hid (Rg.refGet_any ab p a R U HEU.out.reg)
  have A2 := Lib.hid (Rg.refGet_any ab p b R U HEU.out.reg)
  have c16 : U.cell? ⟨ab, 16, none⟩ = some (.int .u32 p) := HEU.out.reg.pc
  have hla := HEU.out.reg.1.lt
  have HX1 : Hid ((p + 4) % 4294967296 = nxt p) := Lib.hid rfl
  have HX2 := Lib.hid (tgt_wrap2 p m)
  rw [ex] at A1
  rw [ey] at A2
  generalize Rg.errZ a = u at A1
  generalize Rg.errZ b = v at A2
  have HT : Hid (∀ V, Calls Tryz.prog 74 #[.int .i64 o, .int .u32 (x : Int), .int .u32 (yy : Int)] V fun e w' => e = .returned (.tuple #[.bool true, .int .i64 (Al.takeE o)]) ∧ V = w') := Lib.hid fun V => by
    have := Al.refTaken_any o x yy V
    rw [ht] at this
    exact this
  generalize Al.takeE o = te at HT
  have e32 : (o == 32) = false := by rw [beq_eq_false_iff_ne]; omega
  have e33 : (o == 33) = false := by rw [beq_eq_false_iff_ne]; omega
  clear ho ex ey ht
  clear h hU hb hI hN hs
  go_enter Tryz.func38, Tryz.ntmps38
  generalize hQQ : bodyPost _ _ _ = QQ
  have HQQ := Lib.hid hQQ
  clear hQQ
  go_upto_region 0 with fail
  refine wp_region_lit ?_
  refine Great.wpList_boxTo rfl 37 _ rfl _ rfl w.heap.size rfl #[.int .i64 o, .int .i64 d, .int .i64 a, .int .i64 b, .int .i64 m] rfl ?_
  refine Great.wpList_allocTo rfl (some 4) rfl (.pointer (some ⟨w.heap.size + 1, 0, none⟩)) (.cells zeroE.cs.toArray 32) (HR2.out _ _ rfl _ (by simp)) ?_
  rw [show (w.alloc (.cells #[.int .i64 o, .int .i64 d, .int .i64 a, .int .i64 b, .int .i64 m] 37)).alloc (.cells zeroE.cs.toArray 32) = U from HU.out.symm]
  clear HR2 HU
  go_wp2_with fail
  refine A1.out.mono ?_
  rintro e w1 ⟨rfl, rfl⟩
  go_wp2_with fail
  refine A2.out.mono ?_
  rintro e w1 ⟨rfl, rfl⟩
  go_upto_region 4 with fail
  rw [HX1.out]
  apply wp_region_auto [32, 33, 34, 35, 36, 37, 38, 39, 40] [_, _, _, _, _, _, _, _, _] (fun W' => Below U.heap.size U W')
  case hm => kernel_rfl
  case hT => intro y; simp only [setAll, List.setIfInBounds_toArray, List.set_cons_succ, List.set_cons_zero]; exact rfl
  case hok => kernel_rfl
  case hn => decide
  case hw => exact (Below.refl _ _).drew
  case hs =>
    refine auto_op 32 [] (by kernel_rfl) (fun y w' HW hd K hK => ?_) ?_
    · go_simp
      refine hK _ _ ?_ ?_ HW
      · simp [upd]
      · exact rfl
    refine auto_op 33 [0] (by kernel_rfl) (fun y w' HW hd K hK => ?_) ?_
    · have e0 := hd_nth (hd 0 (by simp)) rfl
      go_simp
      refine hK _ _ ?_ ?_ HW
      · simp [upd, e0]
      · exact rfl
    refine auto_op 34 [1] (by kernel_rfl) (fun y w' HW hd K hK => ?_) ?_
    · have e1 := hd_nth (hd 1 (by simp)) rfl
      go_simp
      refine hK _ _ ?_ ?_ HW
      · simp [upd, e1]
      · exact rfl
    refine auto_op 35 [2] (by kernel_rfl) (fun y w' HW hd K hK => ?_) ?_
    · have e2 := hd_nth (hd 2 (by simp)) rfl
      have hcl : ∀ p : Addr, p.block < U.heap.size → w'.cell? p = U.cell? p := fun p hp => HW.cell hp
      go_simp
      refine hK _ _ ?_ ?_ HW
      · simp [upd, e2]
      · exact rfl
    refine auto_op 36 [] (by kernel_rfl) (fun y w' HW hd K hK => ?_) ?_
    · go_simp
      refine hK _ _ ?_ ?_ HW
      · simp [upd]
      · exact rfl
    refine auto_op 37 [4] (by kernel_rfl) (fun y w' HW hd K hK => ?_) ?_
    · have e4 := hd_nth (hd 4 (by simp)) rfl
      have hcl : ∀ p : Addr, p.block < U.heap.size → w'.cell? p = U.cell? p := fun p hp => HW.cell hp
      go_simp
      refine hK _ _ ?_ ?_ HW
      · simp [upd, e4]
      · exact rfl
    refine auto_op 38 [5] (by kernel_rfl) (fun y w' HW hd K hK => ?_) ?_
    · have e5 := hd_nth (hd 5 (by simp)) rfl
      go_simp
      refine hK _ _ ?_ ?_ HW
      · simp [upd, e5]
      · exact rfl
    refine auto_op 39 [6] (by kernel_rfl) (fun y w' HW hd K hK => ?_) ?_
    · have e6 := hd_nth (hd 6 (by simp)) rfl
      go_simp
      refine hK _ _ ?_ ?_ HW
      · simp [upd, e6]
      · exact rfl
    refine auto_op 40 [3, 7] (by kernel_rfl) (fun y w' HW hd K hK => ?_) ?_
    · have e3 := hd_nth (hd 3 (by simp)) rfl
      have e7 := hd_nth (hd 7 (by simp)) rfl
      go_simp
      refine hK _ _ ?_ ?_ HW
      · simp [upd, e3, e7]
      · exact rfl
    refine auto_last fun y w' HW hd K hK => ?_
    have e0 := hd_nth (hd 0 (by omega)) rfl
    have e1 := hd_nth (hd 1 (by omega)) rfl
    have e2 := hd_nth (hd 2 (by omega)) rfl
    have e3 := hd_nth (hd 3 (by omega)) rfl
    have e4 := hd_nth (hd 4 (by omega)) rfl
    have e5 := hd_nth (hd 5 (by omega)) rfl
    have e6 := hd_nth (hd 6 (by omega)) rfl
    have e7 := hd_nth (hd 7 (by omega)) rfl
    have e8 := hd_nth (hd 8 (by omega)) rfl
    go_simp
    refine hK _ _ ?_
    clear hd hK K e0 e1 e2 e3 e4 e5 e6 e7 e8
    rw [HX2.out]
    have HEV := Lib.hid (HEU.out.below HW)
    have HIV := Lib.hid (HIU.out.more HW)
    have HNV := Lib.hid (HNU.out.below HW HNU.out.lt)
    have HKV := Lib.hid (HKU.out.trans (Kp.of_below HW))
    clear r0 r1 r2 r3 r4 hlt c16 hla HW HX1 HX2
    obtain ⟨r0, r1, r2, r3, r4⟩ := HIV.out.cells
    have hlt := HIV.out.lt
    go_wp2_with fail
    clear r0 r1 r2 r3 r4 hlt HIV
    refine (HT.out w').mono ?_
    rintro e w1 ⟨rfl, rfl⟩
    go_wp2_with fail
    refine (refDone_any ab bb i p (tgt p m) R Q w' HEV.out).mono ?_
    rintro e Z ⟨rfl, hE, hK⟩
    have HEZ := Lib.hid hE
    have HNZ := Lib.hid (Blk.kp HNV.out hK HG.out)
    have HKZ := Lib.hid (HKV.out.trans hK)
    clear hE hK HEV HNV HKV
    go_simp
    rename_i hK
    refine hK _ _ ?_
    clear hK
    refine wpList_store_rowTo rfl 32 _ _ rfl rfl (w.heap.size + 1) (Eff.cs (doneE (tgt p m))).toArray (by kernel_rfl) (by kernel_rfl) 32 zeroE.cs.toArray HNZ.out (size_eff _) rfl (one_eff _) ?_
    obtain ⟨hE9, hK9, hN9⟩ := fin_doc HKZ.out HEZ.out HLT.out (Nat.le_succ _) HNZ.out (doneE (tgt p m))
    have HE9 := Lib.hid hE9
    have HK9 := Lib.hid hK9
    have HN9 := Lib.hid hN9
    clear hE9 hK9 hN9 HEZ HKZ HNZ
    generalize World.setRow _ (w.heap.size + 1) (Eff.cs (doneE (tgt p m))).toArray = W9 at HE9 HK9 HN9 ⊢
    go_wp2
    rw [← HQQ.out]
    exact bodyPost_ret (v := Eff.val (doneE (tgt p m))) (results_cell_row Tryz.results38 _ _ _ _ _ _ _ rfl HN9.out Tryz.underlying32 rfl (size_eff _)) rfl ⟨rfl, HE9.out, HK9.out⟩
theorem refBranch_no (o d a b m : Int) (ab bb i : Nat) (p : Int) (R : List Int) (Q : List Nat) (w : World) (h : Doc w ab bb i p R Q) (ho : 28 ≤ o ∧ o ≤ 31) (x yy : Nat) (ex : Rg.getR R a = (x : Int)) (ey : Rg.getR R b = (yy : Int)) (ht : Al.takeN o x yy = false) :
    Calls Tryz.prog 38 #[Is.insV o d a b m, .pointer (some ⟨ab, 0, none⟩)] w fun e w' => e = .returned (Eff.val (doneE (nxt p))) ∧ Doc w' ab bb i (nxt p) R Q ∧ Kp [ab, bb] w w' := by
  obtain ⟨U, hU, hb, hI, hN, hs⟩ := two_new w o d a b m
  have HU := Lib.hid hU
  have HEU := Lib.hid (h.below hb)
  have HIU := Lib.hid hI
  have HNU := Lib.hid hN
  have HKU := Lib.hid (Kp.of_below (S := [ab, bb]) hb)
  have HLT := Lib.hid h.lts
  have HG := Lib.hid (not_old2 HLT.out).2
  have HR2 := eff_run2 (Is.insW o d a b m w)
  obtain ⟨r0, r1, r2, r3, r4⟩ := hI.cells
  have hlt := hI.lt
  have A1 := Lib.hid (Rg.refGet_any ab p a R U HEU.out.reg)
  have A2 := Lib.hid (Rg.refGet_any ab p b R U HEU.out.reg)
  have c16 : U.cell? ⟨ab, 16, none⟩ = some (.int .u32 p) := HEU.out.reg.pc
  have hla := HEU.out.reg.1.lt
  have HX1 : Hid ((p + 4) % 4294967296 = nxt p) := Lib.hid rfl
  have HX2 := Lib.hid (tgt_wrap2 p m)
  rw [ex] at A1
  rw [ey] at A2
  generalize Rg.errZ a = u at A1
  generalize Rg.errZ b = v at A2
  have HT : Hid (∀ V, Calls Tryz.prog 74 #[.int .i64 o, .int .u32 (x : Int), .int .u32 (yy : Int)] V fun e w' => e = .returned (.tuple #[.bool false, .int .i64 (Al.takeE o)]) ∧ V = w') := Lib.hid fun V => by
    have := Al.refTaken_any o x yy V
    rw [ht] at this
    exact this
  generalize Al.takeE o = te at HT
  have e32 : (o == 32) = false := by rw [beq_eq_false_iff_ne]; omega
  have e33 : (o == 33) = false := by rw [beq_eq_false_iff_ne]; omega
  clear ho ex ey ht
  clear h hU hb hI hN hs
  go_enter Tryz.func38, Tryz.ntmps38
  generalize hQQ : bodyPost _ _ _ = QQ
  have HQQ := Lib.hid hQQ
  clear hQQ
  go_upto_region 0 with fail
  refine wp_region_lit ?_
  refine Great.wpList_boxTo rfl 37 _ rfl _ rfl w.heap.size rfl #[.int .i64 o, .int .i64 d, .int .i64 a, .int .i64 b, .int .i64 m] rfl ?_
  refine Great.wpList_allocTo rfl (some 4) rfl (.pointer (some ⟨w.heap.size + 1, 0, none⟩)) (.cells zeroE.cs.toArray 32) (HR2.out _ _ rfl _ (by simp)) ?_
  rw [show (w.alloc (.cells #[.int .i64 o, .int .i64 d, .int .i64 a, .int .i64 b, .int .i64 m] 37)).alloc (.cells zeroE.cs.toArray 32) = U from HU.out.symm]
  clear HR2 HU
  go_wp2_with fail
  refine A1.out.mono ?_
  rintro e w1 ⟨rfl, rfl⟩
  go_wp2_with fail
  refine A2.out.mono ?_
  rintro e w1 ⟨rfl, rfl⟩
  go_upto_region 4 with fail
  rw [HX1.out]
  apply wp_region_auto [32, 33, 34, 35, 36, 37, 38, 39, 40] [_, _, _, _, _, _, _, _, _] (fun W' => Below U.heap.size U W')
  case hm => kernel_rfl
  case hT => intro y; simp only [setAll, List.setIfInBounds_toArray, List.set_cons_succ, List.set_cons_zero]; exact rfl
  case hok => kernel_rfl
  case hn => decide
  case hw => exact (Below.refl _ _).drew
  case hs =>
    refine auto_op 32 [] (by kernel_rfl) (fun y w' HW hd K hK => ?_) ?_
    · go_simp
      refine hK _ _ ?_ ?_ HW
      · simp [upd]
      · exact rfl
    refine auto_op 33 [0] (by kernel_rfl) (fun y w' HW hd K hK => ?_) ?_
    · have e0 := hd_nth (hd 0 (by simp)) rfl
      go_simp
      refine hK _ _ ?_ ?_ HW
      · simp [upd, e0]
      · exact rfl
    refine auto_op 34 [1] (by kernel_rfl) (fun y w' HW hd K hK => ?_) ?_
    · have e1 := hd_nth (hd 1 (by simp)) rfl
      go_simp
      refine hK _ _ ?_ ?_ HW
      · simp [upd, e1]
      · exact rfl
    refine auto_op 35 [2] (by kernel_rfl) (fun y w' HW hd K hK => ?_) ?_
    · have e2 := hd_nth (hd 2 (by simp)) rfl
      have hcl : ∀ p : Addr, p.block < U.heap.size → w'.cell? p = U.cell? p := fun p hp => HW.cell hp
      go_simp
      refine hK _ _ ?_ ?_ HW
      · simp [upd, e2]
      · exact rfl
    refine auto_op 36 [] (by kernel_rfl) (fun y w' HW hd K hK => ?_) ?_
    · go_simp
      refine hK _ _ ?_ ?_ HW
      · simp [upd]
      · exact rfl
    refine auto_op 37 [4] (by kernel_rfl) (fun y w' HW hd K hK => ?_) ?_
    · have e4 := hd_nth (hd 4 (by simp)) rfl
      have hcl : ∀ p : Addr, p.block < U.heap.size → w'.cell? p = U.cell? p := fun p hp => HW.cell hp
      go_simp
      refine hK _ _ ?_ ?_ HW
      · simp [upd, e4]
      · exact rfl
    refine auto_op 38 [5] (by kernel_rfl) (fun y w' HW hd K hK => ?_) ?_
    · have e5 := hd_nth (hd 5 (by simp)) rfl
      go_simp
      refine hK _ _ ?_ ?_ HW
      · simp [upd, e5]
      · exact rfl
    refine auto_op 39 [6] (by kernel_rfl) (fun y w' HW hd K hK => ?_) ?_
    · have e6 := hd_nth (hd 6 (by simp)) rfl
      go_simp
      refine hK _ _ ?_ ?_ HW
      · simp [upd, e6]
      · exact rfl
    refine auto_op 40 [3, 7] (by kernel_rfl) (fun y w' HW hd K hK => ?_) ?_
    · have e3 := hd_nth (hd 3 (by simp)) rfl
      have e7 := hd_nth (hd 7 (by simp)) rfl
      go_simp
      refine hK _ _ ?_ ?_ HW
      · simp [upd, e3, e7]
      · exact rfl
    refine auto_last fun y w' HW hd K hK => ?_
    have e0 := hd_nth (hd 0 (by omega)) rfl
    have e1 := hd_nth (hd 1 (by omega)) rfl
    have e2 := hd_nth (hd 2 (by omega)) rfl
    have e3 := hd_nth (hd 3 (by omega)) rfl
    have e4 := hd_nth (hd 4 (by omega)) rfl
    have e5 := hd_nth (hd 5 (by omega)) rfl
    have e6 := hd_nth (hd 6 (by omega)) rfl
    have e7 := hd_nth (hd 7 (by omega)) rfl
    have e8 := hd_nth (hd 8 (by omega)) rfl
    go_simp
    refine hK _ _ ?_
    clear hd hK K e0 e1 e2 e3 e4 e5 e6 e7 e8
    rw [HX2.out]
    have HEV := Lib.hid (HEU.out.below HW)
    have HIV := Lib.hid (HIU.out.more HW)
    have HNV := Lib.hid (HNU.out.below HW HNU.out.lt)
    have HKV := Lib.hid (HKU.out.trans (Kp.of_below HW))
    clear r0 r1 r2 r3 r4 hlt c16 hla HW HX1 HX2
    obtain ⟨r0, r1, r2, r3, r4⟩ := HIV.out.cells
    have hlt := HIV.out.lt
    go_wp2_with fail
    clear r0 r1 r2 r3 r4 hlt HIV
    refine (HT.out w').mono ?_
    rintro e w1 ⟨rfl, rfl⟩
    go_wp2_with fail
    refine (refDone_any ab bb i p (nxt p) R Q w' HEV.out).mono ?_
    rintro e Z ⟨rfl, hE, hK⟩
    have HEZ := Lib.hid hE
    have HNZ := Lib.hid (Blk.kp HNV.out hK HG.out)
    have HKZ := Lib.hid (HKV.out.trans hK)
    clear hE hK HEV HNV HKV
    go_simp
    rename_i hK
    refine hK _ _ ?_
    clear hK
    refine wpList_store_rowTo rfl 32 _ _ rfl rfl (w.heap.size + 1) (Eff.cs (doneE (nxt p))).toArray (by kernel_rfl) (by kernel_rfl) 32 zeroE.cs.toArray HNZ.out (size_eff _) rfl (one_eff _) ?_
    obtain ⟨hE9, hK9, hN9⟩ := fin_doc HKZ.out HEZ.out HLT.out (Nat.le_succ _) HNZ.out (doneE (nxt p))
    have HE9 := Lib.hid hE9
    have HK9 := Lib.hid hK9
    have HN9 := Lib.hid hN9
    clear hE9 hK9 hN9 HEZ HKZ HNZ
    generalize World.setRow _ (w.heap.size + 1) (Eff.cs (doneE (nxt p))).toArray = W9 at HE9 HK9 HN9 ⊢
    go_wp2
    rw [← HQQ.out]
    exact bodyPost_ret (v := Eff.val (doneE (nxt p))) (results_cell_row Tryz.results38 _ _ _ _ _ _ _ rfl HN9.out Tryz.underlying32 rfl (size_eff _)) rfl ⟨rfl, HE9.out, HK9.out⟩
end Go.Proofs.YtniaclhmfmkikaaGreatDoor.Ex
end
