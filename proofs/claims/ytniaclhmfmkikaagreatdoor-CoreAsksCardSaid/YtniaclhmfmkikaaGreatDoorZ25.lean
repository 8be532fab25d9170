/- Several texts in one: Vu -/
import Derived.Test.YtniaclhmfmkikaaGreatDoorZ22
section
/- The document's core: access: loads. -/
namespace Go.Proofs.YtniaclhmfmkikaaGreatDoor.Ex
open Go.RowKit Ut
set_option maxRecDepth 100000
set_option linter.unusedVariables false
set_option maxHeartbeats 4000000

theorem refLoad_23 (d a b m : Int) (ab bb i : Nat) (p : Int) (R : List Int) (Q : List Nat) (w : World) (h : Doc w ab bb i p R Q) (hR : RegOk R) (hq : adr (Rg.getR R a) m % 4 = 0) :
    Calls Tryz.prog 37 #[Is.insV 23 d a b m, .pointer (some ⟨ab, 0, none⟩)] w fun e w' => e = .returned (Eff.val (loadE (nxt p) (adr (Rg.getR R a) m) 4 false d)) ∧ Doc w' ab bb i p R Q ∧ Kp [ab, bb] w w' := by
  obtain ⟨U, hU, hb, hI, hN, hs⟩ := two_new w 23 d a b m
  have HU := Lib.hid hU
  have HEU := Lib.hid (h.below hb)
  have HIU := Lib.hid hI
  have HNU := Lib.hid hN
  have HKU := Lib.hid (Kp.of_below (S := [ab, bb]) hb)
  have HLT := Lib.hid h.lts
  have HG := Lib.hid (not_old2 HLT.out).2
  have HR2 := eff_run2 (Is.insW 23 d a b m w)
  obtain ⟨r0, r1, r2, r3, r4⟩ := hI.cells
  have hlt := hI.lt
  have A1 := Lib.hid (Rg.refGet_any ab p a R U HEU.out.reg)
  have A2 := Lib.hid (Rg.refGet_any ab p b R U HEU.out.reg)
  have hx := hR.get a
  have hz := adr_in (Rg.getR R a) m
  have HZ : Hid ((Rg.getR R a + m % 4294967296) % 4294967296 = adr (Rg.getR R a) m) := Lib.hid (by unfold adr; omega)
  have c16 : U.cell? ⟨ab, 16, none⟩ = some (.int .u32 p) := HEU.out.reg.pc
  have hla := HEU.out.reg.1.lt
  generalize adr (Rg.getR R a) m = z at HZ hq hz ⊢
  generalize Rg.getR R a = x at A1 hx HZ
  generalize Rg.getR R b = yy at A2
  generalize Rg.errZ a = u at A1
  generalize Rg.errZ b = v at A2
  obtain ⟨x0, x1⟩ := hx
  have hq2 : (z % 4 != 0) = false := by rw [hq]; rfl
  clear hq
  clear h hU hb hI hN hs
  go_enter Tryz.func37, Tryz.ntmps37
  generalize hQQ : bodyPost _ _ _ = QQ
  have HQQ := Lib.hid hQQ
  clear hQQ
  go_upto_region 0 with fail
  refine wp_region_lit ?_
  refine Great.wpList_boxTo rfl 37 _ rfl _ rfl w.heap.size rfl #[.int .i64 23, .int .i64 d, .int .i64 a, .int .i64 b, .int .i64 m] rfl ?_
  refine Great.wpList_allocTo rfl (some 4) rfl (.pointer (some ⟨w.heap.size + 1, 0, none⟩)) (.cells zeroE.cs.toArray 32) (HR2.out _ _ rfl _ (by simp)) ?_
  rw [show (w.alloc (.cells #[.int .i64 23, .int .i64 d, .int .i64 a, .int .i64 b, .int .i64 m] 37)).alloc (.cells zeroE.cs.toArray 32) = U from HU.out.symm]
  clear HR2 HU
  go_wp2_with fail
  refine A1.out.mono ?_
  rintro e w1 ⟨rfl, rfl⟩
  go_wp2_with fail
  refine A2.out.mono ?_
  rintro e w1 ⟨rfl, rfl⟩
  go_upto_region 4 with fail
  rw [HZ.out]
  go_upto_region 12 with fail
  try clear hq2
  apply wp_region_auto [65, 66, 67, 68, 69, 70, 71, 72, 73, 74, 75, 76, 77] [_, _, _, _, _, _, _, _, _, _, _, _, _] (fun W' => Below U.heap.size U W')
  case hm => kernel_rfl
  case hT => intro y; simp only [setAll, List.setIfInBounds_toArray, List.set_cons_succ, List.set_cons_zero]; exact rfl
  case hok => kernel_rfl
  case hn => decide
  case hw => exact (Below.refl _ _).drew
  case hs =>
    refine auto_op 65 [] (by kernel_rfl) (fun y w' HW hd K hK => ?_) ?_
    · go_simp
      refine hK _ _ ?_ ?_ HW
      · simp [upd]
      · exact rfl
    refine auto_op 66 [] (by kernel_rfl) (fun y w' HW hd K hK => ?_) ?_
    · go_simp
      refine hK _ _ ?_ ?_ HW
      · simp [upd]
      · exact rfl
    refine auto_op 67 [] (by kernel_rfl) (fun y w' HW hd K hK => ?_) ?_
    · go_simp
      refine hK _ _ ?_ ?_ HW
      · simp [upd]
      · exact rfl
    refine auto_op 68 [2] (by kernel_rfl) (fun y w' HW hd K hK => ?_) ?_
    · have e2 := hd_nth (hd 2 (by simp)) rfl
      have hcl : ∀ p : Addr, p.block < U.heap.size → w'.cell? p = U.cell? p := fun p hp => HW.cell hp
      go_simp
      refine hK _ _ ?_ ?_ HW
      · simp [upd, e2]
      · exact rfl
    refine auto_op 69 [3] (by kernel_rfl) (fun y w' HW hd K hK => ?_) ?_
    · have e3 := hd_nth (hd 3 (by simp)) rfl
      go_simp
      refine hK _ _ ?_ ?_ HW
      · simp [upd, e3]
      · exact rfl
    refine auto_op 70 [] (by kernel_rfl) (fun y w' HW hd K hK => ?_) ?_
    · go_simp
      refine hK _ _ ?_ ?_ HW
      · simp [upd]
      · exact rfl
    refine auto_op 71 [5] (by kernel_rfl) (fun y w' HW hd K hK => ?_) ?_
    · have e5 := hd_nth (hd 5 (by simp)) rfl
      have hcl : ∀ p : Addr, p.block < U.heap.size → w'.cell? p = U.cell? p := fun p hp => HW.cell hp
      go_simp
      refine hK _ _ ?_ ?_ HW
      · simp [upd, e5]
      · exact rfl
    refine auto_op 72 [] (by kernel_rfl) (fun y w' HW hd K hK => ?_) ?_
    · go_simp
      refine hK _ _ ?_ ?_ HW
      · simp [upd]
      · exact rfl
    refine auto_op 73 [7] (by kernel_rfl) (fun y w' HW hd K hK => ?_) ?_
    · have e7 := hd_nth (hd 7 (by simp)) rfl
      go_simp
      refine hK _ _ ?_ ?_ HW
      · simp [upd, e7]
      · exact rfl
    refine auto_op 74 [8] (by kernel_rfl) (fun y w' HW hd K hK => ?_) ?_
    · have e8 := hd_nth (hd 8 (by simp)) rfl
      go_simp
      refine hK _ _ ?_ ?_ HW
      · simp [upd, e8]
      · exact rfl
    refine auto_op 75 [9] (by kernel_rfl) (fun y w' HW hd K hK => ?_) ?_
    · have e9 := hd_nth (hd 9 (by simp)) rfl
      have hcl : ∀ p : Addr, p.block < U.heap.size → w'.cell? p = U.cell? p := fun p hp => HW.cell hp
      go_simp
      refine hK _ _ ?_ ?_ HW
      · simp [upd, e9]
      · exact rfl
    refine auto_op 76 [10] (by kernel_rfl) (fun y w' HW hd K hK => ?_) ?_
    · have e10 := hd_nth (hd 10 (by simp)) rfl
      go_simp
      refine hK _ _ ?_ ?_ HW
      · simp [upd, e10]
      · exact rfl
    refine auto_op 77 [0, 1, 4, 6, 11] (by kernel_rfl) (fun y w' HW hd K hK => ?_) ?_
    · have e0 := hd_nth (hd 0 (by simp)) rfl
      have e1 := hd_nth (hd 1 (by simp)) rfl
      have e4 := hd_nth (hd 4 (by simp)) rfl
      have e6 := hd_nth (hd 6 (by simp)) rfl
      have e11 := hd_nth (hd 11 (by simp)) rfl
      go_simp
      refine hK _ _ ?_ ?_ HW
      · simp [upd, e0, e1, e4, e6, e11]
      · exact rfl
    refine auto_last fun y w' HW hd K hK => ?_
    have e0 := hd_nth (hd 0 (by omega)) rfl
    have e1 := hd_nth (hd 1 (by omega)) rfl
    have e2 := hd_nth (hd 2 (by omega)) rfl
    have e3 := hd_nth (hd 3 (by omega)) rfl
    have e4 := hd_nth (hd 4 (by omega)) rfl
    have e5 := hd_nth (hd 5 (by omega)) rfl
    have e6 := hd_nth (hd 6 (by omega)) rfl
    have e7 := hd_nth (hd 7 (by omega)) rfl
    have e8 := hd_nth (hd 8 (by omega)) rfl
    have e9 := hd_nth (hd 9 (by omega)) rfl
    have e10 := hd_nth (hd 10 (by omega)) rfl
    have e11 := hd_nth (hd 11 (by omega)) rfl
    have e12 := hd_nth (hd 12 (by omega)) rfl
    have HEV := Lib.hid (HEU.out.below HW)
    have HNV := Lib.hid (HNU.out.below HW HNU.out.lt)
    have HKV := Lib.hid (HKU.out.trans (Kp.of_below HW))
    have el' : y 12 = .agg (Eff.cs (loadE (nxt p) z 4 false d)).toArray := by
      rw [e12, nxt_wrap]
      rfl
    refine step_store_blk (a := ⟨_, _⟩) (by kernel_rfl) 32 (.tmp 4) (.tmp 77) (by exact rfl) (w.heap.size + 1) 0 32 zeroE.cs (Eff.cs (loadE (nxt p) z 4 false d)) (by kernel_rfl) (by exact el') HNV.out (size_effL _) (Nat.le_refl 9) (one_effL _) ?_
    refine hK _ _ ?_
    rw [splice_effD]
    clear hd hK K e0 e1 e2 e3 e4 e5 e6 e7 e8 e9 e10 e11 e12 el' HW
    obtain ⟨hE9, hK9, hN9⟩ := fin_doc HKV.out HEV.out HLT.out (Nat.le_succ _) HNV.out (loadE (nxt p) z 4 false d)
    have HE9 := Lib.hid hE9
    have HK9 := Lib.hid hK9
    have HN9 := Lib.hid hN9
    clear hE9 hK9 hN9 HEV HKV HNV
    generalize World.setRow _ (w.heap.size + 1) (Eff.cs (loadE (nxt p) z 4 false d)).toArray = W9 at HE9 HK9 HN9 ⊢
    go_wp2
    rw [← HQQ.out]
    exact bodyPost_ret (v := Eff.val (loadE (nxt p) z 4 false d)) (results_cell_row Tryz.results37 _ _ _ _ _ _ _ rfl HN9.out Tryz.underlying32 rfl (size_eff _)) rfl ⟨rfl, HE9.out, HK9.out⟩
theorem refLoad_24 (d a b m : Int) (ab bb i : Nat) (p : Int) (R : List Int) (Q : List Nat) (w : World) (h : Doc w ab bb i p R Q) (hR : RegOk R) :
    Calls Tryz.prog 37 #[Is.insV 24 d a b m, .pointer (some ⟨ab, 0, none⟩)] w fun e w' => e = .returned (Eff.val (loadE (nxt p) (adr (Rg.getR R a) m) 1 true d)) ∧ Doc w' ab bb i p R Q ∧ Kp [ab, bb] w w' := by
  obtain ⟨U, hU, hb, hI, hN, hs⟩ := two_new w 24 d a b m
  have HU := Lib.hid hU
  have HEU := Lib.hid (h.below hb)
  have HIU := Lib.hid hI
  have HNU := Lib.hid hN
  have HKU := Lib.hid (Kp.of_below (S := [ab, bb]) hb)
  have HLT := Lib.hid h.lts
  have HG := Lib.hid (not_old2 HLT.out).2
  have HR2 := eff_run2 (Is.insW 24 d a b m w)
  obtain ⟨r0, r1, r2, r3, r4⟩ := hI.cells
  have hlt := hI.lt
  have A1 := Lib.hid (Rg.refGet_any ab p a R U HEU.out.reg)
  have A2 := Lib.hid (Rg.refGet_any ab p b R U HEU.out.reg)
  have hx := hR.get a
  have hz := adr_in (Rg.getR R a) m
  have HZ : Hid ((Rg.getR R a + m % 4294967296) % 4294967296 = adr (Rg.getR R a) m) := Lib.hid (by unfold adr; omega)
  have c16 : U.cell? ⟨ab, 16, none⟩ = some (.int .u32 p) := HEU.out.reg.pc
  have hla := HEU.out.reg.1.lt
  generalize adr (Rg.getR R a) m = z at HZ hz ⊢
  generalize Rg.getR R a = x at A1 hx HZ
  generalize Rg.getR R b = yy at A2
  generalize Rg.errZ a = u at A1
  generalize Rg.errZ b = v at A2
  obtain ⟨x0, x1⟩ := hx
  clear h hU hb hI hN hs
  go_enter Tryz.func37, Tryz.ntmps37
  generalize hQQ : bodyPost _ _ _ = QQ
  have HQQ := Lib.hid hQQ
  clear hQQ
  go_upto_region 0 with fail
  refine wp_region_lit ?_
  refine Great.wpList_boxTo rfl 37 _ rfl _ rfl w.heap.size rfl #[.int .i64 24, .int .i64 d, .int .i64 a, .int .i64 b, .int .i64 m] rfl ?_
  refine Great.wpList_allocTo rfl (some 4) rfl (.pointer (some ⟨w.heap.size + 1, 0, none⟩)) (.cells zeroE.cs.toArray 32) (HR2.out _ _ rfl _ (by simp)) ?_
  rw [show (w.alloc (.cells #[.int .i64 24, .int .i64 d, .int .i64 a, .int .i64 b, .int .i64 m] 37)).alloc (.cells zeroE.cs.toArray 32) = U from HU.out.symm]
  clear HR2 HU
  go_wp2_with fail
  refine A1.out.mono ?_
  rintro e w1 ⟨rfl, rfl⟩
  go_wp2_with fail
  refine A2.out.mono ?_
  rintro e w1 ⟨rfl, rfl⟩
  go_upto_region 4 with fail
  rw [HZ.out]
  go_upto_region 12 with fail
  try clear hq2
  apply wp_region_auto [65, 66, 67, 68, 69, 70, 71, 72, 73, 74, 75, 76, 77] [_, _, _, _, _, _, _, _, _, _, _, _, _] (fun W' => Below U.heap.size U W')
  case hm => kernel_rfl
  case hT => intro y; simp only [setAll, List.setIfInBounds_toArray, List.set_cons_succ, List.set_cons_zero]; exact rfl
  case hok => kernel_rfl
  case hn => decide
  case hw => exact (Below.refl _ _).drew
  case hs =>
    refine auto_op 65 [] (by kernel_rfl) (fun y w' HW hd K hK => ?_) ?_
    · go_simp
      refine hK _ _ ?_ ?_ HW
      · simp [upd]
      · exact rfl
    refine auto_op 66 [] (by kernel_rfl) (fun y w' HW hd K hK => ?_) ?_
    · go_simp
      refine hK _ _ ?_ ?_ HW
      · simp [upd]
      · exact rfl
    refine auto_op 67 [] (by kernel_rfl) (fun y w' HW hd K hK => ?_) ?_
    · go_simp
      refine hK _ _ ?_ ?_ HW
      · simp [upd]
      · exact rfl
    refine auto_op 68 [2] (by kernel_rfl) (fun y w' HW hd K hK => ?_) ?_
    · have e2 := hd_nth (hd 2 (by simp)) rfl
      have hcl : ∀ p : Addr, p.block < U.heap.size → w'.cell? p = U.cell? p := fun p hp => HW.cell hp
      go_simp
      refine hK _ _ ?_ ?_ HW
      · simp [upd, e2]
      · exact rfl
    refine auto_op 69 [3] (by kernel_rfl) (fun y w' HW hd K hK => ?_) ?_
    · have e3 := hd_nth (hd 3 (by simp)) rfl
      go_simp
      refine hK _ _ ?_ ?_ HW
      · simp [upd, e3]
      · exact rfl
    refine auto_op 70 [] (by kernel_rfl) (fun y w' HW hd K hK => ?_) ?_
    · go_simp
      refine hK _ _ ?_ ?_ HW
      · simp [upd]
      · exact rfl
    refine auto_op 71 [5] (by kernel_rfl) (fun y w' HW hd K hK => ?_) ?_
    · have e5 := hd_nth (hd 5 (by simp)) rfl
      have hcl : ∀ p : Addr, p.block < U.heap.size → w'.cell? p = U.cell? p := fun p hp => HW.cell hp
      go_simp
      refine hK _ _ ?_ ?_ HW
      · simp [upd, e5]
      · exact rfl
    refine auto_op 72 [] (by kernel_rfl) (fun y w' HW hd K hK => ?_) ?_
    · go_simp
      refine hK _ _ ?_ ?_ HW
      · simp [upd]
      · exact rfl
    refine auto_op 73 [7] (by kernel_rfl) (fun y w' HW hd K hK => ?_) ?_
    · have e7 := hd_nth (hd 7 (by simp)) rfl
      go_simp
      refine hK _ _ ?_ ?_ HW
      · simp [upd, e7]
      · exact rfl
    refine auto_op 74 [8] (by kernel_rfl) (fun y w' HW hd K hK => ?_) ?_
    · have e8 := hd_nth (hd 8 (by simp)) rfl
      go_simp
      refine hK _ _ ?_ ?_ HW
      · simp [upd, e8]
      · exact rfl
    refine auto_op 75 [9] (by kernel_rfl) (fun y w' HW hd K hK => ?_) ?_
    · have e9 := hd_nth (hd 9 (by simp)) rfl
      have hcl : ∀ p : Addr, p.block < U.heap.size → w'.cell? p = U.cell? p := fun p hp => HW.cell hp
      go_simp
      refine hK _ _ ?_ ?_ HW
      · simp [upd, e9]
      · exact rfl
    refine auto_op 76 [10] (by kernel_rfl) (fun y w' HW hd K hK => ?_) ?_
    · have e10 := hd_nth (hd 10 (by simp)) rfl
      go_simp
      refine hK _ _ ?_ ?_ HW
      · simp [upd, e10]
      · exact rfl
    refine auto_op 77 [0, 1, 4, 6, 11] (by kernel_rfl) (fun y w' HW hd K hK => ?_) ?_
    · have e0 := hd_nth (hd 0 (by simp)) rfl
      have e1 := hd_nth (hd 1 (by simp)) rfl
      have e4 := hd_nth (hd 4 (by simp)) rfl
      have e6 := hd_nth (hd 6 (by simp)) rfl
      have e11 := hd_nth (hd 11 (by simp)) rfl
      go_simp
      refine hK _ _ ?_ ?_ HW
      · simp [upd, e0, e1, e4, e6, e11]
      · exact rfl
    refine auto_last fun y w' HW hd K hK => ?_
    have e0 := hd_nth (hd 0 (by omega)) rfl
    have e1 := hd_nth (hd 1 (by omega)) rfl
    have e2 := hd_nth (hd 2 (by omega)) rfl
    have e3 := hd_nth (hd 3 (by omega)) rfl
    have e4 := hd_nth (hd 4 (by omega)) rfl
    have e5 := hd_nth (hd 5 (by omega)) rfl
    have e6 := hd_nth (hd 6 (by omega)) rfl
    have e7 := hd_nth (hd 7 (by omega)) rfl
    have e8 := hd_nth (hd 8 (by omega)) rfl
    have e9 := hd_nth (hd 9 (by omega)) rfl
    have e10 := hd_nth (hd 10 (by omega)) rfl
    have e11 := hd_nth (hd 11 (by omega)) rfl
    have e12 := hd_nth (hd 12 (by omega)) rfl
    have HEV := Lib.hid (HEU.out.below HW)
    have HNV := Lib.hid (HNU.out.below HW HNU.out.lt)
    have HKV := Lib.hid (HKU.out.trans (Kp.of_below HW))
    have el' : y 12 = .agg (Eff.cs (loadE (nxt p) z 1 true d)).toArray := by
      rw [e12, nxt_wrap]
      rfl
    refine step_store_blk (a := ⟨_, _⟩) (by kernel_rfl) 32 (.tmp 4) (.tmp 77) (by exact rfl) (w.heap.size + 1) 0 32 zeroE.cs (Eff.cs (loadE (nxt p) z 1 true d)) (by kernel_rfl) (by exact el') HNV.out (size_effL _) (Nat.le_refl 9) (one_effL _) ?_
    refine hK _ _ ?_
    rw [splice_effD]
    clear hd hK K e0 e1 e2 e3 e4 e5 e6 e7 e8 e9 e10 e11 e12 el' HW
    obtain ⟨hE9, hK9, hN9⟩ := fin_doc HKV.out HEV.out HLT.out (Nat.le_succ _) HNV.out (loadE (nxt p) z 1 true d)
    have HE9 := Lib.hid hE9
    have HK9 := Lib.hid hK9
    have HN9 := Lib.hid hN9
    clear hE9 hK9 hN9 HEV HKV HNV
    generalize World.setRow _ (w.heap.size + 1) (Eff.cs (loadE (nxt p) z 1 true d)).toArray = W9 at HE9 HK9 HN9 ⊢
    go_wp2
    rw [← HQQ.out]
    exact bodyPost_ret (v := Eff.val (loadE (nxt p) z 1 true d)) (results_cell_row Tryz.results37 _ _ _ _ _ _ _ rfl HN9.out Tryz.underlying32 rfl (size_eff _)) rfl ⟨rfl, HE9.out, HK9.out⟩
theorem refLoad_25 (d a b m : Int) (ab bb i : Nat) (p : Int) (R : List Int) (Q : List Nat) (w : World) (h : Doc w ab bb i p R Q) (hR : RegOk R) :
    Calls Tryz.prog 37 #[Is.insV 25 d a b m, .pointer (some ⟨ab, 0, none⟩)] w fun e w' => e = .returned (Eff.val (loadE (nxt p) (adr (Rg.getR R a) m) 1 false d)) ∧ Doc w' ab bb i p R Q ∧ Kp [ab, bb] w w' := by
  obtain ⟨U, hU, hb, hI, hN, hs⟩ := two_new w 25 d a b m
  have HU := Lib.hid hU
  have HEU := Lib.hid (h.below hb)
  have HIU := Lib.hid hI
  have HNU := Lib.hid hN
  have HKU := Lib.hid (Kp.of_below (S := [ab, bb]) hb)
  have HLT := Lib.hid h.lts
  have HG := Lib.hid (not_old2 HLT.out).2
  have HR2 := eff_run2 (Is.insW 25 d a b m w)
  obtain ⟨r0, r1, r2, r3, r4⟩ := hI.cells
  have hlt := hI.lt
  have A1 := Lib.hid (Rg.refGet_any ab p a R U HEU.out.reg)
  have A2 := Lib.hid (Rg.refGet_any ab p b R U HEU.out.reg)
  have hx := hR.get a
  have hz := adr_in (Rg.getR R a) m
  have HZ : Hid ((Rg.getR R a + m % 4294967296) % 4294967296 = adr (Rg.getR R a) m) := Lib.hid (by unfold adr; omega)
  have c16 : U.cell? ⟨ab, 16, none⟩ = some (.int .u32 p) := HEU.out.reg.pc
  have hla := HEU.out.reg.1.lt
  generalize adr (Rg.getR R a) m = z at HZ hz ⊢
  generalize Rg.getR R a = x at A1 hx HZ
  generalize Rg.getR R b = yy at A2
  generalize Rg.errZ a = u at A1
  generalize Rg.errZ b = v at A2
  obtain ⟨x0, x1⟩ := hx
  clear h hU hb hI hN hs
  go_enter Tryz.func37, Tryz.ntmps37
  generalize hQQ : bodyPost _ _ _ = QQ
  have HQQ := Lib.hid hQQ
  clear hQQ
  go_upto_region 0 with fail
  refine wp_region_lit ?_
  refine Great.wpList_boxTo rfl 37 _ rfl _ rfl w.heap.size rfl #[.int .i64 25, .int .i64 d, .int .i64 a, .int .i64 b, .int .i64 m] rfl ?_
  refine Great.wpList_allocTo rfl (some 4) rfl (.pointer (some ⟨w.heap.size + 1, 0, none⟩)) (.cells zeroE.cs.toArray 32) (HR2.out _ _ rfl _ (by simp)) ?_
  rw [show (w.alloc (.cells #[.int .i64 25, .int .i64 d, .int .i64 a, .int .i64 b, .int .i64 m] 37)).alloc (.cells zeroE.cs.toArray 32) = U from HU.out.symm]
  clear HR2 HU
  go_wp2_with fail
  refine A1.out.mono ?_
  rintro e w1 ⟨rfl, rfl⟩
  go_wp2_with fail
  refine A2.out.mono ?_
  rintro e w1 ⟨rfl, rfl⟩
  go_upto_region 4 with fail
  rw [HZ.out]
  go_upto_region 12 with fail
  try clear hq2
  apply wp_region_auto [65, 66, 67, 68, 69, 70, 71, 72, 73, 74, 75, 76, 77] [_, _, _, _, _, _, _, _, _, _, _, _, _] (fun W' => Below U.heap.size U W')
  case hm => kernel_rfl
  case hT => intro y; simp only [setAll, List.setIfInBounds_toArray, List.set_cons_succ, List.set_cons_zero]; exact rfl
  case hok => kernel_rfl
  case hn => decide
  case hw => exact (Below.refl _ _).drew
  case hs =>
    refine auto_op 65 [] (by kernel_rfl) (fun y w' HW hd K hK => ?_) ?_
    · go_simp
      refine hK _ _ ?_ ?_ HW
      · simp [upd]
      · exact rfl
    refine auto_op 66 [] (by kernel_rfl) (fun y w' HW hd K hK => ?_) ?_
    · go_simp
      refine hK _ _ ?_ ?_ HW
      · simp [upd]
      · exact rfl
    refine auto_op 67 [] (by kernel_rfl) (fun y w' HW hd K hK => ?_) ?_
    · go_simp
      refine hK _ _ ?_ ?_ HW
      · simp [upd]
      · exact rfl
    refine auto_op 68 [2] (by kernel_rfl) (fun y w' HW hd K hK => ?_) ?_
    · have e2 := hd_nth (hd 2 (by simp)) rfl
      have hcl : ∀ p : Addr, p.block < U.heap.size → w'.cell? p = U.cell? p := fun p hp => HW.cell hp
      go_simp
      refine hK _ _ ?_ ?_ HW
      · simp [upd, e2]
      · exact rfl
    refine auto_op 69 [3] (by kernel_rfl) (fun y w' HW hd K hK => ?_) ?_
    · have e3 := hd_nth (hd 3 (by simp)) rfl
      go_simp
      refine hK _ _ ?_ ?_ HW
      · simp [upd, e3]
      · exact rfl
    refine auto_op 70 [] (by kernel_rfl) (fun y w' HW hd K hK => ?_) ?_
    · go_simp
      refine hK _ _ ?_ ?_ HW
      · simp [upd]
      · exact rfl
    refine auto_op 71 [5] (by kernel_rfl) (fun y w' HW hd K hK => ?_) ?_
    · have e5 := hd_nth (hd 5 (by simp)) rfl
      have hcl : ∀ p : Addr, p.block < U.heap.size → w'.cell? p = U.cell? p := fun p hp => HW.cell hp
      go_simp
      refine hK _ _ ?_ ?_ HW
      · simp [upd, e5]
      · exact rfl
    refine auto_op 72 [] (by kernel_rfl) (fun y w' HW hd K hK => ?_) ?_
    · go_simp
      refine hK _ _ ?_ ?_ HW
      · simp [upd]
      · exact rfl
    refine auto_op 73 [7] (by kernel_rfl) (fun y w' HW hd K hK => ?_) ?_
    · have e7 := hd_nth (hd 7 (by simp)) rfl
      go_simp
      refine hK _ _ ?_ ?_ HW
      · simp [upd, e7]
      · exact rfl
    refine auto_op 74 [8] (by kernel_rfl) (fun y w' HW hd K hK => ?_) ?_
    · have e8 := hd_nth (hd 8 (by simp)) rfl
      go_simp
      refine hK _ _ ?_ ?_ HW
      · simp [upd, e8]
      · exact rfl
    refine auto_op 75 [9] (by kernel_rfl) (fun y w' HW hd K hK => ?_) ?_
    · have e9 := hd_nth (hd 9 (by simp)) rfl
      have hcl : ∀ p : Addr, p.block < U.heap.size → w'.cell? p = U.cell? p := fun p hp => HW.cell hp
      go_simp
      refine hK _ _ ?_ ?_ HW
      · simp [upd, e9]
      · exact rfl
    refine auto_op 76 [10] (by kernel_rfl) (fun y w' HW hd K hK => ?_) ?_
    · have e10 := hd_nth (hd 10 (by simp)) rfl
      go_simp
      refine hK _ _ ?_ ?_ HW
      · simp [upd, e10]
      · exact rfl
    refine auto_op 77 [0, 1, 4, 6, 11] (by kernel_rfl) (fun y w' HW hd K hK => ?_) ?_
    · have e0 := hd_nth (hd 0 (by simp)) rfl
      have e1 := hd_nth (hd 1 (by simp)) rfl
      have e4 := hd_nth (hd 4 (by simp)) rfl
      have e6 := hd_nth (hd 6 (by simp)) rfl
      have e11 := hd_nth (hd 11 (by simp)) rfl
      go_simp
      refine hK _ _ ?_ ?_ HW
      · simp [upd, e0, e1, e4, e6, e11]
      · exact rfl
    refine auto_last fun y w' HW hd K hK => ?_
    have e0 := hd_nth (hd 0 (by omega)) rfl
    have e1 := hd_nth (hd 1 (by omega)) rfl
    have e2 := hd_nth (hd 2 (by omega)) rfl
    have e3 := hd_nth (hd 3 (by omega)) rfl
    have e4 := hd_nth (hd 4 (by omega)) rfl
    have e5 := hd_nth (hd 5 (by omega)) rfl
    have e6 := hd_nth (hd 6 (by omega)) rfl
    have e7 := hd_nth (hd 7 (by omega)) rfl
    have e8 := hd_nth (hd 8 (by omega)) rfl
    have e9 := hd_nth (hd 9 (by omega)) rfl
    have e10 := hd_nth (hd 10 (by omega)) rfl
    have e11 := hd_nth (hd 11 (by omega)) rfl
    have e12 := hd_nth (hd 12 (by omega)) rfl
    have HEV := Lib.hid (HEU.out.below HW)
    have HNV := Lib.hid (HNU.out.below HW HNU.out.lt)
    have HKV := Lib.hid (HKU.out.trans (Kp.of_below HW))
    have el' : y 12 = .agg (Eff.cs (loadE (nxt p) z 1 false d)).toArray := by
      rw [e12, nxt_wrap]
      rfl
    refine step_store_blk (a := ⟨_, _⟩) (by kernel_rfl) 32 (.tmp 4) (.tmp 77) (by exact rfl) (w.heap.size + 1) 0 32 zeroE.cs (Eff.cs (loadE (nxt p) z 1 false d)) (by kernel_rfl) (by exact el') HNV.out (size_effL _) (Nat.le_refl 9) (one_effL _) ?_
    refine hK _ _ ?_
    rw [splice_effD]
    clear hd hK K e0 e1 e2 e3 e4 e5 e6 e7 e8 e9 e10 e11 e12 el' HW
    obtain ⟨hE9, hK9, hN9⟩ := fin_doc HKV.out HEV.out HLT.out (Nat.le_succ _) HNV.out (loadE (nxt p) z 1 false d)
    have HE9 := Lib.hid hE9
    have HK9 := Lib.hid hK9
    have HN9 := Lib.hid hN9
    clear hE9 hK9 hN9 HEV HKV HNV
    generalize World.setRow _ (w.heap.size + 1) (Eff.cs (loadE (nxt p) z 1 false d)).toArray = W9 at HE9 HK9 HN9 ⊢
    go_wp2
    rw [← HQQ.out]
    exact bodyPost_ret (v := Eff.val (loadE (nxt p) z 1 false d)) (results_cell_row Tryz.results37 _ _ _ _ _ _ _ rfl HN9.out Tryz.underlying32 rfl (size_eff _)) rfl ⟨rfl, HE9.out, HK9.out⟩
end Go.Proofs.YtniaclhmfmkikaaGreatDoor.Ex
end
