/- Several texts in one: Vh -/
import Derived.Test.YtniaclhmfmkikaaGreatDoorZ20
import Derived.StillTailTactics
section
/- Package core: Word; a job's methods, of the kernel's mode. -/
namespace Go.Proofs.YtniaclhmfmkikaaGreatDoor.Ex
open Go.RowKit Ut
set_option maxRecDepth 100000
set_option linter.unusedVariables false
set_option maxHeartbeats 4000000

theorem exec_load_u32 {ρ : Operand → Value} {oo : Oper} {w : World} (x : Operand) (ho : oo.op = .load 23 x) (ad : Addr) (hx : ρ x = .pointer (some ad)) (v : Value) (hc : w.cell? ad = some v) : (execOp ρ oo).run Tryz.prog w = .ok (.value v) w := by
  unfold execOp
  rw [ho]
  simp only [hx]
  go_simp
theorem word_any (o d a b m x : Int) (hx : Is.encZ o d a b m = x) (w : World) (hw : Is.HasT w) :
    Calls Tryz.prog 13 #[Is.insV o d a b m] w fun e w' => e = .returned (.int .u32 x) ∧ Below w.heap.size w w' := by
  obtain ⟨z, hz⟩ : ∃ z, Is.encE o d a b m = z := ⟨_, rfl⟩
  have hb := Lib.hid (Is.ins_below o d a b m w)
  have HT := Lib.hid (hw.more hb.out)
  have HC : Hid (∀ V, Is.HasT V → Calls Tryz.prog 43 #[Is.insV o d a b m] V fun e w' => e = .returned (.tuple #[.int .u32 x, .int .i64 z]) ∧ Below V.heap.size V w') := Lib.hid fun V hV => Is.enc_any o d a b m x z hx hz V hV
  clear hw hx hz
  go_enter Tryz.func13, Tryz.ntmps13
  go_wp2_with fail
  refine (HC.out _ HT.out).mono ?_
  rintro e w1 ⟨rfl, hb1⟩
  have HB := Lib.hid (hb.out.trans (hb1.mono hb.out.size))
  clear hb1
  go_wp2
  go_ret
  exact ⟨rfl, HB.out⟩
theorem forbidden_is (j rb cb i : Nat) (J : Job) (p : Int) (R : List Int) (Q : List Nat) (w : World) (h : Env w j rb cb i J p R Q) :
    Calls Tryz.prog 81 #[.pointer (some ⟨j, 0, none⟩)] w fun e w' => e = .returned (Eff.val (trapE 7 (Is.encZ J.o J.d J.a J.b J.m))) ∧ Env w' j rb cb i J p R Q ∧ Kp [rb, cb] w w' := by
  have HRUN := eff_run w
  have HB := Lib.hid (eff_below w)
  have HN := Lib.hid (eff_blk w)
  have HLT := Lib.hid h.lts
  have HG := Lib.hid (not_old HLT.out)
  have HE := Lib.hid (h.below HB.out)
  have HK := Lib.hid (Kp.of_below (S := [rb, cb]) HB.out)
  clear h
  go_enter Tryz.func81, Tryz.ntmps81
  generalize hQQ : bodyPost _ _ _ = QQ
  have HQQ := Lib.hid hQQ
  clear hQQ
  go_upto_region 0 with fail
  refine wp_region_lit ?_
  refine Great.wpList_allocTo rfl (some 2) rfl (.pointer (some ⟨w.heap.size, 0, none⟩)) (.cells zeroE.cs.toArray 32) (HRUN.out _ _ rfl) ?_
  generalize hW : w.alloc (.cells zeroE.cs.toArray 32) = W at HB HN HE HK ⊢
  clear HRUN hW
  have HEW := HE
  have HNW := HN
  have HKW := HK
  clear HE HN HK
  have c0 : W.cell? ⟨j, 0, none⟩ = some (.int .i64 J.o) := HEW.out.job.cell 0 _ rfl
  have c1 : W.cell? ⟨j, 1, none⟩ = some (.int .i64 J.d) := HEW.out.job.cell 1 _ rfl
  have c2 : W.cell? ⟨j, 2, none⟩ = some (.int .i64 J.a) := HEW.out.job.cell 2 _ rfl
  have c3 : W.cell? ⟨j, 3, none⟩ = some (.int .i64 J.b) := HEW.out.job.cell 3 _ rfl
  have c4 : W.cell? ⟨j, 4, none⟩ = some (.int .i64 J.m) := HEW.out.job.cell 4 _ rfl
  have hlt := HEW.out.job.lt
  go_wp2_with fail
  clear c0 c1 c2 c3 c4 hlt
  refine (word_any J.o J.d J.a J.b J.m _ rfl W HEW.out.tab).mono ?_
  rintro e X ⟨rfl, hb⟩
  have HEX := Lib.hid (HEW.out.below hb)
  have HNX := Lib.hid (HNW.out.below hb HNW.out.lt)
  have HKX := Lib.hid (HKW.out.trans (Kp.of_below hb))
  clear hb HEW HNW HKW
  go_wp2_with fail
  refine (trap_any 7 (Is.encZ J.o J.d J.a J.b J.m) X).mono ?_
  rintro e V ⟨rfl, hb⟩
  have HEV := Lib.hid (HEX.out.below hb)
  have HNV := Lib.hid (HNX.out.below hb HNX.out.lt)
  have HKV := Lib.hid (HKX.out.trans (Kp.of_below hb))
  clear hb HEX HNX HKX
  go_simp
  rename_i hK
  refine hK _ _ ?_
  clear hK
  refine wpList_store_rowTo rfl 32 _ _ rfl rfl w.heap.size (Eff.cs (trapE 7 (Is.encZ J.o J.d J.a J.b J.m))).toArray (by kernel_rfl) (by kernel_rfl) 32 zeroE.cs.toArray HNV.out (size_eff _) rfl (one_eff _) ?_
  obtain ⟨hE9, hK9, hN9⟩ := fin_eff HKV.out HEV.out HLT.out HNV.out (trapE 7 (Is.encZ J.o J.d J.a J.b J.m))
  have HE9 := Lib.hid hE9
  have HK9 := Lib.hid hK9
  have HN9 := Lib.hid hN9
  clear hE9 hK9 hN9 HEV HKV HNV
  generalize World.setRow _ w.heap.size (Eff.cs (trapE 7 (Is.encZ J.o J.d J.a J.b J.m))).toArray = W9 at HE9 HK9 HN9 ⊢
  go_wp2
  rw [← HQQ.out]
  exact bodyPost_ret (v := Eff.val (trapE 7 (Is.encZ J.o J.d J.a J.b J.m))) (results_cell_row Tryz.results81 _ _ _ _ _ _ _ rfl HN9.out Tryz.underlying32 rfl (size_eff _)) rfl ⟨rfl, HE9.out, HK9.out⟩
theorem ask_is (j rb cb i : Nat) (J : Job) (p : Int) (R : List Int) (Q : List Nat) (w : World) (h : Env w j rb cb i J p R Q) :
    Calls Tryz.prog 82 #[.pointer (some ⟨j, 0, none⟩)] w fun e w' => e = .returned (Eff.val (askE 4 J.nx)) ∧ Env w' j rb cb i J p R Q ∧ Kp [rb, cb] w w' := by
  have HRUN := eff_run w
  have HB := Lib.hid (eff_below w)
  have HN := Lib.hid (eff_blk w)
  have HLT := Lib.hid h.lts
  have HG := Lib.hid (not_old HLT.out)
  have HE := Lib.hid (h.below HB.out)
  have HK := Lib.hid (Kp.of_below (S := [rb, cb]) HB.out)
  clear h
  go_enter Tryz.func82, Tryz.ntmps82
  generalize hQQ : bodyPost _ _ _ = QQ
  have HQQ := Lib.hid hQQ
  clear hQQ
  go_upto_region 0 with fail
  refine wp_region_lit ?_
  refine Great.wpList_allocTo rfl (some 2) rfl (.pointer (some ⟨w.heap.size, 0, none⟩)) (.cells zeroE.cs.toArray 32) (HRUN.out _ _ rfl) ?_
  generalize hW : w.alloc (.cells zeroE.cs.toArray 32) = W at HB HN HE HK ⊢
  clear HRUN hW
  have HEW := HE
  have HNW := HN
  have HKW := HK
  clear HE HN HK
  have c10 : W.cell? ⟨j, 10, none⟩ = some (.int .u32 J.nx) := HEW.out.job.cell 10 _ rfl
  have hlt := HEW.out.job.lt
  go_upto_region 1 with fail
  refine wp_region_lit ?_
  refine Great.wpList_readTo rfl _ rfl (.pointer (some ⟨j, 0, none⟩)) (by kernel_rfl) ?_
  refine Great.wpList_readTo rfl _ rfl (.pointer (some ⟨j, 0, none⟩)) (by kernel_rfl) ?_
  refine Great.wpList_readTo rfl _ rfl (.pointer (some ⟨j, 10, none⟩)) (by kernel_rfl) ?_
  refine Great.wpList_readTo rfl _ rfl (.int .u32 J.nx) (exec_load_u32 _ rfl ⟨j, 10, none⟩ (by kernel_rfl) _ c10) ?_
  refine wpList_buildTo rfl 32 _ rfl _ rfl (Eff.cs (askE 4 J.nx)).toArray (by kernel_rfl) ?_
  refine wpList_store_rowTo rfl 32 _ _ rfl rfl w.heap.size (Eff.cs (askE 4 J.nx)).toArray (by kernel_rfl) (by kernel_rfl) 32 zeroE.cs.toArray HNW.out (size_eff _) rfl (one_eff _) ?_
  obtain ⟨hE9, hK9, hN9⟩ := fin_eff HKW.out HEW.out HLT.out HNW.out (askE 4 J.nx)
  have HE9 := Lib.hid hE9
  have HK9 := Lib.hid hK9
  have HN9 := Lib.hid hN9
  clear hE9 hK9 hN9 HEW HKW HNW
  generalize World.setRow _ w.heap.size (Eff.cs (askE 4 J.nx)).toArray = W9 at HE9 HK9 HN9 ⊢
  go_wp2
  rw [← HQQ.out]
  exact bodyPost_ret (v := Eff.val (askE 4 J.nx)) (results_cell_row Tryz.results82 _ _ _ _ _ _ _ rfl HN9.out Tryz.underlying32 rfl (size_eff _)) rfl ⟨rfl, HE9.out, HK9.out⟩
theorem halt_is (j rb cb i : Nat) (J : Job) (p : Int) (R : List Int) (Q : List Nat) (w : World) (h : Env w j rb cb i J p R Q) :
    Calls Tryz.prog 83 #[.pointer (some ⟨j, 0, none⟩)] w fun e w' => e = .returned (Eff.val (askE 5 J.nx)) ∧ Env w' j rb cb i J p R Q ∧ Kp [rb, cb] w w' := by
  have HRUN := eff_run w
  have HB := Lib.hid (eff_below w)
  have HN := Lib.hid (eff_blk w)
  have HLT := Lib.hid h.lts
  have HG := Lib.hid (not_old HLT.out)
  have HE := Lib.hid (h.below HB.out)
  have HK := Lib.hid (Kp.of_below (S := [rb, cb]) HB.out)
  clear h
  go_enter Tryz.func83, Tryz.ntmps83
  generalize hQQ : bodyPost _ _ _ = QQ
  have HQQ := Lib.hid hQQ
  clear hQQ
  go_upto_region 0 with fail
  refine wp_region_lit ?_
  refine Great.wpList_allocTo rfl (some 2) rfl (.pointer (some ⟨w.heap.size, 0, none⟩)) (.cells zeroE.cs.toArray 32) (HRUN.out _ _ rfl) ?_
  generalize hW : w.alloc (.cells zeroE.cs.toArray 32) = W at HB HN HE HK ⊢
  clear HRUN hW
  have HEW := HE
  have HNW := HN
  have HKW := HK
  clear HE HN HK
  have c10 : W.cell? ⟨j, 10, none⟩ = some (.int .u32 J.nx) := HEW.out.job.cell 10 _ rfl
  have hlt := HEW.out.job.lt
  go_upto_region 1 with fail
  refine wp_region_lit ?_
  refine Great.wpList_readTo rfl _ rfl (.pointer (some ⟨j, 0, none⟩)) (by kernel_rfl) ?_
  refine Great.wpList_readTo rfl _ rfl (.pointer (some ⟨j, 0, none⟩)) (by kernel_rfl) ?_
  refine Great.wpList_readTo rfl _ rfl (.pointer (some ⟨j, 10, none⟩)) (by kernel_rfl) ?_
  refine Great.wpList_readTo rfl _ rfl (.int .u32 J.nx) (exec_load_u32 _ rfl ⟨j, 10, none⟩ (by kernel_rfl) _ c10) ?_
  refine wpList_buildTo rfl 32 _ rfl _ rfl (Eff.cs (askE 5 J.nx)).toArray (by kernel_rfl) ?_
  refine wpList_store_rowTo rfl 32 _ _ rfl rfl w.heap.size (Eff.cs (askE 5 J.nx)).toArray (by kernel_rfl) (by kernel_rfl) 32 zeroE.cs.toArray HNW.out (size_eff _) rfl (one_eff _) ?_
  obtain ⟨hE9, hK9, hN9⟩ := fin_eff HKW.out HEW.out HLT.out HNW.out (askE 5 J.nx)
  have HE9 := Lib.hid hE9
  have HK9 := Lib.hid hK9
  have HN9 := Lib.hid hN9
  clear hE9 hK9 hN9 HEW HKW HNW
  generalize World.setRow _ w.heap.size (Eff.cs (askE 5 J.nx)).toArray = W9 at HE9 HK9 HN9 ⊢
  go_wp2
  rw [← HQQ.out]
  exact bodyPost_ret (v := Eff.val (askE 5 J.nx)) (results_cell_row Tryz.results83 _ _ _ _ _ _ _ rfl HN9.out Tryz.underlying32 rfl (size_eff _)) rfl ⟨rfl, HE9.out, HK9.out⟩
theorem forget_is (j rb cb i : Nat) (J : Job) (p : Int) (R : List Int) (Q : List Nat) (w : World) (h : Env w j rb cb i J p R Q) :
    Calls Tryz.prog 84 #[.pointer (some ⟨j, 0, none⟩)] w fun e w' => e = .returned (Eff.val (askE 6 J.nx)) ∧ Env w' j rb cb i J p R Q ∧ Kp [rb, cb] w w' := by
  have HRUN := eff_run w
  have HB := Lib.hid (eff_below w)
  have HN := Lib.hid (eff_blk w)
  have HLT := Lib.hid h.lts
  have HG := Lib.hid (not_old HLT.out)
  have HE := Lib.hid (h.below HB.out)
  have HK := Lib.hid (Kp.of_below (S := [rb, cb]) HB.out)
  clear h
  go_enter Tryz.func84, Tryz.ntmps84
  generalize hQQ : bodyPost _ _ _ = QQ
  have HQQ := Lib.hid hQQ
  clear hQQ
  go_upto_region 0 with fail
  refine wp_region_lit ?_
  refine Great.wpList_allocTo rfl (some 2) rfl (.pointer (some ⟨w.heap.size, 0, none⟩)) (.cells zeroE.cs.toArray 32) (HRUN.out _ _ rfl) ?_
  generalize hW : w.alloc (.cells zeroE.cs.toArray 32) = W at HB HN HE HK ⊢
  clear HRUN hW
  have HEW := HE
  have HNW := HN
  have HKW := HK
  clear HE HN HK
  have c10 : W.cell? ⟨j, 10, none⟩ = some (.int .u32 J.nx) := HEW.out.job.cell 10 _ rfl
  have hlt := HEW.out.job.lt
  go_upto_region 1 with fail
  refine wp_region_lit ?_
  refine Great.wpList_readTo rfl _ rfl (.pointer (some ⟨j, 0, none⟩)) (by kernel_rfl) ?_
  refine Great.wpList_readTo rfl _ rfl (.pointer (some ⟨j, 0, none⟩)) (by kernel_rfl) ?_
  refine Great.wpList_readTo rfl _ rfl (.pointer (some ⟨j, 10, none⟩)) (by kernel_rfl) ?_
  refine Great.wpList_readTo rfl _ rfl (.int .u32 J.nx) (exec_load_u32 _ rfl ⟨j, 10, none⟩ (by kernel_rfl) _ c10) ?_
  refine wpList_buildTo rfl 32 _ rfl _ rfl (Eff.cs (askE 6 J.nx)).toArray (by kernel_rfl) ?_
  refine wpList_store_rowTo rfl 32 _ _ rfl rfl w.heap.size (Eff.cs (askE 6 J.nx)).toArray (by kernel_rfl) (by kernel_rfl) 32 zeroE.cs.toArray HNW.out (size_eff _) rfl (one_eff _) ?_
  obtain ⟨hE9, hK9, hN9⟩ := fin_eff HKW.out HEW.out HLT.out HNW.out (askE 6 J.nx)
  have HE9 := Lib.hid hE9
  have HK9 := Lib.hid hK9
  have HN9 := Lib.hid hN9
  clear hE9 hK9 hN9 HEW HKW HNW
  generalize World.setRow _ w.heap.size (Eff.cs (askE 6 J.nx)).toArray = W9 at HE9 HK9 HN9 ⊢
  go_wp2
  rw [← HQQ.out]
  exact bodyPost_ret (v := Eff.val (askE 6 J.nx)) (results_cell_row Tryz.results84 _ _ _ _ _ _ _ rfl HN9.out Tryz.underlying32 rfl (size_eff _)) rfl ⟨rfl, HE9.out, HK9.out⟩
theorem leave_is (j rb cb i : Nat) (J : Job) (p : Int) (R : List Int) (Q : List Nat) (w : World) (h : Env w j rb cb i J p R Q) :
    Calls Tryz.prog 85 #[.pointer (some ⟨j, 0, none⟩)] w fun e w' => e = .returned (Eff.val (doneE ((Q.getD 2 0 : Nat) : Int))) ∧ Env w' j rb cb i J ((Q.getD 2 0 : Nat) : Int) R (Cs.lvR Q) ∧ Kp [rb, cb] w w' := by
  have HRUN := eff_run w
  have HB := Lib.hid (eff_below w)
  have HN := Lib.hid (eff_blk w)
  have HLT := Lib.hid h.lts
  have HG := Lib.hid (not_old HLT.out)
  have HE := Lib.hid (h.below HB.out)
  have HK := Lib.hid (Kp.of_below (S := [rb, cb]) HB.out)
  clear h
  go_enter Tryz.func85, Tryz.ntmps85
  generalize hQQ : bodyPost _ _ _ = QQ
  have HQQ := Lib.hid hQQ
  clear hQQ
  go_upto_region 0 with fail
  refine wp_region_lit ?_
  refine Great.wpList_allocTo rfl (some 2) rfl (.pointer (some ⟨w.heap.size, 0, none⟩)) (.cells zeroE.cs.toArray 32) (HRUN.out _ _ rfl) ?_
  generalize hW : w.alloc (.cells zeroE.cs.toArray 32) = W at HB HN HE HK ⊢
  clear HRUN hW
  have HEW := HE
  have HNW := HN
  have HKW := HK
  clear HE HN HK
  have c6 : W.cell? ⟨j, 6, none⟩ = some (.pointer (some ⟨cb, 0, none⟩)) := HEW.out.job.cell 6 _ rfl
  have hlt := HEW.out.job.lt
  go_wp2_with fail
  clear c6 hlt
  refine (Cs.leave_any cb i Q W HEW.out.csr).mono ?_
  rintro e U ⟨rfl, hF, hg⟩
  have HEU := Lib.hid (HEW.out.csrs hF hg)
  have HNU := Lib.hid (Blk.kp HNW.out (kp_csrs (rb := rb) hg) HG.out)
  have HKU := Lib.hid (HKW.out.trans (kp_csrs hg))
  clear hF hg HEW HNW HKW
  go_wp2_with fail
  refine (done_any j rb cb i J p R _ _ U HEU.out).mono ?_
  rintro e V ⟨rfl, hE, hK⟩
  have HEV := Lib.hid hE
  have HNV := Lib.hid (Blk.kp HNU.out hK HG.out)
  have HKV := Lib.hid (HKU.out.trans hK)
  clear hE hK HEU HNU HKU
  go_simp
  rename_i hK
  refine hK _ _ ?_
  clear hK
  refine wpList_store_rowTo rfl 32 _ _ rfl rfl w.heap.size (Eff.cs (doneE ((Q.getD 2 0 : Nat) : Int))).toArray (by kernel_rfl) (by kernel_rfl) 32 zeroE.cs.toArray HNV.out (size_eff _) rfl (one_eff _) ?_
  obtain ⟨hE9, hK9, hN9⟩ := fin_eff HKV.out HEV.out HLT.out HNV.out (doneE ((Q.getD 2 0 : Nat) : Int))
  have HE9 := Lib.hid hE9
  have HK9 := Lib.hid hK9
  have HN9 := Lib.hid hN9
  clear hE9 hK9 hN9 HEV HKV HNV
  generalize World.setRow _ w.heap.size (Eff.cs (doneE ((Q.getD 2 0 : Nat) : Int))).toArray = W9 at HE9 HK9 HN9 ⊢
  go_wp2
  rw [← HQQ.out]
  exact bodyPost_ret (v := Eff.val (doneE ((Q.getD 2 0 : Nat) : Int))) (results_cell_row Tryz.results85 _ _ _ _ _ _ _ rfl HN9.out Tryz.underlying32 rfl (size_eff _)) rfl ⟨rfl, HE9.out, HK9.out⟩
theorem readc_is (j rb cb i : Nat) (J : Job) (p : Int) (R : List Int) (Q : List Nat) (w : World) (h : Env w j rb cb i J p R Q) (x u : Int) (hx : Cs.rdZ Q i J.m J.clock = x) (hu : Cs.errZ Q J.m 9 = u) :
    Calls Tryz.prog 86 #[.pointer (some ⟨j, 0, none⟩)] w fun e w' => e = .returned (Eff.val (doneE J.nx)) ∧ Env w' j rb cb i J J.nx (Rg.setR R J.d x) Q ∧ Kp [rb, cb] w w' := by
  have A1 := Cs.read_at cb i J.m J.clock Q x u hx hu
  clear hx hu
  have HRUN := eff_run w
  have HB := Lib.hid (eff_below w)
  have HN := Lib.hid (eff_blk w)
  have HLT := Lib.hid h.lts
  have HG := Lib.hid (not_old HLT.out)
  have HE := Lib.hid (h.below HB.out)
  have HK := Lib.hid (Kp.of_below (S := [rb, cb]) HB.out)
  clear h
  go_enter Tryz.func86, Tryz.ntmps86
  generalize hQQ : bodyPost _ _ _ = QQ
  have HQQ := Lib.hid hQQ
  clear hQQ
  go_upto_region 0 with fail
  refine wp_region_lit ?_
  refine Great.wpList_allocTo rfl (some 2) rfl (.pointer (some ⟨w.heap.size, 0, none⟩)) (.cells zeroE.cs.toArray 32) (HRUN.out _ _ rfl) ?_
  generalize hW : w.alloc (.cells zeroE.cs.toArray 32) = W at HB HN HE HK ⊢
  clear HRUN hW
  have HEW := HE
  have HNW := HN
  have HKW := HK
  clear HE HN HK
  have c4 : W.cell? ⟨j, 4, none⟩ = some (.int .i64 J.m) := HEW.out.job.cell 4 _ rfl
  have c6 : W.cell? ⟨j, 6, none⟩ = some (.pointer (some ⟨cb, 0, none⟩)) := HEW.out.job.cell 6 _ rfl
  have c7 : W.cell? ⟨j, 7, none⟩ = some (.int .i64 J.clock) := HEW.out.job.cell 7 _ rfl
  have hlt := HEW.out.job.lt
  have A2 : Hid (∀ V, Below W.heap.size W V → Calls Tryz.prog 53 #[.pointer (some ⟨cb, 0, none⟩), .int .i64 J.m, .int .i64 J.clock] V fun e w' => e = .returned (.tuple #[.int .u32 x, .int .i64 u]) ∧ Below V.heap.size V w') := Lib.hid fun V hb => A1.out V (HEW.out.csr.below hb HEW.out.csr.1.lt)
  clear A1
  go_upto_region 1 with fail
  simp only [Act.put, List.setIfInBounds_toArray, List.set_cons_succ, List.set_cons_zero]
  apply wp_region_auto [6, 7, 8, 9, 10, 11, 12, 13, 14, 15, 16, 17, 18, 19, 5, 20, 21, 3] [_, _, _, _, _, _, _, _, _, _, _, _, _, _, _, _, _, _] (fun W' => Below W.heap.size W W')
  case hm => kernel_rfl
  case hT => intro y; simp only [setAll, List.setIfInBounds_toArray, List.set_cons_succ, List.set_cons_zero]; exact rfl
  case hok => kernel_rfl
  case hn => decide
  case hw => exact (Below.refl _ _).drew
  case hs =>
    refine auto_op 6 [] (by kernel_rfl) (fun y w' HW hd K hK => ?_) ?_
    · go_simp
      refine hK _ _ ?_ ?_ HW
      · simp [upd]
      · exact rfl
    refine auto_op 7 [0] (by kernel_rfl) (fun y w' HW hd K hK => ?_) ?_
    · have e0 := hd_nth (hd 0 (by simp)) rfl
      go_simp
      refine hK _ _ ?_ ?_ HW
      · simp [upd, e0]
      · exact rfl
    refine auto_op 8 [1] (by kernel_rfl) (fun y w' HW hd K hK => ?_) ?_
    · have e1 := hd_nth (hd 1 (by simp)) rfl
      go_simp
      refine hK _ _ ?_ ?_ HW
      · simp [upd, e1]
      · exact rfl
    refine auto_op 9 [2] (by kernel_rfl) (fun y w' HW hd K hK => ?_) ?_
    · have e2 := hd_nth (hd 2 (by simp)) rfl
      have hcl : ∀ p : Addr, p.block < W.heap.size → w'.cell? p = W.cell? p := fun p hp => HW.cell hp
      go_simp
      refine hK _ _ ?_ ?_ HW
      · simp [upd, e2]
      · exact rfl
    refine auto_op 10 [] (by kernel_rfl) (fun y w' HW hd K hK => ?_) ?_
    · go_simp
      refine hK _ _ ?_ ?_ HW
      · simp [upd]
      · exact rfl
    refine auto_op 11 [4] (by kernel_rfl) (fun y w' HW hd K hK => ?_) ?_
    · have e4 := hd_nth (hd 4 (by simp)) rfl
      go_simp
      refine hK _ _ ?_ ?_ HW
      · simp [upd, e4]
      · exact rfl
    refine auto_op 12 [5] (by kernel_rfl) (fun y w' HW hd K hK => ?_) ?_
    · have e5 := hd_nth (hd 5 (by simp)) rfl
      go_simp
      refine hK _ _ ?_ ?_ HW
      · simp [upd, e5]
      · exact rfl
    refine auto_op 13 [6] (by kernel_rfl) (fun y w' HW hd K hK => ?_) ?_
    · have e6 := hd_nth (hd 6 (by simp)) rfl
      go_simp
      refine hK _ _ ?_ ?_ HW
      · simp [upd, e6]
      · exact rfl
    refine auto_op 14 [7] (by kernel_rfl) (fun y w' HW hd K hK => ?_) ?_
    · have e7 := hd_nth (hd 7 (by simp)) rfl
      have hcl : ∀ p : Addr, p.block < W.heap.size → w'.cell? p = W.cell? p := fun p hp => HW.cell hp
      go_simp
      refine hK _ _ ?_ ?_ HW
      · simp [upd, e7]
      · exact rfl
    refine auto_op 15 [] (by kernel_rfl) (fun y w' HW hd K hK => ?_) ?_
    · go_simp
      refine hK _ _ ?_ ?_ HW
      · simp [upd]
      · exact rfl
    refine auto_op 16 [9] (by kernel_rfl) (fun y w' HW hd K hK => ?_) ?_
    · have e9 := hd_nth (hd 9 (by simp)) rfl
      go_simp
      refine hK _ _ ?_ ?_ HW
      · simp [upd, e9]
      · exact rfl
    refine auto_op 17 [10] (by kernel_rfl) (fun y w' HW hd K hK => ?_) ?_
    · have e10 := hd_nth (hd 10 (by simp)) rfl
      go_simp
      refine hK _ _ ?_ ?_ HW
      · simp [upd, e10]
      · exact rfl
    refine auto_op 18 [11] (by kernel_rfl) (fun y w' HW hd K hK => ?_) ?_
    · have e11 := hd_nth (hd 11 (by simp)) rfl
      have hcl : ∀ p : Addr, p.block < W.heap.size → w'.cell? p = W.cell? p := fun p hp => HW.cell hp
      go_simp
      refine hK _ _ ?_ ?_ HW
      · simp [upd, e11]
      · exact rfl
    refine auto_op 19 [3, 8, 12] (by kernel_rfl) (fun y w' HW hd K hK => ?_) ?_
    · have e3 := hd_nth (hd 3 (by simp)) rfl
      have e8 := hd_nth (hd 8 (by simp)) rfl
      have e12 := hd_nth (hd 12 (by simp)) rfl
      go_simp
      refine (A2.out _ HW).mono ?_
      rintro e w3 ⟨rfl, hb3⟩
      refine hK _ _ ?_ ?_ (HW.trans (hb3.mono HW.size))
      · simp [upd, e3, e8, e12]
      · exact rfl
    refine auto_op 5 [13] (by kernel_rfl) (fun y w' HW hd K hK => ?_) ?_
    · have e13 := hd_nth (hd 13 (by simp)) rfl
      go_simp
      refine hK _ _ ?_ ?_ HW
      · simp [upd, e13]
      · exact rfl
    refine auto_op 20 [14] (by kernel_rfl) (fun y w' HW hd K hK => ?_) ?_
    · have e14 := hd_nth (hd 14 (by simp)) rfl
      go_simp
      refine hK _ _ ?_ ?_ HW
      · simp [upd, e14]
      · exact rfl
    refine auto_op 21 [14] (by kernel_rfl) (fun y w' HW hd K hK => ?_) ?_
    · have e14 := hd_nth (hd 14 (by simp)) rfl
      go_simp
      refine hK _ _ ?_ ?_ HW
      · simp [upd, e14]
      · exact rfl
    refine auto_op 3 [15, 13, 0, 1, 2, 3, 4, 5, 6, 7, 8, 9, 10, 11, 12, 13, 14, 15] (by kernel_rfl) (fun y w' HW hd K hK => ?_) ?_
    · have e0 := hd_nth (hd 0 (by simp)) rfl
      have e1 := hd_nth (hd 1 (by simp)) rfl
      have e2 := hd_nth (hd 2 (by simp)) rfl
      have e3 := hd_nth (hd 3 (by simp)) rfl
      have e4 := hd_nth (hd 4 (by simp)) rfl
      have e5 := hd_nth (hd 5 (by simp)) rfl
      have e6 := hd_nth (hd 6 (by simp)) rfl
      have e7 := hd_nth (hd 7 (by simp)) rfl
      have e8 := hd_nth (hd 8 (by simp)) rfl
      have e9 := hd_nth (hd 9 (by simp)) rfl
      have e10 := hd_nth (hd 10 (by simp)) rfl
      have e11 := hd_nth (hd 11 (by simp)) rfl
      have e12 := hd_nth (hd 12 (by simp)) rfl
      have e13 := hd_nth (hd 13 (by simp)) rfl
      have e14 := hd_nth (hd 14 (by simp)) rfl
      have e15 := hd_nth (hd 15 (by simp)) rfl
      go_simp
      refine hK _ _ ?_ ?_ HW
      · simp [upd, e0, e1, e2, e3, e4, e5, e6, e7, e8, e9, e10, e11, e12, e13, e14, e15]
      · exact rfl
    refine auto_last fun y w' HW hd K hK => ?_
    have e0 := hd_nth (hd 0 (by omega)) rfl
    have e1 := hd_nth (hd 1 (by omega)) rfl
    have e2 := hd_nth (hd 2 (by omega)) rfl
    have e3 := hd_nth (hd 3 (by omega)) rfl
    have e4 := hd_nth (hd 4 (by omega)) rfl
    have e5 := hd_nth (hd 5 (by omega)) rfl
    have e6 := hd_nth (hd 6 (by omega)) rfl
    have e7 := hd_nth (hd 7 (by omega)) rfl
    have e8 := hd_nth (hd 8 (by omega)) rfl
    have e9 := hd_nth (hd 9 (by omega)) rfl
    have e10 := hd_nth (hd 10 (by omega)) rfl
    have e11 := hd_nth (hd 11 (by omega)) rfl
    have e12 := hd_nth (hd 12 (by omega)) rfl
    have e13 := hd_nth (hd 13 (by omega)) rfl
    have e14 := hd_nth (hd 14 (by omega)) rfl
    have e15 := hd_nth (hd 15 (by omega)) rfl
    have e16 := hd_nth (hd 16 (by omega)) rfl
    have e17 := hd_nth (hd 17 (by omega)) rfl
    go_simp
    refine hK _ _ ?_
    clear hd hK K e0 e1 e2 e3 e4 e5 e6 e7 e8 e9 e10 e11 e12 e13 e14 e15 e16 e17
    have HEU := Lib.hid (HEW.out.below HW)
    have HNU := Lib.hid (HNW.out.below HW HNW.out.lt)
    have HKU := Lib.hid (HKW.out.trans (Kp.of_below HW))
    clear HW c4 c6 c7 hlt
    go_wp2_with fail
    refine (give_any j rb cb i J p R Q x w' HEU.out).mono ?_
    rintro e V ⟨rfl, hE, hK⟩
    have HEV := Lib.hid hE
    have HNV := Lib.hid (Blk.kp HNU.out hK HG.out)
    have HKV := Lib.hid (HKU.out.trans hK)
    clear hE hK HEU HNU HKU
    go_simp
    rename_i hK
    refine hK _ _ ?_
    clear hK
    refine wpList_store_rowTo rfl 32 _ _ rfl rfl w.heap.size (Eff.cs (doneE J.nx)).toArray (by kernel_rfl) (by kernel_rfl) 32 zeroE.cs.toArray HNV.out (size_eff _) rfl (one_eff _) ?_
    obtain ⟨hE9, hK9, hN9⟩ := fin_eff HKV.out HEV.out HLT.out HNV.out (doneE J.nx)
    have HE9 := Lib.hid hE9
    have HK9 := Lib.hid hK9
    have HN9 := Lib.hid hN9
    clear hE9 hK9 hN9 HEV HKV HNV
    generalize World.setRow _ w.heap.size (Eff.cs (doneE J.nx)).toArray = W9 at HE9 HK9 HN9 ⊢
    go_wp2
    rw [← HQQ.out]
    exact bodyPost_ret (v := Eff.val (doneE J.nx)) (results_cell_row Tryz.results86 _ _ _ _ _ _ _ rfl HN9.out Tryz.underlying32 rfl (size_eff _)) rfl ⟨rfl, HE9.out, HK9.out⟩
theorem writec_yes (j rb cb i : Nat) (J : Job) (p : Int) (R : List Int) (Q : List Nat) (w : World) (h : Env w j rb cb i J p R Q) (v : Nat) (hv : J.va = (v : Int)) (hl : v < 4294967296) (hz : Cs.errZ Q J.m 7 = 0) :
    Calls Tryz.prog 87 #[.pointer (some ⟨j, 0, none⟩)] w fun e w' => e = .returned (Eff.val (doneE J.nx)) ∧ Env w' j rb cb i J J.nx R (Cs.wrR Q J.m v) ∧ Kp [rb, cb] w w' := by
  have A1 := Cs.write_at cb i J.m v Q 0 _ hz rfl hl
  clear hz hl
  have HRUN := eff_run w
  have HB := Lib.hid (eff_below w)
  have HN := Lib.hid (eff_blk w)
  have HLT := Lib.hid h.lts
  have HG := Lib.hid (not_old HLT.out)
  have HE := Lib.hid (h.below HB.out)
  have HK := Lib.hid (Kp.of_below (S := [rb, cb]) HB.out)
  clear h
  go_enter Tryz.func87, Tryz.ntmps87
  generalize hQQ : bodyPost _ _ _ = QQ
  have HQQ := Lib.hid hQQ
  clear hQQ
  go_upto_region 0 with fail
  refine wp_region_lit ?_
  refine Great.wpList_allocTo rfl (some 2) rfl (.pointer (some ⟨w.heap.size, 0, none⟩)) (.cells zeroE.cs.toArray 32) (HRUN.out _ _ rfl) ?_
  generalize hW : w.alloc (.cells zeroE.cs.toArray 32) = W at HB HN HE HK ⊢
  clear HRUN hW
  have HEW := HE
  have HNW := HN
  have HKW := HK
  clear HE HN HK
  have c4 : W.cell? ⟨j, 4, none⟩ = some (.int .i64 J.m) := HEW.out.job.cell 4 _ rfl
  have c6 : W.cell? ⟨j, 6, none⟩ = some (.pointer (some ⟨cb, 0, none⟩)) := HEW.out.job.cell 6 _ rfl
  have c11 : W.cell? ⟨j, 11, none⟩ = some (.int .u32 J.va) := HEW.out.job.cell 11 _ rfl
  have hlt := HEW.out.job.lt
  rw [hv] at c11
  go_upto_region 1 with fail
  go_still_tail 13, (by kernel_rfl)
  change wpList _ _ _ _ _ W.drew
  have HW : Below W.heap.size W W.drew := (Below.refl _ W).drew
  have HEY := Lib.hid (HEW.out.below HW)
  have HNY := Lib.hid (HNW.out.below HW HNW.out.lt)
  have HKY := Lib.hid (HKW.out.trans (Kp.of_below HW))
  clear HW c4 c6 c11 hlt HEW HNW HKW
  generalize W.drew = Y at HEY HNY HKY ⊢
  go_wp2_with fail
  refine (A1.out Y HEY.out.csr).mono ?_
  rintro e U ⟨rfl, hF, hg⟩
  have HEU := Lib.hid (HEY.out.csrs hF hg)
  have HNU := Lib.hid (Blk.kp HNY.out (kp_csrs (rb := rb) hg) HG.out)
  have HKU := Lib.hid (HKY.out.trans (kp_csrs hg))
  clear hF hg HEY HNY HKY
  have c10 : U.cell? ⟨j, 10, none⟩ = some (.int .u32 J.nx) := HEU.out.job.cell 10 _ rfl
  have hlt := HEU.out.job.lt
  go_wp2_with fail
  clear c10 hlt
  refine (done_any j rb cb i J p R _ J.nx U HEU.out).mono ?_
  rintro e V ⟨rfl, hE, hK⟩
  have HEV := Lib.hid hE
  have HNV := Lib.hid (Blk.kp HNU.out hK HG.out)
  have HKV := Lib.hid (HKU.out.trans hK)
  clear hE hK HEU HNU HKU
  go_simp
  rename_i hK
  refine hK _ _ ?_
  clear hK
  refine wpList_store_rowTo rfl 32 _ _ rfl rfl w.heap.size (Eff.cs (doneE J.nx)).toArray (by kernel_rfl) (by kernel_rfl) 32 zeroE.cs.toArray HNV.out (size_eff _) rfl (one_eff _) ?_
  obtain ⟨hE9, hK9, hN9⟩ := fin_eff HKV.out HEV.out HLT.out HNV.out (doneE J.nx)
  have HE9 := Lib.hid hE9
  have HK9 := Lib.hid hK9
  have HN9 := Lib.hid hN9
  clear hE9 hK9 hN9 HEV HKV HNV
  generalize World.setRow _ w.heap.size (Eff.cs (doneE J.nx)).toArray = W9 at HE9 HK9 HN9 ⊢
  go_wp2
  rw [← HQQ.out]
  exact bodyPost_ret (v := Eff.val (doneE J.nx)) (results_cell_row Tryz.results87 _ _ _ _ _ _ _ rfl HN9.out Tryz.underlying32 rfl (size_eff _)) rfl ⟨rfl, HE9.out, HK9.out⟩
theorem writec_no (j rb cb i : Nat) (J : Job) (p : Int) (R : List Int) (Q : List Nat) (w : World) (h : Env w j rb cb i J p R Q) (v : Nat) (hv : J.va = (v : Int)) (hl : v < 4294967296) (u : Int) (hz : Cs.errZ Q J.m 7 = u) (hu : u ≠ 0) :
    Calls Tryz.prog 87 #[.pointer (some ⟨j, 0, none⟩)] w fun e w' => e = .returned (Eff.val (trapE 1 (Is.encZ J.o J.d J.a J.b J.m))) ∧ Env w' j rb cb i J p R Q ∧ Kp [rb, cb] w w' := by
  have A1 := Cs.write_at cb i J.m v Q u Q hz (if_neg (by rw [hz]; exact hu)) hl
  have hu2 : (u != 0) = true := by simpa using hu
  clear hz hl hu
  have HRUN := eff_run w
  have HB := Lib.hid (eff_below w)
  have HN := Lib.hid (eff_blk w)
  have HLT := Lib.hid h.lts
  have HG := Lib.hid (not_old HLT.out)
  have HE := Lib.hid (h.below HB.out)
  have HK := Lib.hid (Kp.of_below (S := [rb, cb]) HB.out)
  clear h
  go_enter Tryz.func87, Tryz.ntmps87
  generalize hQQ : bodyPost _ _ _ = QQ
  have HQQ := Lib.hid hQQ
  clear hQQ
  go_upto_region 0 with fail
  refine wp_region_lit ?_
  refine Great.wpList_allocTo rfl (some 2) rfl (.pointer (some ⟨w.heap.size, 0, none⟩)) (.cells zeroE.cs.toArray 32) (HRUN.out _ _ rfl) ?_
  generalize hW : w.alloc (.cells zeroE.cs.toArray 32) = W at HB HN HE HK ⊢
  clear HRUN hW
  have HEW := HE
  have HNW := HN
  have HKW := HK
  clear HE HN HK
  have c4 : W.cell? ⟨j, 4, none⟩ = some (.int .i64 J.m) := HEW.out.job.cell 4 _ rfl
  have c6 : W.cell? ⟨j, 6, none⟩ = some (.pointer (some ⟨cb, 0, none⟩)) := HEW.out.job.cell 6 _ rfl
  have c11 : W.cell? ⟨j, 11, none⟩ = some (.int .u32 J.va) := HEW.out.job.cell 11 _ rfl
  have hlt := HEW.out.job.lt
  rw [hv] at c11
  go_upto_region 1 with fail
  go_still_tail 13, (by kernel_rfl)
  change wpList _ _ _ _ _ W.drew
  have HW : Below W.heap.size W W.drew := (Below.refl _ W).drew
  have HEY := Lib.hid (HEW.out.below HW)
  have HNY := Lib.hid (HNW.out.below HW HNW.out.lt)
  have HKY := Lib.hid (HKW.out.trans (Kp.of_below HW))
  clear HW c4 c6 c11 hlt HEW HNW HKW
  generalize W.drew = Y at HEY HNY HKY ⊢
  go_wp2_with fail
  refine (A1.out Y HEY.out.csr).mono ?_
  rintro e U ⟨rfl, hF, hg⟩
  have HEU := Lib.hid (HEY.out.csrs hF hg)
  have HNU := Lib.hid (Blk.kp HNY.out (kp_csrs (rb := rb) hg) HG.out)
  have HKU := Lib.hid (HKY.out.trans (kp_csrs hg))
  clear hF hg HEY HNY HKY
  have c0 : U.cell? ⟨j, 0, none⟩ = some (.int .i64 J.o) := HEU.out.job.cell 0 _ rfl
  have c1 : U.cell? ⟨j, 1, none⟩ = some (.int .i64 J.d) := HEU.out.job.cell 1 _ rfl
  have c2 : U.cell? ⟨j, 2, none⟩ = some (.int .i64 J.a) := HEU.out.job.cell 2 _ rfl
  have c3 : U.cell? ⟨j, 3, none⟩ = some (.int .i64 J.b) := HEU.out.job.cell 3 _ rfl
  have c4 : U.cell? ⟨j, 4, none⟩ = some (.int .i64 J.m) := HEU.out.job.cell 4 _ rfl
  have hlt := HEU.out.job.lt
  go_wp2_with fail
  clear c0 c1 c2 c3 c4 hlt
  refine (word_any J.o J.d J.a J.b J.m _ rfl U HEU.out.tab).mono ?_
  rintro e X ⟨rfl, hb⟩
  have HEX := Lib.hid (HEU.out.below hb)
  have HNX := Lib.hid (HNU.out.below hb HNU.out.lt)
  have HKX := Lib.hid (HKU.out.trans (Kp.of_below hb))
  clear hb HEU HNU HKU
  go_wp2_with fail
  refine (trap_any 1 (Is.encZ J.o J.d J.a J.b J.m) X).mono ?_
  rintro e V ⟨rfl, hb⟩
  have HEV := Lib.hid (HEX.out.below hb)
  have HNV := Lib.hid (HNX.out.below hb HNX.out.lt)
  have HKV := Lib.hid (HKX.out.trans (Kp.of_below hb))
  clear hb HEX HNX HKX
  go_simp
  rename_i hK
  refine hK _ _ ?_
  clear hK
  refine wpList_store_rowTo rfl 32 _ _ rfl rfl w.heap.size (Eff.cs (trapE 1 (Is.encZ J.o J.d J.a J.b J.m))).toArray (by kernel_rfl) (by kernel_rfl) 32 zeroE.cs.toArray HNV.out (size_eff _) rfl (one_eff _) ?_
  obtain ⟨hE9, hK9, hN9⟩ := fin_eff HKV.out HEV.out HLT.out HNV.out (trapE 1 (Is.encZ J.o J.d J.a J.b J.m))
  have HE9 := Lib.hid hE9
  have HK9 := Lib.hid hK9
  have HN9 := Lib.hid hN9
  clear hE9 hK9 hN9 HEV HKV HNV
  generalize World.setRow _ w.heap.size (Eff.cs (trapE 1 (Is.encZ J.o J.d J.a J.b J.m))).toArray = W9 at HE9 HK9 HN9 ⊢
  go_wp2
  rw [← HQQ.out]
  exact bodyPost_ret (v := Eff.val (trapE 1 (Is.encZ J.o J.d J.a J.b J.m))) (results_cell_row Tryz.results87 _ _ _ _ _ _ _ rfl HN9.out Tryz.underlying32 rfl (size_eff _)) rfl ⟨rfl, HE9.out, HK9.out⟩
end Go.Proofs.YtniaclhmfmkikaaGreatDoor.Ex
end
