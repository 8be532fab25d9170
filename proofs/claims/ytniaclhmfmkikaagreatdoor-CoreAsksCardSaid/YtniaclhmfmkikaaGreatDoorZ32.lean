/- Several texts in one: Vw Vx -/
import Derived.Test.YtniaclhmfmkikaaGreatDoorZ22
import Derived.Test.YtniaclhmfmkikaaGreatDoorZ23
import Derived.Test.YtniaclhmfmkikaaGreatDoorZ24
import Derived.Test.YtniaclhmfmkikaaGreatDoorZ25
import Derived.Test.YtniaclhmfmkikaaGreatDoorZ26
import Derived.Test.YtniaclhmfmkikaaGreatDoorZ31
section
/- The document's core: Exec. -/
namespace Go.Proofs.YtniaclhmfmkikaaGreatDoor.Ex
open Go.RowKit Ut
set_option maxRecDepth 100000
set_option linter.unusedVariables false
set_option maxHeartbeats 4000000

theorem refEx_form (o d a b m : Int) (ab bb i : Nat) (p : Int) (R : List Int) (Q : List Nat) (clock : Int) (w : World) (h : Doc w ab bb i p R Q) (hv : Is.validB o d a b m = false) :
    Calls Tryz.prog 9 #[Is.insV o d a b m, .pointer (some ⟨ab, 0, none⟩), .pointer (some ⟨bb, 0, none⟩), .int .i64 clock] w fun e w' => e = .returned (.tuple #[Eff.val (zeroE), .int .i64 6]) ∧ Doc w' ab bb i p R Q ∧ Kp [ab, bb] w w' := by
  obtain ⟨U, hU, hb, hI, hN, hs⟩ := two_new w o d a b m
  have HU := Lib.hid hU
  have HEU := Lib.hid (h.below hb)
  have HIU := Lib.hid hI
  have HNU := Lib.hid hN
  have HKU := Lib.hid (Kp.of_below (S := [ab, bb]) hb)
  have HLT := Lib.hid h.lts
  have HG := Lib.hid (not_old2 HLT.out).2
  have HR2 := eff_run2 (Is.insW o d a b m w)
  obtain ⟨r0, r1, r2, r3, r4⟩ := hI.cells
  have hlt := hI.lt
  have HV : Hid (∀ V, Calls Tryz.prog 20 #[Is.insV o d a b m] V fun e w' => e = .returned (.bool false) ∧ Below V.heap.size V w') := Lib.hid fun V => Is.refValid_any o d a b m false hv V
  clear h hU hb hI hN hs hv
  go_enter Tryz.func9, Tryz.ntmps9
  generalize hQQ : bodyPost _ _ _ = QQ
  have HQQ := Lib.hid hQQ
  clear hQQ
  go_upto_region 0 with fail
  refine wp_region_lit ?_
  refine Great.wpList_boxTo rfl 37 _ rfl _ rfl w.heap.size rfl #[.int .i64 o, .int .i64 d, .int .i64 a, .int .i64 b, .int .i64 m] rfl ?_
  refine Great.wpList_allocTo rfl (some 8) rfl (.pointer (some ⟨w.heap.size + 1, 0, none⟩)) (.cells zeroE.cs.toArray 32) (HR2.out _ _ rfl _ (by simp)) ?_
  rw [show (w.alloc (.cells #[.int .i64 o, .int .i64 d, .int .i64 a, .int .i64 b, .int .i64 m] 37)).alloc (.cells zeroE.cs.toArray 32) = U from HU.out.symm]
  clear HR2 HU
  go_wp2_with fail
  clear r0 r1 r2 r3 r4 hlt
  refine (HV.out U).mono ?_
  rintro e V ⟨rfl, hb⟩
  have HEV := Lib.hid (HEU.out.below hb)
  have HIV := Lib.hid (HIU.out.more hb)
  have HNV := Lib.hid (HNU.out.below hb HNU.out.lt)
  have HKV := Lib.hid (HKU.out.trans (Kp.of_below hb))
  clear hb HEU HIU HNU HKU
  go_upto_region 2 with fail
  refine wp_region_lit ?_
  refine wpList_buildTo rfl 32 _ rfl _ rfl zeroE.cs.toArray (by kernel_rfl) ?_
  refine wpList_store_rowTo rfl 32 _ _ rfl rfl (w.heap.size + 1) (Eff.cs (zeroE)).toArray (by kernel_rfl) (by kernel_rfl) 32 zeroE.cs.toArray HNV.out (size_eff _) rfl (one_eff _) ?_
  obtain ⟨hE9, hK9, hN9⟩ := fin_doc HKV.out HEV.out HLT.out (Nat.le_succ _) HNV.out (zeroE)
  have HE9 := Lib.hid hE9
  have HK9 := Lib.hid hK9
  have HN9 := Lib.hid hN9
  clear hE9 hK9 hN9 HEV HKV HNV
  generalize World.setRow _ (w.heap.size + 1) (Eff.cs (zeroE)).toArray = W9 at HE9 HK9 HN9 ⊢
  go_wp2
  rw [← HQQ.out]
  exact bodyPost_ret (v := .tuple #[Eff.val (zeroE), .int .i64 6]) (results_cell_two Tryz.results9 _ _ _ _ _ _ _ rfl _ rfl HN9.out Tryz.underlying32 rfl (size_eff _)) rfl ⟨rfl, HE9.out, HK9.out⟩
theorem refEx_forb (o d a b m : Int) (ab bb i : Nat) (p : Int) (R : List Int) (Q : List Nat) (clock : Int) (w : World) (h : Doc w ab bb i p R Q) (hv : Is.validB o d a b m = true) (hk : Is.kernB o = true) (hq : Cs.hasB (Cs.st Q) 4 = false) :
    Calls Tryz.prog 9 #[Is.insV o d a b m, .pointer (some ⟨ab, 0, none⟩), .pointer (some ⟨bb, 0, none⟩), .int .i64 clock] w fun e w' => e = .returned (.tuple #[Eff.val (trapE 7 (Is.encZ o d a b m)), .int .i64 0]) ∧ Doc w' ab bb i p R Q ∧ Kp [ab, bb] w w' := by
  obtain ⟨U, hU, hb, hI, hN, hs⟩ := two_new w o d a b m
  have HU := Lib.hid hU
  have HEU := Lib.hid (h.below hb)
  have HIU := Lib.hid hI
  have HNU := Lib.hid hN
  have HKU := Lib.hid (Kp.of_below (S := [ab, bb]) hb)
  have HLT := Lib.hid h.lts
  have HG := Lib.hid (not_old2 HLT.out).2
  have HR2 := eff_run2 (Is.insW o d a b m w)
  obtain ⟨r0, r1, r2, r3, r4⟩ := hI.cells
  have hlt := hI.lt
  have HV : Hid (∀ V, Calls Tryz.prog 20 #[Is.insV o d a b m] V fun e w' => e = .returned (.bool true) ∧ Below V.heap.size V w') := Lib.hid fun V => Is.refValid_any o d a b m true hv V
  have HKN : Hid (∀ V, Calls Tryz.prog 32 #[.int .i64 o] V fun e w' => e = .returned (.bool true) ∧ V = w') := Lib.hid fun V => Is.refKernel_any o true hk V
  obtain ⟨on, hon⟩ : ∃ q, Cs.hasB (Q.getD 0 0) 1 = q := ⟨_, rfl⟩
  obtain ⟨root, hroot⟩ : ∃ q, Cs.rootN (Q.getD 0 0) = q := ⟨_, rfl⟩
  have hM : Cs.modeV Q = .agg #[.bool on, .int .i64 (root : Int), .bool true] := by
    rw [← hon, ← hroot]
    show Cs.mV _ _ (!Cs.hasB (Cs.st Q) 4) = _
    rw [hq]
    rfl
  have HM : Hid (∀ V, Cs.RAt V bb i Q → Calls Tryz.prog 33 #[.pointer (some ⟨bb, 0, none⟩)] V fun e w' => e = .returned (.agg #[.bool on, .int .i64 (root : Int), .bool true]) ∧ Below V.heap.size V w') := Lib.hid fun V hV => by
    have := Cs.refMode_any bb i Q V hV
    rw [hM] at this
    exact this
  have hfd : ∀ V, (Instr.field 74 (.agg #[.bool on, .int .i64 (root : Int), .bool true]) 2).run Tryz.prog V = .ok (.bool true) V := fun V => by kernel_rfl
  clear hq hon hroot hM
  clear hk
  clear h hU hb hI hN hs hv
  go_enter Tryz.func9, Tryz.ntmps9
  generalize hQQ : bodyPost _ _ _ = QQ
  have HQQ := Lib.hid hQQ
  clear hQQ
  go_upto_region 0 with fail
  refine wp_region_lit ?_
  refine Great.wpList_boxTo rfl 37 _ rfl _ rfl w.heap.size rfl #[.int .i64 o, .int .i64 d, .int .i64 a, .int .i64 b, .int .i64 m] rfl ?_
  refine Great.wpList_allocTo rfl (some 8) rfl (.pointer (some ⟨w.heap.size + 1, 0, none⟩)) (.cells zeroE.cs.toArray 32) (HR2.out _ _ rfl _ (by simp)) ?_
  rw [show (w.alloc (.cells #[.int .i64 o, .int .i64 d, .int .i64 a, .int .i64 b, .int .i64 m] 37)).alloc (.cells zeroE.cs.toArray 32) = U from HU.out.symm]
  clear HR2 HU
  go_wp2_with fail
  clear r0 r1 r2 r3 r4 hlt
  refine (HV.out U).mono ?_
  rintro e V ⟨rfl, hb⟩
  have HEV := Lib.hid (HEU.out.below hb)
  have HIV := Lib.hid (HIU.out.more hb)
  have HNV := Lib.hid (HNU.out.below hb HNU.out.lt)
  have HKV := Lib.hid (HKU.out.trans (Kp.of_below hb))
  clear hb HEU HIU HNU HKU
  obtain ⟨r0, r1, r2, r3, r4⟩ := HIV.out.cells
  have hlt := HIV.out.lt
  go_wp2_with fail
  refine (HKN.out V).mono ?_
  rintro e w1 ⟨rfl, rfl⟩
  go_wp2_with fail
  clear r0 r1 r2 r3 r4 hlt
  refine (HM.out V HEV.out.csr).mono ?_
  rintro e X ⟨rfl, hb⟩
  have HEX := Lib.hid (HEV.out.below hb)
  have HIX := Lib.hid (HIV.out.more hb)
  have HNX := Lib.hid (HNV.out.below hb HNV.out.lt)
  have HKX := Lib.hid (HKV.out.trans (Kp.of_below hb))
  clear hb HEV HIV HNV HKV
  obtain ⟨r0, r1, r2, r3, r4⟩ := HIX.out.cells
  have hlt := HIX.out.lt
  go_wp2_with fail
  clear r0 r1 r2 r3 r4 hlt
  refine (refWord_any o d a b m _ rfl X).mono ?_
  rintro e Y ⟨rfl, hb⟩
  have HEY := Lib.hid (HEX.out.below hb)
  have HIY := Lib.hid (HIX.out.more hb)
  have HNY := Lib.hid (HNX.out.below hb HNX.out.lt)
  have HKY := Lib.hid (HKX.out.trans (Kp.of_below hb))
  clear hb HEX HIX HNX HKX
  go_wp2_with fail
  refine (refTrap_any 7 (Is.encZ o d a b m) Y).mono ?_
  rintro e Z ⟨rfl, hb⟩
  have HEZ := Lib.hid (HEY.out.below hb)
  have HIZ := Lib.hid (HIY.out.more hb)
  have HNZ := Lib.hid (HNY.out.below hb HNY.out.lt)
  have HKZ := Lib.hid (HKY.out.trans (Kp.of_below hb))
  clear hb HEY HIY HNY HKY
  go_simp
  rename_i hK
  refine hK _ _ ?_
  clear hK
  refine wpList_store_rowTo rfl 32 _ _ rfl rfl (w.heap.size + 1) (Eff.cs (trapE 7 (Is.encZ o d a b m))).toArray (by kernel_rfl) (by kernel_rfl) 32 zeroE.cs.toArray HNZ.out (size_eff _) rfl (one_eff _) ?_
  obtain ⟨hE9, hK9, hN9⟩ := fin_doc HKZ.out HEZ.out HLT.out (Nat.le_succ _) HNZ.out (trapE 7 (Is.encZ o d a b m))
  have HE9 := Lib.hid hE9
  have HK9 := Lib.hid hK9
  have HN9 := Lib.hid hN9
  clear hE9 hK9 hN9 HEZ HKZ HNZ
  generalize World.setRow _ (w.heap.size + 1) (Eff.cs (trapE 7 (Is.encZ o d a b m))).toArray = W9 at HE9 HK9 HN9 ⊢
  go_wp2
  rw [← HQQ.out]
  exact bodyPost_ret (v := .tuple #[Eff.val (trapE 7 (Is.encZ o d a b m)), .int .i64 0]) (results_cell_two Tryz.results9 _ _ _ _ _ _ _ rfl _ rfl HN9.out Tryz.underlying32 rfl (size_eff _)) rfl ⟨rfl, HE9.out, HK9.out⟩
theorem refEx_reck (o d a b m : Int) (ab bb i : Nat) (p : Int) (R : List Int) (Q : List Nat) (clock : Int) (w : World) (h : Doc w ab bb i p R Q) (v : Int) (hr : ∀ V, Doc V ab bb i p R Q → Calls Tryz.prog 35 #[Is.insV o d a b m, .pointer (some ⟨ab, 0, none⟩)] V fun e w' => e = .returned (.tuple #[.int .u32 v, .bool true]) ∧ Below V.heap.size V w') (hv : Is.validB o d a b m = true) (hk : Is.kernB o = false) :
    Calls Tryz.prog 9 #[Is.insV o d a b m, .pointer (some ⟨ab, 0, none⟩), .pointer (some ⟨bb, 0, none⟩), .int .i64 clock] w fun e w' => e = .returned (.tuple #[Eff.val (doneE (nxt p)), .int .i64 0]) ∧ Doc w' ab bb i (nxt p) (Rg.setR R d v) Q ∧ Kp [ab, bb] w w' := by
  obtain ⟨U, hU, hb, hI, hN, hs⟩ := two_new w o d a b m
  have HU := Lib.hid hU
  have HEU := Lib.hid (h.below hb)
  have HIU := Lib.hid hI
  have HNU := Lib.hid hN
  have HKU := Lib.hid (Kp.of_below (S := [ab, bb]) hb)
  have HLT := Lib.hid h.lts
  have HG := Lib.hid (not_old2 HLT.out).2
  have HR2 := eff_run2 (Is.insW o d a b m w)
  obtain ⟨r0, r1, r2, r3, r4⟩ := hI.cells
  have hlt := hI.lt
  have HV : Hid (∀ V, Calls Tryz.prog 20 #[Is.insV o d a b m] V fun e w' => e = .returned (.bool true) ∧ Below V.heap.size V w') := Lib.hid fun V => Is.refValid_any o d a b m true hv V
  have HKN : Hid (∀ V, Calls Tryz.prog 32 #[.int .i64 o] V fun e w' => e = .returned (.bool false) ∧ V = w') := Lib.hid fun V => Is.refKernel_any o false hk V
  clear hk
  have HRK := Lib.hid hr
  clear hr
  have HX1 : Hid ((p + 4) % 4294967296 = nxt p) := Lib.hid rfl
  clear h hU hb hI hN hs hv
  go_enter Tryz.func9, Tryz.ntmps9
  generalize hQQ : bodyPost _ _ _ = QQ
  have HQQ := Lib.hid hQQ
  clear hQQ
  go_upto_region 0 with fail
  refine wp_region_lit ?_
  refine Great.wpList_boxTo rfl 37 _ rfl _ rfl w.heap.size rfl #[.int .i64 o, .int .i64 d, .int .i64 a, .int .i64 b, .int .i64 m] rfl ?_
  refine Great.wpList_allocTo rfl (some 8) rfl (.pointer (some ⟨w.heap.size + 1, 0, none⟩)) (.cells zeroE.cs.toArray 32) (HR2.out _ _ rfl _ (by simp)) ?_
  rw [show (w.alloc (.cells #[.int .i64 o, .int .i64 d, .int .i64 a, .int .i64 b, .int .i64 m] 37)).alloc (.cells zeroE.cs.toArray 32) = U from HU.out.symm]
  clear HR2 HU
  go_wp2_with fail
  clear r0 r1 r2 r3 r4 hlt
  refine (HV.out U).mono ?_
  rintro e V ⟨rfl, hb⟩
  have HEV := Lib.hid (HEU.out.below hb)
  have HIV := Lib.hid (HIU.out.more hb)
  have HNV := Lib.hid (HNU.out.below hb HNU.out.lt)
  have HKV := Lib.hid (HKU.out.trans (Kp.of_below hb))
  clear hb HEU HIU HNU HKU
  obtain ⟨r0, r1, r2, r3, r4⟩ := HIV.out.cells
  have hlt := HIV.out.lt
  go_wp2_with fail
  refine (HKN.out V).mono ?_
  rintro e w1 ⟨rfl, rfl⟩
  go_wp2_with fail
  clear r0 r1 r2 r3 r4 hlt
  refine (HRK.out V HEV.out).mono ?_
  rintro e X ⟨rfl, hb⟩
  have HEX := Lib.hid (HEV.out.below hb)
  have HIX := Lib.hid (HIV.out.more hb)
  have HNX := Lib.hid (HNV.out.below hb HNV.out.lt)
  have HKX := Lib.hid (HKV.out.trans (Kp.of_below hb))
  clear hb HEV HIV HNV HKV
  obtain ⟨r0, r1, r2, r3, r4⟩ := HIX.out.cells
  have hlt := HIX.out.lt
  go_wp2_with fail
  clear r0 r1 r2 r3 r4 hlt
  refine (Rg.refSet_any ab p d v R X HEX.out.reg).mono ?_
  rintro e Y ⟨rfl, hF, hg⟩
  have HEY := Lib.hid (HEX.out.regs hF hg)
  have HNY := Lib.hid (Blk.kp HNX.out (Kp.of_grown (S := [ab, bb]) hg (by simp)) HG.out)
  have HKY := Lib.hid (HKX.out.trans (Kp.of_grown (S := [ab, bb]) hg (by simp)))
  clear hF hg HEX HNX HKX HIX
  have c16 : Y.cell? ⟨ab, 16, none⟩ = some (.int .u32 p) := HEY.out.reg.pc
  have hla := HEY.out.reg.1.lt
  go_wp2_with fail
  rw [HX1.out]
  clear c16 hla
  refine (refDone_any ab bb i p (nxt p) _ Q Y HEY.out).mono ?_
  rintro e Z ⟨rfl, hE, hK⟩
  have HEZ := Lib.hid hE
  have HNZ := Lib.hid (Blk.kp HNY.out hK HG.out)
  have HKZ := Lib.hid (HKY.out.trans hK)
  clear hE hK HEY HNY HKY
  go_simp
  rename_i hK
  refine hK _ _ ?_
  clear hK
  refine wpList_store_rowTo rfl 32 _ _ rfl rfl (w.heap.size + 1) (Eff.cs (doneE (nxt p))).toArray (by kernel_rfl) (by kernel_rfl) 32 zeroE.cs.toArray HNZ.out (size_eff _) rfl (one_eff _) ?_
  obtain ⟨hE9, hK9, hN9⟩ := fin_doc HKZ.out HEZ.out HLT.out (Nat.le_succ _) HNZ.out (doneE (nxt p))
  have HE9 := Lib.hid hE9
  have HK9 := Lib.hid hK9
  have HN9 := Lib.hid hN9
  clear hE9 hK9 hN9 HEZ HKZ HNZ
  generalize World.setRow _ (w.heap.size + 1) (Eff.cs (doneE (nxt p))).toArray = W9 at HE9 HK9 HN9 ⊢
  go_wp2
  rw [← HQQ.out]
  exact bodyPost_ret (v := .tuple #[Eff.val (doneE (nxt p)), .int .i64 0]) (results_cell_two Tryz.results9 _ _ _ _ _ _ _ rfl _ rfl HN9.out Tryz.underlying32 rfl (size_eff _)) rfl ⟨rfl, HE9.out, HK9.out⟩
theorem refEx_acc (o d a b m : Int) (ab bb i : Nat) (p : Int) (R : List Int) (Q : List Nat) (clock : Int) (w : World) (h : Doc w ab bb i p R Q) (E : Eff) (p' : Int) (R' : List Int) (Q' : List Nat) (hc : ∀ V, Doc V ab bb i p R Q → Calls Tryz.prog 37 #[Is.insV o d a b m, .pointer (some ⟨ab, 0, none⟩)] V fun e w' => e = .returned E.val ∧ Doc w' ab bb i p' R' Q' ∧ Kp [ab, bb] V w') (ho : 23 ≤ o ∧ o ≤ 27) (v : Int) (hr : ∀ V, Doc V ab bb i p R Q → Calls Tryz.prog 35 #[Is.insV o d a b m, .pointer (some ⟨ab, 0, none⟩)] V fun e w' => e = .returned (.tuple #[.int .u32 v, .bool false]) ∧ Below V.heap.size V w') (hv : Is.validB o d a b m = true) (hk : Is.kernB o = false) :
    Calls Tryz.prog 9 #[Is.insV o d a b m, .pointer (some ⟨ab, 0, none⟩), .pointer (some ⟨bb, 0, none⟩), .int .i64 clock] w fun e w' => e = .returned (.tuple #[Eff.val (E), .int .i64 0]) ∧ Doc w' ab bb i p' R' Q' ∧ Kp [ab, bb] w w' := by
  obtain ⟨U, hU, hb, hI, hN, hs⟩ := two_new w o d a b m
  have HU := Lib.hid hU
  have HEU := Lib.hid (h.below hb)
  have HIU := Lib.hid hI
  have HNU := Lib.hid hN
  have HKU := Lib.hid (Kp.of_below (S := [ab, bb]) hb)
  have HLT := Lib.hid h.lts
  have HG := Lib.hid (not_old2 HLT.out).2
  have HR2 := eff_run2 (Is.insW o d a b m w)
  obtain ⟨r0, r1, r2, r3, r4⟩ := hI.cells
  have hlt := hI.lt
  have HV : Hid (∀ V, Calls Tryz.prog 20 #[Is.insV o d a b m] V fun e w' => e = .returned (.bool true) ∧ Below V.heap.size V w') := Lib.hid fun V => Is.refValid_any o d a b m true hv V
  have HKN : Hid (∀ V, Calls Tryz.prog 32 #[.int .i64 o] V fun e w' => e = .returned (.bool false) ∧ V = w') := Lib.hid fun V => Is.refKernel_any o false hk V
  clear hk
  have HRK := Lib.hid hr
  clear hr
  have HCL := Lib.hid hc
  clear hc
  obtain ⟨g1, g2⟩ := ho
  clear h hU hb hI hN hs hv
  go_enter Tryz.func9, Tryz.ntmps9
  generalize hQQ : bodyPost _ _ _ = QQ
  have HQQ := Lib.hid hQQ
  clear hQQ
  go_upto_region 0 with fail
  refine wp_region_lit ?_
  refine Great.wpList_boxTo rfl 37 _ rfl _ rfl w.heap.size rfl #[.int .i64 o, .int .i64 d, .int .i64 a, .int .i64 b, .int .i64 m] rfl ?_
  refine Great.wpList_allocTo rfl (some 8) rfl (.pointer (some ⟨w.heap.size + 1, 0, none⟩)) (.cells zeroE.cs.toArray 32) (HR2.out _ _ rfl _ (by simp)) ?_
  rw [show (w.alloc (.cells #[.int .i64 o, .int .i64 d, .int .i64 a, .int .i64 b, .int .i64 m] 37)).alloc (.cells zeroE.cs.toArray 32) = U from HU.out.symm]
  clear HR2 HU
  go_wp2_with fail
  clear r0 r1 r2 r3 r4 hlt
  refine (HV.out U).mono ?_
  rintro e V ⟨rfl, hb⟩
  have HEV := Lib.hid (HEU.out.below hb)
  have HIV := Lib.hid (HIU.out.more hb)
  have HNV := Lib.hid (HNU.out.below hb HNU.out.lt)
  have HKV := Lib.hid (HKU.out.trans (Kp.of_below hb))
  clear hb HEU HIU HNU HKU
  obtain ⟨r0, r1, r2, r3, r4⟩ := HIV.out.cells
  have hlt := HIV.out.lt
  go_wp2_with fail
  refine (HKN.out V).mono ?_
  rintro e w1 ⟨rfl, rfl⟩
  go_wp2_with fail
  clear r0 r1 r2 r3 r4 hlt
  refine (HRK.out V HEV.out).mono ?_
  rintro e Y ⟨rfl, hb⟩
  have HEY := Lib.hid (HEV.out.below hb)
  have HIY := Lib.hid (HIV.out.more hb)
  have HNY := Lib.hid (HNV.out.below hb HNV.out.lt)
  have HKY := Lib.hid (HKV.out.trans (Kp.of_below hb))
  clear hb HEV HIV HNV HKV
  obtain ⟨r0, r1, r2, r3, r4⟩ := HIY.out.cells
  have hlt := HIY.out.lt
  go_wp2_with fail
  clear r0 r1 r2 r3 r4 hlt
  refine (HCL.out Y HEY.out).mono ?_
  rintro e Z ⟨rfl, hE, hK⟩
  have HEZ := Lib.hid hE
  have HNZ := Lib.hid (Blk.kp HNY.out hK HG.out)
  have HKZ := Lib.hid (HKY.out.trans hK)
  clear hE hK HEY HNY HKY
  go_simp
  rename_i hK
  refine hK _ _ ?_
  clear hK
  refine wpList_store_rowTo rfl 32 _ _ rfl rfl (w.heap.size + 1) (Eff.cs (E)).toArray (by kernel_rfl) (by kernel_rfl) 32 zeroE.cs.toArray HNZ.out (size_eff _) rfl (one_eff _) ?_
  obtain ⟨hE9, hK9, hN9⟩ := fin_doc HKZ.out HEZ.out HLT.out (Nat.le_succ _) HNZ.out (E)
  have HE9 := Lib.hid hE9
  have HK9 := Lib.hid hK9
  have HN9 := Lib.hid hN9
  clear hE9 hK9 hN9 HEZ HKZ HNZ
  generalize World.setRow _ (w.heap.size + 1) (Eff.cs (E)).toArray = W9 at HE9 HK9 HN9 ⊢
  go_wp2
  rw [← HQQ.out]
  exact bodyPost_ret (v := .tuple #[Eff.val (E), .int .i64 0]) (results_cell_two Tryz.results9 _ _ _ _ _ _ _ rfl _ rfl HN9.out Tryz.underlying32 rfl (size_eff _)) rfl ⟨rfl, HE9.out, HK9.out⟩
theorem refEx_jump (o d a b m : Int) (ab bb i : Nat) (p : Int) (R : List Int) (Q : List Nat) (clock : Int) (w : World) (h : Doc w ab bb i p R Q) (E : Eff) (p' : Int) (R' : List Int) (Q' : List Nat) (hc : ∀ V, Doc V ab bb i p R Q → Calls Tryz.prog 38 #[Is.insV o d a b m, .pointer (some ⟨ab, 0, none⟩)] V fun e w' => e = .returned E.val ∧ Doc w' ab bb i p' R' Q' ∧ Kp [ab, bb] V w') (ho : 28 ≤ o ∧ o ≤ 33) (v : Int) (hr : ∀ V, Doc V ab bb i p R Q → Calls Tryz.prog 35 #[Is.insV o d a b m, .pointer (some ⟨ab, 0, none⟩)] V fun e w' => e = .returned (.tuple #[.int .u32 v, .bool false]) ∧ Below V.heap.size V w') (hv : Is.validB o d a b m = true) (hk : Is.kernB o = false) :
    Calls Tryz.prog 9 #[Is.insV o d a b m, .pointer (some ⟨ab, 0, none⟩), .pointer (some ⟨bb, 0, none⟩), .int .i64 clock] w fun e w' => e = .returned (.tuple #[Eff.val (E), .int .i64 0]) ∧ Doc w' ab bb i p' R' Q' ∧ Kp [ab, bb] w w' := by
  obtain ⟨U, hU, hb, hI, hN, hs⟩ := two_new w o d a b m
  have HU := Lib.hid hU
  have HEU := Lib.hid (h.below hb)
  have HIU := Lib.hid hI
  have HNU := Lib.hid hN
  have HKU := Lib.hid (Kp.of_below (S := [ab, bb]) hb)
  have HLT := Lib.hid h.lts
  have HG := Lib.hid (not_old2 HLT.out).2
  have HR2 := eff_run2 (Is.insW o d a b m w)
  obtain ⟨r0, r1, r2, r3, r4⟩ := hI.cells
  have hlt := hI.lt
  have HV : Hid (∀ V, Calls Tryz.prog 20 #[Is.insV o d a b m] V fun e w' => e = .returned (.bool true) ∧ Below V.heap.size V w') := Lib.hid fun V => Is.refValid_any o d a b m true hv V
  have HKN : Hid (∀ V, Calls Tryz.prog 32 #[.int .i64 o] V fun e w' => e = .returned (.bool false) ∧ V = w') := Lib.hid fun V => Is.refKernel_any o false hk V
  clear hk
  have HRK := Lib.hid hr
  clear hr
  have HCL := Lib.hid hc
  clear hc
  obtain ⟨g3, g4⟩ := ho
  have g1 : 23 ≤ o := by omega
  have g2 : ¬ o ≤ 27 := by omega
  clear h hU hb hI hN hs hv
  go_enter Tryz.func9, Tryz.ntmps9
  generalize hQQ : bodyPost _ _ _ = QQ
  have HQQ := Lib.hid hQQ
  clear hQQ
  go_upto_region 0 with fail
  refine wp_region_lit ?_
  refine Great.wpList_boxTo rfl 37 _ rfl _ rfl w.heap.size rfl #[.int .i64 o, .int .i64 d, .int .i64 a, .int .i64 b, .int .i64 m] rfl ?_
  refine Great.wpList_allocTo rfl (some 8) rfl (.pointer (some ⟨w.heap.size + 1, 0, none⟩)) (.cells zeroE.cs.toArray 32) (HR2.out _ _ rfl _ (by simp)) ?_
  rw [show (w.alloc (.cells #[.int .i64 o, .int .i64 d, .int .i64 a, .int .i64 b, .int .i64 m] 37)).alloc (.cells zeroE.cs.toArray 32) = U from HU.out.symm]
  clear HR2 HU
  go_wp2_with fail
  clear r0 r1 r2 r3 r4 hlt
  refine (HV.out U).mono ?_
  rintro e V ⟨rfl, hb⟩
  have HEV := Lib.hid (HEU.out.below hb)
  have HIV := Lib.hid (HIU.out.more hb)
  have HNV := Lib.hid (HNU.out.below hb HNU.out.lt)
  have HKV := Lib.hid (HKU.out.trans (Kp.of_below hb))
  clear hb HEU HIU HNU HKU
  obtain ⟨r0, r1, r2, r3, r4⟩ := HIV.out.cells
  have hlt := HIV.out.lt
  go_wp2_with fail
  refine (HKN.out V).mono ?_
  rintro e w1 ⟨rfl, rfl⟩
  go_wp2_with fail
  clear r0 r1 r2 r3 r4 hlt
  refine (HRK.out V HEV.out).mono ?_
  rintro e Y ⟨rfl, hb⟩
  have HEY := Lib.hid (HEV.out.below hb)
  have HIY := Lib.hid (HIV.out.more hb)
  have HNY := Lib.hid (HNV.out.below hb HNV.out.lt)
  have HKY := Lib.hid (HKV.out.trans (Kp.of_below hb))
  clear hb HEV HIV HNV HKV
  obtain ⟨r0, r1, r2, r3, r4⟩ := HIY.out.cells
  have hlt := HIY.out.lt
  go_wp2_with fail
  clear r0 r1 r2 r3 r4 hlt
  refine (HCL.out Y HEY.out).mono ?_
  rintro e Z ⟨rfl, hE, hK⟩
  have HEZ := Lib.hid hE
  have HNZ := Lib.hid (Blk.kp HNY.out hK HG.out)
  have HKZ := Lib.hid (HKY.out.trans hK)
  clear hE hK HEY HNY HKY
  go_simp
  rename_i hK
  refine hK _ _ ?_
  clear hK
  refine wpList_store_rowTo rfl 32 _ _ rfl rfl (w.heap.size + 1) (Eff.cs (E)).toArray (by kernel_rfl) (by kernel_rfl) 32 zeroE.cs.toArray HNZ.out (size_eff _) rfl (one_eff _) ?_
  obtain ⟨hE9, hK9, hN9⟩ := fin_doc HKZ.out HEZ.out HLT.out (Nat.le_succ _) HNZ.out (E)
  have HE9 := Lib.hid hE9
  have HK9 := Lib.hid hK9
  have HN9 := Lib.hid hN9
  clear hE9 hK9 hN9 HEZ HKZ HNZ
  generalize World.setRow _ (w.heap.size + 1) (Eff.cs (E)).toArray = W9 at HE9 HK9 HN9 ⊢
  go_wp2
  rw [← HQQ.out]
  exact bodyPost_ret (v := .tuple #[Eff.val (E), .int .i64 0]) (results_cell_two Tryz.results9 _ _ _ _ _ _ _ rfl _ rfl HN9.out Tryz.underlying32 rfl (size_eff _)) rfl ⟨rfl, HE9.out, HK9.out⟩
theorem refEx_sysu (o d a b m : Int) (ab bb i : Nat) (p : Int) (R : List Int) (Q : List Nat) (clock : Int) (w : World) (h : Doc w ab bb i p R Q) (E : Eff) (p' : Int) (R' : List Int) (Q' : List Nat) (hc : ∀ V, Doc V ab bb i p R Q → Calls Tryz.prog 39 #[Is.insV o d a b m, .pointer (some ⟨ab, 0, none⟩), .pointer (some ⟨bb, 0, none⟩), .int .i64 clock] V fun e w' => e = .returned E.val ∧ Doc w' ab bb i p' R' Q' ∧ Kp [ab, bb] V w') (ho : 34 ≤ o) (v : Int) (hr : ∀ V, Doc V ab bb i p R Q → Calls Tryz.prog 35 #[Is.insV o d a b m, .pointer (some ⟨ab, 0, none⟩)] V fun e w' => e = .returned (.tuple #[.int .u32 v, .bool false]) ∧ Below V.heap.size V w') (hv : Is.validB o d a b m = true) (hk : Is.kernB o = false) :
    Calls Tryz.prog 9 #[Is.insV o d a b m, .pointer (some ⟨ab, 0, none⟩), .pointer (some ⟨bb, 0, none⟩), .int .i64 clock] w fun e w' => e = .returned (.tuple #[Eff.val (E), .int .i64 0]) ∧ Doc w' ab bb i p' R' Q' ∧ Kp [ab, bb] w w' := by
  obtain ⟨U, hU, hb, hI, hN, hs⟩ := two_new w o d a b m
  have HU := Lib.hid hU
  have HEU := Lib.hid (h.below hb)
  have HIU := Lib.hid hI
  have HNU := Lib.hid hN
  have HKU := Lib.hid (Kp.of_below (S := [ab, bb]) hb)
  have HLT := Lib.hid h.lts
  have HG := Lib.hid (not_old2 HLT.out).2
  have HR2 := eff_run2 (Is.insW o d a b m w)
  obtain ⟨r0, r1, r2, r3, r4⟩ := hI.cells
  have hlt := hI.lt
  have HV : Hid (∀ V, Calls Tryz.prog 20 #[Is.insV o d a b m] V fun e w' => e = .returned (.bool true) ∧ Below V.heap.size V w') := Lib.hid fun V => Is.refValid_any o d a b m true hv V
  have HKN : Hid (∀ V, Calls Tryz.prog 32 #[.int .i64 o] V fun e w' => e = .returned (.bool false) ∧ V = w') := Lib.hid fun V => Is.refKernel_any o false hk V
  clear hk
  have HRK := Lib.hid hr
  clear hr
  have HCL := Lib.hid hc
  clear hc
  have g1 : 23 ≤ o := by omega
  have g2 : ¬ o ≤ 27 := by omega
  have g3 : 28 ≤ o := by omega
  have g4 : ¬ o ≤ 33 := by omega
  clear ho
  clear h hU hb hI hN hs hv
  go_enter Tryz.func9, Tryz.ntmps9
  generalize hQQ : bodyPost _ _ _ = QQ
  have HQQ := Lib.hid hQQ
  clear hQQ
  go_upto_region 0 with fail
  refine wp_region_lit ?_
  refine Great.wpList_boxTo rfl 37 _ rfl _ rfl w.heap.size rfl #[.int .i64 o, .int .i64 d, .int .i64 a, .int .i64 b, .int .i64 m] rfl ?_
  refine Great.wpList_allocTo rfl (some 8) rfl (.pointer (some ⟨w.heap.size + 1, 0, none⟩)) (.cells zeroE.cs.toArray 32) (HR2.out _ _ rfl _ (by simp)) ?_
  rw [show (w.alloc (.cells #[.int .i64 o, .int .i64 d, .int .i64 a, .int .i64 b, .int .i64 m] 37)).alloc (.cells zeroE.cs.toArray 32) = U from HU.out.symm]
  clear HR2 HU
  go_wp2_with fail
  clear r0 r1 r2 r3 r4 hlt
  refine (HV.out U).mono ?_
  rintro e V ⟨rfl, hb⟩
  have HEV := Lib.hid (HEU.out.below hb)
  have HIV := Lib.hid (HIU.out.more hb)
  have HNV := Lib.hid (HNU.out.below hb HNU.out.lt)
  have HKV := Lib.hid (HKU.out.trans (Kp.of_below hb))
  clear hb HEU HIU HNU HKU
  obtain ⟨r0, r1, r2, r3, r4⟩ := HIV.out.cells
  have hlt := HIV.out.lt
  go_wp2_with fail
  refine (HKN.out V).mono ?_
  rintro e w1 ⟨rfl, rfl⟩
  go_wp2_with fail
  clear r0 r1 r2 r3 r4 hlt
  refine (HRK.out V HEV.out).mono ?_
  rintro e Y ⟨rfl, hb⟩
  have HEY := Lib.hid (HEV.out.below hb)
  have HIY := Lib.hid (HIV.out.more hb)
  have HNY := Lib.hid (HNV.out.below hb HNV.out.lt)
  have HKY := Lib.hid (HKV.out.trans (Kp.of_below hb))
  clear hb HEV HIV HNV HKV
  obtain ⟨r0, r1, r2, r3, r4⟩ := HIY.out.cells
  have hlt := HIY.out.lt
  go_wp2_with fail
  clear r0 r1 r2 r3 r4 hlt
  refine (HCL.out Y HEY.out).mono ?_
  rintro e Z ⟨rfl, hE, hK⟩
  have HEZ := Lib.hid hE
  have HNZ := Lib.hid (Blk.kp HNY.out hK HG.out)
  have HKZ := Lib.hid (HKY.out.trans hK)
  clear hE hK HEY HNY HKY
  go_simp
  rename_i hK
  refine hK _ _ ?_
  clear hK
  refine wpList_store_rowTo rfl 32 _ _ rfl rfl (w.heap.size + 1) (Eff.cs (E)).toArray (by kernel_rfl) (by kernel_rfl) 32 zeroE.cs.toArray HNZ.out (size_eff _) rfl (one_eff _) ?_
  obtain ⟨hE9, hK9, hN9⟩ := fin_doc HKZ.out HEZ.out HLT.out (Nat.le_succ _) HNZ.out (E)
  have HE9 := Lib.hid hE9
  have HK9 := Lib.hid hK9
  have HN9 := Lib.hid hN9
  clear hE9 hK9 hN9 HEZ HKZ HNZ
  generalize World.setRow _ (w.heap.size + 1) (Eff.cs (E)).toArray = W9 at HE9 HK9 HN9 ⊢
  go_wp2
  rw [← HQQ.out]
  exact bodyPost_ret (v := .tuple #[Eff.val (E), .int .i64 0]) (results_cell_two Tryz.results9 _ _ _ _ _ _ _ rfl _ rfl HN9.out Tryz.underlying32 rfl (size_eff _)) rfl ⟨rfl, HE9.out, HK9.out⟩
theorem refEx_sysk (o d a b m : Int) (ab bb i : Nat) (p : Int) (R : List Int) (Q : List Nat) (clock : Int) (w : World) (h : Doc w ab bb i p R Q) (E : Eff) (p' : Int) (R' : List Int) (Q' : List Nat) (hc : ∀ V, Doc V ab bb i p R Q → Calls Tryz.prog 39 #[Is.insV o d a b m, .pointer (some ⟨ab, 0, none⟩), .pointer (some ⟨bb, 0, none⟩), .int .i64 clock] V fun e w' => e = .returned E.val ∧ Doc w' ab bb i p' R' Q' ∧ Kp [ab, bb] V w') (ho : 34 ≤ o) (v : Int) (hr : ∀ V, Doc V ab bb i p R Q → Calls Tryz.prog 35 #[Is.insV o d a b m, .pointer (some ⟨ab, 0, none⟩)] V fun e w' => e = .returned (.tuple #[.int .u32 v, .bool false]) ∧ Below V.heap.size V w') (hv : Is.validB o d a b m = true) (hk : Is.kernB o = true) (hq : Cs.hasB (Cs.st Q) 4 = true) :
    Calls Tryz.prog 9 #[Is.insV o d a b m, .pointer (some ⟨ab, 0, none⟩), .pointer (some ⟨bb, 0, none⟩), .int .i64 clock] w fun e w' => e = .returned (.tuple #[Eff.val (E), .int .i64 0]) ∧ Doc w' ab bb i p' R' Q' ∧ Kp [ab, bb] w w' := by
  obtain ⟨U, hU, hb, hI, hN, hs⟩ := two_new w o d a b m
  have HU := Lib.hid hU
  have HEU := Lib.hid (h.below hb)
  have HIU := Lib.hid hI
  have HNU := Lib.hid hN
  have HKU := Lib.hid (Kp.of_below (S := [ab, bb]) hb)
  have HLT := Lib.hid h.lts
  have HG := Lib.hid (not_old2 HLT.out).2
  have HR2 := eff_run2 (Is.insW o d a b m w)
  obtain ⟨r0, r1, r2, r3, r4⟩ := hI.cells
  have hlt := hI.lt
  have HV : Hid (∀ V, Calls Tryz.prog 20 #[Is.insV o d a b m] V fun e w' => e = .returned (.bool true) ∧ Below V.heap.size V w') := Lib.hid fun V => Is.refValid_any o d a b m true hv V
  have HKN : Hid (∀ V, Calls Tryz.prog 32 #[.int .i64 o] V fun e w' => e = .returned (.bool true) ∧ V = w') := Lib.hid fun V => Is.refKernel_any o true hk V
  obtain ⟨on, hon⟩ : ∃ q, Cs.hasB (Q.getD 0 0) 1 = q := ⟨_, rfl⟩
  obtain ⟨root, hroot⟩ : ∃ q, Cs.rootN (Q.getD 0 0) = q := ⟨_, rfl⟩
  have hM : Cs.modeV Q = .agg #[.bool on, .int .i64 (root : Int), .bool false] := by
    rw [← hon, ← hroot]
    show Cs.mV _ _ (!Cs.hasB (Cs.st Q) 4) = _
    rw [hq]
    rfl
  have HM : Hid (∀ V, Cs.RAt V bb i Q → Calls Tryz.prog 33 #[.pointer (some ⟨bb, 0, none⟩)] V fun e w' => e = .returned (.agg #[.bool on, .int .i64 (root : Int), .bool false]) ∧ Below V.heap.size V w') := Lib.hid fun V hV => by
    have := Cs.refMode_any bb i Q V hV
    rw [hM] at this
    exact this
  have hfd : ∀ V, (Instr.field 74 (.agg #[.bool on, .int .i64 (root : Int), .bool false]) 2).run Tryz.prog V = .ok (.bool false) V := fun V => by kernel_rfl
  clear hq hon hroot hM
  clear hk
  have HRK := Lib.hid hr
  clear hr
  have HCL := Lib.hid hc
  clear hc
  have g1 : 23 ≤ o := by omega
  have g2 : ¬ o ≤ 27 := by omega
  have g3 : 28 ≤ o := by omega
  have g4 : ¬ o ≤ 33 := by omega
  clear ho
  clear h hU hb hI hN hs hv
  go_enter Tryz.func9, Tryz.ntmps9
  generalize hQQ : bodyPost _ _ _ = QQ
  have HQQ := Lib.hid hQQ
  clear hQQ
  go_upto_region 0 with fail
  refine wp_region_lit ?_
  refine Great.wpList_boxTo rfl 37 _ rfl _ rfl w.heap.size rfl #[.int .i64 o, .int .i64 d, .int .i64 a, .int .i64 b, .int .i64 m] rfl ?_
  refine Great.wpList_allocTo rfl (some 8) rfl (.pointer (some ⟨w.heap.size + 1, 0, none⟩)) (.cells zeroE.cs.toArray 32) (HR2.out _ _ rfl _ (by simp)) ?_
  rw [show (w.alloc (.cells #[.int .i64 o, .int .i64 d, .int .i64 a, .int .i64 b, .int .i64 m] 37)).alloc (.cells zeroE.cs.toArray 32) = U from HU.out.symm]
  clear HR2 HU
  go_wp2_with fail
  clear r0 r1 r2 r3 r4 hlt
  refine (HV.out U).mono ?_
  rintro e V ⟨rfl, hb⟩
  have HEV := Lib.hid (HEU.out.below hb)
  have HIV := Lib.hid (HIU.out.more hb)
  have HNV := Lib.hid (HNU.out.below hb HNU.out.lt)
  have HKV := Lib.hid (HKU.out.trans (Kp.of_below hb))
  clear hb HEU HIU HNU HKU
  obtain ⟨r0, r1, r2, r3, r4⟩ := HIV.out.cells
  have hlt := HIV.out.lt
  go_wp2_with fail
  refine (HKN.out V).mono ?_
  rintro e w1 ⟨rfl, rfl⟩
  go_wp2_with fail
  clear r0 r1 r2 r3 r4 hlt
  refine (HM.out V HEV.out.csr).mono ?_
  rintro e X ⟨rfl, hb⟩
  have HEX := Lib.hid (HEV.out.below hb)
  have HIX := Lib.hid (HIV.out.more hb)
  have HNX := Lib.hid (HNV.out.below hb HNV.out.lt)
  have HKX := Lib.hid (HKV.out.trans (Kp.of_below hb))
  clear hb HEV HIV HNV HKV
  obtain ⟨r0, r1, r2, r3, r4⟩ := HIX.out.cells
  have hlt := HIX.out.lt
  go_wp2_with fail
  clear r0 r1 r2 r3 r4 hlt
  refine (HRK.out X HEX.out).mono ?_
  rintro e Y ⟨rfl, hb⟩
  have HEY := Lib.hid (HEX.out.below hb)
  have HIY := Lib.hid (HIX.out.more hb)
  have HNY := Lib.hid (HNX.out.below hb HNX.out.lt)
  have HKY := Lib.hid (HKX.out.trans (Kp.of_below hb))
  clear hb HEX HIX HNX HKX
  obtain ⟨r0, r1, r2, r3, r4⟩ := HIY.out.cells
  have hlt := HIY.out.lt
  go_wp2_with fail
  clear r0 r1 r2 r3 r4 hlt
  refine (HCL.out Y HEY.out).mono ?_
  rintro e Z ⟨rfl, hE, hK⟩
  have HEZ := Lib.hid hE
  have HNZ := Lib.hid (Blk.kp HNY.out hK HG.out)
  have HKZ := Lib.hid (HKY.out.trans hK)
  clear hE hK HEY HNY HKY
  go_simp
  rename_i hK
  refine hK _ _ ?_
  clear hK
  refine wpList_store_rowTo rfl 32 _ _ rfl rfl (w.heap.size + 1) (Eff.cs (E)).toArray (by kernel_rfl) (by kernel_rfl) 32 zeroE.cs.toArray HNZ.out (size_eff _) rfl (one_eff _) ?_
  obtain ⟨hE9, hK9, hN9⟩ := fin_doc HKZ.out HEZ.out HLT.out (Nat.le_succ _) HNZ.out (E)
  have HE9 := Lib.hid hE9
  have HK9 := Lib.hid hK9
  have HN9 := Lib.hid hN9
  clear hE9 hK9 hN9 HEZ HKZ HNZ
  generalize World.setRow _ (w.heap.size + 1) (Eff.cs (E)).toArray = W9 at HE9 HK9 HN9 ⊢
  go_wp2
  rw [← HQQ.out]
  exact bodyPost_ret (v := .tuple #[Eff.val (E), .int .i64 0]) (results_cell_two Tryz.results9 _ _ _ _ _ _ _ rfl _ rfl HN9.out Tryz.underlying32 rfl (size_eff _)) rfl ⟨rfl, HE9.out, HK9.out⟩
end Go.Proofs.YtniaclhmfmkikaaGreatDoor.Ex
end
section
/- The document's core: Exec, whatever the instruction. -/
namespace Go.Proofs.YtniaclhmfmkikaaGreatDoor.Ex
open Go.RowKit Ut
set_option maxRecDepth 100000
set_option linter.unusedVariables false
set_option maxHeartbeats 4000000

/-- what is told of the document's Exec -/
def DoneD (ab bb i : Nat) (r : Res) (z : Int) (w : World) (e : Ending) (w' : World) : Prop := e = .returned (.tuple #[r.E.val, .int .i64 z]) ∧ Doc w' ab bb i r.p r.R r.Q ∧ Kp [ab, bb] w w'
abbrev ExecD (ab bb i : Nat) (clock o d a b m : Int) (r : Res) (z : Int) (w : World) : Prop :=
  Calls Tryz.prog 9 #[Is.insV o d a b m, .pointer (some ⟨ab, 0, none⟩), .pointer (some ⟨bb, 0, none⟩), .int .i64 clock] w (DoneD ab bb i r z w)

section
variable {ab bb i : Nat} {p : Int} {R : List Int} {Q : List Nat} {clock o d a b m : Int}
/-- what the document's reckon says of what is not reckoned -/
theorem reck_not (hR : RegOk R) (ho : 22 < o) : ∃ v : Int, ∀ V, Doc V ab bb i p R Q → Calls Tryz.prog 35 #[Is.insV o d a b m, .pointer (some ⟨ab, 0, none⟩)] V fun e w' => e = .returned (.tuple #[.int .u32 v, .bool false]) ∧ Below V.heap.size V w' := by
  obtain ⟨x, ex, hx⟩ := hR.word a
  obtain ⟨y, ey, hy⟩ := hR.word b
  exact ⟨_, fun V hV => refReckon_reg o d a b m ab bb i p R Q V hV (.inr ho) x y ex ey hx hy false (by rw [show Al.reckE o = 1 from if_neg (by omega)]; rfl)⟩
theorem exd_reck (hR : RegOk R) (hv : Is.validB o d a b m = true) (ho : o ≤ 22) (w : World) (h : Doc w ab bb i p R Q) : ExecD ab bb i clock o d a b m (exX R p Q i clock o d a b m) (exZ o d a b m) w := by
  obtain ⟨⟨h1, _⟩, _⟩ := Is.valid_bounds hv
  obtain ⟨x, ex, hx⟩ := hR.word a
  obtain ⟨y, ey, hy⟩ := hR.word b
  obtain ⟨n, en, hn⟩ : ∃ n : Nat, m % 4294967296 = (n : Int) ∧ n < 4294967296 := ⟨(m % 4294967296).toNat, by omega, by omega⟩
  have hk : Is.kernB o = false := kern_no (by omega)
  rw [ex_user hv hk, show exZ o d a b m = 0 from if_pos hv]
  unfold userX
  by_cases c1 : o ≤ 13
  · rw [if_pos ⟨h1, c1⟩, ex, ey, Int.toNat_natCast, Int.toNat_natCast]
    exact refEx_reck o d a b m ab bb i p R Q clock w h _ (fun V hV => refReckon_reg o d a b m ab bb i p R Q V hV (.inl (by omega)) x y ex ey hx hy true (by rw [show Al.reckE o = 0 from if_pos ⟨h1, c1⟩]; rfl)) hv hk
  by_cases c2 : o ≤ 21
  · rw [if_neg (by omega), if_pos ⟨by omega, c2⟩, ex, en, Int.toNat_natCast, Int.toNat_natCast]
    exact refEx_reck o d a b m ab bb i p R Q clock w h _ (fun V hV => refReckon_imm o d a b m ab bb i p R Q V hV ⟨by omega, c2⟩ x n ex en hx hn) hv hk
  · rw [if_neg (by omega), if_neg (by omega), if_pos (by omega)]
    exact refEx_reck o d a b m ab bb i p R Q clock w h _ (fun V hV => refReckon_upper o d a b m ab bb i p R Q V hV (by omega)) hv hk
theorem exd_acc (hR : RegOk R) (hv : Is.validB o d a b m = true) (ho : 23 ≤ o ∧ o ≤ 27) (w : World) (h : Doc w ab bb i p R Q) : ExecD ab bb i clock o d a b m (exX R p Q i clock o d a b m) (exZ o d a b m) w := by
  have hk : Is.kernB o = false := kern_no (by omega)
  rw [ex_user hv hk, show exZ o d a b m = 0 from if_pos hv]
  obtain ⟨v, hr⟩ := reck_not (ab := ab) (bb := bb) (i := i) (p := p) (Q := Q) (d := d) (a := a) (b := b) (m := m) hR (show 22 < o by omega)
  unfold userX
  rw [if_neg (by omega), if_neg (by omega), if_neg (by omega)]
  by_cases c : (o = 23 ∨ o = 26) ∧ adr (Rg.getR R a) m % 4 ≠ 0
  · rw [if_pos c]
    obtain ⟨c1, c2⟩ := c
    rcases c1 with rfl | rfl
    · exact refEx_acc 23 d a b m ab bb i p R Q clock w h _ p R Q (fun V hV => refAskew_23 d a b m ab bb i p R Q V hV hR c2) ho v hr hv hk
    · exact refEx_acc 26 d a b m ab bb i p R Q clock w h _ p R Q (fun V hV => refAskew_26 d a b m ab bb i p R Q V hV hR c2) ho v hr hv hk
  · rw [if_neg c]
    have c3 : (o = 23 ∨ o = 26) → adr (Rg.getR R a) m % 4 = 0 := fun e => Classical.byContradiction fun hn => c ⟨e, hn⟩
    rcases (show o = 23 ∨ o = 24 ∨ o = 25 ∨ o = 26 ∨ o = 27 by omega) with rfl | rfl | rfl | rfl | rfl
    · rw [if_pos rfl]
      exact refEx_acc 23 d a b m ab bb i p R Q clock w h _ p R Q (fun V hV => refLoad_23 d a b m ab bb i p R Q V hV hR (c3 (.inl rfl))) ho v hr hv hk
    · rw [if_neg (by decide), if_pos rfl]
      exact refEx_acc 24 d a b m ab bb i p R Q clock w h _ p R Q (fun V hV => refLoad_24 d a b m ab bb i p R Q V hV hR) ho v hr hv hk
    · rw [if_neg (by decide), if_neg (by decide), if_pos rfl]
      exact refEx_acc 25 d a b m ab bb i p R Q clock w h _ p R Q (fun V hV => refLoad_25 d a b m ab bb i p R Q V hV hR) ho v hr hv hk
    · rw [if_neg (by decide), if_neg (by decide), if_neg (by decide), if_pos rfl]
      exact refEx_acc 26 d a b m ab bb i p R Q clock w h _ p R Q (fun V hV => refStore_26 d a b m ab bb i p R Q V hV hR (c3 (.inr rfl))) ho v hr hv hk
    · rw [if_neg (by decide), if_neg (by decide), if_neg (by decide), if_neg (by decide), if_pos rfl]
      exact refEx_acc 27 d a b m ab bb i p R Q clock w h _ p R Q (fun V hV => refStore_27 d a b m ab bb i p R Q V hV hR) ho v hr hv hk
theorem exd_jump (hR : RegOk R) (hv : Is.validB o d a b m = true) (ho : 28 ≤ o ∧ o ≤ 33) (w : World) (h : Doc w ab bb i p R Q) : ExecD ab bb i clock o d a b m (exX R p Q i clock o d a b m) (exZ o d a b m) w := by
  have hk : Is.kernB o = false := kern_no (by omega)
  rw [ex_user hv hk, show exZ o d a b m = 0 from if_pos hv, user_far ho.1]
  obtain ⟨v, hr⟩ := reck_not (ab := ab) (bb := bb) (i := i) (p := p) (Q := Q) (d := d) (a := a) (b := b) (m := m) hR (show 22 < o by omega)
  by_cases c1 : o ≤ 31
  · obtain ⟨x, ex, hx⟩ := hR.word a
    obtain ⟨y, ey, hy⟩ := hR.word b
    rw [if_pos ⟨ho.1, c1⟩, ex, ey, Int.toNat_natCast, Int.toNat_natCast]
    cases ht : Al.takeN o x y
    · rw [if_neg (by decide)]
      exact refEx_jump o d a b m ab bb i p R Q clock w h _ _ R Q (fun V hV => refBranch_no o d a b m ab bb i p R Q V hV ⟨ho.1, c1⟩ x y ex ey ht) ho v hr hv hk
    · rw [if_pos rfl]
      exact refEx_jump o d a b m ab bb i p R Q clock w h _ _ R Q (fun V hV => refBranch_yes o d a b m ab bb i p R Q V hV ⟨ho.1, c1⟩ x y ex ey ht) ho v hr hv hk
  · rw [if_neg (by omega)]
    rcases (show o = 32 ∨ o = 33 by omega) with rfl | rfl
    · rw [if_pos rfl]
      exact refEx_jump 32 d a b m ab bb i p R Q clock w h _ _ _ Q (fun V hV => refJump_32 d a b m ab bb i p R Q V hV) ho v hr hv hk
    · rw [if_neg (by decide), if_pos rfl]
      exact refEx_jump 33 d a b m ab bb i p R Q clock w h _ _ _ Q (fun V hV => refJump_33 d a b m ab bb i p R Q V hV hR) ho v hr hv hk
theorem exd_sysu (hR : RegOk R) (hv : Is.validB o d a b m = true) (ho : o = 34 ∨ o = 41) (w : World) (h : Doc w ab bb i p R Q) : ExecD ab bb i clock o d a b m (exX R p Q i clock o d a b m) (exZ o d a b m) w := by
  have hk : Is.kernB o = false := kern_no (by omega)
  rw [ex_user hv hk, show exZ o d a b m = 0 from if_pos hv, user_far (by omega), if_neg (by omega)]
  obtain ⟨v, hr⟩ := reck_not (ab := ab) (bb := bb) (i := i) (p := p) (Q := Q) (d := d) (a := a) (b := b) (m := m) hR (show 22 < o by omega)
  rcases ho with rfl | rfl
  · rw [if_neg (by decide), if_neg (by decide), if_pos rfl]
    exact refEx_sysu 34 d a b m ab bb i p R Q clock w h _ _ R Q (fun V hV => refSys_34 d a b m ab bb i p R Q clock V hV) (by decide) v hr hv hk
  · rw [if_neg (by decide), if_neg (by decide), if_neg (by decide)]
    exact refEx_sysu 41 d a b m ab bb i p R Q clock w h _ _ R Q (fun V hV => refSys_41 d a b m ab bb i p R Q clock V hV) (by decide) v hr hv hk
theorem exd_kernel (hR : RegOk R) (hv : Is.validB o d a b m = true) (hk : Is.kernB o = true) (hq : Cs.hasB (Cs.st Q) 4 = true) (w : World) (h : Doc w ab bb i p R Q) : ExecD ab bb i clock o d a b m (exX R p Q i clock o d a b m) (exZ o d a b m) w := by
  have h6 := kern_six hk
  rw [ex_kern hv hk hq, show exZ o d a b m = 0 from if_pos hv]
  obtain ⟨v, hr⟩ := reck_not (ab := ab) (bb := bb) (i := i) (p := p) (Q := Q) (d := d) (a := a) (b := b) (m := m) hR (show 22 < o by omega)
  have h34 : 34 ≤ o := by omega
  unfold kernX
  rcases h6 with rfl | rfl | rfl | rfl | rfl | rfl
  · rw [if_pos rfl]
    exact refEx_sysk 35 d a b m ab bb i p R Q clock w h _ _ R Q (fun V hV => refSys_35 d a b m ab bb i p R Q clock V hV) h34 v hr hv hk hq
  · rw [if_neg (by decide), if_neg (by decide), if_neg (by decide), if_pos rfl]
    exact refEx_sysk 36 d a b m ab bb i p R Q clock w h _ _ R _ (fun V hV => refSys_36 d a b m ab bb i p R Q clock V hV) h34 v hr hv hk hq
  · rw [if_neg (by decide), if_neg (by decide), if_neg (by decide), if_neg (by decide), if_pos rfl]
    exact refEx_sysk 37 d a b m ab bb i p R Q clock w h _ _ _ Q (fun V hV => refSys_37 d a b m ab bb i p R Q clock V hV _ _ rfl rfl) h34 v hr hv hk hq
  · obtain ⟨x, ex, hl⟩ := hR.word a
    rw [if_neg (by decide), if_neg (by decide), if_neg (by decide), if_neg (by decide), if_neg (by decide), ex, Int.toNat_natCast]
    by_cases hz : Cs.errZ Q m 7 = 0
    · rw [if_pos hz]
      exact refEx_sysk 38 d a b m ab bb i p R Q clock w h _ _ R _ (fun V hV => refSys_38_yes d a b m ab bb i p R Q clock V hV x ex hl hz) h34 v hr hv hk hq
    · rw [if_neg hz]
      exact refEx_sysk 38 d a b m ab bb i p R Q clock w h _ _ R Q (fun V hV => refSys_38_no d a b m ab bb i p R Q clock V hV x ex hl _ rfl hz) h34 v hr hv hk hq
  · rw [if_neg (by decide), if_neg (by decide), if_pos rfl]
    exact refEx_sysk 39 d a b m ab bb i p R Q clock w h _ _ R Q (fun V hV => refSys_39 d a b m ab bb i p R Q clock V hV) h34 v hr hv hk hq
  · rw [if_neg (by decide), if_pos rfl]
    exact refEx_sysk 40 d a b m ab bb i p R Q clock w h _ _ R Q (fun V hV => refSys_40 d a b m ab bb i p R Q clock V hV) h34 v hr hv hk hq
/-- the document's Exec, whatever the instruction -/
theorem refExec_any (hR : RegOk R) (clock o d a b m : Int) (w : World) (h : Doc w ab bb i p R Q) : ExecD ab bb i clock o d a b m (exX R p Q i clock o d a b m) (exZ o d a b m) w := by
  cases hv : Is.validB o d a b m
  · rw [show exX R p Q i clock o d a b m = stayX zeroE R p Q by unfold exX; rw [hv, if_neg (by decide)], show exZ o d a b m = 6 by unfold exZ; rw [hv, if_neg (by decide)]]
    exact refEx_form o d a b m ab bb i p R Q clock w h hv
  · obtain ⟨⟨h1, h41⟩, _⟩ := Is.valid_bounds hv
    cases hk : Is.kernB o
    · have hno : ¬ (35 ≤ o ∧ o ≤ 40) := fun hh => by
        unfold Is.kernB at hk
        simp at hk
        omega
      by_cases c1 : o ≤ 22
      · exact exd_reck hR hv c1 w h
      by_cases c2 : o ≤ 27
      · exact exd_acc hR hv ⟨by omega, c2⟩ w h
      by_cases c3 : o ≤ 33
      · exact exd_jump hR hv ⟨by omega, c3⟩ w h
      · exact exd_sysu hR hv (by omega) w h
    · cases hq : Cs.hasB (Cs.st Q) 4
      · rw [ex_forb hv hk hq, show exZ o d a b m = 0 from if_pos hv]
        exact refEx_forb o d a b m ab bb i p R Q clock w h hv hk hq
      · exact exd_kernel hR hv hk hq w h
end
end Go.Proofs.YtniaclhmfmkikaaGreatDoor.Ex
end
