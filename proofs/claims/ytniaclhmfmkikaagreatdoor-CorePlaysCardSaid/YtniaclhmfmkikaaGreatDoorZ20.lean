/- Several texts in one: Vn Vc -/
import Derived.Test.YtniaclhmfmkikaaGreatDoorZ19
import Derived.Test.YtniaclhmfmkikaaGreatDoorZ17
import Derived.StillTailTactics
section
/- Package core: Exec, by the way a job is done and by what the method does. -/
namespace Go.Proofs.YtniaclhmfmkikaaGreatDoor.Ex
open Go.RowKit Ut
set_option maxRecDepth 100000
set_option linter.unusedVariables false
set_option maxHeartbeats 4000000

theorem results_cell_two {P : Program} {fn : Func} {p q : Tmp} {ty : TypeId} (h : fn.results = #[.cell p ty, .tmp q]) (tmps : Array Value) (w : World) (g : Nat) (t : TypeId) (cs : Array Value) (fr : Nat × Nat) (d : TypeDesc)
    (hp : tmps.getD p undef = .pointer (some ⟨g, 0, none⟩)) (v : Value) (hq : tmps.getD q undef = v) (hg : w.heap[g]? = some (.cells cs t fr))
    (hu : P.underlying ty = some d) (hd : (match d with | .struct _ | .array _ _ => true | _ => false) = true) (hi : (P.info? ty).map (·.size) = some cs.size) :
    (results fn tmps).run P w = .ok (.tuple #[.agg cs, v]) w := by
  have hp' : tmps[p]?.getD undef = .pointer (some ⟨g, 0, none⟩) := by simpa using hp
  have hq' : tmps[q]?.getD undef = v := by simpa using hq
  simp [results, h, hp', hq', asAddr, run_loadVar_row w g t ty cs fr d hg hu hd hi]

/-- what Exec's walk begins with: the instruction's block and the Effect's -/
theorem two_new (w : World) (o d a b m : Int) : ∃ U, U = (Is.insW o d a b m w).alloc (.cells zeroE.cs.toArray 32) ∧ Below w.heap.size w U ∧ Is.InsAt U w.heap.size o d a b m ∧ Blk U (w.heap.size + 1) 32 zeroE.cs ∧ U.heap.size = w.heap.size + 2 := by
  have hs : (Is.insW o d a b m w).heap.size = w.heap.size + 1 := by simp
  have hb := Is.ins_below o d a b m w
  have h2 : Below (Is.insW o d a b m w).heap.size (Is.insW o d a b m w) ((Is.insW o d a b m w).alloc (.cells zeroE.cs.toArray 32)) := (Below.refl _ _).alloc (Nat.le_refl _) _
  refine ⟨_, rfl, hb.trans (h2.mono hb.size), (Is.ins_at o d a b m w).more h2, ?_, by simp⟩
  rw [← hs]
  exact Blk.new _ _ _
theorem eff_run2 (w : World) : Hid (∀ (ρ : Operand → Value) (o : Oper), o.op = .alloc 32 → ∀ n, w.heap.size = n → (execOp ρ o).run Tryz.prog w = .ok (.value (.pointer (some ⟨n, 0, none⟩))) (w.alloc (.cells zeroE.cs.toArray 32))) := Lib.hid fun ρ o ho n hn => by
  subst hn
  exact (eff_run w).out ρ o ho

theorem exec_by (f rb cb i : Nat) (p : Int) (R : List Int) (Q : List Nat) (clock o d a b m : Int) (J2 : Job) (E : Eff) (p' : Int) (R' : List Int) (Q' : List Nat)
    (hway : ∀ V j, Env V j rb cb i (jobOf R p clock o d a b m) p R Q → Calls Tryz.prog 31 #[.pointer (some ⟨j, 0, none⟩)] V fun e w' => e = .returned (wayV f j) ∧ Env w' j rb cb i J2 p R Q ∧ Kp [j] V w')
    (hcall : ∀ V j, Env V j rb cb i J2 p R Q → Calls Tryz.prog f #[.pointer (some ⟨j, 0, none⟩)] V fun e w' => e = .returned E.val ∧ Env w' j rb cb i J2 p' R' Q' ∧ Kp [rb, cb] V w')
    (hen : ∀ (args : Array Value) (w : World), (callFunc f args).run Tryz.prog w = .ok (.enter f args) w)
    (hv : Is.validB o d a b m = true) (w : World) (h : Fil w rb cb i p R Q) :
    Calls Tryz.prog 8 #[Is.insV o d a b m, .pointer (some ⟨rb, 0, none⟩), .pointer (some ⟨cb, 0, none⟩), .int .i64 clock] w fun e w' => e = .returned (.tuple #[E.val, .int .i64 0]) ∧ Fil w' rb cb i p' R' Q' ∧ Kp [rb, cb] w w' := by
  have HWAY := Lib.hid hway
  have HCALL := Lib.hid hcall
  have HV : Hid (∀ V, Is.HasT V → Calls Tryz.prog 29 #[Is.insV o d a b m] V fun e w' => e = .returned (.bool true) ∧ Below V.heap.size V w') := Lib.hid fun V hV => Is.valid_any o d a b m true hv V hV
  have HNJ : Hid (∀ V, Fil V rb cb i p R Q → Calls Tryz.prog 30 #[Is.insV o d a b m, .pointer (some ⟨rb, 0, none⟩), .pointer (some ⟨cb, 0, none⟩), .int .i64 clock] V fun e w' =>
      e = .returned (.pointer (some ⟨V.heap.size + 1, 0, none⟩)) ∧ JAt w' (V.heap.size + 1) rb cb (jobOf R p clock o d a b m) ∧ Below V.heap.size V w') := Lib.hid fun V hV => newJob_any rb cb i p R Q clock o d a b m V hV
  have HLT := Lib.hid h.lts
  clear hway hcall hv
  obtain ⟨U, hU, hb, hI, hN, hs⟩ := two_new w o d a b m
  have HU := Lib.hid hU
  have HF := Lib.hid (h.below hb)
  have HI := Lib.hid hI
  have HN := Lib.hid hN
  have HB := Lib.hid hb
  have HS := Lib.hid hs
  have HR2 := eff_run2 (Is.insW o d a b m w)
  clear h hU hb hI hN hs
  generalize jobOf R p clock o d a b m = J at HWAY HNJ
  go_enter Tryz.func8, Tryz.ntmps8
  generalize hQQ : bodyPost _ _ _ = QQ
  have HQQ := Lib.hid hQQ
  clear hQQ
  go_upto_region 0 with fail
  refine wp_region_lit ?_
  refine Great.wpList_boxTo rfl 37 _ rfl _ rfl w.heap.size rfl #[.int .i64 o, .int .i64 d, .int .i64 a, .int .i64 b, .int .i64 m] rfl ?_
  refine Great.wpList_allocTo rfl (some 8) rfl (.pointer (some ⟨w.heap.size + 1, 0, none⟩)) (.cells zeroE.cs.toArray 32) (HR2.out _ _ rfl _ (by simp)) ?_
  rw [show (w.alloc (.cells #[.int .i64 o, .int .i64 d, .int .i64 a, .int .i64 b, .int .i64 m] 37)).alloc (.cells zeroE.cs.toArray 32) = U from HU.out.symm]
  clear HR2 HU
  go_wp2_with fail
  refine (areMade_yes rb cb i p R Q U HF.out).mono ?_
  rintro e w1 ⟨rfl, hb⟩
  have HF1 := Lib.hid (HF.out.below hb)
  have HI1 := Lib.hid (HI.out.more hb)
  have HN1 := Lib.hid (HN.out.below hb HN.out.lt)
  have HB1 := Lib.hid (HB.out.trans (hb.mono HB.out.size))
  have hs1 : w.heap.size + 2 ≤ w1.heap.size := by have := hb.size; have := HS.out; omega
  have HS1 := Lib.hid hs1
  obtain ⟨r0, r1, r2, r3, r4⟩ := HI1.out.cells
  have hlt := HI1.out.lt
  clear hb HF HI HN HB HS hs1
  go_wp2_with fail
  clear r0 r1 r2 r3 r4 hlt
  refine (HV.out w1 HF1.out.tab).mono ?_
  rintro e w2 ⟨rfl, hb⟩
  have HF2 := Lib.hid (HF1.out.below hb)
  have HI2 := Lib.hid (HI1.out.more hb)
  have HN2 := Lib.hid (HN1.out.below hb HN1.out.lt)
  have HB2 := Lib.hid (HB1.out.trans (hb.mono HB1.out.size))
  have hs2 : w.heap.size + 2 ≤ w2.heap.size := by have := hb.size; have := HS1.out; omega
  have HS2 := Lib.hid hs2
  obtain ⟨r0, r1, r2, r3, r4⟩ := HI2.out.cells
  have hlt := HI2.out.lt
  clear hb HF1 HI1 HN1 HB1 HS1 hs2
  go_wp2_with fail
  clear r0 r1 r2 r3 r4 hlt
  refine (HNJ.out w2 HF2.out).mono ?_
  rintro e w3 ⟨rfl, hJ, hb⟩
  have HE3 : Hid (Env w3 (w2.heap.size + 1) rb cb i J p R Q) := Lib.hid ((HF2.out.below hb).env hJ (by have := HF2.out.lts; omega) (by have := HF2.out.lts; omega))
  have HN3 := Lib.hid (HN2.out.below hb HN2.out.lt)
  have HB3 := Lib.hid (HB2.out.trans (hb.mono HB2.out.size))
  have HS3 : Hid (w.heap.size + 2 < w2.heap.size + 1 ) := Lib.hid (by have := HS2.out; omega)
  clear hb hJ HF2 HI2 HN2 HB2 HS2
  generalize w2.heap.size + 1 = j at HE3 HS3 ⊢
  go_wp2_with fail
  refine (HWAY.out w3 j HE3.out).mono ?_
  rintro e w4 ⟨rfl, hE, hk⟩
  have HE4 := Lib.hid hE
  have HN4 := Lib.hid (Blk.kp HN3.out hk (by have := HS3.out; simp; omega))
  have HK4 : Hid (Kp [rb, cb] w w4) := Lib.hid ⟨hk.os.trans HB3.out.os, hk.tape.trans HB3.out.tape, hk.output.trans HB3.out.output, Nat.le_trans HB3.out.size hk.size, fun q hq hn => (hk.block q (Nat.lt_of_lt_of_le hq HB3.out.size) (by have := HS3.out; simp; omega)).trans (HB3.out.block q hq)⟩
  clear hE hk HE3 HN3 HB3
  go_wp2_with fail
  with_reducible refine (HCALL.out w4 j HE4.out).mono ?_
  rintro e w5 ⟨rfl, hE, hk⟩
  have HF5 := Lib.hid hE.fil
  have HN5 := Lib.hid (Blk.kp HN4.out hk (by have := HLT.out; simp; omega))
  have HK5 := Lib.hid (HK4.out.trans hk)
  clear hE hk HE4 HN4 HK4
  go_simp
  rename_i hK
  refine hK _ _ ?_
  clear hK
  refine wpList_store_rowTo rfl 32 _ _ rfl rfl (w.heap.size + 1) E.cs.toArray (by kernel_rfl) (by kernel_rfl) 32 zeroE.cs.toArray HN5.out (size_eff _) rfl (one_eff _) ?_
  have hb := below_setRow (Below.refl w.heap.size w5) (Nat.le_succ w.heap.size) E.cs.toArray
  have HF6 := Lib.hid (HF5.out.at hb HLT.out)
  have HN6 := Lib.hid (HN5.out.row E.cs)
  have HK6 : Hid (Kp [rb, cb] w (w5.setRow (w.heap.size + 1) E.cs.toArray)) := Lib.hid ⟨hb.os.trans HK5.out.os, hb.tape.trans HK5.out.tape, hb.output.trans HK5.out.output, Nat.le_trans HK5.out.size hb.size, fun q hq hn => (hb.block q hq).trans (HK5.out.block q hq hn)⟩
  clear hb HF5 HN5 HK5
  generalize w5.setRow (w.heap.size + 1) E.cs.toArray = w6 at HF6 HN6 HK6 ⊢
  go_wp2
  rw [← HQQ.out]
  exact bodyPost_ret (v := .tuple #[E.val, .int .i64 0]) (results_cell_two Tryz.results8 _ _ _ _ _ _ _ rfl _ rfl HN6.out Tryz.underlying32 rfl (size_eff _)) rfl ⟨rfl, HF6.out, HK6.out⟩

/-- not right: nothing is done -/
theorem exec_form (rb cb i : Nat) (p : Int) (R : List Int) (Q : List Nat) (clock o d a b m : Int) (hv : Is.validB o d a b m = false) (w : World) (h : Fil w rb cb i p R Q) :
    Calls Tryz.prog 8 #[Is.insV o d a b m, .pointer (some ⟨rb, 0, none⟩), .pointer (some ⟨cb, 0, none⟩), .int .i64 clock] w fun e w' => e = .returned (.tuple #[zeroE.val, .int .i64 6]) ∧ Fil w' rb cb i p R Q ∧ Kp [rb, cb] w w' := by
  have HV : Hid (∀ V, Is.HasT V → Calls Tryz.prog 29 #[Is.insV o d a b m] V fun e w' => e = .returned (.bool false) ∧ Below V.heap.size V w') := Lib.hid fun V hV => Is.valid_any o d a b m false hv V hV
  have HLT := Lib.hid h.lts
  clear hv
  obtain ⟨U, hU, hb, hI, hN, hs⟩ := two_new w o d a b m
  have HU := Lib.hid hU
  have HF := Lib.hid (h.below hb)
  have HI := Lib.hid hI
  have HN := Lib.hid hN
  have HB := Lib.hid hb
  have HR2 := eff_run2 (Is.insW o d a b m w)
  clear h hU hb hI hN hs
  go_enter Tryz.func8, Tryz.ntmps8
  generalize hQQ : bodyPost _ _ _ = QQ
  have HQQ := Lib.hid hQQ
  clear hQQ
  go_upto_region 0 with fail
  refine wp_region_lit ?_
  refine Great.wpList_boxTo rfl 37 _ rfl _ rfl w.heap.size rfl #[.int .i64 o, .int .i64 d, .int .i64 a, .int .i64 b, .int .i64 m] rfl ?_
  refine Great.wpList_allocTo rfl (some 8) rfl (.pointer (some ⟨w.heap.size + 1, 0, none⟩)) (.cells zeroE.cs.toArray 32) (HR2.out _ _ rfl _ (by simp)) ?_
  rw [show (w.alloc (.cells #[.int .i64 o, .int .i64 d, .int .i64 a, .int .i64 b, .int .i64 m] 37)).alloc (.cells zeroE.cs.toArray 32) = U from HU.out.symm]
  clear HR2 HU
  go_wp2_with fail
  refine (areMade_yes rb cb i p R Q U HF.out).mono ?_
  rintro e w1 ⟨rfl, hb⟩
  have HF1 := Lib.hid (HF.out.below hb)
  have HI1 := Lib.hid (HI.out.more hb)
  have HN1 := Lib.hid (HN.out.below hb HN.out.lt)
  have HB1 := Lib.hid (HB.out.trans (hb.mono HB.out.size))
  obtain ⟨r0, r1, r2, r3, r4⟩ := HI1.out.cells
  have hlt := HI1.out.lt
  clear hb HF HI HN HB
  go_wp2_with fail
  clear r0 r1 r2 r3 r4 hlt
  refine (HV.out w1 HF1.out.tab).mono ?_
  rintro e w2 ⟨rfl, hb⟩
  have HF2 := Lib.hid (HF1.out.below hb)
  have HN2 := Lib.hid (HN1.out.below hb HN1.out.lt)
  have HB2 := Lib.hid (HB1.out.trans (hb.mono HB1.out.size))
  clear hb HF1 HI1 HN1 HB1
  go_upto_region 4 with fail
  refine wp_region_lit ?_
  refine wpList_buildTo rfl 32 _ rfl _ rfl zeroE.cs.toArray (by kernel_rfl) ?_
  refine wpList_store_rowTo rfl 32 _ _ rfl rfl (w.heap.size + 1) zeroE.cs.toArray (by kernel_rfl) (by kernel_rfl) 32 zeroE.cs.toArray HN2.out (size_eff _) rfl (one_eff _) ?_
  have hb := below_setRow (Below.refl w.heap.size w2) (Nat.le_succ w.heap.size) zeroE.cs.toArray
  have HF6 := Lib.hid (HF2.out.at hb HLT.out)
  have HN6 := Lib.hid (HN2.out.row zeroE.cs)
  have HK6 : Hid (Kp [rb, cb] w (w2.setRow (w.heap.size + 1) zeroE.cs.toArray)) := Lib.hid (Kp.of_below (HB2.out.trans hb))
  clear hb HF2 HN2 HB2
  generalize w2.setRow (w.heap.size + 1) zeroE.cs.toArray = w6 at HF6 HN6 HK6 ⊢
  go_wp2
  rw [← HQQ.out]
  exact bodyPost_ret (v := .tuple #[zeroE.val, .int .i64 6]) (results_cell_two Tryz.results8 _ _ _ _ _ _ _ rfl _ rfl HN6.out Tryz.underlying32 rfl (size_eff _)) rfl ⟨rfl, HF6.out, HK6.out⟩

/-- without registers, or without the kernel's ones -/
theorem exec_zero (r c : Option Addr) (clock o d a b m : Int) (w : World) (HM : Hid (∀ V, Below w.heap.size w V → Calls Tryz.prog 28 #[.pointer r, .pointer c] V fun e w' => e = .returned (.bool false) ∧ Below V.heap.size V w')) :
    Calls Tryz.prog 8 #[Is.insV o d a b m, .pointer r, .pointer c, .int .i64 clock] w fun e w' => e = .returned (.tuple #[zeroE.val, .int .i64 7]) ∧ Below w.heap.size w w' := by
  obtain ⟨U, hU, hb, hI, hN, hs⟩ := two_new w o d a b m
  have HU := Lib.hid hU
  have HN := Lib.hid hN
  have HB := Lib.hid hb
  have HR2 := eff_run2 (Is.insW o d a b m w)
  clear hU hb hI hN hs
  go_enter Tryz.func8, Tryz.ntmps8
  generalize hQQ : bodyPost _ _ _ = QQ
  have HQQ := Lib.hid hQQ
  clear hQQ
  go_upto_region 0 with fail
  refine wp_region_lit ?_
  refine Great.wpList_boxTo rfl 37 _ rfl _ rfl w.heap.size rfl #[.int .i64 o, .int .i64 d, .int .i64 a, .int .i64 b, .int .i64 m] rfl ?_
  refine Great.wpList_allocTo rfl (some 8) rfl (.pointer (some ⟨w.heap.size + 1, 0, none⟩)) (.cells zeroE.cs.toArray 32) (HR2.out _ _ rfl _ (by simp)) ?_
  rw [show (w.alloc (.cells #[.int .i64 o, .int .i64 d, .int .i64 a, .int .i64 b, .int .i64 m] 37)).alloc (.cells zeroE.cs.toArray 32) = U from HU.out.symm]
  clear HR2 HU
  go_wp2_with fail
  refine (HM.out U HB.out).mono ?_
  rintro e w1 ⟨rfl, hb⟩
  have HN1 := Lib.hid (HN.out.below hb HN.out.lt)
  have HB1 := Lib.hid (HB.out.trans (hb.mono HB.out.size))
  clear hb HN HB
  go_upto_region 2 with fail
  refine wp_region_lit ?_
  refine wpList_buildTo rfl 32 _ rfl _ rfl zeroE.cs.toArray (by kernel_rfl) ?_
  refine wpList_store_rowTo rfl 32 _ _ rfl rfl (w.heap.size + 1) zeroE.cs.toArray (by kernel_rfl) (by kernel_rfl) 32 zeroE.cs.toArray HN1.out (size_eff _) rfl (one_eff _) ?_
  have hb := below_setRow (Below.refl w.heap.size w1) (Nat.le_succ w.heap.size) zeroE.cs.toArray
  have HN6 := Lib.hid (HN1.out.row zeroE.cs)
  have HB6 := Lib.hid (HB1.out.trans hb)
  clear hb HN1 HB1
  generalize w1.setRow (w.heap.size + 1) zeroE.cs.toArray = w6 at HB6 HN6 ⊢
  go_wp2
  rw [← HQQ.out]
  exact bodyPost_ret (v := .tuple #[zeroE.val, .int .i64 7]) (results_cell_two Tryz.results8 _ _ _ _ _ _ _ rfl _ rfl HN6.out Tryz.underlying32 rfl (size_eff _)) rfl ⟨rfl, HB6.out⟩
end Go.Proofs.YtniaclhmfmkikaaGreatDoor.Ex
end
section
/- Package core: what a job does to the registers: set, done, give. -/
namespace Go.Proofs.YtniaclhmfmkikaaGreatDoor.Ex
open Go.RowKit Ut
set_option maxRecDepth 100000
set_option linter.unusedVariables false
set_option maxHeartbeats 4000000

theorem put_any (j rb cb i : Nat) (J : Job) (p : Int) (R : List Int) (Q : List Nat) (v : Int) (w : World) (h : Env w j rb cb i J p R Q) :
    Calls Tryz.prog 98 #[.pointer (some ⟨j, 0, none⟩), .int .u32 v] w fun e w' => e = .returned (.tuple #[]) ∧ Env w' j rb cb i J p (Rg.setR R J.d v) Q ∧ Kp [rb, cb] w w' := by
  have c1 : w.cell? ⟨j, 1, none⟩ = some (.int .i64 J.d) := h.job.cell 1 _ rfl
  have c5 : w.cell? ⟨j, 5, none⟩ = some (.pointer (some ⟨rb, 0, none⟩)) := h.job.cell 5 _ rfl
  have hlt := h.job.lt
  have HE := Lib.hid h
  clear h
  go_enter Tryz.func98, Tryz.ntmps98
  go_upto_region 0 with fail
  go_still_tail 10, (by kernel_rfl)
  change wpList _ _ _ _ _ w.drew
  have hbd : Below w.heap.size w w.drew := (Below.refl _ w).drew
  have HE1 := Lib.hid (HE.out.below hbd)
  have HK1 := Lib.hid (Kp.of_below (S := [rb, cb]) hbd)
  clear hbd c1 c5 HE hlt
  generalize w.drew = w1 at HE1 HK1 ⊢
  go_wp2_with fail
  refine (Rg.set_any rb p J.d v R w1 HE1.out.reg).mono ?_
  rintro e w2 ⟨rfl, hF, hg⟩
  have HE2 := Lib.hid (HE1.out.regs hF hg)
  have HK2 := Lib.hid (HK1.out.trans (kp_regs hg))
  clear hF hg HE1 HK1
  go_wp2
  go_end0
  exact ⟨rfl, HE2.out, HK2.out⟩
theorem done_any (j rb cb i : Nat) (J : Job) (p : Int) (R : List Int) (Q : List Nat) (pc : Int) (w : World) (h : Env w j rb cb i J p R Q) :
    Calls Tryz.prog 96 #[.pointer (some ⟨j, 0, none⟩), .int .u32 pc] w fun e w' => e = .returned (Eff.val (doneE pc)) ∧ Env w' j rb cb i J pc R Q ∧ Kp [rb, cb] w w' := by
  have HRUN := eff_run w
  have HB := Lib.hid (eff_below w)
  have HN := Lib.hid (eff_blk w)
  have HLT := Lib.hid h.lts
  have HG := Lib.hid (not_old HLT.out)
  have HE := Lib.hid (h.below HB.out)
  have HK := Lib.hid (Kp.of_below (S := [rb, cb]) HB.out)
  clear h
  go_enter Tryz.func96, Tryz.ntmps96
  generalize hQQ : bodyPost _ _ _ = QQ
  have HQQ := Lib.hid hQQ
  clear hQQ
  go_upto_region 0 with fail
  refine wp_region_lit ?_
  refine Great.wpList_allocTo rfl (some 4) rfl (.pointer (some ⟨w.heap.size, 0, none⟩)) (.cells zeroE.cs.toArray 32) (HRUN.out _ _ rfl) ?_
  generalize hW : w.alloc (.cells zeroE.cs.toArray 32) = W at HB HN HE HK ⊢
  clear HRUN hW
  have c5 : W.cell? ⟨j, 5, none⟩ = some (.pointer (some ⟨rb, 0, none⟩)) := HE.out.job.cell 5 _ rfl
  go_wp2_with fail
  refine (Rg.jump_any rb p pc R W HE.out.reg).mono ?_
  rintro e V ⟨rfl, hF, hg⟩
  have HEV := Lib.hid (HE.out.regs hF hg)
  have HNV := Lib.hid (Blk.kp HN.out (kp_regs (cb := cb) hg) HG.out)
  have HKV := Lib.hid (HK.out.trans (kp_regs hg))
  clear hF hg HE HN HK c5
  go_upto_region 2 with fail
  refine wp_region_lit ?_
  refine Great.wpList_readTo rfl _ rfl (.int .u32 pc) (by kernel_rfl) ?_
  refine wpList_buildTo rfl 32 _ rfl _ rfl (Eff.cs (doneE pc)).toArray (by kernel_rfl) ?_
  refine wpList_store_rowTo rfl 32 _ _ rfl rfl w.heap.size (Eff.cs (doneE pc)).toArray (by kernel_rfl) (by kernel_rfl) 32 zeroE.cs.toArray HNV.out (size_eff _) rfl (one_eff _) ?_
  obtain ⟨hE9, hK9, hN9⟩ := fin_eff HKV.out HEV.out HLT.out HNV.out (doneE pc)
  have HE9 := Lib.hid hE9
  have HK9 := Lib.hid hK9
  have HN9 := Lib.hid hN9
  clear hE9 hK9 hN9 HEV HKV HNV
  generalize World.setRow _ w.heap.size (Eff.cs (doneE pc)).toArray = W9 at HE9 HK9 HN9 ⊢
  go_wp2
  rw [← HQQ.out]
  exact bodyPost_ret (v := Eff.val (doneE pc)) (results_cell_row Tryz.results96 _ _ _ _ _ _ _ rfl HN9.out Tryz.underlying32 rfl (size_eff _)) rfl ⟨rfl, HE9.out, HK9.out⟩
theorem give_any (j rb cb i : Nat) (J : Job) (p : Int) (R : List Int) (Q : List Nat) (v : Int) (w : World) (h : Env w j rb cb i J p R Q) :
    Calls Tryz.prog 90 #[.pointer (some ⟨j, 0, none⟩), .int .u32 v] w fun e w' => e = .returned (Eff.val (doneE J.nx)) ∧ Env w' j rb cb i J J.nx (Rg.setR R J.d v) Q ∧ Kp [rb, cb] w w' := by
  have HRUN := eff_run w
  have HB := Lib.hid (eff_below w)
  have HN := Lib.hid (eff_blk w)
  have HLT := Lib.hid h.lts
  have HG := Lib.hid (not_old HLT.out)
  have HE := Lib.hid (h.below HB.out)
  have HK := Lib.hid (Kp.of_below (S := [rb, cb]) HB.out)
  clear h
  go_enter Tryz.func90, Tryz.ntmps90
  generalize hQQ : bodyPost _ _ _ = QQ
  have HQQ := Lib.hid hQQ
  clear hQQ
  go_upto_region 0 with fail
  refine wp_region_lit ?_
  refine Great.wpList_allocTo rfl (some 4) rfl (.pointer (some ⟨w.heap.size, 0, none⟩)) (.cells zeroE.cs.toArray 32) (HRUN.out _ _ rfl) ?_
  generalize hW : w.alloc (.cells zeroE.cs.toArray 32) = W at HB HN HE HK ⊢
  clear HRUN hW
  have HEW := HE
  have HNW := HN
  have HKW := HK
  clear HE HN HK
  go_wp2_with fail
  refine (put_any j rb cb i J p R Q v W HEW.out).mono ?_
  rintro e U ⟨rfl, hE, hK⟩
  have HEU := Lib.hid hE
  have HNU := Lib.hid (Blk.kp HNW.out hK HG.out)
  have HKU := Lib.hid (HKW.out.trans hK)
  clear hE hK HEW HNW HKW
  have c10 : U.cell? ⟨j, 10, none⟩ = some (.int .u32 J.nx) := HEU.out.job.cell 10 _ rfl
  have hlt := HEU.out.job.lt
  go_wp2_with fail
  clear c10 hlt
  refine (done_any j rb cb i J p _ Q J.nx U HEU.out).mono ?_
  rintro e V ⟨rfl, hE, hK⟩
  have HEV := Lib.hid hE
  have HNV := Lib.hid (Blk.kp HNU.out hK HG.out)
  have HKV := Lib.hid (HKU.out.trans hK)
  clear hE hK HEU HNU HKU
  go_simp
  rename_i hK
  refine hK _ _ ?_
  clear hK
  refine wpList_store_rowTo rfl 32 _ _ rfl rfl w.heap.size (Eff.cs (doneE J.nx)).toArray (by kernel_rfl) (by kernel_rfl) 32 zeroE.cs.toArray HNV.out (size_eff _) rfl (one_eff _) ?_
  obtain ⟨hE9, hK9, hN9⟩ := fin_eff HKV.out HEV.out HLT.out HNV.out (doneE J.nx)
  have HE9 := Lib.hid hE9
  have HK9 := Lib.hid hK9
  have HN9 := Lib.hid hN9
  clear hE9 hK9 hN9 HEV HKV HNV
  generalize World.setRow _ w.heap.size (Eff.cs (doneE J.nx)).toArray = W9 at HE9 HK9 HN9 ⊢
  go_wp2
  rw [← HQQ.out]
  exact bodyPost_ret (v := Eff.val (doneE J.nx)) (results_cell_row Tryz.results90 _ _ _ _ _ _ _ rfl HN9.out Tryz.underlying32 rfl (size_eff _)) rfl ⟨rfl, HE9.out, HK9.out⟩
end Go.Proofs.YtniaclhmfmkikaaGreatDoor.Ex
end
