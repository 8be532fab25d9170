/- Package core: a job's block, told with both files; its small methods that only read; an Effect's block. -/
import Derived.Test.YtniaclhmfmkikaaDoorVa
import Derived.Test.YtniaclhmfmkikaaDoorRa
namespace Go.Proofs.YtniaclhmfmkikaaDoor.Ex
open Go.RowKit Ut
set_option maxRecDepth 100000
set_option linter.unusedVariables false
set_option maxHeartbeats 4000000

/-- a job: the instruction, the clock, what alu does for it, where it is, what comes next, what the registers A and B have -/
structure Job where
  o : Int
  d : Int
  a : Int
  b : Int
  m : Int
  clock : Int
  plain : Int
  pc : Int
  nx : Int
  va : Int
  vb : Int
def Job.cs (J : Job) (rb cb : Nat) : List Value := [.int .i64 J.o, .int .i64 J.d, .int .i64 J.a, .int .i64 J.b, .int .i64 J.m, .pointer (some ⟨rb, 0, none⟩), .pointer (some ⟨cb, 0, none⟩), .int .i64 J.clock, .int .i64 J.plain, .int .u32 J.pc, .int .u32 J.nx, .int .u32 J.va, .int .u32 J.vb]
def JAt (W : World) (j rb cb : Nat) (J : Job) : Prop := Blk W j 56 (J.cs rb cb)

section
variable {w w' W : World} {j rb cb i : Nat} {J : Job} {p : Int} {R : List Int} {Q : List Nat} {S : List Nat}
theorem JAt.lt (h : JAt W j rb cb J) : j < W.heap.size := Blk.lt h
theorem JAt.below {B : Nat} (h : JAt w j rb cb J) (hb : Below B w w') (hB : j < B) : JAt w' j rb cb J := Blk.below h hb hB
theorem JAt.more (h : JAt w j rb cb J) (hb : Below w.heap.size w w') : JAt w' j rb cb J := h.below hb h.lt
theorem JAt.cell (h : JAt W j rb cb J) (k : Nat) (v : Value) (hk : (J.cs rb cb)[k]? = some v) : W.cell? ⟨j, k, none⟩ = some v := Blk.cell h hk
/-- isa's table and a file are blocks of their own -/
theorem has_ne (h : Is.HasT w) {b : Nat} {t : TypeId} {cs : List Value} (hb : Blk w b t cs) (hl : cs.length ≠ 42) : 0 ≠ b := by
  rintro rfl
  obtain ⟨t', fr, h⟩ := h
  unfold Blk at hb
  rw [h] at hb
  injection hb with hb
  injection hb with h1
  have h2 := congrArg Array.size h1
  simp [Is.hasL] at h2
  exact hl h2.symm

/-- a job with its files -/
structure Env (w : World) (j rb cb i : Nat) (J : Job) (p : Int) (R : List Int) (Q : List Nat) : Prop where
  job : JAt w j rb cb J
  reg : Rg.FAt w rb p R
  csr : Cs.FAt w cb i Q
  tab : Is.HasT w
  n1 : j ≠ rb
  n2 : j ≠ cb
  n3 : rb ≠ cb
theorem Env.lts (h : Env w j rb cb i J p R Q) : j < w.heap.size ∧ rb < w.heap.size ∧ cb < w.heap.size ∧ 0 < w.heap.size := ⟨h.job.lt, h.reg.1.lt, h.csr.1.lt, h.tab.lt⟩
theorem not_old {n g : Nat} (h : j < n ∧ rb < n ∧ cb < n ∧ g < n) : n ∉ [rb, cb] := by
  obtain ⟨_, h1, h2, _⟩ := h
  simp
  omega
theorem Env.at {B : Nat} (h : Env w j rb cb i J p R Q) (hb : Below B w w') (hl : j < B ∧ rb < B ∧ cb < B ∧ 0 < B) : Env w' j rb cb i J p R Q :=
  ⟨h.job.below hb hl.1, h.reg.below hb hl.2.1, h.csr.below hb hl.2.2.1, h.tab.below hb hl.2.2.2, h.n1, h.n2, h.n3⟩
theorem Env.below (h : Env w j rb cb i J p R Q) (hb : Below w.heap.size w w') : Env w' j rb cb i J p R Q := h.at hb h.lts
theorem tab_grown {b : Nat} (h : Is.HasT w) (hg : w.grownBy w' (some b)) (hn : 0 ≠ b) : Is.HasT w' := by
  have hl := h.lt
  obtain ⟨t, fr, h⟩ := h
  exact ⟨t, fr, (hg.block _ hl (fun e => hn (by injection e))).trans h⟩
theorem reg_len (h : Rg.FAt w rb p R) : (Rg.fCells p R).length ≠ 42 := by
  have := h.2
  simp [Rg.fCells, Rg.wordsV, this]
theorem csr_len (h : Cs.FAt w cb i Q) : (Cs.fCells i Q).length ≠ 42 := by
  have := h.2.1.len
  simp [Cs.fCells, Cs.wordsV, this]
/-- the registers turned -/
theorem Env.regs {p' : Int} {R' : List Int} (h : Env w j rb cb i J p R Q) (hF : Rg.FAt w' rb p' R') (hg : w.grownBy w' (some rb)) : Env w' j rb cb i J p' R' Q :=
  ⟨Blk.kept h.job hg (fun e => h.n1 (by injection e)), hF, h.csr.kept hg (fun e => h.n3 (by injection e with e; exact e.symm)), tab_grown h.tab hg (has_ne h.tab h.reg.1 (reg_len h.reg)), h.n1, h.n2, h.n3⟩
/-- the kernel's registers turned -/
theorem Env.csrs {Q' : List Nat} (h : Env w j rb cb i J p R Q) (hF : Cs.FAt w' cb i Q') (hg : w.grownBy w' (some cb)) : Env w' j rb cb i J p R Q' :=
  ⟨Blk.kept h.job hg (fun e => h.n2 (by injection e)), h.reg.kept hg (fun e => h.n3 (by injection e)), hF, tab_grown h.tab hg (has_ne h.tab h.csr.1 (csr_len h.csr)), h.n1, h.n2, h.n3⟩
/-- the job turned -/
theorem Env.jobs {J' : Job} (h : Env w j rb cb i J p R Q) (hF : JAt w' j rb cb J') (hg : w.grownBy w' (some j)) : Env w' j rb cb i J' p R Q :=
  ⟨hF, h.reg.kept hg (fun e => h.n1 (by injection e with e; exact e.symm)), h.csr.kept hg (fun e => h.n2 (by injection e with e; exact e.symm)), tab_grown h.tab hg (has_ne h.tab h.job (by simp [Job.cs])), h.n1, h.n2, h.n3⟩
theorem kp_regs (hg : w.grownBy w' (some rb)) : Kp [rb, cb] w w' := Kp.of_grown hg (by simp)
theorem kp_csrs (hg : w.grownBy w' (some cb)) : Kp [rb, cb] w w' := Kp.of_grown hg (by simp)
end

theorem eff_run (w : World) : Hid (∀ (ρ : Operand → Value) (o : Oper), o.op = .alloc 39 → (execOp ρ o).run Tryd.prog w = .ok (.value (.pointer (some ⟨w.heap.size, 0, none⟩))) (w.alloc (.cells zeroE.cs.toArray 39))) := Lib.hid fun ρ o ho => by
  unfold execOp
  rw [ho]
  kernel_rfl
theorem eff_below (w : World) : Below w.heap.size w (w.alloc (.cells zeroE.cs.toArray 39)) := (Below.refl _ _).alloc (Nat.le_refl _) _
theorem eff_blk (w : World) : Blk (w.alloc (.cells zeroE.cs.toArray 39)) w.heap.size 39 zeroE.cs := Blk.new w _ _
theorem size_eff (E : Eff) : (Tryd.prog.info? 39).map (·.size) = some E.cs.toArray.size := by kernel_rfl
theorem size_effL (E : Eff) : (Tryd.prog.info? 39).map (·.size) = some E.cs.length := by kernel_rfl
theorem one_eff (E : Eff) : E.cs.toArray.all (·.oneCell') = true := by kernel_rfl
theorem one_effL (E : Eff) : ∀ v ∈ E.cs, v.oneCell' = true := by
  have := one_eff E
  simpa using this
/-- the Effect is stored whole into its own block -/
theorem fin_eff {w V : World} {j rb cb i : Nat} {J : Job} {p : Int} {R : List Int} {Q : List Nat} {cs : List Value} (hK : Kp [rb, cb] w V) (hE : Env V j rb cb i J p R Q) (hl : j < w.heap.size ∧ rb < w.heap.size ∧ cb < w.heap.size ∧ 0 < w.heap.size)
    (hN : Blk V w.heap.size 39 cs) (E : Eff) :
    Env (V.setRow w.heap.size E.cs.toArray) j rb cb i J p R Q ∧ Kp [rb, cb] w (V.setRow w.heap.size E.cs.toArray) ∧ Blk (V.setRow w.heap.size E.cs.toArray) w.heap.size 39 E.cs := by
  have hb := below_setRow (Below.refl w.heap.size V) (Nat.le_refl w.heap.size) E.cs.toArray
  refine ⟨hE.at hb hl, ⟨hb.os.trans hK.os, hb.tape.trans hK.tape, hb.output.trans hK.output, Nat.le_trans hK.size hb.size, fun q hq hn => (hb.block q hq).trans (hK.block q hq hn)⟩, hN.row _⟩

theorem adr_wrap (x m : Int) : IntKind.u32.wrap (x + m % 4294967296) = adr x m := by
  simp [IntKind.wrap, IntKind.bits, IntKind.signed, adr]
theorem tgt_wrap (p m : Int) : IntKind.u32.wrap (p + IntKind.u32.wrap (4 * (m % 4294967296))) = tgt p m := by
  simp [IntKind.wrap, IntKind.bits, IntKind.signed, tgt]
  omega

theorem number_any (j rb cb : Nat) (J : Job) (w : World) (h : JAt w j rb cb J) :
    Calls Tryd.prog 20 #[.pointer (some ⟨j, 0, none⟩)] w fun e w' => e = .returned (.int .u32 (J.m % 4294967296)) ∧ w = w' := by
  have c4 : w.cell? ⟨j, 4, none⟩ = some (.int .i64 J.m) := h.cell 4 _ rfl
  clear h
  generalize J.m = m at c4 ⊢
  go_enter Tryd.func20, Tryd.ntmps20
  go_wp2
  go_ret
  exact ⟨rfl, rfl⟩
theorem address_any (j rb cb : Nat) (J : Job) (w : World) (h : JAt w j rb cb J) :
    Calls Tryd.prog 47 #[.pointer (some ⟨j, 0, none⟩)] w fun e w' => e = .returned (.int .u32 (adr J.va J.m)) ∧ Below w.heap.size w w' := by
  have c11 : w.cell? ⟨j, 11, none⟩ = some (.int .u32 J.va) := h.cell 11 _ rfl
  have hlt := h.lt
  have HM : Hid (∀ W, Below w.heap.size w W → Calls Tryd.prog 20 #[.pointer (some ⟨j, 0, none⟩)] W fun e w' => e = .returned (.int .u32 (J.m % 4294967296)) ∧ W = w') := Lib.hid fun W hb => number_any j rb cb J W (h.more hb)
  have HX := Lib.hid (adr_wrap J.va J.m)
  clear h
  generalize J.m % 4294967296 = n at HM HX
  generalize adr J.va J.m = z at HX ⊢
  generalize J.va = x at c11 HX
  go_enter Tryd.func47, Tryd.ntmps47
  go_upto_region 1 with fail
  apply wp_region_auto [3, 4, 5, 6, 7, 8, 9] [_, _, _, _, _, _, _] (fun W' => Below w.heap.size w W')
  case hm => kernel_rfl
  case hT => intro y; simp only [setAll, List.setIfInBounds_toArray, List.set_cons_succ, List.set_cons_zero]; exact rfl
  case hok => kernel_rfl
  case hn => decide
  case hw => exact (Below.refl _ _).drew
  case hs =>
    refine auto_op 3 [] (by kernel_rfl) (fun y w' HW hd K hK => ?_) ?_
    · go_simp
      refine hK _ _ ?_ ?_ HW
      · simp [upd]
      · exact rfl
    refine auto_op 4 [0] (by kernel_rfl) (fun y w' HW hd K hK => ?_) ?_
    · have e0 := hd_nth (hd 0 (by simp)) rfl
      go_simp
      refine hK _ _ ?_ ?_ HW
      · simp [upd, e0]
      · exact rfl
    refine auto_op 5 [1] (by kernel_rfl) (fun y w' HW hd K hK => ?_) ?_
    · have e1 := hd_nth (hd 1 (by simp)) rfl
      go_simp
      refine hK _ _ ?_ ?_ HW
      · simp [upd, e1]
      · exact rfl
    refine auto_op 6 [2] (by kernel_rfl) (fun y w' HW hd K hK => ?_) ?_
    · have e2 := hd_nth (hd 2 (by simp)) rfl
      have hcl : ∀ p : Addr, p.block < w.heap.size → w'.cell? p = w.cell? p := fun p hp => HW.cell hp
      go_simp
      refine hK _ _ ?_ ?_ HW
      · simp [upd, e2]
      · exact rfl
    refine auto_op 7 [] (by kernel_rfl) (fun y w' HW hd K hK => ?_) ?_
    · go_simp
      refine hK _ _ ?_ ?_ HW
      · simp [upd]
      · exact rfl
    refine auto_op 8 [4] (by kernel_rfl) (fun y w' HW hd K hK => ?_) ?_
    · have e4 := hd_nth (hd 4 (by simp)) rfl
      go_simp
      refine (HM.out _ HW).mono ?_
      rintro e w3 ⟨rfl, rfl⟩
      refine hK _ _ ?_ ?_ HW
      · simp [upd, e4]
      · exact rfl
    refine auto_op 9 [3, 5] (by kernel_rfl) (fun y w' HW hd K hK => ?_) ?_
    · have e3 := hd_nth (hd 3 (by simp)) rfl
      have e5 := hd_nth (hd 5 (by simp)) rfl
      go_simp
      refine hK _ _ ?_ ?_ HW
      · simp [upd, e3, e5]
      · exact rfl
    refine auto_last fun y w' HW hd K hK => ?_
    have e0 := hd_nth (hd 0 (by omega)) rfl
    have e1 := hd_nth (hd 1 (by omega)) rfl
    have e2 := hd_nth (hd 2 (by omega)) rfl
    have e3 := hd_nth (hd 3 (by omega)) rfl
    have e4 := hd_nth (hd 4 (by omega)) rfl
    have e5 := hd_nth (hd 5 (by omega)) rfl
    have e6 := hd_nth (hd 6 (by omega)) rfl
    go_simp
    refine hK _ _ ?_
    clear hd hK K e0 e1 e2 e3 e4 e5 e6
    go_wp2
    go_ret
    exact ⟨by rw [HX.out]; rfl, HW⟩
theorem target_any (j rb cb : Nat) (J : Job) (w : World) (h : JAt w j rb cb J) :
    Calls Tryd.prog 52 #[.pointer (some ⟨j, 0, none⟩)] w fun e w' => e = .returned (.int .u32 (tgt J.pc J.m)) ∧ Below w.heap.size w w' := by
  have c9 : w.cell? ⟨j, 9, none⟩ = some (.int .u32 J.pc) := h.cell 9 _ rfl
  have hlt := h.lt
  have HM : Hid (∀ W, Below w.heap.size w W → Calls Tryd.prog 20 #[.pointer (some ⟨j, 0, none⟩)] W fun e w' => e = .returned (.int .u32 (J.m % 4294967296)) ∧ W = w') := Lib.hid fun W hb => number_any j rb cb J W (h.more hb)
  have HX := Lib.hid (tgt_wrap J.pc J.m)
  clear h
  generalize J.m % 4294967296 = n at HM HX
  generalize tgt J.pc J.m = z at HX ⊢
  generalize J.pc = x at c9 HX
  go_enter Tryd.func52, Tryd.ntmps52
  go_upto_region 1 with fail
  apply wp_region_auto [3, 4, 5, 6, 7, 8, 9, 10] [_, _, _, _, _, _, _, _] (fun W' => Below w.heap.size w W')
  case hm => kernel_rfl
  case hT => intro y; simp only [setAll, List.setIfInBounds_toArray, List.set_cons_succ, List.set_cons_zero]; exact rfl
  case hok => kernel_rfl
  case hn => decide
  case hw => exact (Below.refl _ _).drew
  case hs =>
    refine auto_op 3 [] (by kernel_rfl) (fun y w' HW hd K hK => ?_) ?_
    · go_simp
      refine hK _ _ ?_ ?_ HW
      · simp [upd]
      · exact rfl
    refine auto_op 4 [0] (by kernel_rfl) (fun y w' HW hd K hK => ?_) ?_
    · have e0 := hd_nth (hd 0 (by simp)) rfl
      go_simp
      refine hK _ _ ?_ ?_ HW
      · simp [upd, e0]
      · exact rfl
    refine auto_op 5 [1] (by kernel_rfl) (fun y w' HW hd K hK => ?_) ?_
    · have e1 := hd_nth (hd 1 (by simp)) rfl
      go_simp
      refine hK _ _ ?_ ?_ HW
      · simp [upd, e1]
      · exact rfl
    refine auto_op 6 [2] (by kernel_rfl) (fun y w' HW hd K hK => ?_) ?_
    · have e2 := hd_nth (hd 2 (by simp)) rfl
      have hcl : ∀ p : Addr, p.block < w.heap.size → w'.cell? p = w.cell? p := fun p hp => HW.cell hp
      go_simp
      refine hK _ _ ?_ ?_ HW
      · simp [upd, e2]
      · exact rfl
    refine auto_op 7 [] (by kernel_rfl) (fun y w' HW hd K hK => ?_) ?_
    · go_simp
      refine hK _ _ ?_ ?_ HW
      · simp [upd]
      · exact rfl
    refine auto_op 8 [4] (by kernel_rfl) (fun y w' HW hd K hK => ?_) ?_
    · have e4 := hd_nth (hd 4 (by simp)) rfl
      go_simp
      refine (HM.out _ HW).mono ?_
      rintro e w3 ⟨rfl, rfl⟩
      refine hK _ _ ?_ ?_ HW
      · simp [upd, e4]
      · exact rfl
    refine auto_op 9 [5] (by kernel_rfl) (fun y w' HW hd K hK => ?_) ?_
    · have e5 := hd_nth (hd 5 (by simp)) rfl
      go_simp
      refine hK _ _ ?_ ?_ HW
      · simp [upd, e5]
      · exact rfl
    refine auto_op 10 [3, 6] (by kernel_rfl) (fun y w' HW hd K hK => ?_) ?_
    · have e3 := hd_nth (hd 3 (by simp)) rfl
      have e6 := hd_nth (hd 6 (by simp)) rfl
      go_simp
      refine hK _ _ ?_ ?_ HW
      · simp [upd, e3, e6]
      · exact rfl
    refine auto_last fun y w' HW hd K hK => ?_
    have e0 := hd_nth (hd 0 (by omega)) rfl
    have e1 := hd_nth (hd 1 (by omega)) rfl
    have e2 := hd_nth (hd 2 (by omega)) rfl
    have e3 := hd_nth (hd 3 (by omega)) rfl
    have e4 := hd_nth (hd 4 (by omega)) rfl
    have e5 := hd_nth (hd 5 (by omega)) rfl
    have e6 := hd_nth (hd 6 (by omega)) rfl
    have e7 := hd_nth (hd 7 (by omega)) rfl
    go_simp
    refine hK _ _ ?_
    clear hd hK K e0 e1 e2 e3 e4 e5 e6 e7
    go_wp2
    go_ret
    exact ⟨by rw [HX.out]; rfl, HW⟩
theorem askew_is (j rb cb : Nat) (J : Job) (w : World) (h : JAt w j rb cb J) (q : Bool) (hq : (adr J.va J.m % 4 != 0) = q) :
    Calls Tryd.prog 23 #[.pointer (some ⟨j, 0, none⟩)] w fun e w' => e = .returned (.bool q) ∧ Below w.heap.size w w' := by
  have HA := Lib.hid (address_any j rb cb J w h)
  have hz := adr_in J.va J.m
  clear h
  generalize adr J.va J.m = z at HA hq hz
  have hq2 : (z.tmod 4 != 0) = q := by rw [Int.tmod_eq_emod_of_nonneg hz.1]; exact hq
  have HQ := Lib.hid hq
  clear hq hq2
  obtain ⟨h0, h1⟩ := hz
  go_enter Tryd.func23, Tryd.ntmps23
  go_wp2_with fail
  refine HA.out.mono ?_
  rintro e w1 ⟨rfl, hb⟩
  have HB := Lib.hid hb
  clear hb
  go_wp2
  go_ret
  exact ⟨by rw [← HQ.out]; rfl, HB.out⟩
/-- how wide -/
def wdZ (o : Int) : Int := if o = 23 ∨ o = 26 then 4 else 1
theorem width_any (j rb cb : Nat) (J : Job) (w : World) (h : JAt w j rb cb J) (z : Int) (hz : wdZ J.o = z) :
    Calls Tryd.prog 49 #[.pointer (some ⟨j, 0, none⟩)] w fun e w' => e = .returned (.int .i64 z) ∧ w = w' := by
  subst hz
  have c0 : w.cell? ⟨j, 0, none⟩ = some (.int .i64 J.o) := h.cell 0 _ rfl
  clear h
  unfold wdZ
  generalize J.o = o at c0 ⊢
  by_cases h1 : o = 23
  · subst h1
    go_enter Tryd.func49, Tryd.ntmps49
    go_wp2
    go_ret
    exact ⟨rfl, rfl⟩
  by_cases h2 : o = 26
  · subst h2
    go_enter Tryd.func49, Tryd.ntmps49
    go_wp2
    go_ret
    exact ⟨rfl, rfl⟩
  · have e1 : (o == 23) = false := by rw [beq_eq_false_iff_ne]; exact h1
    have e2 : (o == 26) = false := by rw [beq_eq_false_iff_ne]; exact h2
    rw [if_neg (by omega)]
    clear h1 h2
    go_enter Tryd.func49, Tryd.ntmps49
    go_wp2
    go_ret
    exact ⟨rfl, rfl⟩
theorem trap_any (c t : Int) (w : World) :
    Calls Tryd.prog 48 #[.int .u32 c, .int .u32 t] w fun e w' => e = .returned (Eff.val (trapE c t)) ∧ Below w.heap.size w w' := by
  have HRUN := eff_run w
  have HB := Lib.hid (eff_below w)
  have HN := Lib.hid (eff_blk w)
  go_enter Tryd.func48, Tryd.ntmps48
  generalize hQQ : bodyPost _ _ _ = QQ
  have HQQ := Lib.hid hQQ
  clear hQQ
  go_upto_region 0 with fail
  refine wp_region_lit ?_
  refine Great.wpList_allocTo rfl (some 4) rfl (.pointer (some ⟨w.heap.size, 0, none⟩)) (.cells zeroE.cs.toArray 39) (HRUN.out _ _ rfl) ?_
  generalize hW : w.alloc (.cells zeroE.cs.toArray 39) = W at HB HN ⊢
  clear HRUN hW
  go_upto_region 1 with fail
  refine wp_region_lit ?_
  refine Great.wpList_readTo rfl _ rfl (.int .u32 c) (by kernel_rfl) ?_
  refine Great.wpList_readTo rfl _ rfl (.int .u32 t) (by kernel_rfl) ?_
  refine wpList_buildTo rfl 39 _ rfl _ rfl (Eff.cs (trapE c t)).toArray (by kernel_rfl) ?_
  refine wpList_store_rowTo rfl 39 _ _ rfl rfl w.heap.size (Eff.cs (trapE c t)).toArray (by kernel_rfl) (by kernel_rfl) 39 zeroE.cs.toArray HN.out (size_eff _) rfl (one_eff _) ?_
  have HB9 := Lib.hid (below_setRow HB.out (Nat.le_refl _) (Eff.cs (trapE c t)).toArray)
  have HN9 := Lib.hid (HN.out.row (Eff.cs (trapE c t)))
  generalize World.setRow _ w.heap.size (Eff.cs (trapE c t)).toArray = W9 at HB9 HN9 ⊢
  go_wp2
  rw [← HQQ.out]
  exact bodyPost_ret (v := Eff.val (trapE c t)) (results_cell_row Tryd.results48 _ _ _ _ _ _ _ rfl HN9.out Tryd.underlying39 rfl (size_eff _)) rfl ⟨rfl, HB9.out⟩
end Go.Proofs.YtniaclhmfmkikaaDoor.Ex
