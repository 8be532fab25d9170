/- Several texts in one: Vp Vq -/
import Derived.Test.YtniaclhmfmkikaaGreatDoorZ20
import Derived.Test.YtniaclhmfmkikaaGreatDoorZ21
section
/- The document's core (hermitageref13): both files; done, trap, Word. -/
namespace Go.Proofs.YtniaclhmfmkikaaGreatDoor.Ex
open Go.RowKit Ut
set_option maxRecDepth 100000
set_option linter.unusedVariables false
set_option maxHeartbeats 4000000

/-- the document's files -/
structure Doc (w : World) (ab bb i : Nat) (p : Int) (R : List Int) (Q : List Nat) : Prop where
  reg : Rg.RAt w ab p R
  csr : Cs.RAt w bb i Q
  n3 : ab ≠ bb
section
variable {w w' : World} {ab bb i : Nat} {p : Int} {R : List Int} {Q : List Nat}
theorem Doc.lts (h : Doc w ab bb i p R Q) : ab < w.heap.size ∧ bb < w.heap.size := ⟨h.reg.1.lt, h.csr.1.lt⟩
theorem Doc.at {B : Nat} (h : Doc w ab bb i p R Q) (hb : Below B w w') (hl : ab < B ∧ bb < B) : Doc w' ab bb i p R Q := ⟨h.reg.below hb hl.1, h.csr.below hb hl.2, h.n3⟩
theorem Doc.below (h : Doc w ab bb i p R Q) (hb : Below w.heap.size w w') : Doc w' ab bb i p R Q := h.at hb h.lts
theorem Doc.regs {p' : Int} {R' : List Int} (h : Doc w ab bb i p R Q) (hF : Rg.RAt w' ab p' R') (hg : w.grownBy w' (some ab)) : Doc w' ab bb i p' R' Q := ⟨hF, h.csr.kept hg (fun e => h.n3 (by injection e with e; exact e.symm)), h.n3⟩
theorem Doc.csrs {Q' : List Nat} (h : Doc w ab bb i p R Q) (hF : Cs.RAt w' bb i Q') (hg : w.grownBy w' (some bb)) : Doc w' ab bb i p R Q' := ⟨h.reg.kept hg (fun e => h.n3 (by injection e)), hF, h.n3⟩
theorem Doc.kp {S : List Nat} (h : Doc w ab bb i p R Q) (k : Kp S w w') (h1 : ab ∉ S) (h2 : bb ∉ S) : Doc w' ab bb i p R Q := ⟨⟨Blk.kp h.reg.1 k h1, h.reg.2⟩, ⟨Blk.kp h.csr.1 k h2, h.csr.2⟩, h.n3⟩
theorem not_old2 {n : Nat} (h : ab < n ∧ bb < n) : n ∉ [ab, bb] ∧ n + 1 ∉ [ab, bb] := by
  obtain ⟨h1, h2⟩ := h
  simp
  omega
end
/-- the Effect is stored whole into its own block -/
theorem fin_doc {w V : World} {ab bb i g : Nat} {p : Int} {R : List Int} {Q : List Nat} {cs : List Value} (hK : Kp [ab, bb] w V) (hE : Doc V ab bb i p R Q) (hl : ab < w.heap.size ∧ bb < w.heap.size) (hg : w.heap.size ≤ g)
    (hN : Blk V g 32 cs) (E : Eff) :
    Doc (V.setRow g E.cs.toArray) ab bb i p R Q ∧ Kp [ab, bb] w (V.setRow g E.cs.toArray) ∧ Blk (V.setRow g E.cs.toArray) g 32 E.cs := by
  have hb := below_setRow (Below.refl w.heap.size V) hg E.cs.toArray
  exact ⟨hE.at hb hl, ⟨hb.os.trans hK.os, hb.tape.trans hK.tape, hb.output.trans hK.output, Nat.le_trans hK.size hb.size, fun q hq hn => (hb.block q hq).trans (hK.block q hq hn)⟩, hN.row _⟩

theorem refTrap_any (c t : Int) (w : World) :
    Calls Tryz.prog 34 #[.int .u32 c, .int .u32 t] w fun e w' => e = .returned (Eff.val (trapE c t)) ∧ Below w.heap.size w w' := by
  have HRUN := eff_run w
  have HB := Lib.hid (eff_below w)
  have HN := Lib.hid (eff_blk w)
  go_enter Tryz.func34, Tryz.ntmps34
  generalize hQQ : bodyPost _ _ _ = QQ
  have HQQ := Lib.hid hQQ
  clear hQQ
  go_upto_region 0 with fail
  refine wp_region_lit ?_
  refine Great.wpList_allocTo rfl (some 4) rfl (.pointer (some ⟨w.heap.size, 0, none⟩)) (.cells zeroE.cs.toArray 32) (HRUN.out _ _ rfl) ?_
  generalize hW : w.alloc (.cells zeroE.cs.toArray 32) = W at HB HN ⊢
  clear HRUN hW
  go_upto_region 1 with fail
  refine wp_region_lit ?_
  refine Great.wpList_readTo rfl _ rfl (.int .u32 c) (by kernel_rfl) ?_
  refine Great.wpList_readTo rfl _ rfl (.int .u32 t) (by kernel_rfl) ?_
  refine wpList_buildTo rfl 32 _ rfl _ rfl (Eff.cs (trapE c t)).toArray (by kernel_rfl) ?_
  refine wpList_store_rowTo rfl 32 _ _ rfl rfl w.heap.size (Eff.cs (trapE c t)).toArray (by kernel_rfl) (by kernel_rfl) 32 zeroE.cs.toArray HN.out (size_eff _) rfl (one_eff _) ?_
  have HB9 := Lib.hid (below_setRow HB.out (Nat.le_refl _) (Eff.cs (trapE c t)).toArray)
  have HN9 := Lib.hid (HN.out.row (Eff.cs (trapE c t)))
  generalize World.setRow _ w.heap.size (Eff.cs (trapE c t)).toArray = W9 at HB9 HN9 ⊢
  go_wp2
  rw [← HQQ.out]
  exact bodyPost_ret (v := Eff.val (trapE c t)) (results_cell_row Tryz.results34 _ _ _ _ _ _ _ rfl HN9.out Tryz.underlying32 rfl (size_eff _)) rfl ⟨rfl, HB9.out⟩
theorem refWord_any (o d a b m x : Int) (hx : Is.encZ o d a b m = x) (w : World) :
    Calls Tryz.prog 14 #[Is.insV o d a b m] w fun e w' => e = .returned (.int .u32 x) ∧ Below w.heap.size w w' := by
  obtain ⟨z, hz⟩ : ∃ z, Is.encE o d a b m = z := ⟨_, rfl⟩
  have hb := Lib.hid (Is.ins_below o d a b m w)
  have HC : Hid (∀ V, Calls Tryz.prog 19 #[Is.insV o d a b m] V fun e w' => e = .returned (.tuple #[.int .u32 x, .int .i64 z]) ∧ Below V.heap.size V w') := Lib.hid fun V => Is.refEnc_any o d a b m x z hx hz V
  clear hx hz
  go_enter Tryz.func14, Tryz.ntmps14
  go_wp2_with fail
  refine (HC.out _).mono ?_
  rintro e w1 ⟨rfl, hb1⟩
  have HB := Lib.hid (hb.out.trans (hb1.mono hb.out.size))
  clear hb1
  go_wp2
  go_ret
  exact ⟨rfl, HB.out⟩
theorem refDone_any (ab bb i : Nat) (p pc : Int) (R : List Int) (Q : List Nat) (w : World) (h : Doc w ab bb i p R Q) :
    Calls Tryz.prog 36 #[.pointer (some ⟨ab, 0, none⟩), .int .u32 pc] w fun e w' => e = .returned (Eff.val (doneE pc)) ∧ Doc w' ab bb i pc R Q ∧ Kp [ab, bb] w w' := by
  have HRUN := eff_run w
  have HB := Lib.hid (eff_below w)
  have HN := Lib.hid (eff_blk w)
  have HLT := Lib.hid h.lts
  have HE := Lib.hid (h.below HB.out)
  have HK := Lib.hid (Kp.of_below (S := [ab, bb]) HB.out)
  clear h
  go_enter Tryz.func36, Tryz.ntmps36
  generalize hQQ : bodyPost _ _ _ = QQ
  have HQQ := Lib.hid hQQ
  clear hQQ
  go_upto_region 0 with fail
  refine wp_region_lit ?_
  refine Great.wpList_allocTo rfl (some 4) rfl (.pointer (some ⟨w.heap.size, 0, none⟩)) (.cells zeroE.cs.toArray 32) (HRUN.out _ _ rfl) ?_
  generalize hW : w.alloc (.cells zeroE.cs.toArray 32) = W at HB HN HE HK ⊢
  clear HRUN hW
  have c16 : W.cell? ⟨ab, 16, none⟩ = some (.int .u32 p) := HE.out.reg.pc
  have f16 : W.frozen? ⟨ab, 16, none⟩ = false := Blk.frozen HE.out.reg.1 16
  have hlt := HE.out.reg.1.lt
  have HEV := Lib.hid (HE.out.regs (HE.out.reg.jump pc) (grown_setCell W ab 16 (.int .u32 pc)))
  have HKV : Hid (Kp [ab, bb] w (W.setCell ⟨ab, 16, none⟩ (.int .u32 pc))) := Lib.hid (HK.out.trans (Kp.of_grown (grown_setCell W ab 16 (.int .u32 pc)) (by simp)))
  have HNV : Hid (Blk (W.setCell ⟨ab, 16, none⟩ (.int .u32 pc)) w.heap.size 32 zeroE.cs) := Lib.hid (Blk.kp HN.out (Kp.of_grown (S := [ab, bb]) (grown_setCell W ab 16 (.int .u32 pc)) (by simp)) (not_old2 HLT.out).1)
  clear HN HE HK HB
  go_upto_region 2 with fail
  generalize W.setCell ⟨ab, 16, none⟩ (.int .u32 pc) = V at HEV HKV HNV ⊢
  clear c16 f16 hlt
  refine wp_region_lit ?_
  refine Great.wpList_readTo rfl _ rfl (.int .u32 pc) (by kernel_rfl) ?_
  refine wpList_buildTo rfl 32 _ rfl _ rfl (Eff.cs (doneE pc)).toArray (by kernel_rfl) ?_
  refine wpList_store_rowTo rfl 32 _ _ rfl rfl w.heap.size (Eff.cs (doneE pc)).toArray (by kernel_rfl) (by kernel_rfl) 32 zeroE.cs.toArray HNV.out (size_eff _) rfl (one_eff _) ?_
  obtain ⟨hE9, hK9, hN9⟩ := fin_doc HKV.out HEV.out HLT.out (Nat.le_refl _) HNV.out (doneE pc)
  have HE9 := Lib.hid hE9
  have HK9 := Lib.hid hK9
  have HN9 := Lib.hid hN9
  clear hE9 hK9 hN9 HEV HKV HNV
  generalize World.setRow _ w.heap.size (Eff.cs (doneE pc)).toArray = W9 at HE9 HK9 HN9 ⊢
  go_wp2
  rw [← HQQ.out]
  exact bodyPost_ret (v := Eff.val (doneE pc)) (results_cell_row Tryz.results36 _ _ _ _ _ _ _ rfl HN9.out Tryz.underlying32 rfl (size_eff _)) rfl ⟨rfl, HE9.out, HK9.out⟩

/-- what is reckoned -/
theorem refReckon_upper (o d a b m : Int) (ab bb i : Nat) (p : Int) (R : List Int) (Q : List Nat) (w : World) (h : Doc w ab bb i p R Q) (ho : o = 22) :
    Calls Tryz.prog 35 #[Is.insV o d a b m, .pointer (some ⟨ab, 0, none⟩)] w fun e w' => e = .returned (.tuple #[.int .u32 (m % 4294967296 * 262144 % 4294967296), .bool true]) ∧ Below w.heap.size w w' := by
  subst ho
  have hb := Lib.hid (Is.ins_below 22 d a b m w)
  have HE := Lib.hid (h.below hb.out)
  obtain ⟨U, hU⟩ : ∃ U, U = Is.insW 22 d a b m w := ⟨_, rfl⟩
  have HU := Lib.hid hU
  have HI : Hid (Is.InsAt U w.heap.size 22 d a b m) := Lib.hid (hU ▸ Is.ins_at 22 d a b m w)
  rw [← hU] at HE hb
  obtain ⟨r0, r1, r2, r3, r4⟩ := HI.out.cells
  have hlt := HI.out.lt
  have A1 := Lib.hid (Rg.refGet_any ab p a R U HE.out.reg)
  have A2 := Lib.hid (Rg.refGet_any ab p b R U HE.out.reg)
  generalize Rg.getR R a = x at A1
  generalize Rg.getR R b = y at A2
  generalize Rg.errZ a = u at A1
  generalize Rg.errZ b = v at A2
  clear h hU
  go_enter Tryz.func35, Tryz.ntmps35
  go_wp2_with fail
  rw [show w.alloc (.cells #[.int .i64 22, .int .i64 d, .int .i64 a, .int .i64 b, .int .i64 m] 37) = U from HU.out.symm]
  refine A1.out.mono ?_
  rintro e w1 ⟨rfl, rfl⟩
  go_wp2_with fail
  refine A2.out.mono ?_
  rintro e w1 ⟨rfl, rfl⟩
  go_wp2_with fail
  refine (Al.refUpper_any m U).mono ?_
  rintro e w1 ⟨rfl, rfl⟩
  go_wp2
  go_ret2
  exact ⟨rfl, hb.out⟩
theorem refReckon_imm (o d a b m : Int) (ab bb i : Nat) (p : Int) (R : List Int) (Q : List Nat) (w : World) (h : Doc w ab bb i p R Q) (ho : 14 ≤ o ∧ o ≤ 21) (x n : Nat) (ex : Rg.getR R a = (x : Int)) (en : m % 4294967296 = (n : Int)) (hx : x < 4294967296) (hn : n < 4294967296) :
    Calls Tryz.prog 35 #[Is.insV o d a b m, .pointer (some ⟨ab, 0, none⟩)] w fun e w' => e = .returned (.tuple #[.int .u32 ((Al.reckN (Al.plainN o) x n : Nat) : Int), .bool true]) ∧ Below w.heap.size w w' := by
  have hb := Lib.hid (Is.ins_below o d a b m w)
  have HE := Lib.hid (h.below hb.out)
  obtain ⟨U, hU⟩ : ∃ U, U = Is.insW o d a b m w := ⟨_, rfl⟩
  have HU := Lib.hid hU
  have HI : Hid (Is.InsAt U w.heap.size o d a b m) := Lib.hid (hU ▸ Is.ins_at o d a b m w)
  rw [← hU] at HE hb
  obtain ⟨r0, r1, r2, r3, r4⟩ := HI.out.cells
  have hlt := HI.out.lt
  have A1 := Lib.hid (Rg.refGet_any ab p a R U HE.out.reg)
  have A2 := Lib.hid (Rg.refGet_any ab p b R U HE.out.reg)
  rw [ex] at A1
  generalize Rg.getR R b = y at A2
  generalize Rg.errZ a = u at A1
  generalize Rg.errZ b = v at A2
  have A3 := Lib.hid (Al.refPlain_any o U)
  have hp : (Al.plainN o != 0) = true := by
    rw [bne_iff_ne]
    unfold Al.plainN
    split
    · decide
    · rw [if_pos (by omega)]; omega
  rw [hp] at A3
  have A4 := Lib.hid (Al.refDo_any (Al.plainN o) x n hx hn U)
  generalize Al.reckN (Al.plainN o) x n = z at A4 ⊢
  generalize Al.reckE (Al.plainN o) = q at A4
  generalize Al.plainN o = pl at A3 A4
  rw [← en] at A4
  have e22 : (o == 22) = false := by rw [beq_eq_false_iff_ne]; omega
  clear h hU ho hp hn ex en
  go_enter Tryz.func35, Tryz.ntmps35
  go_wp2_with fail
  rw [show w.alloc (.cells #[.int .i64 o, .int .i64 d, .int .i64 a, .int .i64 b, .int .i64 m] 37) = U from HU.out.symm]
  refine A1.out.mono ?_
  rintro e w1 ⟨rfl, rfl⟩
  go_wp2_with fail
  refine A2.out.mono ?_
  rintro e w1 ⟨rfl, rfl⟩
  go_wp2_with fail
  refine A3.out.mono ?_
  rintro e w1 ⟨rfl, rfl⟩
  go_wp2_with fail
  refine A4.out.mono ?_
  rintro e w1 ⟨rfl, rfl⟩
  go_wp2
  go_ret2
  exact ⟨rfl, hb.out⟩
theorem refReckon_reg (o d a b m : Int) (ab bb i : Nat) (p : Int) (R : List Int) (Q : List Nat) (w : World) (h : Doc w ab bb i p R Q) (ho : o < 14 ∨ 22 < o) (x y : Nat) (ex : Rg.getR R a = (x : Int)) (ey : Rg.getR R b = (y : Int)) (hx : x < 4294967296) (hy : y < 4294967296) (t : Bool) (ht : (Al.reckE o == 0) = t) :
    Calls Tryz.prog 35 #[Is.insV o d a b m, .pointer (some ⟨ab, 0, none⟩)] w fun e w' => e = .returned (.tuple #[.int .u32 ((Al.reckN o x y : Nat) : Int), .bool t]) ∧ Below w.heap.size w w' := by
  have hb := Lib.hid (Is.ins_below o d a b m w)
  have HE := Lib.hid (h.below hb.out)
  obtain ⟨U, hU⟩ : ∃ U, U = Is.insW o d a b m w := ⟨_, rfl⟩
  have HU := Lib.hid hU
  have HI : Hid (Is.InsAt U w.heap.size o d a b m) := Lib.hid (hU ▸ Is.ins_at o d a b m w)
  rw [← hU] at HE hb
  obtain ⟨r0, r1, r2, r3, r4⟩ := HI.out.cells
  have hlt := HI.out.lt
  have A1 := Lib.hid (Rg.refGet_any ab p a R U HE.out.reg)
  have A2 := Lib.hid (Rg.refGet_any ab p b R U HE.out.reg)
  rw [ex] at A1
  rw [ey] at A2
  generalize Rg.errZ a = u at A1
  generalize Rg.errZ b = v at A2
  have A3 := Lib.hid (Al.refPlain_any o U)
  have hp : (Al.plainN o != 0) = false := by
    rw [show Al.plainN o = 0 by unfold Al.plainN; rw [if_neg (by omega), if_neg (by omega)]]
    rfl
  rw [hp] at A3
  have A4 := Lib.hid (Al.refDo_any o x y hx hy U)
  generalize Al.reckN o x y = z at A4 ⊢
  generalize Al.reckE o = q at A4 ht
  generalize Al.plainN o = pl at A3
  have e22 : (o == 22) = false := by rw [beq_eq_false_iff_ne]; omega
  have HT := Lib.hid ht
  clear h hU ho hp hx hy ex ey ht
  go_enter Tryz.func35, Tryz.ntmps35
  go_wp2_with fail
  rw [show w.alloc (.cells #[.int .i64 o, .int .i64 d, .int .i64 a, .int .i64 b, .int .i64 m] 37) = U from HU.out.symm]
  refine A1.out.mono ?_
  rintro e w1 ⟨rfl, rfl⟩
  go_wp2_with fail
  refine A2.out.mono ?_
  rintro e w1 ⟨rfl, rfl⟩
  go_wp2_with fail
  refine A3.out.mono ?_
  rintro e w1 ⟨rfl, rfl⟩
  go_wp2_with fail
  refine A4.out.mono ?_
  rintro e w1 ⟨rfl, rfl⟩
  go_wp2
  go_ret2
  exact ⟨by rw [HT.out]; rfl, hb.out⟩
end Go.Proofs.YtniaclhmfmkikaaGreatDoor.Ex
end
section
/- The document's core: access. -/
namespace Go.Proofs.YtniaclhmfmkikaaGreatDoor.Ex
open Go.RowKit Ut
set_option maxRecDepth 100000
set_option linter.unusedVariables false
set_option maxHeartbeats 4000000

theorem splice_effD (E : Eff) : splice zeroE.cs 0 E.cs = E.cs := by simp [splice, Eff.cs]
theorem nxt_wrap (p : Int) : IntKind.u32.wrap (p + 4) = nxt p := by
  simp [IntKind.wrap, IntKind.bits, IntKind.signed, nxt]
theorem refAskew_23 (d a b m : Int) (ab bb i : Nat) (p : Int) (R : List Int) (Q : List Nat) (w : World) (h : Doc w ab bb i p R Q) (hR : RegOk R) (hq : adr (Rg.getR R a) m % 4 ≠ 0) :
    Calls Tryz.prog 37 #[Is.insV 23 d a b m, .pointer (some ⟨ab, 0, none⟩)] w fun e w' => e = .returned (Eff.val (trapE 2 (adr (Rg.getR R a) m))) ∧ Doc w' ab bb i p R Q ∧ Kp [ab, bb] w w' := by
  obtain ⟨U, hU, hb, hI, hN, hs⟩ := two_new w 23 d a b m
  have HU := Lib.hid hU
  have HEU := Lib.hid (h.below hb)
  have HIU := Lib.hid hI
  have HNU := Lib.hid hN
  have HKU := Lib.hid (Kp.of_below (S := [ab, bb]) hb)
  have HLT := Lib.hid h.lts
  have HG := Lib.hid (not_old2 HLT.out).2
  have HR2 := eff_run2 (Is.insW 23 d a b m w)
  obtain ⟨r0, r1, r2, r3, r4⟩ := hI.cells
  have hlt := hI.lt
  have A1 := Lib.hid (Rg.refGet_any ab p a R U HEU.out.reg)
  have A2 := Lib.hid (Rg.refGet_any ab p b R U HEU.out.reg)
  have hx := hR.get a
  have hz := adr_in (Rg.getR R a) m
  have HZ : Hid ((Rg.getR R a + m % 4294967296) % 4294967296 = adr (Rg.getR R a) m) := Lib.hid (by unfold adr; omega)
  have c16 : U.cell? ⟨ab, 16, none⟩ = some (.int .u32 p) := HEU.out.reg.pc
  have hla := HEU.out.reg.1.lt
  generalize adr (Rg.getR R a) m = z at HZ hq hz ⊢
  generalize Rg.getR R a = x at A1 hx HZ
  generalize Rg.getR R b = y at A2 ⊢
  generalize Rg.errZ a = u at A1
  generalize Rg.errZ b = v at A2
  obtain ⟨x0, x1⟩ := hx
  have hq2 : (z % 4 != 0) = true := by simpa using hq
  clear hq
  clear h hU hb hI hN hs
  go_enter Tryz.func37, Tryz.ntmps37
  generalize hQQ : bodyPost _ _ _ = QQ
  have HQQ := Lib.hid hQQ
  clear hQQ
  go_upto_region 0 with fail
  refine wp_region_lit ?_
  refine Great.wpList_boxTo rfl 37 _ rfl _ rfl w.heap.size rfl #[.int .i64 23, .int .i64 d, .int .i64 a, .int .i64 b, .int .i64 m] rfl ?_
  refine Great.wpList_allocTo rfl (some 4) rfl (.pointer (some ⟨w.heap.size + 1, 0, none⟩)) (.cells zeroE.cs.toArray 32) (HR2.out _ _ rfl _ (by simp)) ?_
  rw [show (w.alloc (.cells #[.int .i64 23, .int .i64 d, .int .i64 a, .int .i64 b, .int .i64 m] 37)).alloc (.cells zeroE.cs.toArray 32) = U from HU.out.symm]
  clear HR2 HU
  go_wp2_with fail
  refine A1.out.mono ?_
  rintro e w1 ⟨rfl, rfl⟩
  go_wp2_with fail
  refine A2.out.mono ?_
  rintro e w1 ⟨rfl, rfl⟩
  go_upto_region 4 with fail
  rw [HZ.out]
  go_wp2_with fail
  clear r0 r1 r2 r3 r4 hlt c16 hla hq2
  refine (refTrap_any 2 z U).mono ?_
  rintro e V ⟨rfl, hb⟩
  have HEV := Lib.hid (HEU.out.below hb)
  have HIV := Lib.hid (HIU.out.more hb)
  have HNV := Lib.hid (HNU.out.below hb HNU.out.lt)
  have HKV := Lib.hid (HKU.out.trans (Kp.of_below hb))
  clear hb HEU HIU HNU HKU
  go_simp
  rename_i hK
  refine hK _ _ ?_
  clear hK
  refine wpList_store_rowTo rfl 32 _ _ rfl rfl (w.heap.size + 1) (Eff.cs (trapE 2 z)).toArray (by kernel_rfl) (by kernel_rfl) 32 zeroE.cs.toArray HNV.out (size_eff _) rfl (one_eff _) ?_
  obtain ⟨hE9, hK9, hN9⟩ := fin_doc HKV.out HEV.out HLT.out (Nat.le_succ _) HNV.out (trapE 2 z)
  have HE9 := Lib.hid hE9
  have HK9 := Lib.hid hK9
  have HN9 := Lib.hid hN9
  clear hE9 hK9 hN9 HEV HKV HNV
  generalize World.setRow _ (w.heap.size + 1) (Eff.cs (trapE 2 z)).toArray = W9 at HE9 HK9 HN9 ⊢
  go_wp2
  rw [← HQQ.out]
  exact bodyPost_ret (v := Eff.val (trapE 2 z)) (results_cell_row Tryz.results37 _ _ _ _ _ _ _ rfl HN9.out Tryz.underlying32 rfl (size_eff _)) rfl ⟨rfl, HE9.out, HK9.out⟩
theorem refAskew_26 (d a b m : Int) (ab bb i : Nat) (p : Int) (R : List Int) (Q : List Nat) (w : World) (h : Doc w ab bb i p R Q) (hR : RegOk R) (hq : adr (Rg.getR R a) m % 4 ≠ 0) :
    Calls Tryz.prog 37 #[Is.insV 26 d a b m, .pointer (some ⟨ab, 0, none⟩)] w fun e w' => e = .returned (Eff.val (trapE 2 (adr (Rg.getR R a) m))) ∧ Doc w' ab bb i p R Q ∧ Kp [ab, bb] w w' := by
  obtain ⟨U, hU, hb, hI, hN, hs⟩ := two_new w 26 d a b m
  have HU := Lib.hid hU
  have HEU := Lib.hid (h.below hb)
  have HIU := Lib.hid hI
  have HNU := Lib.hid hN
  have HKU := Lib.hid (Kp.of_below (S := [ab, bb]) hb)
  have HLT := Lib.hid h.lts
  have HG := Lib.hid (not_old2 HLT.out).2
  have HR2 := eff_run2 (Is.insW 26 d a b m w)
  obtain ⟨r0, r1, r2, r3, r4⟩ := hI.cells
  have hlt := hI.lt
  have A1 := Lib.hid (Rg.refGet_any ab p a R U HEU.out.reg)
  have A2 := Lib.hid (Rg.refGet_any ab p b R U HEU.out.reg)
  have hx := hR.get a
  have hz := adr_in (Rg.getR R a) m
  have HZ : Hid ((Rg.getR R a + m % 4294967296) % 4294967296 = adr (Rg.getR R a) m) := Lib.hid (by unfold adr; omega)
  have c16 : U.cell? ⟨ab, 16, none⟩ = some (.int .u32 p) := HEU.out.reg.pc
  have hla := HEU.out.reg.1.lt
  generalize adr (Rg.getR R a) m = z at HZ hq hz ⊢
  generalize Rg.getR R a = x at A1 hx HZ
  generalize Rg.getR R b = y at A2 ⊢
  generalize Rg.errZ a = u at A1
  generalize Rg.errZ b = v at A2
  obtain ⟨x0, x1⟩ := hx
  have hq2 : (z % 4 != 0) = true := by simpa using hq
  clear hq
  clear h hU hb hI hN hs
  go_enter Tryz.func37, Tryz.ntmps37
  generalize hQQ : bodyPost _ _ _ = QQ
  have HQQ := Lib.hid hQQ
  clear hQQ
  go_upto_region 0 with fail
  refine wp_region_lit ?_
  refine Great.wpList_boxTo rfl 37 _ rfl _ rfl w.heap.size rfl #[.int .i64 26, .int .i64 d, .int .i64 a, .int .i64 b, .int .i64 m] rfl ?_
  refine Great.wpList_allocTo rfl (some 4) rfl (.pointer (some ⟨w.heap.size + 1, 0, none⟩)) (.cells zeroE.cs.toArray 32) (HR2.out _ _ rfl _ (by simp)) ?_
  rw [show (w.alloc (.cells #[.int .i64 26, .int .i64 d, .int .i64 a, .int .i64 b, .int .i64 m] 37)).alloc (.cells zeroE.cs.toArray 32) = U from HU.out.symm]
  clear HR2 HU
  go_wp2_with fail
  refine A1.out.mono ?_
  rintro e w1 ⟨rfl, rfl⟩
  go_wp2_with fail
  refine A2.out.mono ?_
  rintro e w1 ⟨rfl, rfl⟩
  go_upto_region 4 with fail
  rw [HZ.out]
  go_wp2_with fail
  clear r0 r1 r2 r3 r4 hlt c16 hla hq2
  refine (refTrap_any 2 z U).mono ?_
  rintro e V ⟨rfl, hb⟩
  have HEV := Lib.hid (HEU.out.below hb)
  have HIV := Lib.hid (HIU.out.more hb)
  have HNV := Lib.hid (HNU.out.below hb HNU.out.lt)
  have HKV := Lib.hid (HKU.out.trans (Kp.of_below hb))
  clear hb HEU HIU HNU HKU
  go_simp
  rename_i hK
  refine hK _ _ ?_
  clear hK
  refine wpList_store_rowTo rfl 32 _ _ rfl rfl (w.heap.size + 1) (Eff.cs (trapE 2 z)).toArray (by kernel_rfl) (by kernel_rfl) 32 zeroE.cs.toArray HNV.out (size_eff _) rfl (one_eff _) ?_
  obtain ⟨hE9, hK9, hN9⟩ := fin_doc HKV.out HEV.out HLT.out (Nat.le_succ _) HNV.out (trapE 2 z)
  have HE9 := Lib.hid hE9
  have HK9 := Lib.hid hK9
  have HN9 := Lib.hid hN9
  clear hE9 hK9 hN9 HEV HKV HNV
  generalize World.setRow _ (w.heap.size + 1) (Eff.cs (trapE 2 z)).toArray = W9 at HE9 HK9 HN9 ⊢
  go_wp2
  rw [← HQQ.out]
  exact bodyPost_ret (v := Eff.val (trapE 2 z)) (results_cell_row Tryz.results37 _ _ _ _ _ _ _ rfl HN9.out Tryz.underlying32 rfl (size_eff _)) rfl ⟨rfl, HE9.out, HK9.out⟩
end Go.Proofs.YtniaclhmfmkikaaGreatDoor.Ex
end
