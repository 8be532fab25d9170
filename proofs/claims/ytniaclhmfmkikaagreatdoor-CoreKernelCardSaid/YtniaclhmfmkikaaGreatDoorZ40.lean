/- Several texts in one: Sj Sk Sl -/
import Derived.Test.YtniaclhmfmkikaaGreatDoorZ39
import Derived.Test.YtniaclhmfmkikaaGreatDoorZ03
import Derived.Test.YtniaclhmfmkikaaGreatDoorZ33
section
/- The walk of hermitagelaw13.CoreKernel: an operation of the kernel's mode. -/
namespace Go.Proofs.YtniaclhmfmkikaaGreatDoor.Ex
open Go.RowKit Ut
set_option maxRecDepth 100000
set_option linter.unusedVariables false
set_option maxHeartbeats 4000000

theorem kern_a (al : Option Addr) (n cap : Nat) (zs : List Int) (pc o d a b m : Int) (hv : Is.validB o d a b m = true) (hk : Is.kernB o = true) (w : World) (hn : n ≤ 9223372036854775807) (hz : RowK .u32 w w.heap.size al n zs) (hzb : ∀ z ∈ zs, 0 ≤ z ∧ z < 4294967296) (hw : Is.HasT w) :
    Calls Tryz.prog 5 #[.slice al n cap, .int .u32 pc, Is.insV o d a b m] w fun e w' => e = .returned (.bool true) ∧ Below w.heap.size w w' := by
  obtain ⟨U, hU⟩ : ∃ U, U = Is.insW o d a b m w := ⟨_, rfl⟩
  have HU := Lib.hid hU
  have HI : Hid (Is.InsAt U w.heap.size o d a b m) := Lib.hid (hU ▸ Is.ins_at o d a b m w)
  have HB0 : Hid (Below w.heap.size w U) := Lib.hid (hU ▸ Is.ins_below o d a b m w)
  have HZU := Lib.hid ((hz.below HB0.out).more HB0.out.size)
  have HTU := Lib.hid (hw.more HB0.out)
  have HM := Lib.hid (made_any al n cap zs pc 0 U hn (by decide) HZU.out HTU.out)
  have HM2 : Hid (∀ V, Below U.heap.size U V → Calls Tryz.prog 7 #[.slice al n cap, .int .u32 pc, .int .u32 ((4 : Nat) : Int)] V fun e w' =>
      ∃ rb cb ab bb, e = .returned (.tuple #[.pointer (some ⟨rb, 0, none⟩), .pointer (some ⟨cb, 0, none⟩), .pointer (some ⟨ab, 0, none⟩), .pointer (some ⟨bb, 0, none⟩)]) ∧ Both V w' rb cb ab bb 2 pc (ldR zs n) (qS 4) pc (ldR zs n) (qS 4)) := Lib.hid fun V hV => made_any al n cap zs pc 4 V hn (by decide) ((HZU.out.below hV).more hV.size) (HTU.out.more hV)
  have hR := ldR_ok hzb n
  have HLEN := Lib.hid (wordR_len hR)
  generalize ldR zs n = R at HM HM2 hR HLEN
  obtain ⟨wd, hwd⟩ : ∃ x, Is.encZ o d a b m = x := ⟨_, rfl⟩
  obtain ⟨we, hwe⟩ : ∃ x, Is.encE o d a b m = x := ⟨_, rfl⟩
  have HX : ∀ rb cb, Hid (∀ W, Fil W rb cb 2 pc R (qS 0) → Calls Tryz.prog 8 #[Is.insV o d a b m, .pointer (some ⟨rb, 0, none⟩), .pointer (some ⟨cb, 0, none⟩), .int .i64 1] W fun e w' => e = .returned (.tuple #[(trapE 7 wd).val, .int .i64 0]) ∧ Fil w' rb cb 2 pc R (qS 0) ∧ Kp [rb, cb] W w') := fun rb cb => exec_at hR 1 o d a b m (stayX (trapE 7 wd) R pc (qS 0)) 0 (by rw [← hwd]; exact ex_forb hv hk rfl) (if_pos hv)
  obtain ⟨r, hr⟩ : ∃ r, exX R pc (qS 4) 2 1 o d a b m = r := ⟨_, rfl⟩
  have HY := fun sb db => exec_at (rb := sb) (cb := db) hR 1 o d a b m r 0 hr (if_pos hv)
  have HKN : Hid (∀ V, Calls Tryz.prog 18 #[.int .i64 o] V fun e w' => e = .returned (.bool true) ∧ V = w') := Lib.hid fun V => Is.kernel_any o true hk V
  have HEN : Hid (∀ V, Calls Tryz.prog 19 #[Is.insV o d a b m] V fun e w' => e = .returned (.tuple #[.int .u32 wd, .int .i64 we]) ∧ Below V.heap.size V w') := Lib.hid fun V => Is.refEnc_any o d a b m wd we hwd hwe V
  obtain ⟨VV, hVV⟩ : ∃ V, (trapE 7 wd).val = V := ⟨_, rfl⟩
  have HBD : Hid (∀ (W : World) (ρ : Operand → Value) (oo : Oper), oo.op = .build 32 #[(0, .const (.int .i64 3)), (7, .const (.int .u32 7)), (8, .tmp 76)] → ρ (.tmp 76) = .int .u32 wd → ρ (.const (.int .i64 3)) = .int .i64 3 → ρ (.const (.int .u32 7)) = .int .u32 7 → (execOp ρ oo).run Tryz.prog W = .ok (.value VV) W) := Lib.hid fun W ρ oo ho hx h3 h7 => by
    rw [← hVV]
    exact exec_build 32 _ ho (trapE 7 wd).cs.toArray (by
      simp only [List.map_toArray, List.map_cons, List.map_nil, hx, h3, h7]
      kernel_rfl)
  have hge : ∀ (x y : Operand) (W : World), (eqGuard .eql 32 x y VV VV).run Tryz.prog W = .ok () W := fun x y W => by rw [← hVV]; exact guard_eff _ x y _ _ W
  have hqe : ∀ W : World, (binOp .eql 32 VV VV).run Tryz.prog W = .ok (.bool true) W := fun W => by rw [← hVV]; exact eql_eff _ W
  have HVV := Lib.hid hVV
  clear hwd hwe hr hv hk hVV
  have hgd : ∀ (x y : Operand) (W : World), (eqGuard .eql 40 x y (Rg.arrV R) (Rg.arrV R)).run Tryz.prog W = .ok () W := fun x y W => Rg.guard_words _ x y _ _ W
  have hql : ∀ W : World, (binOp .eql 40 (Rg.arrV R) (Rg.arrV R)).run Tryz.prog W = .ok (.bool true) W := fun W => by rw [Rg.bin_eql R R HLEN.out HLEN.out W]; simp
  clear hU hz hzb hw hn hR HZU
  go_enter Tryz.func5, Tryz.ntmps5
  go_wp2_with fail
  rw [show w.alloc (.cells #[.int .i64 o, .int .i64 d, .int .i64 a, .int .i64 b, .int .i64 m] 37) = U from HU.out.symm]
  refine HM.out.mono ?_
  rintro e w1 ⟨rb, cb, ab, bb, rfl, hO⟩
  have HO1 := Lib.hid hO
  clear hO HM HU
  go_wp2_with fail
  refine (HM2.out w1 HO1.out.b).mono ?_
  rintro e w2 ⟨sb, db, ab2, bb2, rfl, hO⟩
  have HP2 := Lib.hid (pair_of HO1.out hO)
  clear hO HM2 HO1
  go_wp2_with fail
  refine (Rg.all_any rb pc R w2 HP2.out.f.reg).mono ?_
  rintro e v2 ⟨rfl, hb2⟩
  have HP := Lib.hid (HP2.out.below hb2)
  clear hb2 HP2
  go_simp
  rename_i hK
  refine hK _ _ ?_
  clear hK
  refine Great.wpList_allocTo rfl (some 15) rfl (.pointer (some ⟨v2.heap.size, 0, none⟩)) (.cells (Rg.wordsV Rg.zer).toArray 40) (Rg.run_new_words v2 _ _ rfl) ?_
  refine wpList_store_rowTo rfl 40 _ _ rfl rfl v2.heap.size (Rg.wordsV R).toArray (by kernel_rfl) (by kernel_rfl) 40 (Rg.wordsV Rg.zer).toArray (Blk.new v2 _ _) (size_old _ HLEN.out) (by simp [Rg.wordsV, HLEN.out, Rg.zer]) (one_old _) ?_
  obtain ⟨hb, hN⟩ := old_put v2 R HLEN.out
  generalize (v2.alloc (.cells (Rg.wordsV Rg.zer).toArray 40)).setRow v2.heap.size (Rg.wordsV R).toArray = w3 at hb hN ⊢
  have HN3 := Lib.hid hN
  have HP3 := Lib.hid (HP.out.below hb)
  have HNE : Hid (v2.heap.size ∉ [rb, cb] ∧ v2.heap.size ∉ [sb, db]) := Lib.hid (by have := HP.out.f.lts; have := HP.out.g.lts; simp; omega)
  clear hb hN HP
  generalize v2.heap.size = ob at HN3 HNE ⊢
  obtain ⟨r0, r1, r2, r3, r4⟩ := (HI.out.below HP3.out.b HI.out.lt).cells
  have hlt := (HI.out.below HP3.out.b HI.out.lt).lt
  go_wp2_with fail
  clear r0 r1 r2 r3 r4 hlt
  refine ((HX rb cb).out w3 HP3.out.f).mono ?_
  rintro e w4 ⟨rfl, hF, hk⟩
  have HP4 := Lib.hid (HP3.out.fexec hF hk)
  have HN4 := Lib.hid (Blk.kp HN3.out hk HNE.out.1)
  clear hF hk HP3 HN3 HX
  go_simp
  rename_i hK
  refine hK _ _ ?_
  clear hK
  refine Great.wpList_readTo rfl _ rfl (.tuple #[Eff.val (trapE 7 wd), .int .i64 0]) (by kernel_rfl) ?_
  refine Great.wpList_readTo rfl _ rfl (Eff.val (trapE 7 wd)) (by kernel_rfl) ?_
  refine Great.wpList_readTo rfl _ rfl (.int .i64 0) (by kernel_rfl) ?_
  refine Great.wpList_allocTo rfl (some 16) rfl (.pointer (some ⟨w4.heap.size, 0, none⟩)) (.cells zeroE.cs.toArray 32) ((eff_run w4).out _ _ rfl) ?_
  refine wpList_store_rowTo rfl 32 _ _ rfl rfl w4.heap.size (Eff.cs (trapE 7 wd)).toArray (by kernel_rfl) (by kernel_rfl) 32 zeroE.cs.toArray (Blk.new w4 _ _) (size_eff _) (rfl) (one_eff _) ?_
  obtain ⟨hb, hN⟩ := eff_put w4 (trapE 7 wd)
  generalize (w4.alloc (.cells zeroE.cs.toArray 32)).setRow w4.heap.size (Eff.cs (trapE 7 wd)).toArray = w5 at hb hN ⊢
  have HE5 := Lib.hid hN
  have HP5 := Lib.hid (HP4.out.below hb)
  have HN5 := Lib.hid (HN4.out.below hb HN4.out.lt)
  have HNF : Hid (w4.heap.size ∉ [sb, db]) := Lib.hid (by have := HP4.out.g.lts; simp; omega)
  clear hb hN HP4 HN4
  generalize w4.heap.size = eb at HE5 HNF ⊢
  obtain ⟨r0, r1, r2, r3, r4⟩ := (HI.out.below HP5.out.b HI.out.lt).cells
  have hlt := (HI.out.below HP5.out.b HI.out.lt).lt
  go_wp2_with fail
  clear r0 r1 r2 r3 r4 hlt
  refine ((HY sb db).out w5 HP5.out.g).mono ?_
  rintro e w6 ⟨rfl, hF, hk⟩
  have HP6 := Lib.hid (HP5.out.gexec hF hk)
  have HN6 := Lib.hid (Blk.kp HN5.out hk HNE.out.2)
  have HE6 := Lib.hid (Blk.kp HE5.out hk HNF.out)
  clear hF hk HP5 HN5 HE5 HY
  go_simp
  rename_i hK
  refine hK _ _ ?_
  clear hK
  refine Great.wpList_readTo rfl _ rfl (.tuple #[Eff.val r.E, .int .i64 0]) (by kernel_rfl) ?_
  refine Great.wpList_readTo rfl _ rfl (Eff.val r.E) (by kernel_rfl) ?_
  refine Great.wpList_readTo rfl _ rfl (.int .i64 0) (by kernel_rfl) ?_
  refine Great.wpList_allocTo rfl (some 18) rfl (.pointer (some ⟨w6.heap.size, 0, none⟩)) (.cells zeroE.cs.toArray 32) ((eff_run w6).out _ _ rfl) ?_
  refine wpList_store_rowTo rfl 32 _ _ rfl rfl w6.heap.size (Eff.cs r.E).toArray (by kernel_rfl) (by kernel_rfl) 32 zeroE.cs.toArray (Blk.new w6 _ _) (size_eff _) (rfl) (one_eff _) ?_
  obtain ⟨hb, hN⟩ := eff_put w6 r.E
  generalize (w6.alloc (.cells zeroE.cs.toArray 32)).setRow w6.heap.size (Eff.cs r.E).toArray = w7 at hb hN ⊢
  have HD7 := Lib.hid hN
  have HP7 := Lib.hid (HP6.out.below hb)
  have HN7 := Lib.hid (HN6.out.below hb HN6.out.lt)
  have HE7 := Lib.hid (HE6.out.below hb HE6.out.lt)
  clear hb hN HP6 HN6 HE6
  generalize w6.heap.size = fb at HD7 ⊢
  obtain ⟨r0, r1, r2, r3, r4⟩ := (HI.out.below HP7.out.b HI.out.lt).cells
  have hlt := (HI.out.below HP7.out.b HI.out.lt).lt
  go_wp2_with fail
  refine (HKN.out w7).mono ?_
  rintro e x7 ⟨rfl, rfl⟩
  go_wp2_with fail
  clear r0 r1 r2 r3 r4 hlt
  refine (HEN.out w7).mono ?_
  rintro e v8 ⟨rfl, hb⟩
  have HP8 := Lib.hid (HP7.out.below hb)
  have HN8 := Lib.hid (HN7.out.below hb HN7.out.lt)
  have HE8 := Lib.hid (HE7.out.below hb HE7.out.lt)
  clear hb HP7 HN7 HE7 HD7 HKN HEN
  have HLE : Hid (∀ (W : World) (ρ : Operand → Value) (o : Oper), Below v8.heap.size v8 W → o.op = .load 32 (.tmp 16) → ρ (.tmp 16) = .pointer (some ⟨eb, 0, none⟩) → (execOp ρ o).run Tryz.prog W = .ok (.value (Eff.val (trapE 7 wd))) W) := Lib.hid fun W ρ o hW ho hx => exec_load_blk (HE8.out.below hW HE8.out.lt) 0 32 _ ho hx (Eff.cs (trapE 7 wd)) (fun j v h => by rw [Nat.zero_add]; exact h) _ Tryz.underlying32 rfl (size_effL _)
  have HLD : Hid (∀ (W : World) (ρ : Operand → Value) (o : Oper), Below v8.heap.size v8 W → o.op = .load 40 (.tmp 15) → ρ (.tmp 15) = .pointer (some ⟨ob, 0, none⟩) → (execOp ρ o).run Tryz.prog W = .ok (.value (Rg.arrV R)) W) := Lib.hid fun W ρ o hW ho hx => exec_load_blk (HN8.out.below hW HN8.out.lt) 0 40 _ ho hx (Rg.wordsV R) (fun j v h => by rw [Nat.zero_add]; exact h) _ Tryz.underlying40 rfl (Rg.size_words R HLEN.out)
  have HALL : Hid (∀ W, Below v8.heap.size v8 W → Calls Tryz.prog 10 #[.pointer (some ⟨rb, 0, none⟩)] W fun e w' => e = .returned (Rg.arrV R) ∧ Below W.heap.size W w') := Lib.hid fun W hW => Rg.all_any rb pc R W (HP8.out.f.reg.below hW HP8.out.f.reg.1.lt)
  have HPC : Hid (∀ W, Below v8.heap.size v8 W → Calls Tryz.prog 11 #[.pointer (some ⟨rb, 0, none⟩)] W fun e w' => e = .returned (.int .u32 pc) ∧ W = w') := Lib.hid fun W hW => Rg.pc_any rb pc R W (HP8.out.f.reg.below hW HP8.out.f.reg.1.lt)
  rw [HVV.out] at HLE
  generalize Rg.arrV R = A at hgd hql HALL HLD
  go_upto_region 12 with fail
  apply wp_region_auto [75, 76, 77, 78, 79, 80, 81, 82, 83, 84, 85, 86, 87, 88, 89, 90, 91, 92, 93] [_, _, _, _, _, _, _, _, _, _, _, _, _, _, _, _, _, _, _] (fun W' => Below v8.heap.size v8 W')
  case hm => kernel_rfl
  case hT => intro y; simp only [setAll, List.setIfInBounds_toArray, List.set_cons_succ, List.set_cons_zero]; exact rfl
  case hok => kernel_rfl
  case hn => decide
  case hw => exact (Below.refl _ _).drew
  case hs =>
    refine auto_op 75 [] (by kernel_rfl) (fun y w' HW hd K hK => ?_) ?_
    · have hcl : ∀ p : Addr, p.block < v8.heap.size → w'.cell? p = v8.cell? p := fun p hp => HW.cell hp
      refine step_val (a := ⟨_, _⟩) ?_ VV ?_ ?_
      · go_simp
      · exact HLE.out _ _ _ HW rfl rfl
      refine hK _ _ ?_ ?_ HW
      · simp [upd]
      · exact rfl
    refine auto_op 76 [] (by kernel_rfl) (fun y w' HW hd K hK => ?_) ?_
    · go_simp
      refine hK _ _ ?_ ?_ HW
      · simp [upd]
      · exact rfl
    refine auto_op 77 [1] (by kernel_rfl) (fun y w' HW hd K hK => ?_) ?_
    · have e1 := hd_nth (hd 1 (by simp)) rfl
      refine step_val (a := ⟨_, _⟩) ?_ VV ?_ ?_
      · go_simp
      · refine HBD.out _ _ _ rfl ?_ rfl rfl
        exact e1
      refine hK _ _ ?_ ?_ HW
      · simp [upd, e1]
      · exact rfl
    refine auto_op 78 [0, 2] (by kernel_rfl) (fun y w' HW hd K hK => ?_) ?_
    · have e0 := hd_nth (hd 0 (by simp)) rfl
      have e2 := hd_nth (hd 2 (by simp)) rfl
      go_simp
      refine hK _ _ ?_ ?_ HW
      · simp [upd, e0, e2]
      · exact rfl
    refine auto_op 79 [3] (by kernel_rfl) (fun y w' HW hd K hK => ?_) ?_
    · have e3 := hd_nth (hd 3 (by simp)) rfl
      go_simp
      refine hK _ _ ?_ ?_ HW
      · simp [upd, e3]
      · exact rfl
    refine auto_op 80 [4] (by kernel_rfl) (fun y w' HW hd K hK => ?_) ?_
    · have e4 := hd_nth (hd 4 (by simp)) rfl
      go_simp
      refine hK _ _ ?_ ?_ HW
      · simp [upd, e4]
      · exact rfl
    refine auto_op 81 [5, 4, 4] (by kernel_rfl) (fun y w' HW hd K hK => ?_) ?_
    · have e4 := hd_nth (hd 4 (by simp)) rfl
      have e5 := hd_nth (hd 5 (by simp)) rfl
      go_simp
      refine (HALL.out _ HW).mono ?_
      rintro e w3 ⟨rfl, hb3⟩
      refine hK _ _ ?_ ?_ (HW.trans (hb3.mono HW.size))
      · simp [upd, e4, e5]
      · exact rfl
    refine auto_op 82 [4] (by kernel_rfl) (fun y w' HW hd K hK => ?_) ?_
    · have e4 := hd_nth (hd 4 (by simp)) rfl
      have hcl : ∀ p : Addr, p.block < v8.heap.size → w'.cell? p = v8.cell? p := fun p hp => HW.cell hp
      refine step_val (a := ⟨_, _⟩) ?_ A ?_ ?_
      · go_simp
      · exact HLD.out _ _ _ HW rfl rfl
      refine hK _ _ ?_ ?_ HW
      · simp [upd, e4]
      · exact rfl
    refine auto_op 83 [6, 7, 4] (by kernel_rfl) (fun y w' HW hd K hK => ?_) ?_
    · have e4 := hd_nth (hd 4 (by simp)) rfl
      have e6 := hd_nth (hd 6 (by simp)) rfl
      have e7 := hd_nth (hd 7 (by simp)) rfl
      go_simp
      refine hK _ _ ?_ ?_ HW
      · simp [upd, e4, e6, e7]
      · exact rfl
    refine auto_op 84 [4, 8] (by kernel_rfl) (fun y w' HW hd K hK => ?_) ?_
    · have e4 := hd_nth (hd 4 (by simp)) rfl
      have e8 := hd_nth (hd 8 (by simp)) rfl
      go_simp
      refine hK _ _ ?_ ?_ HW
      · simp [upd, e4, e8]
      · exact rfl
    refine auto_op 85 [9, 6] (by kernel_rfl) (fun y w' HW hd K hK => ?_) ?_
    · have e6 := hd_nth (hd 6 (by simp)) rfl
      have e9 := hd_nth (hd 9 (by simp)) rfl
      go_simp
      refine hK _ _ ?_ ?_ HW
      · simp [upd, e6, e9]
      · exact rfl
    refine auto_op 86 [10] (by kernel_rfl) (fun y w' HW hd K hK => ?_) ?_
    · have e10 := hd_nth (hd 10 (by simp)) rfl
      go_simp
      refine hK _ _ ?_ ?_ HW
      · simp [upd, e10]
      · exact rfl
    refine auto_op 87 [11, 10, 10] (by kernel_rfl) (fun y w' HW hd K hK => ?_) ?_
    · have e10 := hd_nth (hd 10 (by simp)) rfl
      have e11 := hd_nth (hd 11 (by simp)) rfl
      go_simp
      refine (HPC.out _ HW).mono ?_
      rintro e w3 ⟨rfl, rfl⟩
      refine hK _ _ ?_ ?_ HW
      · simp [upd, e10, e11]
      · exact rfl
    refine auto_op 88 [10] (by kernel_rfl) (fun y w' HW hd K hK => ?_) ?_
    · have e10 := hd_nth (hd 10 (by simp)) rfl
      go_simp
      refine hK _ _ ?_ ?_ HW
      · simp [upd, e10]
      · exact rfl
    refine auto_op 89 [12, 13, 10] (by kernel_rfl) (fun y w' HW hd K hK => ?_) ?_
    · have e10 := hd_nth (hd 10 (by simp)) rfl
      have e12 := hd_nth (hd 12 (by simp)) rfl
      have e13 := hd_nth (hd 13 (by simp)) rfl
      go_simp
      refine hK _ _ ?_ ?_ HW
      · simp [upd, e10, e12, e13]
      · exact rfl
    refine auto_op 90 [10, 14] (by kernel_rfl) (fun y w' HW hd K hK => ?_) ?_
    · have e10 := hd_nth (hd 10 (by simp)) rfl
      have e14 := hd_nth (hd 14 (by simp)) rfl
      go_simp
      refine hK _ _ ?_ ?_ HW
      · simp [upd, e10, e14]
      · exact rfl
    refine auto_op 91 [15, 12] (by kernel_rfl) (fun y w' HW hd K hK => ?_) ?_
    · have e12 := hd_nth (hd 12 (by simp)) rfl
      have e15 := hd_nth (hd 15 (by simp)) rfl
      go_simp
      refine hK _ _ ?_ ?_ HW
      · simp [upd, e12, e15]
      · exact rfl
    refine auto_op 92 [16, 16] (by kernel_rfl) (fun y w' HW hd K hK => ?_) ?_
    · have e16 := hd_nth (hd 16 (by simp)) rfl
      go_simp
      refine (awake13_any _ (HP8.out.f.tab.more HW)).mono ?_
      rintro e w3 ⟨rfl, hb3⟩
      refine hK _ _ ?_ ?_ (HW.trans (hb3.mono HW.size))
      · simp [upd, e16]
      · exact rfl
    refine auto_op 93 [16, 17] (by kernel_rfl) (fun y w' HW hd K hK => ?_) ?_
    · have e16 := hd_nth (hd 16 (by simp)) rfl
      have e17 := hd_nth (hd 17 (by simp)) rfl
      go_simp
      refine hK _ _ ?_ ?_ HW
      · simp [upd, e16, e17]
      · exact rfl
    refine auto_last fun y w' HW hd K hK => ?_
    have e0 := hd_nth (hd 0 (by omega)) rfl
    have e1 := hd_nth (hd 1 (by omega)) rfl
    have e2 := hd_nth (hd 2 (by omega)) rfl
    have e3 := hd_nth (hd 3 (by omega)) rfl
    have e4 := hd_nth (hd 4 (by omega)) rfl
    have e5 := hd_nth (hd 5 (by omega)) rfl
    have e6 := hd_nth (hd 6 (by omega)) rfl
    have e7 := hd_nth (hd 7 (by omega)) rfl
    have e8 := hd_nth (hd 8 (by omega)) rfl
    have e9 := hd_nth (hd 9 (by omega)) rfl
    have e10 := hd_nth (hd 10 (by omega)) rfl
    have e11 := hd_nth (hd 11 (by omega)) rfl
    have e12 := hd_nth (hd 12 (by omega)) rfl
    have e13 := hd_nth (hd 13 (by omega)) rfl
    have e14 := hd_nth (hd 14 (by omega)) rfl
    have e15 := hd_nth (hd 15 (by omega)) rfl
    have e16 := hd_nth (hd 16 (by omega)) rfl
    have e17 := hd_nth (hd 17 (by omega)) rfl
    have e18 := hd_nth (hd 18 (by omega)) rfl
    go_simp
    refine hK _ _ ?_
    clear hd hK K e0 e1 e2 e3 e4 e5 e6 e7 e8 e9 e10 e11 e12 e13 e14 e15 e16 e17 e18
    go_wp2
    go_ret
    exact ⟨rfl, HB0.out.trans ((HP8.out.b.trans (HW.mono HP8.out.b.size)).mono HB0.out.size)⟩
end Go.Proofs.YtniaclhmfmkikaaGreatDoor.Ex
end
section
/- The walk of hermitagelaw13.CoreKernel: all other instructions. -/
namespace Go.Proofs.YtniaclhmfmkikaaGreatDoor.Ex
open Go.RowKit Ut
set_option maxRecDepth 100000
set_option linter.unusedVariables false
set_option maxHeartbeats 4000000

theorem kern_b (al : Option Addr) (n cap : Nat) (zs : List Int) (pc o d a b m : Int) (hv : Is.validB o d a b m = false) (w : World) (hn : n ≤ 9223372036854775807) (hz : RowK .u32 w w.heap.size al n zs) (hzb : ∀ z ∈ zs, 0 ≤ z ∧ z < 4294967296) (hw : Is.HasT w) :
    Calls Tryz.prog 5 #[.slice al n cap, .int .u32 pc, Is.insV o d a b m] w fun e w' => e = .returned (.bool true) ∧ Below w.heap.size w w' := by
  obtain ⟨U, hU⟩ : ∃ U, U = Is.insW o d a b m w := ⟨_, rfl⟩
  have HU := Lib.hid hU
  have HI : Hid (Is.InsAt U w.heap.size o d a b m) := Lib.hid (hU ▸ Is.ins_at o d a b m w)
  have HB0 : Hid (Below w.heap.size w U) := Lib.hid (hU ▸ Is.ins_below o d a b m w)
  have HZU := Lib.hid ((hz.below HB0.out).more HB0.out.size)
  have HTU := Lib.hid (hw.more HB0.out)
  have HM := Lib.hid (made_any al n cap zs pc 0 U hn (by decide) HZU.out HTU.out)
  have HM2 : Hid (∀ V, Below U.heap.size U V → Calls Tryz.prog 7 #[.slice al n cap, .int .u32 pc, .int .u32 ((4 : Nat) : Int)] V fun e w' =>
      ∃ rb cb ab bb, e = .returned (.tuple #[.pointer (some ⟨rb, 0, none⟩), .pointer (some ⟨cb, 0, none⟩), .pointer (some ⟨ab, 0, none⟩), .pointer (some ⟨bb, 0, none⟩)]) ∧ Both V w' rb cb ab bb 2 pc (ldR zs n) (qS 4) pc (ldR zs n) (qS 4)) := Lib.hid fun V hV => made_any al n cap zs pc 4 V hn (by decide) ((HZU.out.below hV).more hV.size) (HTU.out.more hV)
  have hR := ldR_ok hzb n
  have HLEN := Lib.hid (wordR_len hR)
  generalize ldR zs n = R at HM HM2 hR HLEN
  have hor : Is.validB o d a b m = false ∨ Is.kernB o = false := .inl hv
  obtain ⟨z, hz0⟩ : ∃ z, exZ o d a b m = z := ⟨_, rfl⟩
  obtain ⟨E, R2, p2, hE⟩ := both_modes R pc 2 1 o d a b m hor
  have HX : ∀ rb cb, Hid (∀ W, Fil W rb cb 2 pc R (qS 0) → Calls Tryz.prog 8 #[Is.insV o d a b m, .pointer (some ⟨rb, 0, none⟩), .pointer (some ⟨cb, 0, none⟩), .int .i64 1] W fun e w' => e = .returned (.tuple #[E.val, .int .i64 z]) ∧ Fil w' rb cb 2 p2 R2 (qS 0) ∧ Kp [rb, cb] W w') := fun rb cb => exec_at hR 1 o d a b m ⟨E, R2, p2, qS 0⟩ z (hE _) hz0
  have HY : ∀ rb cb, Hid (∀ W, Fil W rb cb 2 pc R (qS 4) → Calls Tryz.prog 8 #[Is.insV o d a b m, .pointer (some ⟨rb, 0, none⟩), .pointer (some ⟨cb, 0, none⟩), .int .i64 1] W fun e w' => e = .returned (.tuple #[E.val, .int .i64 z]) ∧ Fil w' rb cb 2 p2 R2 (qS 4) ∧ Kp [rb, cb] W w') := fun rb cb => exec_at hR 1 o d a b m ⟨E, R2, p2, qS 4⟩ z (hE _) hz0
  have HLEN2 : Hid (R2.length = 16) := Lib.hid (by
    have := (exX_ok hR (show Cs.Ok Cs.ini from Cs.ok_ini) (show 2 < 4 by decide) pc 1 o d a b m).1
    rw [hE] at this
    exact this)
  clear hE
  obtain rfl : z = 6 := by rw [← hz0]; unfold exZ; rw [hv, if_neg (by decide)]
  clear hv hz0 hor
  have hgd : ∀ (x y : Operand) (W : World), (eqGuard .eql 40 x y (Rg.arrV R2) (Rg.arrV R2)).run Tryz.prog W = .ok () W := fun x y W => Rg.guard_words _ x y _ _ W
  have hql : ∀ W : World, (binOp .eql 40 (Rg.arrV R2) (Rg.arrV R2)).run Tryz.prog W = .ok (.bool true) W := fun W => by rw [Rg.bin_eql R2 R2 HLEN2.out HLEN2.out W]; simp
  clear hU hz hzb hw hn hR HZU
  go_enter Tryz.func5, Tryz.ntmps5
  go_wp2_with fail
  rw [show w.alloc (.cells #[.int .i64 o, .int .i64 d, .int .i64 a, .int .i64 b, .int .i64 m] 37) = U from HU.out.symm]
  refine HM.out.mono ?_
  rintro e w1 ⟨rb, cb, ab, bb, rfl, hO⟩
  have HO1 := Lib.hid hO
  clear hO HM HU
  go_wp2_with fail
  refine (HM2.out w1 HO1.out.b).mono ?_
  rintro e w2 ⟨sb, db, ab2, bb2, rfl, hO⟩
  have HP2 := Lib.hid (pair_of HO1.out hO)
  clear hO HM2 HO1
  go_wp2_with fail
  refine (Rg.all_any rb pc R w2 HP2.out.f.reg).mono ?_
  rintro e v2 ⟨rfl, hb2⟩
  have HP := Lib.hid (HP2.out.below hb2)
  clear hb2 HP2
  go_simp
  rename_i hK
  refine hK _ _ ?_
  clear hK
  refine Great.wpList_allocTo rfl (some 15) rfl (.pointer (some ⟨v2.heap.size, 0, none⟩)) (.cells (Rg.wordsV Rg.zer).toArray 40) (Rg.run_new_words v2 _ _ rfl) ?_
  refine wpList_store_rowTo rfl 40 _ _ rfl rfl v2.heap.size (Rg.wordsV R).toArray (by kernel_rfl) (by kernel_rfl) 40 (Rg.wordsV Rg.zer).toArray (Blk.new v2 _ _) (size_old _ HLEN.out) (by simp [Rg.wordsV, HLEN.out, Rg.zer]) (one_old _) ?_
  obtain ⟨hb, hN⟩ := old_put v2 R HLEN.out
  generalize (v2.alloc (.cells (Rg.wordsV Rg.zer).toArray 40)).setRow v2.heap.size (Rg.wordsV R).toArray = w3 at hb hN ⊢
  have HN3 := Lib.hid hN
  have HP3 := Lib.hid (HP.out.below hb)
  have HNE : Hid (v2.heap.size ∉ [rb, cb] ∧ v2.heap.size ∉ [sb, db]) := Lib.hid (by have := HP.out.f.lts; have := HP.out.g.lts; simp; omega)
  clear hb hN HP
  generalize v2.heap.size = ob at HN3 HNE ⊢
  obtain ⟨r0, r1, r2, r3, r4⟩ := (HI.out.below HP3.out.b HI.out.lt).cells
  have hlt := (HI.out.below HP3.out.b HI.out.lt).lt
  go_wp2_with fail
  clear r0 r1 r2 r3 r4 hlt
  refine ((HX rb cb).out w3 HP3.out.f).mono ?_
  rintro e w4 ⟨rfl, hF, hk⟩
  have HP4 := Lib.hid (HP3.out.fexec hF hk)
  have HN4 := Lib.hid (Blk.kp HN3.out hk HNE.out.1)
  clear hF hk HP3 HN3 HX
  go_simp
  rename_i hK
  refine hK _ _ ?_
  clear hK
  refine Great.wpList_readTo rfl _ rfl (.tuple #[Eff.val E, .int .i64 6]) (by kernel_rfl) ?_
  refine Great.wpList_readTo rfl _ rfl (Eff.val E) (by kernel_rfl) ?_
  refine Great.wpList_readTo rfl _ rfl (.int .i64 6) (by kernel_rfl) ?_
  refine Great.wpList_allocTo rfl (some 16) rfl (.pointer (some ⟨w4.heap.size, 0, none⟩)) (.cells zeroE.cs.toArray 32) ((eff_run w4).out _ _ rfl) ?_
  refine wpList_store_rowTo rfl 32 _ _ rfl rfl w4.heap.size (Eff.cs E).toArray (by kernel_rfl) (by kernel_rfl) 32 zeroE.cs.toArray (Blk.new w4 _ _) (size_eff _) (rfl) (one_eff _) ?_
  obtain ⟨hb, hN⟩ := eff_put w4 E
  generalize (w4.alloc (.cells zeroE.cs.toArray 32)).setRow w4.heap.size (Eff.cs E).toArray = w5 at hb hN ⊢
  have HE5 := Lib.hid hN
  have HP5 := Lib.hid (HP4.out.below hb)
  have HN5 := Lib.hid (HN4.out.below hb HN4.out.lt)
  have HNF : Hid (w4.heap.size ∉ [sb, db]) := Lib.hid (by have := HP4.out.g.lts; simp; omega)
  clear hb hN HP4 HN4
  generalize w4.heap.size = eb at HE5 HNF ⊢
  obtain ⟨r0, r1, r2, r3, r4⟩ := (HI.out.below HP5.out.b HI.out.lt).cells
  have hlt := (HI.out.below HP5.out.b HI.out.lt).lt
  go_wp2_with fail
  clear r0 r1 r2 r3 r4 hlt
  refine ((HY sb db).out w5 HP5.out.g).mono ?_
  rintro e w6 ⟨rfl, hF, hk⟩
  have HP6 := Lib.hid (HP5.out.gexec hF hk)
  have HN6 := Lib.hid (Blk.kp HN5.out hk HNE.out.2)
  have HE6 := Lib.hid (Blk.kp HE5.out hk HNF.out)
  clear hF hk HP5 HN5 HE5 HY
  go_simp
  rename_i hK
  refine hK _ _ ?_
  clear hK
  refine Great.wpList_readTo rfl _ rfl (.tuple #[Eff.val E, .int .i64 6]) (by kernel_rfl) ?_
  refine Great.wpList_readTo rfl _ rfl (Eff.val E) (by kernel_rfl) ?_
  refine Great.wpList_readTo rfl _ rfl (.int .i64 6) (by kernel_rfl) ?_
  refine Great.wpList_allocTo rfl (some 18) rfl (.pointer (some ⟨w6.heap.size, 0, none⟩)) (.cells zeroE.cs.toArray 32) ((eff_run w6).out _ _ rfl) ?_
  refine wpList_store_rowTo rfl 32 _ _ rfl rfl w6.heap.size (Eff.cs E).toArray (by kernel_rfl) (by kernel_rfl) 32 zeroE.cs.toArray (Blk.new w6 _ _) (size_eff _) (rfl) (one_eff _) ?_
  obtain ⟨hb, hN⟩ := eff_put w6 E
  generalize (w6.alloc (.cells zeroE.cs.toArray 32)).setRow w6.heap.size (Eff.cs E).toArray = w7 at hb hN ⊢
  have HD7 := Lib.hid hN
  have HP7 := Lib.hid (HP6.out.below hb)
  have HN7 := Lib.hid (HN6.out.below hb HN6.out.lt)
  have HE7 := Lib.hid (HE6.out.below hb HE6.out.lt)
  clear hb hN HP6 HN6 HE6
  generalize w6.heap.size = fb at HD7 ⊢
  go_upto_region 13 with fail
  refine wp_region_lit ?_
  refine Great.wpList_readTo rfl _ rfl E.val (exec_load_blk HE7.out 0 32 _ rfl (by kernel_rfl) (Eff.cs E) (fun j v h => by rw [Nat.zero_add]; exact h) _ Tryz.underlying32 rfl (size_effL _)) ?_
  refine Great.wpList_readTo rfl _ rfl E.val (exec_load_blk HD7.out 0 32 _ rfl (by kernel_rfl) (Eff.cs E) (fun j v h => by rw [Nat.zero_add]; exact h) _ Tryz.underlying32 rfl (size_effL _)) ?_
  refine Great.wpList_readTo rfl _ rfl (.bool true) (exec_eql_eff _ _ _ rfl E (by kernel_rfl) (by kernel_rfl)) ?_
  go_wp2_with fail
  refine (Rg.all_any rb p2 R2 w7 HP7.out.f.reg).mono ?_
  rintro e v8 ⟨rfl, hb⟩
  have HP8 := Lib.hid (HP7.out.below hb)
  clear hb HP7 HN7 HE7 HD7
  go_wp2_with fail
  refine (Rg.all_any sb p2 R2 v8 HP8.out.g.reg).mono ?_
  rintro e v9 ⟨rfl, hb⟩
  have HP9 := Lib.hid (HP8.out.below hb)
  clear hb HP8
  go_wp2_with fail
  refine (Rg.pc_any rb p2 R2 v9 HP9.out.f.reg).mono ?_
  rintro e x9 ⟨rfl, rfl⟩
  go_wp2_with fail
  refine (Rg.pc_any sb p2 R2 v9 HP9.out.g.reg).mono ?_
  rintro e x9 ⟨rfl, rfl⟩
  go_wp2_with fail
  refine (awake13_any v9 (HP9.out.f.tab)).mono ?_
  rintro e v10 ⟨rfl, hb⟩
  go_wp2
  go_ret
  exact ⟨rfl, HB0.out.trans ((HP9.out.b.trans (hb.mono HP9.out.b.size)).mono HB0.out.size)⟩
theorem kern_c (al : Option Addr) (n cap : Nat) (zs : List Int) (pc o d a b m : Int) (hv : Is.validB o d a b m = true) (hk : Is.kernB o = false) (w : World) (hn : n ≤ 9223372036854775807) (hz : RowK .u32 w w.heap.size al n zs) (hzb : ∀ z ∈ zs, 0 ≤ z ∧ z < 4294967296) (hw : Is.HasT w) :
    Calls Tryz.prog 5 #[.slice al n cap, .int .u32 pc, Is.insV o d a b m] w fun e w' => e = .returned (.bool true) ∧ Below w.heap.size w w' := by
  obtain ⟨U, hU⟩ : ∃ U, U = Is.insW o d a b m w := ⟨_, rfl⟩
  have HU := Lib.hid hU
  have HI : Hid (Is.InsAt U w.heap.size o d a b m) := Lib.hid (hU ▸ Is.ins_at o d a b m w)
  have HB0 : Hid (Below w.heap.size w U) := Lib.hid (hU ▸ Is.ins_below o d a b m w)
  have HZU := Lib.hid ((hz.below HB0.out).more HB0.out.size)
  have HTU := Lib.hid (hw.more HB0.out)
  have HM := Lib.hid (made_any al n cap zs pc 0 U hn (by decide) HZU.out HTU.out)
  have HM2 : Hid (∀ V, Below U.heap.size U V → Calls Tryz.prog 7 #[.slice al n cap, .int .u32 pc, .int .u32 ((4 : Nat) : Int)] V fun e w' =>
      ∃ rb cb ab bb, e = .returned (.tuple #[.pointer (some ⟨rb, 0, none⟩), .pointer (some ⟨cb, 0, none⟩), .pointer (some ⟨ab, 0, none⟩), .pointer (some ⟨bb, 0, none⟩)]) ∧ Both V w' rb cb ab bb 2 pc (ldR zs n) (qS 4) pc (ldR zs n) (qS 4)) := Lib.hid fun V hV => made_any al n cap zs pc 4 V hn (by decide) ((HZU.out.below hV).more hV.size) (HTU.out.more hV)
  have hR := ldR_ok hzb n
  have HLEN := Lib.hid (wordR_len hR)
  generalize ldR zs n = R at HM HM2 hR HLEN
  have hor : Is.validB o d a b m = false ∨ Is.kernB o = false := .inr hk
  obtain ⟨z, hz0⟩ : ∃ z, exZ o d a b m = z := ⟨_, rfl⟩
  obtain ⟨E, R2, p2, hE⟩ := both_modes R pc 2 1 o d a b m hor
  have HX : ∀ rb cb, Hid (∀ W, Fil W rb cb 2 pc R (qS 0) → Calls Tryz.prog 8 #[Is.insV o d a b m, .pointer (some ⟨rb, 0, none⟩), .pointer (some ⟨cb, 0, none⟩), .int .i64 1] W fun e w' => e = .returned (.tuple #[E.val, .int .i64 z]) ∧ Fil w' rb cb 2 p2 R2 (qS 0) ∧ Kp [rb, cb] W w') := fun rb cb => exec_at hR 1 o d a b m ⟨E, R2, p2, qS 0⟩ z (hE _) hz0
  have HY : ∀ rb cb, Hid (∀ W, Fil W rb cb 2 pc R (qS 4) → Calls Tryz.prog 8 #[Is.insV o d a b m, .pointer (some ⟨rb, 0, none⟩), .pointer (some ⟨cb, 0, none⟩), .int .i64 1] W fun e w' => e = .returned (.tuple #[E.val, .int .i64 z]) ∧ Fil w' rb cb 2 p2 R2 (qS 4) ∧ Kp [rb, cb] W w') := fun rb cb => exec_at hR 1 o d a b m ⟨E, R2, p2, qS 4⟩ z (hE _) hz0
  have HLEN2 : Hid (R2.length = 16) := Lib.hid (by
    have := (exX_ok hR (show Cs.Ok Cs.ini from Cs.ok_ini) (show 2 < 4 by decide) pc 1 o d a b m).1
    rw [hE] at this
    exact this)
  clear hE
  obtain rfl : z = 0 := by rw [← hz0]; exact if_pos hv
  have HKN : Hid (∀ V, Calls Tryz.prog 18 #[.int .i64 o] V fun e w' => e = .returned (.bool false) ∧ V = w') := Lib.hid fun V => Is.kernel_any o false hk V
  clear hv hk hz0 hor
  have hgd : ∀ (x y : Operand) (W : World), (eqGuard .eql 40 x y (Rg.arrV R2) (Rg.arrV R2)).run Tryz.prog W = .ok () W := fun x y W => Rg.guard_words _ x y _ _ W
  have hql : ∀ W : World, (binOp .eql 40 (Rg.arrV R2) (Rg.arrV R2)).run Tryz.prog W = .ok (.bool true) W := fun W => by rw [Rg.bin_eql R2 R2 HLEN2.out HLEN2.out W]; simp
  clear hU hz hzb hw hn hR HZU
  go_enter Tryz.func5, Tryz.ntmps5
  go_wp2_with fail
  rw [show w.alloc (.cells #[.int .i64 o, .int .i64 d, .int .i64 a, .int .i64 b, .int .i64 m] 37) = U from HU.out.symm]
  refine HM.out.mono ?_
  rintro e w1 ⟨rb, cb, ab, bb, rfl, hO⟩
  have HO1 := Lib.hid hO
  clear hO HM HU
  go_wp2_with fail
  refine (HM2.out w1 HO1.out.b).mono ?_
  rintro e w2 ⟨sb, db, ab2, bb2, rfl, hO⟩
  have HP2 := Lib.hid (pair_of HO1.out hO)
  clear hO HM2 HO1
  go_wp2_with fail
  refine (Rg.all_any rb pc R w2 HP2.out.f.reg).mono ?_
  rintro e v2 ⟨rfl, hb2⟩
  have HP := Lib.hid (HP2.out.below hb2)
  clear hb2 HP2
  go_simp
  rename_i hK
  refine hK _ _ ?_
  clear hK
  refine Great.wpList_allocTo rfl (some 15) rfl (.pointer (some ⟨v2.heap.size, 0, none⟩)) (.cells (Rg.wordsV Rg.zer).toArray 40) (Rg.run_new_words v2 _ _ rfl) ?_
  refine wpList_store_rowTo rfl 40 _ _ rfl rfl v2.heap.size (Rg.wordsV R).toArray (by kernel_rfl) (by kernel_rfl) 40 (Rg.wordsV Rg.zer).toArray (Blk.new v2 _ _) (size_old _ HLEN.out) (by simp [Rg.wordsV, HLEN.out, Rg.zer]) (one_old _) ?_
  obtain ⟨hb, hN⟩ := old_put v2 R HLEN.out
  generalize (v2.alloc (.cells (Rg.wordsV Rg.zer).toArray 40)).setRow v2.heap.size (Rg.wordsV R).toArray = w3 at hb hN ⊢
  have HN3 := Lib.hid hN
  have HP3 := Lib.hid (HP.out.below hb)
  have HNE : Hid (v2.heap.size ∉ [rb, cb] ∧ v2.heap.size ∉ [sb, db]) := Lib.hid (by have := HP.out.f.lts; have := HP.out.g.lts; simp; omega)
  clear hb hN HP
  generalize v2.heap.size = ob at HN3 HNE ⊢
  obtain ⟨r0, r1, r2, r3, r4⟩ := (HI.out.below HP3.out.b HI.out.lt).cells
  have hlt := (HI.out.below HP3.out.b HI.out.lt).lt
  go_wp2_with fail
  clear r0 r1 r2 r3 r4 hlt
  refine ((HX rb cb).out w3 HP3.out.f).mono ?_
  rintro e w4 ⟨rfl, hF, hk⟩
  have HP4 := Lib.hid (HP3.out.fexec hF hk)
  have HN4 := Lib.hid (Blk.kp HN3.out hk HNE.out.1)
  clear hF hk HP3 HN3 HX
  go_simp
  rename_i hK
  refine hK _ _ ?_
  clear hK
  refine Great.wpList_readTo rfl _ rfl (.tuple #[Eff.val E, .int .i64 0]) (by kernel_rfl) ?_
  refine Great.wpList_readTo rfl _ rfl (Eff.val E) (by kernel_rfl) ?_
  refine Great.wpList_readTo rfl _ rfl (.int .i64 0) (by kernel_rfl) ?_
  refine Great.wpList_allocTo rfl (some 16) rfl (.pointer (some ⟨w4.heap.size, 0, none⟩)) (.cells zeroE.cs.toArray 32) ((eff_run w4).out _ _ rfl) ?_
  refine wpList_store_rowTo rfl 32 _ _ rfl rfl w4.heap.size (Eff.cs E).toArray (by kernel_rfl) (by kernel_rfl) 32 zeroE.cs.toArray (Blk.new w4 _ _) (size_eff _) (rfl) (one_eff _) ?_
  obtain ⟨hb, hN⟩ := eff_put w4 E
  generalize (w4.alloc (.cells zeroE.cs.toArray 32)).setRow w4.heap.size (Eff.cs E).toArray = w5 at hb hN ⊢
  have HE5 := Lib.hid hN
  have HP5 := Lib.hid (HP4.out.below hb)
  have HN5 := Lib.hid (HN4.out.below hb HN4.out.lt)
  have HNF : Hid (w4.heap.size ∉ [sb, db]) := Lib.hid (by have := HP4.out.g.lts; simp; omega)
  clear hb hN HP4 HN4
  generalize w4.heap.size = eb at HE5 HNF ⊢
  obtain ⟨r0, r1, r2, r3, r4⟩ := (HI.out.below HP5.out.b HI.out.lt).cells
  have hlt := (HI.out.below HP5.out.b HI.out.lt).lt
  go_wp2_with fail
  clear r0 r1 r2 r3 r4 hlt
  refine ((HY sb db).out w5 HP5.out.g).mono ?_
  rintro e w6 ⟨rfl, hF, hk⟩
  have HP6 := Lib.hid (HP5.out.gexec hF hk)
  have HN6 := Lib.hid (Blk.kp HN5.out hk HNE.out.2)
  have HE6 := Lib.hid (Blk.kp HE5.out hk HNF.out)
  clear hF hk HP5 HN5 HE5 HY
  go_simp
  rename_i hK
  refine hK _ _ ?_
  clear hK
  refine Great.wpList_readTo rfl _ rfl (.tuple #[Eff.val E, .int .i64 0]) (by kernel_rfl) ?_
  refine Great.wpList_readTo rfl _ rfl (Eff.val E) (by kernel_rfl) ?_
  refine Great.wpList_readTo rfl _ rfl (.int .i64 0) (by kernel_rfl) ?_
  refine Great.wpList_allocTo rfl (some 18) rfl (.pointer (some ⟨w6.heap.size, 0, none⟩)) (.cells zeroE.cs.toArray 32) ((eff_run w6).out _ _ rfl) ?_
  refine wpList_store_rowTo rfl 32 _ _ rfl rfl w6.heap.size (Eff.cs E).toArray (by kernel_rfl) (by kernel_rfl) 32 zeroE.cs.toArray (Blk.new w6 _ _) (size_eff _) (rfl) (one_eff _) ?_
  obtain ⟨hb, hN⟩ := eff_put w6 E
  generalize (w6.alloc (.cells zeroE.cs.toArray 32)).setRow w6.heap.size (Eff.cs E).toArray = w7 at hb hN ⊢
  have HD7 := Lib.hid hN
  have HP7 := Lib.hid (HP6.out.below hb)
  have HN7 := Lib.hid (HN6.out.below hb HN6.out.lt)
  have HE7 := Lib.hid (HE6.out.below hb HE6.out.lt)
  clear hb hN HP6 HN6 HE6
  generalize w6.heap.size = fb at HD7 ⊢
  obtain ⟨r0, r1, r2, r3, r4⟩ := (HI.out.below HP7.out.b HI.out.lt).cells
  have hlt := (HI.out.below HP7.out.b HI.out.lt).lt
  go_wp2_with fail
  clear r0 r1 r2 r3 r4 hlt
  refine (HKN.out w7).mono ?_
  rintro e x7 ⟨rfl, rfl⟩
  go_upto_region 13 with fail
  refine wp_region_lit ?_
  refine Great.wpList_readTo rfl _ rfl E.val (exec_load_blk HE7.out 0 32 _ rfl (by kernel_rfl) (Eff.cs E) (fun j v h => by rw [Nat.zero_add]; exact h) _ Tryz.underlying32 rfl (size_effL _)) ?_
  refine Great.wpList_readTo rfl _ rfl E.val (exec_load_blk HD7.out 0 32 _ rfl (by kernel_rfl) (Eff.cs E) (fun j v h => by rw [Nat.zero_add]; exact h) _ Tryz.underlying32 rfl (size_effL _)) ?_
  refine Great.wpList_readTo rfl _ rfl (.bool true) (exec_eql_eff _ _ _ rfl E (by kernel_rfl) (by kernel_rfl)) ?_
  go_wp2_with fail
  refine (Rg.all_any rb p2 R2 w7 HP7.out.f.reg).mono ?_
  rintro e v8 ⟨rfl, hb⟩
  have HP8 := Lib.hid (HP7.out.below hb)
  clear hb HP7 HN7 HE7 HD7
  go_wp2_with fail
  refine (Rg.all_any sb p2 R2 v8 HP8.out.g.reg).mono ?_
  rintro e v9 ⟨rfl, hb⟩
  have HP9 := Lib.hid (HP8.out.below hb)
  clear hb HP8
  go_wp2_with fail
  refine (Rg.pc_any rb p2 R2 v9 HP9.out.f.reg).mono ?_
  rintro e x9 ⟨rfl, rfl⟩
  go_wp2_with fail
  refine (Rg.pc_any sb p2 R2 v9 HP9.out.g.reg).mono ?_
  rintro e x9 ⟨rfl, rfl⟩
  go_wp2_with fail
  refine (awake13_any v9 (HP9.out.f.tab)).mono ?_
  rintro e v10 ⟨rfl, hb⟩
  go_wp2
  go_ret
  exact ⟨rfl, HB0.out.trans ((HP9.out.b.trans (hb.mono HP9.out.b.size)).mono HB0.out.size)⟩
theorem kernel13_any (al : Option Addr) (n cap : Nat) (zs : List Int) (pc o d a b m : Int) (w : World) (hn : n ≤ 9223372036854775807) (hz : RowK .u32 w w.heap.size al n zs) (hzb : ∀ z ∈ zs, 0 ≤ z ∧ z < 4294967296) (hw : Is.HasT w) (hA : Is.validB o d a b m = true → Is.kernB o = true → Calls Tryz.prog 5 #[.slice al n cap, .int .u32 pc, Is.insV o d a b m] w fun e w' => e = .returned (.bool true) ∧ Below w.heap.size w w') :
    Calls Tryz.prog 5 #[.slice al n cap, .int .u32 pc, Is.insV o d a b m] w fun e w' => e = .returned (.bool true) ∧ Below w.heap.size w w' := by
  cases hv : Is.validB o d a b m
  · exact kern_b al n cap zs pc o d a b m hv w hn hz hzb hw
  cases hk : Is.kernB o
  · exact kern_c al n cap zs pc o d a b m hv hk w hn hz hzb hw
  · exact hA hv hk
end Go.Proofs.YtniaclhmfmkikaaGreatDoor.Ex
end
section
/- What an instruction leaves as it was. -/
namespace Go.Proofs.YtniaclhmfmkikaaGreatDoor.Ex
open Go.RowKit Ut
set_option maxRecDepth 100000
set_option linter.unusedVariables false
set_option maxHeartbeats 4000000

theorem p_ite {P : Res → Prop} {c : Prop} [Decidable c] {x y : Res} (hx : c → P x) (hy : P y) : P (if c then x else y) := by
  by_cases h : c
  · rw [if_pos h]; exact hx h
  · rw [if_neg h]; exact hy
theorem hd_fin : ((List.range 42).all fun n => !(decide ((1 ≤ n ∧ n ≤ 22) ∨ n = 32 ∨ n = 33 ∨ n = 37)) || Is.hD n) = true := by decide +kernel
theorem hd_is {o : Int} (h : (1 ≤ o ∧ o ≤ 22) ∨ o = 32 ∨ o = 33 ∨ o = 37) : Is.hD o.toNat = true := by
  have := List.all_eq_true.1 hd_fin o.toNat (by simp; omega)
  simp only [Bool.or_eq_true, Bool.not_eq_true', decide_eq_false_iff_not] at this
  rcases this with h' | h'
  · exact absurd (by omega) h'
  · exact h'
/-- what is not done changes nothing; what is done goes on where it says; D alone turns, and the kernel's registers by two operations alone -/
def OneP (R : List Int) (pc : Int) (Q : List Nat) (o d : Int) (r : Res) : Prop :=
  (r.E.k ≠ 0 → r.p = pc ∧ r.Q = Q ∧ r.R = R) ∧ (r.E.k = 0 → r.E.pc = r.p) ∧ (r.R = R ∨ (Is.hD o.toNat = true ∧ ∃ v, r.R = Rg.setR R d v)) ∧ (r.Q = Q ∨ o = 36 ∨ o = 38)
theorem one_all (R : List Int) (pc : Int) (Q : List Nat) (i : Nat) (clock o d a b m : Int) (hv : Is.validB o d a b m = true) : OneP R pc Q o d (exX R pc Q i clock o d a b m) := by
  have s : ∀ E : Eff, E.k ≠ 0 → OneP R pc Q o d (stayX E R pc Q) := fun E hE => ⟨fun _ => ⟨rfl, rfl, rfl⟩, fun h => absurd h hE, .inl rfl, .inl rfl⟩
  have g : ((1 ≤ o ∧ o ≤ 22) ∨ o = 32 ∨ o = 33 ∨ o = 37) → ∀ v, OneP R pc Q o d (giveX R pc Q d v) := fun h v => ⟨fun h => absurd rfl h, fun _ => rfl, .inr ⟨hd_is h, v, rfl⟩, .inl rfl⟩
  have j : ((1 ≤ o ∧ o ≤ 22) ∨ o = 32 ∨ o = 33 ∨ o = 37) → ∀ q, OneP R pc Q o d (jumpX R pc Q d q) := fun h q => ⟨fun h => absurd rfl h, fun _ => rfl, .inr ⟨hd_is h, _, rfl⟩, .inl rfl⟩
  have n : ∀ q, OneP R pc Q o d (goX R q Q) := fun q => ⟨fun h => absurd rfl h, fun _ => rfl, .inl rfl, .inl rfl⟩
  have k : (o = 36 ∨ o = 38) → ∀ q Q2, OneP R pc Q o d (goX R q Q2) := fun h q Q2 => ⟨fun h => absurd rfl h, fun _ => rfl, .inl rfl, .inr h⟩
  unfold exX
  rw [if_pos hv]
  cases hk : Is.kernB o
  · rw [if_neg (by decide)]
    unfold userX
    exact p_ite (fun h => g (.inl ⟨h.1, by omega⟩) _) <| p_ite (fun h => g (.inl ⟨by omega, by omega⟩) _) <| p_ite (fun h => g (.inl ⟨by omega, by omega⟩) _) <| p_ite (fun _ => s _ (by simp)) <| p_ite (fun _ => s _ (by simp)) <| p_ite (fun _ => s _ (by simp)) <| p_ite (fun _ => s _ (by simp)) <| p_ite (fun _ => s _ (by simp)) <| p_ite (fun _ => s _ (by simp)) <| p_ite (fun _ => n _) <| p_ite (fun h => j (.inr (.inl h)) _) <| p_ite (fun h => j (.inr (.inr (.inl h))) _) <| p_ite (fun _ => s _ (by simp)) (s _ (by simp))
  · rw [if_pos rfl]
    refine p_ite (fun _ => ?_) (s _ (by simp))
    unfold kernX
    rcases kern_six hk with h | h | h | h | h | h
    all_goals first
      | (rw [if_pos h]; exact s _ (by simp))
      | (rw [if_neg (by omega), if_pos h]; exact s _ (by simp))
      | (rw [if_neg (by omega), if_neg (by omega), if_pos h]; exact s _ (by simp))
      | (rw [if_neg (by omega), if_neg (by omega), if_neg (by omega), if_pos h]; exact k (.inl h) _ _)
      | (rw [if_neg (by omega), if_neg (by omega), if_neg (by omega), if_neg (by omega), if_pos h]; exact g (.inr (.inr (.inr h))) _)
      | (rw [if_neg (by omega), if_neg (by omega), if_neg (by omega), if_neg (by omega), if_neg (by omega)]; exact p_ite (fun _ => k (.inr h) _ _) (s _ (by simp)))
/-- a register that has turned is D -/
theorem one_reg {R : List Int} (hR : R.length = 16) {o d a b m : Int} (hv : Is.validB o d a b m = true) {R2 : List Int} (h : R2 = R ∨ (Is.hD o.toNat = true ∧ ∃ v, R2 = Rg.setR R d v)) (n : Nat) (hn : n < 16) (hne : Rg.getR R2 (n : Int) ≠ Rg.getR R (n : Int)) :
    Is.wrB o d a b m = true ∧ Is.wrZ o d a b m = (n : Int) := by
  rcases h with rfl | ⟨hD, v, rfl⟩
  · exact absurd rfl hne
  · have hw : Is.wrB o d a b m = true := by unfold Is.wrB; rw [hv, hD]; rfl
    refine ⟨hw, ?_⟩
    unfold Is.wrZ
    rw [if_pos hw]
    apply Classical.byContradiction
    intro hd
    apply hne
    rw [Rg.getR_yes hn, Rg.getR_yes hn]
    unfold Rg.setR
    split
    · rw [List.getD_eq_getElem?_getD, List.getD_eq_getElem?_getD, List.getElem?_set_ne (by omega)]
    · rfl
theorem bin_eql7 (R Q : List Nat) (hR : R.length = 7) (hQ : Q.length = 7) (w : World) : (binOp .eql 45 (Cs.arrV R) (Cs.arrV Q)).run Tryz.prog w = .ok (.bool (Cs.intsOf R == Cs.intsOf Q)) w := by
  rw [Cs.arrV_ints, Cs.arrV_ints, run_eql_ints w 45 23 7 .u32 Tryz.underlying45 Tryz.underlying23 (fun W => by kernel_rfl) (Cs.intsOf R) (Cs.intsOf Q) (by rw [Cs.intsOf_len, hR]) (by rw [Cs.intsOf_len, hQ])]
end Go.Proofs.YtniaclhmfmkikaaGreatDoor.Ex
end
