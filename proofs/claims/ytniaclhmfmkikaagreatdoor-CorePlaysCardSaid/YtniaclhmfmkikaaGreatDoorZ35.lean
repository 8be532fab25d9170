/- Several texts in one: Sd -/
import Derived.Test.YtniaclhmfmkikaaGreatDoorZ33
import Derived.Test.YtniaclhmfmkikaaGreatDoorZ03
section
/- The walk of hermitagelaw13.CoreAsks: loads and stores. -/
namespace Go.Proofs.YtniaclhmfmkikaaGreatDoor.Ex
open Go.RowKit Ut
set_option maxRecDepth 100000
set_option linter.unusedVariables false
set_option maxHeartbeats 4000000

theorem asks_23a (al : Option Addr) (n cap : Nat) (zs : List Int) (pc : Int) (d : Int) (ka kb : Nat) (m : Int) (hka : ka < 16) (hkb : kb < 16) (hv : Is.validB 23 d ka kb m = true) (hq : adr (Rg.getR (ldR zs n) (ka : Int)) m % 4 ≠ 0) (w : World) (hn : n ≤ 9223372036854775807) (hz : RowK .u32 w w.heap.size al n zs) (hzb : ∀ z ∈ zs, 0 ≤ z ∧ z < 4294967296) (hw : Is.HasT w) :
    Calls Tryz.prog 6 #[.slice al n cap, .int .u32 pc, Is.insV 23 d ka kb m] w fun e w' => e = .returned (.bool true) ∧ Below w.heap.size w w' := by
  obtain ⟨U, hU⟩ : ∃ U, U = Is.insW 23 d ka kb m w := ⟨_, rfl⟩
  have HU := Lib.hid hU
  have HI : Hid (Is.InsAt U w.heap.size 23 d ka kb m) := Lib.hid (hU ▸ Is.ins_at 23 d ka kb m w)
  have HB0 : Hid (Below w.heap.size w U) := Lib.hid (hU ▸ Is.ins_below 23 d ka kb m w)
  have HM : Hid (_) := Lib.hid (made_any al n cap zs pc 4 U hn (by decide) ((hz.below HB0.out).more HB0.out.size) (hw.more HB0.out))
  have HTU := Lib.hid (hw.more HB0.out)
  have hR := ldR_ok hzb n
  have HLEN := Lib.hid (wordR_len hR)
  generalize ldR zs n = R at HM hR HLEN hq
  have hr : exX R pc (qS 4) 2 0 23 d ka kb m = stayX (Eff.mk 3 0 0 0 false 0 0 2 (adr (Rg.getR R ka) m)) R pc (qS 4) := by
    rw [ex_user hv (by decide)]
    unfold userX
    rw [if_neg (by decide), if_neg (by decide), if_neg (by decide)]
    rw [if_pos ⟨by decide, hq⟩]
  have HX : ∀ rb cb, Hid (∀ W, Fil W rb cb 2 pc R (qS 4) → Calls Tryz.prog 8 #[Is.insV 23 d ka kb m, .pointer (some ⟨rb, 0, none⟩), .pointer (some ⟨cb, 0, none⟩), .int .i64 0] W fun e w' => e = .returned (.tuple #[Eff.val (Eff.mk 3 0 0 0 false 0 0 2 (adr (Rg.getR R ka) m)), .int .i64 0]) ∧ Fil w' rb cb 2 pc R (qS 4) ∧ Kp [rb, cb] W w') := fun rb cb => exec_at hR 0 23 d ka kb m _ 0 hr (if_pos hv)
  clear hr
  obtain ⟨xa, exa⟩ : ∃ x, Rg.getR R (ka : Int) = x := ⟨_, rfl⟩
  obtain ⟨xb, exb⟩ : ∃ x, Rg.getR R (kb : Int) = x := ⟨_, rfl⟩
  have hz4 := adr_in (Rg.getR R (ka : Int)) m
  have HZ4 : Hid (IntKind.u32.wrap (xa + IntKind.u32.wrap m) = adr xa m) := Lib.hid (adr_wrap xa m)
  have HNX : Hid ((pc + 4) % 4294967296 = nxt pc) := Lib.hid rfl
  have HEA := Lib.hid exa
  have HEB := Lib.hid exb
  rw [exa] at HX hz4 hq
  try rw [exb] at HX
  generalize adr xa m = z4 at HX hz4 HZ4 hq
  try generalize nxt pc = nx at HX HNX
  have hq2 : (z4 % 4 != 0) = true := by simpa using hq
  clear hq
  have HVV : Hid (∀ V, Calls Tryz.prog 20 #[Is.insV 23 d ka kb m] V fun e w' => e = .returned (.bool true) ∧ Below V.heap.size V w') := Lib.hid fun V => Is.refValid_any 23 d ka kb m true hv V
  have gka : (ka : Int) < 16 := by omega
  have gkb : (kb : Int) < 16 := by omega
  have HKA := Lib.hid hka
  have HKB := Lib.hid hkb
  have hgd : ∀ (x y : Operand) (W : World), (eqGuard .neq 40 x y (Rg.arrV R) (Rg.arrV R)).run Tryz.prog W = .ok () W := fun x y W => Rg.guard_words _ x y _ _ W
  have hnq : ∀ W : World, (binOp .neq 40 (Rg.arrV R) (Rg.arrV R)).run Tryz.prog W = .ok (.bool false) W := fun W => by rw [Rg.bin_neq R R HLEN.out HLEN.out W]; simp
  clear exa exb hv hka hkb hR
  clear hU hz hzb hw hn
  go_enter Tryz.func6, Tryz.ntmps6
  go_wp2_with fail
  rw [show w.alloc (.cells #[.int .i64 23, .int .i64 d, .int .i64 (ka : Int), .int .i64 (kb : Int), .int .i64 m] 37) = U from HU.out.symm]
  refine HM.out.mono ?_
  rintro e w1 ⟨rb, cb, ab, bb, rfl, hO⟩
  have HO1 := Lib.hid hO
  clear hO HM HU
  go_wp2_with fail
  refine (Rg.all_any rb pc R w1 HO1.out.f.reg).mono ?_
  rintro e w2 ⟨rfl, hb2⟩
  have HO2 := Lib.hid (HO1.out.below hb2)
  clear hb2 HO1
  go_simp
  rename_i hK
  refine hK _ _ ?_
  clear hK
  refine Great.wpList_allocTo rfl (some 11) rfl (.pointer (some ⟨w2.heap.size, 0, none⟩)) (.cells (Rg.wordsV Rg.zer).toArray 40) (Rg.run_new_words w2 _ _ rfl) ?_
  refine wpList_store_rowTo rfl 40 _ _ rfl rfl w2.heap.size (Rg.wordsV R).toArray (by kernel_rfl) (by kernel_rfl) 40 (Rg.wordsV Rg.zer).toArray (Blk.new w2 _ _) (size_old _ HLEN.out) (by simp [Rg.wordsV, HLEN.out, Rg.zer]) (one_old _) ?_
  obtain ⟨hb, hN⟩ := old_put w2 R HLEN.out
  generalize (w2.alloc (.cells (Rg.wordsV Rg.zer).toArray 40)).setRow w2.heap.size (Rg.wordsV R).toArray = w3 at hb hN ⊢
  have HN3 := Lib.hid hN
  have HO3 := Lib.hid (HO2.out.below hb)
  have HNE : Hid (w2.heap.size ∉ [rb, cb]) := Lib.hid (by have := HO2.out.f.lts; simp; omega)
  clear hb hN HO2
  generalize w2.heap.size = ob at HN3 HNE ⊢
  obtain ⟨r0, r1, r2, r3, r4⟩ := (HI.out.below HO3.out.b HI.out.lt).cells
  have hlt := (HI.out.below HO3.out.b HI.out.lt).lt
  go_wp2_with fail
  clear r0 r1 r2 r3 r4 hlt
  refine ((HX rb cb).out w3 HO3.out.f).mono ?_
  rintro e w4 ⟨rfl, hF, hk⟩
  have HO4 := Lib.hid (HO3.out.fexec hF hk)
  have HN4 := Lib.hid (Blk.kp HN3.out hk HNE.out)
  clear hF hk HO3 HN3 HX
  go_simp
  rename_i hK
  refine hK _ _ ?_
  clear hK
  refine Great.wpList_readTo rfl _ rfl (.tuple #[Eff.val (Eff.mk 3 0 0 0 false 0 0 2 z4), .int .i64 0]) (by kernel_rfl) ?_
  refine Great.wpList_readTo rfl _ rfl (Eff.val (Eff.mk 3 0 0 0 false 0 0 2 z4)) (by kernel_rfl) ?_
  refine Great.wpList_readTo rfl _ rfl (.int .i64 0) (by kernel_rfl) ?_
  refine Great.wpList_allocTo rfl (some 12) rfl (.pointer (some ⟨w4.heap.size, 0, none⟩)) (.cells zeroE.cs.toArray 32) ((eff_run w4).out _ _ rfl) ?_
  refine wpList_store_rowTo rfl 32 _ _ rfl rfl w4.heap.size (Eff.cs (Eff.mk 3 0 0 0 false 0 0 2 z4)).toArray (by kernel_rfl) (by kernel_rfl) 32 zeroE.cs.toArray (Blk.new w4 _ _) (size_eff _) (rfl) (one_eff _) ?_
  obtain ⟨hb, hN⟩ := eff_put w4 (Eff.mk 3 0 0 0 false 0 0 2 z4)
  generalize (w4.alloc (.cells zeroE.cs.toArray 32)).setRow w4.heap.size (Eff.cs (Eff.mk 3 0 0 0 false 0 0 2 z4)).toArray = w5 at hb hN ⊢
  have HE5 := Lib.hid hN
  have HO5 := Lib.hid (HO4.out.below hb)
  have HN5 := Lib.hid (HN4.out.below hb HN4.out.lt)
  clear hb hN HO4 HN4
  generalize w4.heap.size = eb at HE5 ⊢
  obtain ⟨r0, r1, r2, r3, r4⟩ := (HI.out.below HO5.out.b HI.out.lt).cells
  have hlt := (HI.out.below HO5.out.b HI.out.lt).lt
  go_wp2_with fail
  refine (HVV.out w5).mono ?_
  rintro e v5 ⟨rfl, hb⟩
  clear r0 r1 r2 r3 r4 hlt
  have HE6 := Lib.hid (HE5.out.below hb HE5.out.lt)
  have HO6 := Lib.hid (HO5.out.below hb)
  have HN6 := Lib.hid (HN5.out.below hb HN5.out.lt)
  clear hb HE5 HO5 HN5 HVV
  obtain ⟨r0, r1, r2, r3, r4⟩ := (HI.out.below HO6.out.b HI.out.lt).cells
  have hlt := (HI.out.below HO6.out.b HI.out.lt).lt
  have ca := old_cell HN6.out HLEN.out ka HKA.out xa HEA.out
  have hlo := HN6.out.lt
  go_upto_region 8 with fail
  apply wp_region_auto [66, 67, 68, 69, 70, 71, 72, 73] [_, _, _, _, _, _, _, _] (fun W' => Below v5.heap.size v5 W')
  case hm => kernel_rfl
  case hT => intro y; simp only [setAll, List.setIfInBounds_toArray, List.set_cons_succ, List.set_cons_zero]; exact rfl
  case hok => kernel_rfl
  case hn => decide
  case hw => exact (Below.refl _ _).drew
  case hs =>
    refine auto_op 66 [] (by kernel_rfl) (fun y w' HW hd K hK => ?_) ?_
    · go_simp
      refine hK _ _ ?_ ?_ HW
      · simp [upd]
      · exact rfl
    refine auto_op 67 [0] (by kernel_rfl) (fun y w' HW hd K hK => ?_) ?_
    · have e0 := hd_nth (hd 0 (by simp)) rfl
      have hcl : ∀ p : Addr, p.block < v5.heap.size → w'.cell? p = v5.cell? p := fun p hp => HW.cell hp
      go_simp
      refine hK _ _ ?_ ?_ HW
      · simp [upd, e0]
      · exact rfl
    refine auto_op 68 [1] (by kernel_rfl) (fun y w' HW hd K hK => ?_) ?_
    · have e1 := hd_nth (hd 1 (by simp)) rfl
      go_simp
      refine hK _ _ ?_ ?_ HW
      · simp [upd, e1]
      · exact rfl
    refine auto_op 69 [2] (by kernel_rfl) (fun y w' HW hd K hK => ?_) ?_
    · have e2 := hd_nth (hd 2 (by simp)) rfl
      have hcl : ∀ p : Addr, p.block < v5.heap.size → w'.cell? p = v5.cell? p := fun p hp => HW.cell hp
      go_simp
      refine hK _ _ ?_ ?_ HW
      · simp [upd, e2]
      · exact rfl
    refine auto_op 70 [] (by kernel_rfl) (fun y w' HW hd K hK => ?_) ?_
    · go_simp
      refine hK _ _ ?_ ?_ HW
      · simp [upd]
      · exact rfl
    refine auto_op 71 [4] (by kernel_rfl) (fun y w' HW hd K hK => ?_) ?_
    · have e4 := hd_nth (hd 4 (by simp)) rfl
      have hcl : ∀ p : Addr, p.block < v5.heap.size → w'.cell? p = v5.cell? p := fun p hp => HW.cell hp
      go_simp
      refine hK _ _ ?_ ?_ HW
      · simp [upd, e4]
      · exact rfl
    refine auto_op 72 [5] (by kernel_rfl) (fun y w' HW hd K hK => ?_) ?_
    · have e5 := hd_nth (hd 5 (by simp)) rfl
      go_simp
      refine hK _ _ ?_ ?_ HW
      · simp [upd, e5]
      · exact rfl
    refine auto_op 73 [3, 6] (by kernel_rfl) (fun y w' HW hd K hK => ?_) ?_
    · have e3 := hd_nth (hd 3 (by simp)) rfl
      have e6 := hd_nth (hd 6 (by simp)) rfl
      go_simp
      refine hK _ _ ?_ ?_ HW
      · simp [upd, e3, e6]
      · exact rfl
    refine auto_last fun y w' HW hd K hK => ?_
    have e0 := hd_nth (hd 0 (by omega)) rfl
    have e1 := hd_nth (hd 1 (by omega)) rfl
    have e2 := hd_nth (hd 2 (by omega)) rfl
    have e3 := hd_nth (hd 3 (by omega)) rfl
    have e4 := hd_nth (hd 4 (by omega)) rfl
    have e5 := hd_nth (hd 5 (by omega)) rfl
    have e6 := hd_nth (hd 6 (by omega)) rfl
    have e7 := hd_nth (hd 7 (by omega)) rfl
    go_simp
    refine hK _ _ ?_
    clear hd hK K e0 e1 e2 e3 e4 e5 e6 e7
    rw [HZ4.out]
    have HE7 := Lib.hid (HE6.out.below HW HE6.out.lt)
    have HO7 := Lib.hid (HO6.out.below HW)
    have HN7 := Lib.hid (HN6.out.below HW HN6.out.lt)
    clear HW r0 r1 r2 r3 r4 hlt ca hlo HE6 HO6 HN6 HZ4
    obtain ⟨v7, hv7⟩ : ∃ v, w' = v := ⟨_, rfl⟩
    rw [hv7] at HE7 HO7 HN7 ⊢
    clear hv7 w'
    have HALL : Hid (∀ W, Below v7.heap.size v7 W → Calls Tryz.prog 10 #[.pointer (some ⟨rb, 0, none⟩)] W fun e w' => e = .returned (Rg.arrV R) ∧ Below W.heap.size W w') := Lib.hid fun W hW => Rg.all_any rb pc R W (HO7.out.f.reg.below hW HO7.out.f.reg.1.lt)
    have HPC : Hid (∀ W, Below v7.heap.size v7 W → Calls Tryz.prog 11 #[.pointer (some ⟨rb, 0, none⟩)] W fun e w' => e = .returned (.int .u32 pc) ∧ W = w') := Lib.hid fun W hW => Rg.pc_any rb pc R W (HO7.out.f.reg.below hW HO7.out.f.reg.1.lt)
    have HLD : Hid (∀ (W : World) (ρ : Operand → Value) (o : Oper), Below v7.heap.size v7 W → o.op = .load 40 (.tmp 11) → ρ (.tmp 11) = .pointer (some ⟨ob, 0, none⟩) → (execOp ρ o).run Tryz.prog W = .ok (.value (Rg.arrV R)) W) := Lib.hid fun W ρ o hW ho hx => exec_load_blk (HN7.out.below hW HN7.out.lt) 0 40 _ ho hx (Rg.wordsV R) (fun j v h => by rw [Nat.zero_add]; exact h) _ Tryz.underlying40 rfl (Rg.size_words R HLEN.out)
    generalize Rg.arrV R = A at hgd hnq HALL HLD
    go_upto_region 9 with fail
    apply wp_region_auto [74, 75, 76, 77, 78, 79, 80, 81, 82] [_, _, _, _, _, _, _, _, _] (fun W' => Below v7.heap.size v7 W')
    case hm => kernel_rfl
    case hT => intro y; simp only [setAll, List.setIfInBounds_toArray, List.set_cons_succ, List.set_cons_zero]; exact rfl
    case hok => kernel_rfl
    case hn => decide
    case hw => exact (Below.refl _ _).drew
    case hs =>
      refine auto_op 74 [] (by kernel_rfl) (fun y w' HW hd K hK => ?_) ?_
      · go_simp
        refine hK _ _ ?_ ?_ HW
        · simp [upd]
        · exact rfl
      refine auto_op 75 [0] (by kernel_rfl) (fun y w' HW hd K hK => ?_) ?_
      · have e0 := hd_nth (hd 0 (by simp)) rfl
        go_simp
        refine (HALL.out _ HW).mono ?_
        rintro e w3 ⟨rfl, hb3⟩
        refine hK _ _ ?_ ?_ (HW.trans (hb3.mono HW.size))
        · simp [upd, e0]
        · exact rfl
      refine auto_op 76 [] (by kernel_rfl) (fun y w' HW hd K hK => ?_) ?_
      · have hcl : ∀ p : Addr, p.block < v7.heap.size → w'.cell? p = v7.cell? p := fun p hp => HW.cell hp
        refine step_val (a := ⟨_, _⟩) ?_ A ?_ ?_
        · go_simp
        · exact HLD.out _ _ _ HW rfl rfl
        refine hK _ _ ?_ ?_ HW
        · simp [upd]
        · exact rfl
      refine auto_op 77 [1, 2] (by kernel_rfl) (fun y w' HW hd K hK => ?_) ?_
      · have e1 := hd_nth (hd 1 (by simp)) rfl
        have e2 := hd_nth (hd 2 (by simp)) rfl
        go_simp
        refine hK _ _ ?_ ?_ HW
        · simp [upd, e1, e2]
        · exact rfl
      refine auto_op 78 [3, 1] (by kernel_rfl) (fun y w' HW hd K hK => ?_) ?_
      · have e1 := hd_nth (hd 1 (by simp)) rfl
        have e3 := hd_nth (hd 3 (by simp)) rfl
        go_simp
        refine hK _ _ ?_ ?_ HW
        · simp [upd, e1, e3]
        · exact rfl
      refine auto_op 79 [4] (by kernel_rfl) (fun y w' HW hd K hK => ?_) ?_
      · have e4 := hd_nth (hd 4 (by simp)) rfl
        go_simp
        refine hK _ _ ?_ ?_ HW
        · simp [upd, e4]
        · exact rfl
      refine auto_op 80 [5, 4, 4] (by kernel_rfl) (fun y w' HW hd K hK => ?_) ?_
      · have e4 := hd_nth (hd 4 (by simp)) rfl
        have e5 := hd_nth (hd 5 (by simp)) rfl
        go_simp
        refine (HPC.out _ HW).mono ?_
        rintro e w3 ⟨rfl, rfl⟩
        refine hK _ _ ?_ ?_ HW
        · simp [upd, e4, e5]
        · exact rfl
      refine auto_op 81 [4] (by kernel_rfl) (fun y w' HW hd K hK => ?_) ?_
      · have e4 := hd_nth (hd 4 (by simp)) rfl
        go_simp
        refine hK _ _ ?_ ?_ HW
        · simp [upd, e4]
        · exact rfl
      refine auto_op 82 [6, 7, 4] (by kernel_rfl) (fun y w' HW hd K hK => ?_) ?_
      · have e4 := hd_nth (hd 4 (by simp)) rfl
        have e6 := hd_nth (hd 6 (by simp)) rfl
        have e7 := hd_nth (hd 7 (by simp)) rfl
        go_simp
        refine hK _ _ ?_ ?_ HW
        · simp [upd, e4, e6, e7]
        · exact rfl
      refine auto_last fun y w' HW hd K hK => ?_
      have e0 := hd_nth (hd 0 (by omega)) rfl
      have e1 := hd_nth (hd 1 (by omega)) rfl
      have e2 := hd_nth (hd 2 (by omega)) rfl
      have e3 := hd_nth (hd 3 (by omega)) rfl
      have e4 := hd_nth (hd 4 (by omega)) rfl
      have e5 := hd_nth (hd 5 (by omega)) rfl
      have e6 := hd_nth (hd 6 (by omega)) rfl
      have e7 := hd_nth (hd 7 (by omega)) rfl
      have e8 := hd_nth (hd 8 (by omega)) rfl
      go_simp
      refine hK _ _ ?_
      clear hd hK K e0 e1 e2 e3 e4 e5 e6 e7 e8
      have HE8 := Lib.hid (HE7.out.below HW HE7.out.lt)
      have HO8 := Lib.hid (HO7.out.below HW)
      have HN8 := Lib.hid (HN7.out.below HW HN7.out.lt)
      clear HW HE7 HO7 HN7 HALL HPC HLD hgd hnq
      obtain ⟨v8, hv8⟩ : ∃ v, w' = v := ⟨_, rfl⟩
      rw [hv8] at HE8 HO8 HN8 ⊢
      clear hv8 w'
      obtain ⟨r0, r1, r2, r3, r4⟩ := (HI.out.below HO8.out.b HI.out.lt).cells
      have hlt := (HI.out.below HO8.out.b HI.out.lt).lt
      have hle := HE8.out.lt
      have c0 : v8.cell? ⟨eb, 0, none⟩ = some (.int .i64 (3)) := HE8.out.cell rfl
      have c1 : v8.cell? ⟨eb, 1, none⟩ = some (.int .u32 (0)) := HE8.out.cell rfl
      have c2 : v8.cell? ⟨eb, 2, none⟩ = some (.int .u32 (0)) := HE8.out.cell rfl
      have c3 : v8.cell? ⟨eb, 3, none⟩ = some (.int .i64 (0)) := HE8.out.cell rfl
      have c4 : v8.cell? ⟨eb, 4, none⟩ = some (.bool false) := HE8.out.cell rfl
      have c5 : v8.cell? ⟨eb, 5, none⟩ = some (.int .i64 (0)) := HE8.out.cell rfl
      have c6 : v8.cell? ⟨eb, 6, none⟩ = some (.int .u32 (0)) := HE8.out.cell rfl
      have c7 : v8.cell? ⟨eb, 7, none⟩ = some (.int .u32 (2)) := HE8.out.cell rfl
      have c8 : v8.cell? ⟨eb, 8, none⟩ = some (.int .u32 (z4)) := HE8.out.cell rfl
      obtain ⟨z40, z41⟩ := hz4
      go_wp2_with fail
      refine (awake13_any v8 (HO8.out.f.tab)).mono ?_
      rintro e v9 ⟨rfl, hb⟩
      go_wp2
      go_ret
      exact ⟨rfl, HB0.out.trans ((HO8.out.b.trans (hb.mono HO8.out.b.size)).mono HB0.out.size)⟩
theorem asks_26a (al : Option Addr) (n cap : Nat) (zs : List Int) (pc : Int) (d : Int) (ka kb : Nat) (m : Int) (hka : ka < 16) (hkb : kb < 16) (hv : Is.validB 26 d ka kb m = true) (hq : adr (Rg.getR (ldR zs n) (ka : Int)) m % 4 ≠ 0) (w : World) (hn : n ≤ 9223372036854775807) (hz : RowK .u32 w w.heap.size al n zs) (hzb : ∀ z ∈ zs, 0 ≤ z ∧ z < 4294967296) (hw : Is.HasT w) :
    Calls Tryz.prog 6 #[.slice al n cap, .int .u32 pc, Is.insV 26 d ka kb m] w fun e w' => e = .returned (.bool true) ∧ Below w.heap.size w w' := by
  obtain ⟨U, hU⟩ : ∃ U, U = Is.insW 26 d ka kb m w := ⟨_, rfl⟩
  have HU := Lib.hid hU
  have HI : Hid (Is.InsAt U w.heap.size 26 d ka kb m) := Lib.hid (hU ▸ Is.ins_at 26 d ka kb m w)
  have HB0 : Hid (Below w.heap.size w U) := Lib.hid (hU ▸ Is.ins_below 26 d ka kb m w)
  have HM : Hid (_) := Lib.hid (made_any al n cap zs pc 4 U hn (by decide) ((hz.below HB0.out).more HB0.out.size) (hw.more HB0.out))
  have HTU := Lib.hid (hw.more HB0.out)
  have hR := ldR_ok hzb n
  have HLEN := Lib.hid (wordR_len hR)
  generalize ldR zs n = R at HM hR HLEN hq
  have hr : exX R pc (qS 4) 2 0 26 d ka kb m = stayX (Eff.mk 3 0 0 0 false 0 0 2 (adr (Rg.getR R ka) m)) R pc (qS 4) := by
    rw [ex_user hv (by decide)]
    unfold userX
    rw [if_neg (by decide), if_neg (by decide), if_neg (by decide)]
    rw [if_pos ⟨by decide, hq⟩]
  have HX : ∀ rb cb, Hid (∀ W, Fil W rb cb 2 pc R (qS 4) → Calls Tryz.prog 8 #[Is.insV 26 d ka kb m, .pointer (some ⟨rb, 0, none⟩), .pointer (some ⟨cb, 0, none⟩), .int .i64 0] W fun e w' => e = .returned (.tuple #[Eff.val (Eff.mk 3 0 0 0 false 0 0 2 (adr (Rg.getR R ka) m)), .int .i64 0]) ∧ Fil w' rb cb 2 pc R (qS 4) ∧ Kp [rb, cb] W w') := fun rb cb => exec_at hR 0 26 d ka kb m _ 0 hr (if_pos hv)
  clear hr
  obtain ⟨xa, exa⟩ : ∃ x, Rg.getR R (ka : Int) = x := ⟨_, rfl⟩
  obtain ⟨xb, exb⟩ : ∃ x, Rg.getR R (kb : Int) = x := ⟨_, rfl⟩
  have hz4 := adr_in (Rg.getR R (ka : Int)) m
  have HZ4 : Hid (IntKind.u32.wrap (xa + IntKind.u32.wrap m) = adr xa m) := Lib.hid (adr_wrap xa m)
  have HNX : Hid ((pc + 4) % 4294967296 = nxt pc) := Lib.hid rfl
  have HEA := Lib.hid exa
  have HEB := Lib.hid exb
  rw [exa] at HX hz4 hq
  try rw [exb] at HX
  generalize adr xa m = z4 at HX hz4 HZ4 hq
  try generalize nxt pc = nx at HX HNX
  have hq2 : (z4 % 4 != 0) = true := by simpa using hq
  clear hq
  have HVV : Hid (∀ V, Calls Tryz.prog 20 #[Is.insV 26 d ka kb m] V fun e w' => e = .returned (.bool true) ∧ Below V.heap.size V w') := Lib.hid fun V => Is.refValid_any 26 d ka kb m true hv V
  have gka : (ka : Int) < 16 := by omega
  have gkb : (kb : Int) < 16 := by omega
  have HKA := Lib.hid hka
  have HKB := Lib.hid hkb
  have hgd : ∀ (x y : Operand) (W : World), (eqGuard .neq 40 x y (Rg.arrV R) (Rg.arrV R)).run Tryz.prog W = .ok () W := fun x y W => Rg.guard_words _ x y _ _ W
  have hnq : ∀ W : World, (binOp .neq 40 (Rg.arrV R) (Rg.arrV R)).run Tryz.prog W = .ok (.bool false) W := fun W => by rw [Rg.bin_neq R R HLEN.out HLEN.out W]; simp
  clear exa exb hv hka hkb hR
  clear hU hz hzb hw hn
  go_enter Tryz.func6, Tryz.ntmps6
  go_wp2_with fail
  rw [show w.alloc (.cells #[.int .i64 26, .int .i64 d, .int .i64 (ka : Int), .int .i64 (kb : Int), .int .i64 m] 37) = U from HU.out.symm]
  refine HM.out.mono ?_
  rintro e w1 ⟨rb, cb, ab, bb, rfl, hO⟩
  have HO1 := Lib.hid hO
  clear hO HM HU
  go_wp2_with fail
  refine (Rg.all_any rb pc R w1 HO1.out.f.reg).mono ?_
  rintro e w2 ⟨rfl, hb2⟩
  have HO2 := Lib.hid (HO1.out.below hb2)
  clear hb2 HO1
  go_simp
  rename_i hK
  refine hK _ _ ?_
  clear hK
  refine Great.wpList_allocTo rfl (some 11) rfl (.pointer (some ⟨w2.heap.size, 0, none⟩)) (.cells (Rg.wordsV Rg.zer).toArray 40) (Rg.run_new_words w2 _ _ rfl) ?_
  refine wpList_store_rowTo rfl 40 _ _ rfl rfl w2.heap.size (Rg.wordsV R).toArray (by kernel_rfl) (by kernel_rfl) 40 (Rg.wordsV Rg.zer).toArray (Blk.new w2 _ _) (size_old _ HLEN.out) (by simp [Rg.wordsV, HLEN.out, Rg.zer]) (one_old _) ?_
  obtain ⟨hb, hN⟩ := old_put w2 R HLEN.out
  generalize (w2.alloc (.cells (Rg.wordsV Rg.zer).toArray 40)).setRow w2.heap.size (Rg.wordsV R).toArray = w3 at hb hN ⊢
  have HN3 := Lib.hid hN
  have HO3 := Lib.hid (HO2.out.below hb)
  have HNE : Hid (w2.heap.size ∉ [rb, cb]) := Lib.hid (by have := HO2.out.f.lts; simp; omega)
  clear hb hN HO2
  generalize w2.heap.size = ob at HN3 HNE ⊢
  obtain ⟨r0, r1, r2, r3, r4⟩ := (HI.out.below HO3.out.b HI.out.lt).cells
  have hlt := (HI.out.below HO3.out.b HI.out.lt).lt
  go_wp2_with fail
  clear r0 r1 r2 r3 r4 hlt
  refine ((HX rb cb).out w3 HO3.out.f).mono ?_
  rintro e w4 ⟨rfl, hF, hk⟩
  have HO4 := Lib.hid (HO3.out.fexec hF hk)
  have HN4 := Lib.hid (Blk.kp HN3.out hk HNE.out)
  clear hF hk HO3 HN3 HX
  go_simp
  rename_i hK
  refine hK _ _ ?_
  clear hK
  refine Great.wpList_readTo rfl _ rfl (.tuple #[Eff.val (Eff.mk 3 0 0 0 false 0 0 2 z4), .int .i64 0]) (by kernel_rfl) ?_
  refine Great.wpList_readTo rfl _ rfl (Eff.val (Eff.mk 3 0 0 0 false 0 0 2 z4)) (by kernel_rfl) ?_
  refine Great.wpList_readTo rfl _ rfl (.int .i64 0) (by kernel_rfl) ?_
  refine Great.wpList_allocTo rfl (some 12) rfl (.pointer (some ⟨w4.heap.size, 0, none⟩)) (.cells zeroE.cs.toArray 32) ((eff_run w4).out _ _ rfl) ?_
  refine wpList_store_rowTo rfl 32 _ _ rfl rfl w4.heap.size (Eff.cs (Eff.mk 3 0 0 0 false 0 0 2 z4)).toArray (by kernel_rfl) (by kernel_rfl) 32 zeroE.cs.toArray (Blk.new w4 _ _) (size_eff _) (rfl) (one_eff _) ?_
  obtain ⟨hb, hN⟩ := eff_put w4 (Eff.mk 3 0 0 0 false 0 0 2 z4)
  generalize (w4.alloc (.cells zeroE.cs.toArray 32)).setRow w4.heap.size (Eff.cs (Eff.mk 3 0 0 0 false 0 0 2 z4)).toArray = w5 at hb hN ⊢
  have HE5 := Lib.hid hN
  have HO5 := Lib.hid (HO4.out.below hb)
  have HN5 := Lib.hid (HN4.out.below hb HN4.out.lt)
  clear hb hN HO4 HN4
  generalize w4.heap.size = eb at HE5 ⊢
  obtain ⟨r0, r1, r2, r3, r4⟩ := (HI.out.below HO5.out.b HI.out.lt).cells
  have hlt := (HI.out.below HO5.out.b HI.out.lt).lt
  go_wp2_with fail
  refine (HVV.out w5).mono ?_
  rintro e v5 ⟨rfl, hb⟩
  clear r0 r1 r2 r3 r4 hlt
  have HE6 := Lib.hid (HE5.out.below hb HE5.out.lt)
  have HO6 := Lib.hid (HO5.out.below hb)
  have HN6 := Lib.hid (HN5.out.below hb HN5.out.lt)
  clear hb HE5 HO5 HN5 HVV
  obtain ⟨r0, r1, r2, r3, r4⟩ := (HI.out.below HO6.out.b HI.out.lt).cells
  have hlt := (HI.out.below HO6.out.b HI.out.lt).lt
  have ca := old_cell HN6.out HLEN.out ka HKA.out xa HEA.out
  have hlo := HN6.out.lt
  go_upto_region 8 with fail
  apply wp_region_auto [66, 67, 68, 69, 70, 71, 72, 73] [_, _, _, _, _, _, _, _] (fun W' => Below v5.heap.size v5 W')
  case hm => kernel_rfl
  case hT => intro y; simp only [setAll, List.setIfInBounds_toArray, List.set_cons_succ, List.set_cons_zero]; exact rfl
  case hok => kernel_rfl
  case hn => decide
  case hw => exact (Below.refl _ _).drew
  case hs =>
    refine auto_op 66 [] (by kernel_rfl) (fun y w' HW hd K hK => ?_) ?_
    · go_simp
      refine hK _ _ ?_ ?_ HW
      · simp [upd]
      · exact rfl
    refine auto_op 67 [0] (by kernel_rfl) (fun y w' HW hd K hK => ?_) ?_
    · have e0 := hd_nth (hd 0 (by simp)) rfl
      have hcl : ∀ p : Addr, p.block < v5.heap.size → w'.cell? p = v5.cell? p := fun p hp => HW.cell hp
      go_simp
      refine hK _ _ ?_ ?_ HW
      · simp [upd, e0]
      · exact rfl
    refine auto_op 68 [1] (by kernel_rfl) (fun y w' HW hd K hK => ?_) ?_
    · have e1 := hd_nth (hd 1 (by simp)) rfl
      go_simp
      refine hK _ _ ?_ ?_ HW
      · simp [upd, e1]
      · exact rfl
    refine auto_op 69 [2] (by kernel_rfl) (fun y w' HW hd K hK => ?_) ?_
    · have e2 := hd_nth (hd 2 (by simp)) rfl
      have hcl : ∀ p : Addr, p.block < v5.heap.size → w'.cell? p = v5.cell? p := fun p hp => HW.cell hp
      go_simp
      refine hK _ _ ?_ ?_ HW
      · simp [upd, e2]
      · exact rfl
    refine auto_op 70 [] (by kernel_rfl) (fun y w' HW hd K hK => ?_) ?_
    · go_simp
      refine hK _ _ ?_ ?_ HW
      · simp [upd]
      · exact rfl
    refine auto_op 71 [4] (by kernel_rfl) (fun y w' HW hd K hK => ?_) ?_
    · have e4 := hd_nth (hd 4 (by simp)) rfl
      have hcl : ∀ p : Addr, p.block < v5.heap.size → w'.cell? p = v5.cell? p := fun p hp => HW.cell hp
      go_simp
      refine hK _ _ ?_ ?_ HW
      · simp [upd, e4]
      · exact rfl
    refine auto_op 72 [5] (by kernel_rfl) (fun y w' HW hd K hK => ?_) ?_
    · have e5 := hd_nth (hd 5 (by simp)) rfl
      go_simp
      refine hK _ _ ?_ ?_ HW
      · simp [upd, e5]
      · exact rfl
    refine auto_op 73 [3, 6] (by kernel_rfl) (fun y w' HW hd K hK => ?_) ?_
    · have e3 := hd_nth (hd 3 (by simp)) rfl
      have e6 := hd_nth (hd 6 (by simp)) rfl
      go_simp
      refine hK _ _ ?_ ?_ HW
      · simp [upd, e3, e6]
      · exact rfl
    refine auto_last fun y w' HW hd K hK => ?_
    have e0 := hd_nth (hd 0 (by omega)) rfl
    have e1 := hd_nth (hd 1 (by omega)) rfl
    have e2 := hd_nth (hd 2 (by omega)) rfl
    have e3 := hd_nth (hd 3 (by omega)) rfl
    have e4 := hd_nth (hd 4 (by omega)) rfl
    have e5 := hd_nth (hd 5 (by omega)) rfl
    have e6 := hd_nth (hd 6 (by omega)) rfl
    have e7 := hd_nth (hd 7 (by omega)) rfl
    go_simp
    refine hK _ _ ?_
    clear hd hK K e0 e1 e2 e3 e4 e5 e6 e7
    rw [HZ4.out]
    have HE7 := Lib.hid (HE6.out.below HW HE6.out.lt)
    have HO7 := Lib.hid (HO6.out.below HW)
    have HN7 := Lib.hid (HN6.out.below HW HN6.out.lt)
    clear HW r0 r1 r2 r3 r4 hlt ca hlo HE6 HO6 HN6 HZ4
    obtain ⟨v7, hv7⟩ : ∃ v, w' = v := ⟨_, rfl⟩
    rw [hv7] at HE7 HO7 HN7 ⊢
    clear hv7 w'
    have HALL : Hid (∀ W, Below v7.heap.size v7 W → Calls Tryz.prog 10 #[.pointer (some ⟨rb, 0, none⟩)] W fun e w' => e = .returned (Rg.arrV R) ∧ Below W.heap.size W w') := Lib.hid fun W hW => Rg.all_any rb pc R W (HO7.out.f.reg.below hW HO7.out.f.reg.1.lt)
    have HPC : Hid (∀ W, Below v7.heap.size v7 W → Calls Tryz.prog 11 #[.pointer (some ⟨rb, 0, none⟩)] W fun e w' => e = .returned (.int .u32 pc) ∧ W = w') := Lib.hid fun W hW => Rg.pc_any rb pc R W (HO7.out.f.reg.below hW HO7.out.f.reg.1.lt)
    have HLD : Hid (∀ (W : World) (ρ : Operand → Value) (o : Oper), Below v7.heap.size v7 W → o.op = .load 40 (.tmp 11) → ρ (.tmp 11) = .pointer (some ⟨ob, 0, none⟩) → (execOp ρ o).run Tryz.prog W = .ok (.value (Rg.arrV R)) W) := Lib.hid fun W ρ o hW ho hx => exec_load_blk (HN7.out.below hW HN7.out.lt) 0 40 _ ho hx (Rg.wordsV R) (fun j v h => by rw [Nat.zero_add]; exact h) _ Tryz.underlying40 rfl (Rg.size_words R HLEN.out)
    generalize Rg.arrV R = A at hgd hnq HALL HLD
    go_upto_region 9 with fail
    apply wp_region_auto [74, 75, 76, 77, 78, 79, 80, 81, 82] [_, _, _, _, _, _, _, _, _] (fun W' => Below v7.heap.size v7 W')
    case hm => kernel_rfl
    case hT => intro y; simp only [setAll, List.setIfInBounds_toArray, List.set_cons_succ, List.set_cons_zero]; exact rfl
    case hok => kernel_rfl
    case hn => decide
    case hw => exact (Below.refl _ _).drew
    case hs =>
      refine auto_op 74 [] (by kernel_rfl) (fun y w' HW hd K hK => ?_) ?_
      · go_simp
        refine hK _ _ ?_ ?_ HW
        · simp [upd]
        · exact rfl
      refine auto_op 75 [0] (by kernel_rfl) (fun y w' HW hd K hK => ?_) ?_
      · have e0 := hd_nth (hd 0 (by simp)) rfl
        go_simp
        refine (HALL.out _ HW).mono ?_
        rintro e w3 ⟨rfl, hb3⟩
        refine hK _ _ ?_ ?_ (HW.trans (hb3.mono HW.size))
        · simp [upd, e0]
        · exact rfl
      refine auto_op 76 [] (by kernel_rfl) (fun y w' HW hd K hK => ?_) ?_
      · have hcl : ∀ p : Addr, p.block < v7.heap.size → w'.cell? p = v7.cell? p := fun p hp => HW.cell hp
        refine step_val (a := ⟨_, _⟩) ?_ A ?_ ?_
        · go_simp
        · exact HLD.out _ _ _ HW rfl rfl
        refine hK _ _ ?_ ?_ HW
        · simp [upd]
        · exact rfl
      refine auto_op 77 [1, 2] (by kernel_rfl) (fun y w' HW hd K hK => ?_) ?_
      · have e1 := hd_nth (hd 1 (by simp)) rfl
        have e2 := hd_nth (hd 2 (by simp)) rfl
        go_simp
        refine hK _ _ ?_ ?_ HW
        · simp [upd, e1, e2]
        · exact rfl
      refine auto_op 78 [3, 1] (by kernel_rfl) (fun y w' HW hd K hK => ?_) ?_
      · have e1 := hd_nth (hd 1 (by simp)) rfl
        have e3 := hd_nth (hd 3 (by simp)) rfl
        go_simp
        refine hK _ _ ?_ ?_ HW
        · simp [upd, e1, e3]
        · exact rfl
      refine auto_op 79 [4] (by kernel_rfl) (fun y w' HW hd K hK => ?_) ?_
      · have e4 := hd_nth (hd 4 (by simp)) rfl
        go_simp
        refine hK _ _ ?_ ?_ HW
        · simp [upd, e4]
        · exact rfl
      refine auto_op 80 [5, 4, 4] (by kernel_rfl) (fun y w' HW hd K hK => ?_) ?_
      · have e4 := hd_nth (hd 4 (by simp)) rfl
        have e5 := hd_nth (hd 5 (by simp)) rfl
        go_simp
        refine (HPC.out _ HW).mono ?_
        rintro e w3 ⟨rfl, rfl⟩
        refine hK _ _ ?_ ?_ HW
        · simp [upd, e4, e5]
        · exact rfl
      refine auto_op 81 [4] (by kernel_rfl) (fun y w' HW hd K hK => ?_) ?_
      · have e4 := hd_nth (hd 4 (by simp)) rfl
        go_simp
        refine hK _ _ ?_ ?_ HW
        · simp [upd, e4]
        · exact rfl
      refine auto_op 82 [6, 7, 4] (by kernel_rfl) (fun y w' HW hd K hK => ?_) ?_
      · have e4 := hd_nth (hd 4 (by simp)) rfl
        have e6 := hd_nth (hd 6 (by simp)) rfl
        have e7 := hd_nth (hd 7 (by simp)) rfl
        go_simp
        refine hK _ _ ?_ ?_ HW
        · simp [upd, e4, e6, e7]
        · exact rfl
      refine auto_last fun y w' HW hd K hK => ?_
      have e0 := hd_nth (hd 0 (by omega)) rfl
      have e1 := hd_nth (hd 1 (by omega)) rfl
      have e2 := hd_nth (hd 2 (by omega)) rfl
      have e3 := hd_nth (hd 3 (by omega)) rfl
      have e4 := hd_nth (hd 4 (by omega)) rfl
      have e5 := hd_nth (hd 5 (by omega)) rfl
      have e6 := hd_nth (hd 6 (by omega)) rfl
      have e7 := hd_nth (hd 7 (by omega)) rfl
      have e8 := hd_nth (hd 8 (by omega)) rfl
      go_simp
      refine hK _ _ ?_
      clear hd hK K e0 e1 e2 e3 e4 e5 e6 e7 e8
      have HE8 := Lib.hid (HE7.out.below HW HE7.out.lt)
      have HO8 := Lib.hid (HO7.out.below HW)
      have HN8 := Lib.hid (HN7.out.below HW HN7.out.lt)
      clear HW HE7 HO7 HN7 HALL HPC HLD hgd hnq
      obtain ⟨v8, hv8⟩ : ∃ v, w' = v := ⟨_, rfl⟩
      rw [hv8] at HE8 HO8 HN8 ⊢
      clear hv8 w'
      obtain ⟨r0, r1, r2, r3, r4⟩ := (HI.out.below HO8.out.b HI.out.lt).cells
      have hlt := (HI.out.below HO8.out.b HI.out.lt).lt
      have hle := HE8.out.lt
      have c0 : v8.cell? ⟨eb, 0, none⟩ = some (.int .i64 (3)) := HE8.out.cell rfl
      have c1 : v8.cell? ⟨eb, 1, none⟩ = some (.int .u32 (0)) := HE8.out.cell rfl
      have c2 : v8.cell? ⟨eb, 2, none⟩ = some (.int .u32 (0)) := HE8.out.cell rfl
      have c3 : v8.cell? ⟨eb, 3, none⟩ = some (.int .i64 (0)) := HE8.out.cell rfl
      have c4 : v8.cell? ⟨eb, 4, none⟩ = some (.bool false) := HE8.out.cell rfl
      have c5 : v8.cell? ⟨eb, 5, none⟩ = some (.int .i64 (0)) := HE8.out.cell rfl
      have c6 : v8.cell? ⟨eb, 6, none⟩ = some (.int .u32 (0)) := HE8.out.cell rfl
      have c7 : v8.cell? ⟨eb, 7, none⟩ = some (.int .u32 (2)) := HE8.out.cell rfl
      have c8 : v8.cell? ⟨eb, 8, none⟩ = some (.int .u32 (z4)) := HE8.out.cell rfl
      obtain ⟨z40, z41⟩ := hz4
      go_wp2_with fail
      refine (awake13_any v8 (HO8.out.f.tab)).mono ?_
      rintro e v9 ⟨rfl, hb⟩
      go_wp2
      go_ret
      exact ⟨rfl, HB0.out.trans ((HO8.out.b.trans (hb.mono HO8.out.b.size)).mono HB0.out.size)⟩
end Go.Proofs.YtniaclhmfmkikaaGreatDoor.Ex
end
