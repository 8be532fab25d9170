/- The walk of hermitagelaw12.CsrBack. -/
import Derived.Test.YtaokaaakofgdoaaUk
namespace Go.Proofs.Ytaokaaakofgdoaa.Cs
open Go.RowKit Ut
set_option maxRecDepth 100000
set_option linter.unusedVariables false
set_option maxHeartbeats 4000000

/-- the registers after the three Writes: satp, tvec, status -/
def bk (a t s : Nat) : List Nat := [a &&& 7937, t, 0, 0, 0, s &&& 15, 0]
theorem bk_1 (a : Nat) : wrR ini 0 a = [a &&& 7937, 0, 0, 0, 0, 4, 0] := by
  unfold wrR
  rw [if_pos (by decide)]
  rfl
theorem bk_2 (a t : Nat) (ht : t < 4294967296) : wrR [a &&& 7937, 0, 0, 0, 0, 4, 0] 1 t = [a &&& 7937, t, 0, 0, 0, 4, 0] := by
  unfold wrR
  rw [if_pos (errZ_eq0 (by show hasB 4 4 = true; decide) (by decide) (by decide)), show (1 : Int).toNat = 1 from rfl, mask_all (by decide) (by decide) ht]
  rfl
theorem bk_3 (a t s : Nat) : wrR [a &&& 7937, t, 0, 0, 0, 4, 0] 5 s = bk a t s := by
  unfold wrR
  rw [if_pos (errZ_eq0 (by show hasB 4 4 = true; decide) (by decide) (by decide))]
  rfl
theorem run_new_mode' (w : World) (ρ : Operand → Value) (o : Oper) (ho : o.op = .alloc 46) : (execOp ρ o).run Try.prog w = .ok (.value (.pointer (some ⟨w.heap.size, 0, none⟩))) (w.alloc (.cells (modeL false 0 false).toArray 46)) := run_new_mode w ρ o ho

theorem back_any (status satp tvec pc cause tval : Nat) (w : World) (h0 : status < 4294967296) (h1 : satp < 4294967296) (h2 : tvec < 4294967296) (h3 : pc < 4294967296) (h4 : cause < 4294967296) (h5 : tval < 4294967296) :
    Calls Try.prog 4 #[.int .u32 (status : Int), .int .u32 (satp : Int), .int .u32 (tvec : Int), .int .u32 (pc : Int), .int .u32 (cause : Int), .int .u32 (tval : Int)] w fun e w' => e = .returned (.bool true) ∧ Below w.heap.size w w' := by
  have hs : status &&& 15 < 16 := Nat.and_lt_two_pow (n := 4) _ (by decide)
  obtain ⟨b1, b2, b3, b4⟩ := back_is hs
  obtain ⟨R1, hR1⟩ : ∃ Q, [satp &&& 7937, 0, 0, 0, 0, 4, 0] = Q := ⟨_, rfl⟩
  obtain ⟨R2, hR2⟩ : ∃ Q, [satp &&& 7937, tvec, 0, 0, 0, 4, 0] = Q := ⟨_, rfl⟩
  obtain ⟨R3, hR3⟩ : ∃ Q, bk satp tvec status = Q := ⟨_, rfl⟩
  obtain ⟨R4, hR4⟩ : ∃ Q, entR R3 pc cause tval = Q := ⟨_, rfl⟩
  obtain ⟨R5, hR5⟩ : ∃ Q, lvR R4 = Q := ⟨_, rfl⟩
  have e4 : R4 = [satp &&& 7937, tvec, pc, cause, tval, enterS (status &&& 15), 0] := by rw [← hR4, ← hR3]; rfl
  have e5 : R5 = [satp &&& 7937, tvec, pc, cause, tval, leaveS (enterS (status &&& 15)), 0] := by rw [← hR5, e4]; rfl
  have A1 := write_at w.heap.size 0 0 satp ini 0 R1 (by decide) (by rw [bk_1, hR1]) h1
  have A2 := write_at w.heap.size 0 1 tvec R1 0 R2 (by rw [← hR1]; exact errZ_eq0 (by show hasB 4 4 = true; decide) (by decide) (by decide)) (by rw [← hR1, bk_2 _ _ h2, hR2]) h2
  have A3 := write_at w.heap.size 0 5 status R2 0 R3 (by rw [← hR2]; exact errZ_eq0 (by show hasB 4 4 = true; decide) (by decide) (by decide)) (by rw [← hR2, bk_3, hR3]) h0
  obtain ⟨on, hon⟩ : ∃ q, hasB (satp &&& 7937) 1 = q := ⟨_, rfl⟩
  obtain ⟨root, hroot⟩ : ∃ q, rootN (satp &&& 7937) = q := ⟨_, rfl⟩
  obtain ⟨user, huser⟩ : ∃ q, (!hasB (status &&& 15) 4) = q := ⟨_, rfl⟩
  obtain ⟨op, hop⟩ : ∃ q, opnB R3 = q := ⟨_, rfl⟩
  have M3 := mode_at w.heap.size 0 R3 (mV on root user) (by rw [← hR3, ← hon, ← hroot, ← huser]; rfl)
  have M4 := mode_at w.heap.size 0 R4 (.agg #[.bool on, .int .i64 (root : Int), .bool false]) (by
    rw [e4, ← hon, ← hroot]
    show mV _ _ (!hasB (enterS (status &&& 15)) 4) = _
    rw [b3]
    rfl)
  have M5 := mode_at w.heap.size 0 R5 (mV on root user) (by
    rw [e5, ← hon, ← hroot, ← huser]
    show mV _ _ (!hasB (leaveS (enterS (status &&& 15))) 4) = _
    rw [b2]
    rfl)
  have O3 := open_at w.heap.size 0 R3 op hop
  have O4 := open_at w.heap.size 0 R4 false (by
    rw [e4]
    show (_ && hasB (enterS (status &&& 15)) 1) = false
    rw [b4, Bool.and_false])
  have O5 := open_at w.heap.size 0 R5 op (by
    rw [e5, ← hop, ← hR3]
    show (_ && hasB (leaveS (enterS (status &&& 15))) 1) = (_ && hasB (status &&& 15) 1)
    rw [b1]
    rfl)
  have E4 := enter_at w.heap.size 0 pc cause tval R3 tvec R4 (by rw [← hR3]; rfl) hR4 h3 h4 h5
  have D1 := read_at w.heap.size 0 3 0 R4 (cause : Int) 0 (by
    have hk : hasB (st R4) 4 = true := by rw [e4]; exact b3
    unfold rdZ
    rw [if_pos (errZ_eq0 hk (by decide) (by decide)), e4]
    rfl) (by
    have hk : hasB (st R4) 4 = true := by rw [e4]; exact b3
    exact errZ_eq0 hk (by decide) (by decide))
  have D2 := read_at w.heap.size 0 4 0 R4 (tval : Int) 0 (by
    have hk : hasB (st R4) 4 = true := by rw [e4]; exact b3
    unfold rdZ
    rw [if_pos (errZ_eq0 hk (by decide) (by decide)), e4]
    rfl) (by
    have hk : hasB (st R4) 4 = true := by rw [e4]; exact b3
    exact errZ_eq0 hk (by decide) (by decide))
  have L5 := leave_at w.heap.size 0 R4 pc R5 (by rw [e4]; rfl) hR5
  have HRUN : Hid (∀ (W : World) (ρ : Operand → Value) (o : Oper), o.op = .alloc 46 → (execOp ρ o).run Try.prog W = .ok (.value (.pointer (some ⟨W.heap.size, 0, none⟩))) (W.alloc (.cells (modeL false 0 false).toArray 46))) := fun W ρ o ho => run_new_mode W ρ o ho
  clear hs b1 b2 b3 b4 hR1 hR2 hR3 hR4 hR5 e4 e5 hon hroot huser hop h0 h1 h2 h3 h4 h5
  go_enter Try.func4, Try.ntmps4
  go_wp2_with fail
  refine (new_yes 0 w (by decide)).mono ?_
  rintro e w1 ⟨rfl, hF, hb⟩
  have HF1 := Lib.hid hF
  have HB1 := Lib.hid hb
  clear hF hb
  go_wp2_with fail
  refine (A1.out w1 HF1.out).mono ?_
  rintro e w2 ⟨rfl, hF, hg⟩
  have HF2 := Lib.hid hF
  have HB2 := Lib.hid (below_of_grown HB1.out hg HB1.out.size (Nat.le_refl _))
  clear hF hg HF1 HB1
  go_wp2_with fail
  refine (A2.out w2 HF2.out).mono ?_
  rintro e w3 ⟨rfl, hF, hg⟩
  have HF3 := Lib.hid hF
  have HB3 := Lib.hid (below_of_grown HB2.out hg HB2.out.size (Nat.le_refl _))
  clear hF hg HF2 HB2
  go_wp2_with fail
  refine (A3.out w3 HF3.out).mono ?_
  rintro e w4 ⟨rfl, hF, hg⟩
  have HF4 := Lib.hid hF
  have HB4 := Lib.hid (below_of_grown HB3.out hg HB3.out.size (Nat.le_refl _))
  clear hF hg HF3 HB3
  go_wp2_with fail
  refine (M3.out w4 HF4.out).mono ?_
  rintro e w5 ⟨rfl, hb⟩
  have HF5 := Lib.hid (HF4.out.below hb HF4.out.1.lt)
  have HB5 := Lib.hid (HB4.out.trans (hb.mono HB4.out.size))
  clear hb HF4 HB4
  go_simp
  rename_i hK
  refine hK _ _ ?_
  clear hK
  refine Great.wpList_allocTo rfl (some 15) rfl (.pointer (some ⟨w5.heap.size, 0, none⟩)) (.cells (modeL false 0 false).toArray 46) (HRUN.out w5 _ _ rfl) ?_
  have hB6 := (Below.refl w5.heap.size w5).alloc (Nat.le_refl _) (.cells (modeL false 0 false).toArray 46)
  have HN : Hid (Blk (w5.alloc (.cells (modeL false 0 false).toArray 46)) w5.heap.size 46 (modeL false 0 false)) := Blk.new w5 _ _
  refine wpList_store_rowTo rfl 46 _ _ rfl rfl w5.heap.size (modeL on root user).toArray (by kernel_rfl) (by kernel_rfl) 46 (modeL false 0 false).toArray HN.out (by rw [size_mode]; rfl) rfl (by simpa using one_mode on root user) ?_
  have hB7 := below_setRow hB6 (Nat.le_refl _) (modeL on root user).toArray
  have hN7 := HN.out.row (modeL on root user)
  have HF7 := Lib.hid (HF5.out.below hB7 HF5.out.1.lt)
  have HB7 := Lib.hid (HB5.out.trans (hB7.mono HB5.out.size))
  have HN7 := Lib.hid hN7
  have HGE := Lib.hid (Nat.ne_of_gt HF5.out.1.lt)
  clear hB7 hB6 HN hN7 HF5 HB5
  generalize (w5.alloc (.cells (modeL false 0 false).toArray 46)).setRow w5.heap.size (modeL on root user).toArray = w7 at HF7 HB7 HN7 ⊢
  generalize w5.heap.size = g at HN7 HGE ⊢
  go_wp2_with fail
  refine (O3.out w7 HF7.out).mono ?_
  rintro e w8 ⟨rfl, hb⟩
  have HF8 := Lib.hid (HF7.out.below hb HF7.out.1.lt)
  have HB8 := Lib.hid (HB7.out.trans (hb.mono HB7.out.size))
  have HN8 := Lib.hid (HN7.out.below hb HN7.out.lt)
  clear hb HF7 HB7 HN7
  go_wp2_with fail
  refine (E4.out w8 HF8.out).mono ?_
  rintro e w9 ⟨rfl, hF, hg⟩
  have HF9 := Lib.hid hF
  have HB9 := Lib.hid (below_of_grown HB8.out hg HB8.out.size (Nat.le_refl _))
  have HN9 := Lib.hid (HN8.out.kept hg (fun e => HGE.out (by injection e)))
  clear hF hg HF8 HB8 HN8 HRUN A1 A2 A3 E4 O3 M3
  have c0 : w9.cell? ⟨g, 0, none⟩ = some (.bool on) := HN9.out.cell rfl
  have c1 : w9.cell? ⟨g, 1, none⟩ = some (.int .i64 (root : Int)) := HN9.out.cell rfl
  have hlt := HN9.out.lt
  go_upto_region 10 with fail
  apply wp_region_auto [56, 57, 58, 59, 60, 61, 62, 63, 64, 65, 66, 67, 68, 69, 70, 71, 72, 73, 74, 75, 76, 77, 78, 79, 80, 81, 82, 83, 84, 85, 86] [_, _, _, _, _, _, _, _, _, _, _, _, _, _, _, _, _, _, _, _, _, _, _, _, _, _, _, _, _, _, _] (fun W' => Below w9.heap.size w9 W')
  case hm => kernel_rfl
  case hT => intro y; simp only [setAll, List.setIfInBounds_toArray, List.set_cons_succ, List.set_cons_zero]; exact rfl
  case hok => kernel_rfl
  case hn => decide
  case hw => exact (Below.refl _ _).drew
  case hs =>
    refine auto_op 56 [] (by kernel_rfl) (fun y w' HW hd K hK => ?_) ?_
    · go_simp
      refine hK _ _ ?_ ?_ HW
      · simp [upd]
      · exact rfl
    refine auto_op 57 [0] (by kernel_rfl) (fun y w' HW hd K hK => ?_) ?_
    · have e0 := hd_nth (hd 0 (by simp)) rfl
      go_simp
      refine hK _ _ ?_ ?_ HW
      · simp [upd, e0]
      · exact rfl
    refine auto_op 58 [1] (by kernel_rfl) (fun y w' HW hd K hK => ?_) ?_
    · have e1 := hd_nth (hd 1 (by simp)) rfl
      go_simp
      refine hK _ _ ?_ ?_ HW
      · simp [upd, e1]
      · exact rfl
    refine auto_op 59 [2] (by kernel_rfl) (fun y w' HW hd K hK => ?_) ?_
    · have e2 := hd_nth (hd 2 (by simp)) rfl
      go_simp
      refine hK _ _ ?_ ?_ HW
      · simp [upd, e2]
      · exact rfl
    refine auto_op 60 [2] (by kernel_rfl) (fun y w' HW hd K hK => ?_) ?_
    · have e2 := hd_nth (hd 2 (by simp)) rfl
      go_simp
      refine hK _ _ ?_ ?_ HW
      · simp [upd, e2]
      · exact rfl
    refine auto_op 61 [3, 4, 2] (by kernel_rfl) (fun y w' HW hd K hK => ?_) ?_
    · have e2 := hd_nth (hd 2 (by simp)) rfl
      have e3 := hd_nth (hd 3 (by simp)) rfl
      have e4 := hd_nth (hd 4 (by simp)) rfl
      go_simp
      refine hK _ _ ?_ ?_ HW
      · simp [upd, e2, e3, e4]
      · exact rfl
    refine auto_op 62 [2, 5] (by kernel_rfl) (fun y w' HW hd K hK => ?_) ?_
    · have e2 := hd_nth (hd 2 (by simp)) rfl
      have e5 := hd_nth (hd 5 (by simp)) rfl
      go_simp
      refine hK _ _ ?_ ?_ HW
      · simp [upd, e2, e5]
      · exact rfl
    refine auto_op 63 [6, 2] (by kernel_rfl) (fun y w' HW hd K hK => ?_) ?_
    · have e2 := hd_nth (hd 2 (by simp)) rfl
      have e6 := hd_nth (hd 6 (by simp)) rfl
      go_simp
      refine hK _ _ ?_ ?_ HW
      · simp [upd, e2, e6]
      · exact rfl
    refine auto_op 64 [7] (by kernel_rfl) (fun y w' HW hd K hK => ?_) ?_
    · have e7 := hd_nth (hd 7 (by simp)) rfl
      go_simp
      refine hK _ _ ?_ ?_ HW
      · simp [upd, e7]
      · exact rfl
    refine auto_op 65 [8, 7, 7] (by kernel_rfl) (fun y w' HW hd K hK => ?_) ?_
    · have e7 := hd_nth (hd 7 (by simp)) rfl
      have e8 := hd_nth (hd 8 (by simp)) rfl
      go_simp
      refine (O4.out _ (HF9.out.below HW HF9.out.1.lt)).mono ?_
      rintro e w3 ⟨rfl, hb3⟩
      refine hK _ _ ?_ ?_ (HW.trans (hb3.mono HW.size))
      · simp [upd, e7, e8]
      · exact rfl
    refine auto_op 66 [7, 9] (by kernel_rfl) (fun y w' HW hd K hK => ?_) ?_
    · have e7 := hd_nth (hd 7 (by simp)) rfl
      have e9 := hd_nth (hd 9 (by simp)) rfl
      go_simp
      refine hK _ _ ?_ ?_ HW
      · simp [upd, e7, e9]
      · exact rfl
    refine auto_op 67 [10, 9] (by kernel_rfl) (fun y w' HW hd K hK => ?_) ?_
    · have e9 := hd_nth (hd 9 (by simp)) rfl
      have e10 := hd_nth (hd 10 (by simp)) rfl
      go_simp
      refine hK _ _ ?_ ?_ HW
      · simp [upd, e9, e10]
      · exact rfl
    refine auto_op 68 [11] (by kernel_rfl) (fun y w' HW hd K hK => ?_) ?_
    · have e11 := hd_nth (hd 11 (by simp)) rfl
      go_simp
      refine hK _ _ ?_ ?_ HW
      · simp [upd, e11]
      · exact rfl
    refine auto_op 69 [12, 11, 11] (by kernel_rfl) (fun y w' HW hd K hK => ?_) ?_
    · have e11 := hd_nth (hd 11 (by simp)) rfl
      have e12 := hd_nth (hd 12 (by simp)) rfl
      go_simp
      refine (M4.out _ (HF9.out.below HW HF9.out.1.lt)).mono ?_
      rintro e w3 ⟨rfl, hb3⟩
      refine hK _ _ ?_ ?_ (HW.trans (hb3.mono HW.size))
      · simp [upd, e11, e12]
      · exact rfl
    refine auto_op 70 [13, 11] (by kernel_rfl) (fun y w' HW hd K hK => ?_) ?_
    · have e11 := hd_nth (hd 11 (by simp)) rfl
      have e13 := hd_nth (hd 13 (by simp)) rfl
      go_simp
      refine hK _ _ ?_ ?_ HW
      · simp [upd, e11, e13]
      · exact rfl
    refine auto_op 71 [11, 14] (by kernel_rfl) (fun y w' HW hd K hK => ?_) ?_
    · have e11 := hd_nth (hd 11 (by simp)) rfl
      have e14 := hd_nth (hd 14 (by simp)) rfl
      go_simp
      refine hK _ _ ?_ ?_ HW
      · simp [upd, e11, e14]
      · exact rfl
    refine auto_op 72 [15, 13] (by kernel_rfl) (fun y w' HW hd K hK => ?_) ?_
    · have e13 := hd_nth (hd 13 (by simp)) rfl
      have e15 := hd_nth (hd 15 (by simp)) rfl
      go_simp
      refine hK _ _ ?_ ?_ HW
      · simp [upd, e13, e15]
      · exact rfl
    refine auto_op 73 [16] (by kernel_rfl) (fun y w' HW hd K hK => ?_) ?_
    · have e16 := hd_nth (hd 16 (by simp)) rfl
      go_simp
      refine hK _ _ ?_ ?_ HW
      · simp [upd, e16]
      · exact rfl
    refine auto_op 74 [17, 16, 16] (by kernel_rfl) (fun y w' HW hd K hK => ?_) ?_
    · have e16 := hd_nth (hd 16 (by simp)) rfl
      have e17 := hd_nth (hd 17 (by simp)) rfl
      go_simp
      refine (M4.out _ (HF9.out.below HW HF9.out.1.lt)).mono ?_
      rintro e w3 ⟨rfl, hb3⟩
      refine hK _ _ ?_ ?_ (HW.trans (hb3.mono HW.size))
      · simp [upd, e16, e17]
      · exact rfl
    refine auto_op 75 [18, 16] (by kernel_rfl) (fun y w' HW hd K hK => ?_) ?_
    · have e16 := hd_nth (hd 16 (by simp)) rfl
      have e18 := hd_nth (hd 18 (by simp)) rfl
      go_simp
      refine hK _ _ ?_ ?_ HW
      · simp [upd, e16, e18]
      · exact rfl
    refine auto_op 76 [16] (by kernel_rfl) (fun y w' HW hd K hK => ?_) ?_
    · have e16 := hd_nth (hd 16 (by simp)) rfl
      go_simp
      refine hK _ _ ?_ ?_ HW
      · simp [upd, e16]
      · exact rfl
    refine auto_op 77 [20, 16] (by kernel_rfl) (fun y w' HW hd K hK => ?_) ?_
    · have e16 := hd_nth (hd 16 (by simp)) rfl
      have e20 := hd_nth (hd 20 (by simp)) rfl
      have hcl : ∀ p : Addr, p.block < w9.heap.size → w'.cell? p = w9.cell? p := fun p hp => HW.cell hp
      go_simp
      refine hK _ _ ?_ ?_ HW
      · simp [upd, e16, e20]
      · exact rfl
    refine auto_op 78 [19, 21, 16] (by kernel_rfl) (fun y w' HW hd K hK => ?_) ?_
    · have e16 := hd_nth (hd 16 (by simp)) rfl
      have e19 := hd_nth (hd 19 (by simp)) rfl
      have e21 := hd_nth (hd 21 (by simp)) rfl
      go_simp
      refine hK _ _ ?_ ?_ HW
      · simp [upd, e16, e19, e21]
      · exact rfl
    refine auto_op 79 [16, 22] (by kernel_rfl) (fun y w' HW hd K hK => ?_) ?_
    · have e16 := hd_nth (hd 16 (by simp)) rfl
      have e22 := hd_nth (hd 22 (by simp)) rfl
      go_simp
      refine hK _ _ ?_ ?_ HW
      · simp [upd, e16, e22]
      · exact rfl
    refine auto_op 80 [23, 18] (by kernel_rfl) (fun y w' HW hd K hK => ?_) ?_
    · have e18 := hd_nth (hd 18 (by simp)) rfl
      have e23 := hd_nth (hd 23 (by simp)) rfl
      go_simp
      refine hK _ _ ?_ ?_ HW
      · simp [upd, e18, e23]
      · exact rfl
    refine auto_op 81 [24] (by kernel_rfl) (fun y w' HW hd K hK => ?_) ?_
    · have e24 := hd_nth (hd 24 (by simp)) rfl
      go_simp
      refine hK _ _ ?_ ?_ HW
      · simp [upd, e24]
      · exact rfl
    refine auto_op 82 [25, 24, 24] (by kernel_rfl) (fun y w' HW hd K hK => ?_) ?_
    · have e24 := hd_nth (hd 24 (by simp)) rfl
      have e25 := hd_nth (hd 25 (by simp)) rfl
      go_simp
      refine (M4.out _ (HF9.out.below HW HF9.out.1.lt)).mono ?_
      rintro e w3 ⟨rfl, hb3⟩
      refine hK _ _ ?_ ?_ (HW.trans (hb3.mono HW.size))
      · simp [upd, e24, e25]
      · exact rfl
    refine auto_op 83 [26, 24] (by kernel_rfl) (fun y w' HW hd K hK => ?_) ?_
    · have e24 := hd_nth (hd 24 (by simp)) rfl
      have e26 := hd_nth (hd 26 (by simp)) rfl
      go_simp
      refine hK _ _ ?_ ?_ HW
      · simp [upd, e24, e26]
      · exact rfl
    refine auto_op 84 [24] (by kernel_rfl) (fun y w' HW hd K hK => ?_) ?_
    · have e24 := hd_nth (hd 24 (by simp)) rfl
      go_simp
      refine hK _ _ ?_ ?_ HW
      · simp [upd, e24]
      · exact rfl
    refine auto_op 85 [28, 24] (by kernel_rfl) (fun y w' HW hd K hK => ?_) ?_
    · have e24 := hd_nth (hd 24 (by simp)) rfl
      have e28 := hd_nth (hd 28 (by simp)) rfl
      have hcl : ∀ p : Addr, p.block < w9.heap.size → w'.cell? p = w9.cell? p := fun p hp => HW.cell hp
      go_simp
      refine hK _ _ ?_ ?_ HW
      · simp [upd, e24, e28]
      · exact rfl
    refine auto_op 86 [27, 29, 24] (by kernel_rfl) (fun y w' HW hd K hK => ?_) ?_
    · have e24 := hd_nth (hd 24 (by simp)) rfl
      have e27 := hd_nth (hd 27 (by simp)) rfl
      have e29 := hd_nth (hd 29 (by simp)) rfl
      go_simp
      refine hK _ _ ?_ ?_ HW
      · simp [upd, e24, e27, e29]
      · exact rfl
    refine auto_last fun y w' HW hd K hK => ?_
    have e0 := hd_nth (hd 0 (by omega)) rfl
    have e1 := hd_nth (hd 1 (by omega)) rfl
    have e2 := hd_nth (hd 2 (by omega)) rfl
    have e3 := hd_nth (hd 3 (by omega)) rfl
    have e4 := hd_nth (hd 4 (by omega)) rfl
    have e5 := hd_nth (hd 5 (by omega)) rfl
    have e6 := hd_nth (hd 6 (by omega)) rfl
    have e7 := hd_nth (hd 7 (by omega)) rfl
    have e8 := hd_nth (hd 8 (by omega)) rfl
    have e9 := hd_nth (hd 9 (by omega)) rfl
    have e10 := hd_nth (hd 10 (by omega)) rfl
    have e11 := hd_nth (hd 11 (by omega)) rfl
    have e12 := hd_nth (hd 12 (by omega)) rfl
    have e13 := hd_nth (hd 13 (by omega)) rfl
    have e14 := hd_nth (hd 14 (by omega)) rfl
    have e15 := hd_nth (hd 15 (by omega)) rfl
    have e16 := hd_nth (hd 16 (by omega)) rfl
    have e17 := hd_nth (hd 17 (by omega)) rfl
    have e18 := hd_nth (hd 18 (by omega)) rfl
    have e19 := hd_nth (hd 19 (by omega)) rfl
    have e20 := hd_nth (hd 20 (by omega)) rfl
    have e21 := hd_nth (hd 21 (by omega)) rfl
    have e22 := hd_nth (hd 22 (by omega)) rfl
    have e23 := hd_nth (hd 23 (by omega)) rfl
    have e24 := hd_nth (hd 24 (by omega)) rfl
    have e25 := hd_nth (hd 25 (by omega)) rfl
    have e26 := hd_nth (hd 26 (by omega)) rfl
    have e27 := hd_nth (hd 27 (by omega)) rfl
    have e28 := hd_nth (hd 28 (by omega)) rfl
    have e29 := hd_nth (hd 29 (by omega)) rfl
    have e30 := hd_nth (hd 30 (by omega)) rfl
    go_simp
    refine hK _ _ ?_
    clear hd hK K e0 e1 e2 e3 e4 e5 e6 e7 e8 e9 e10 e11 e12 e13 e14 e15 e16 e17 e18 e19 e20 e21 e22 e23 e24 e25 e26 e27 e28 e29 e30
    have HF10 := Lib.hid (HF9.out.below HW HF9.out.1.lt)
    have HB10 := Lib.hid (HB9.out.trans (HW.mono HB9.out.size))
    have HN10 := Lib.hid (HN9.out.below HW HN9.out.lt)
    clear HW c0 c1 hlt HF9 HB9 HN9 O4 M4
    go_wp2_with fail
    refine (D1.out w' HF10.out).mono ?_
    rintro e w11 ⟨rfl, hb⟩
    have HF11 := Lib.hid (HF10.out.below hb HF10.out.1.lt)
    have HB11 := Lib.hid (HB10.out.trans (hb.mono HB10.out.size))
    have HN11 := Lib.hid (HN10.out.below hb HN10.out.lt)
    clear hb HF10 HB10 HN10 D1
    go_wp2_with fail
    refine (D2.out w11 HF11.out).mono ?_
    rintro e w12 ⟨rfl, hb⟩
    have HF12 := Lib.hid (HF11.out.below hb HF11.out.1.lt)
    have HB12 := Lib.hid (HB11.out.trans (hb.mono HB11.out.size))
    have HN12 := Lib.hid (HN11.out.below hb HN11.out.lt)
    clear hb HF11 HB11 HN11 D2
    go_wp2_with fail
    refine (L5.out w12 HF12.out).mono ?_
    rintro e w13 ⟨rfl, hF, hg⟩
    have HF13 := Lib.hid hF
    have HB13 := Lib.hid (below_of_grown HB12.out hg HB12.out.size (Nat.le_refl _))
    have HN13 := Lib.hid (HN12.out.kept hg (fun e => HGE.out (by injection e)))
    clear hF hg HF12 HB12 HN12 L5
    have hgd : ∀ (x y : Operand) (W : World), (eqGuard .eql 46 x y (mV on root user) (mV on root user)).run Try.prog W = .ok () W := fun x y W => guard_mode _ x y _ _ _ _ _ _ W
    have hql : ∀ W : World, (binOp .eql 46 (mV on root user) (mV on root user)).run Try.prog W = .ok (.bool true) W := fun W => bin_eql_mode on root user W
    have HLD : Hid (∀ (W : World) (ρ : Operand → Value) (o : Oper), Below w13.heap.size w13 W → o.op = .load 46 (.tmp 15) → ρ (.tmp 15) = .pointer (some ⟨g, 0, none⟩) → (execOp ρ o).run Try.prog W = .ok (.value (mV on root user)) W) := Lib.hid fun W ρ o hW ho hx => exec_load_blk (HN13.out.below hW HN13.out.lt) 0 46 _ ho hx (modeL on root user) (fun j v h => by rw [Nat.zero_add]; exact h) _ Try.underlying46 rfl (by rw [size_mode]; rfl)
    generalize mV on root user = V at hgd hql M5 HLD
    go_upto_region 17 with fail
    apply wp_region_auto [119, 120, 121, 122, 123, 124, 125, 126, 127, 128, 129, 130, 131, 132, 133, 134, 135, 136, 137, 138, 139, 140] [_, _, _, _, _, _, _, _, _, _, _, _, _, _, _, _, _, _, _, _, _, _] (fun W' => Below w13.heap.size w13 W')
    case hm => kernel_rfl
    case hT => intro y; simp only [setAll, List.setIfInBounds_toArray, List.set_cons_succ, List.set_cons_zero]; exact rfl
    case hok => kernel_rfl
    case hn => decide
    case hw => exact (Below.refl _ _).drew
    case hs =>
      refine auto_op 119 [] (by kernel_rfl) (fun y w' HW hd K hK => ?_) ?_
      · go_simp
        refine hK _ _ ?_ ?_ HW
        · simp [upd]
        · exact rfl
      refine auto_op 120 [0] (by kernel_rfl) (fun y w' HW hd K hK => ?_) ?_
      · have e0 := hd_nth (hd 0 (by simp)) rfl
        go_simp
        refine hK _ _ ?_ ?_ HW
        · simp [upd, e0]
        · exact rfl
      refine auto_op 121 [1] (by kernel_rfl) (fun y w' HW hd K hK => ?_) ?_
      · have e1 := hd_nth (hd 1 (by simp)) rfl
        go_simp
        refine hK _ _ ?_ ?_ HW
        · simp [upd, e1]
        · exact rfl
      refine auto_op 122 [2] (by kernel_rfl) (fun y w' HW hd K hK => ?_) ?_
      · have e2 := hd_nth (hd 2 (by simp)) rfl
        go_simp
        refine hK _ _ ?_ ?_ HW
        · simp [upd, e2]
        · exact rfl
      refine auto_op 123 [2] (by kernel_rfl) (fun y w' HW hd K hK => ?_) ?_
      · have e2 := hd_nth (hd 2 (by simp)) rfl
        go_simp
        refine hK _ _ ?_ ?_ HW
        · simp [upd, e2]
        · exact rfl
      refine auto_op 124 [3, 4, 2] (by kernel_rfl) (fun y w' HW hd K hK => ?_) ?_
      · have e2 := hd_nth (hd 2 (by simp)) rfl
        have e3 := hd_nth (hd 3 (by simp)) rfl
        have e4 := hd_nth (hd 4 (by simp)) rfl
        go_simp
        refine hK _ _ ?_ ?_ HW
        · simp [upd, e2, e3, e4]
        · exact rfl
      refine auto_op 125 [2, 5] (by kernel_rfl) (fun y w' HW hd K hK => ?_) ?_
      · have e2 := hd_nth (hd 2 (by simp)) rfl
        have e5 := hd_nth (hd 5 (by simp)) rfl
        go_simp
        refine hK _ _ ?_ ?_ HW
        · simp [upd, e2, e5]
        · exact rfl
      refine auto_op 126 [6, 2] (by kernel_rfl) (fun y w' HW hd K hK => ?_) ?_
      · have e2 := hd_nth (hd 2 (by simp)) rfl
        have e6 := hd_nth (hd 6 (by simp)) rfl
        go_simp
        refine hK _ _ ?_ ?_ HW
        · simp [upd, e2, e6]
        · exact rfl
      refine auto_op 127 [7] (by kernel_rfl) (fun y w' HW hd K hK => ?_) ?_
      · have e7 := hd_nth (hd 7 (by simp)) rfl
        go_simp
        refine hK _ _ ?_ ?_ HW
        · simp [upd, e7]
        · exact rfl
      refine auto_op 128 [8, 7, 7] (by kernel_rfl) (fun y w' HW hd K hK => ?_) ?_
      · have e7 := hd_nth (hd 7 (by simp)) rfl
        have e8 := hd_nth (hd 8 (by simp)) rfl
        go_simp
        refine (M5.out _ (HF13.out.below HW HF13.out.1.lt)).mono ?_
        rintro e w3 ⟨rfl, hb3⟩
        refine hK _ _ ?_ ?_ (HW.trans (hb3.mono HW.size))
        · simp [upd, e7, e8]
        · exact rfl
      refine auto_op 129 [7] (by kernel_rfl) (fun y w' HW hd K hK => ?_) ?_
      · have e7 := hd_nth (hd 7 (by simp)) rfl
        have hcl : ∀ p : Addr, p.block < w13.heap.size → w'.cell? p = w13.cell? p := fun p hp => HW.cell hp
        refine step_val (a := ⟨_, _⟩) ?_ V ?_ ?_
        · go_simp
        · exact HLD.out _ _ _ HW rfl rfl
        refine hK _ _ ?_ ?_ HW
        · simp [upd, e7]
        · exact rfl
      refine auto_op 130 [9, 10, 7] (by kernel_rfl) (fun y w' HW hd K hK => ?_) ?_
      · have e7 := hd_nth (hd 7 (by simp)) rfl
        have e9 := hd_nth (hd 9 (by simp)) rfl
        have e10 := hd_nth (hd 10 (by simp)) rfl
        go_simp
        refine hK _ _ ?_ ?_ HW
        · simp [upd, e7, e9, e10]
        · exact rfl
      refine auto_op 131 [7, 11] (by kernel_rfl) (fun y w' HW hd K hK => ?_) ?_
      · have e7 := hd_nth (hd 7 (by simp)) rfl
        have e11 := hd_nth (hd 11 (by simp)) rfl
        go_simp
        refine hK _ _ ?_ ?_ HW
        · simp [upd, e7, e11]
        · exact rfl
      refine auto_op 132 [12, 9] (by kernel_rfl) (fun y w' HW hd K hK => ?_) ?_
      · have e9 := hd_nth (hd 9 (by simp)) rfl
        have e12 := hd_nth (hd 12 (by simp)) rfl
        go_simp
        refine hK _ _ ?_ ?_ HW
        · simp [upd, e9, e12]
        · exact rfl
      refine auto_op 133 [13] (by kernel_rfl) (fun y w' HW hd K hK => ?_) ?_
      · have e13 := hd_nth (hd 13 (by simp)) rfl
        go_simp
        refine hK _ _ ?_ ?_ HW
        · simp [upd, e13]
        · exact rfl
      refine auto_op 134 [14, 13, 13] (by kernel_rfl) (fun y w' HW hd K hK => ?_) ?_
      · have e13 := hd_nth (hd 13 (by simp)) rfl
        have e14 := hd_nth (hd 14 (by simp)) rfl
        go_simp
        refine (O5.out _ (HF13.out.below HW HF13.out.1.lt)).mono ?_
        rintro e w3 ⟨rfl, hb3⟩
        refine hK _ _ ?_ ?_ (HW.trans (hb3.mono HW.size))
        · simp [upd, e13, e14]
        · exact rfl
      refine auto_op 135 [13] (by kernel_rfl) (fun y w' HW hd K hK => ?_) ?_
      · have e13 := hd_nth (hd 13 (by simp)) rfl
        go_simp
        refine hK _ _ ?_ ?_ HW
        · simp [upd, e13]
        · exact rfl
      refine auto_op 136 [15, 16, 13] (by kernel_rfl) (fun y w' HW hd K hK => ?_) ?_
      · have e13 := hd_nth (hd 13 (by simp)) rfl
        have e15 := hd_nth (hd 15 (by simp)) rfl
        have e16 := hd_nth (hd 16 (by simp)) rfl
        go_simp
        refine hK _ _ ?_ ?_ HW
        · simp [upd, e13, e15, e16]
        · exact rfl
      refine auto_op 137 [13, 17] (by kernel_rfl) (fun y w' HW hd K hK => ?_) ?_
      · have e13 := hd_nth (hd 13 (by simp)) rfl
        have e17 := hd_nth (hd 17 (by simp)) rfl
        go_simp
        refine hK _ _ ?_ ?_ HW
        · simp [upd, e13, e17]
        · exact rfl
      refine auto_op 138 [18, 15] (by kernel_rfl) (fun y w' HW hd K hK => ?_) ?_
      · have e15 := hd_nth (hd 15 (by simp)) rfl
        have e18 := hd_nth (hd 18 (by simp)) rfl
        go_simp
        refine hK _ _ ?_ ?_ HW
        · simp [upd, e15, e18]
        · exact rfl
      refine auto_op 139 [19, 19] (by kernel_rfl) (fun y w' HW hd K hK => ?_) ?_
      · have e19 := hd_nth (hd 19 (by simp)) rfl
        go_simp
        refine (awake_any _).mono ?_
        rintro e w3 ⟨rfl, hb3⟩
        refine hK _ _ ?_ ?_ (HW.trans (hb3.mono HW.size))
        · simp [upd, e19]
        · exact rfl
      refine auto_op 140 [19, 20] (by kernel_rfl) (fun y w' HW hd K hK => ?_) ?_
      · have e19 := hd_nth (hd 19 (by simp)) rfl
        have e20 := hd_nth (hd 20 (by simp)) rfl
        go_simp
        refine hK _ _ ?_ ?_ HW
        · simp [upd, e19, e20]
        · exact rfl
      refine auto_last fun y w' HW hd K hK => ?_
      have e0 := hd_nth (hd 0 (by omega)) rfl
      have e1 := hd_nth (hd 1 (by omega)) rfl
      have e2 := hd_nth (hd 2 (by omega)) rfl
      have e3 := hd_nth (hd 3 (by omega)) rfl
      have e4 := hd_nth (hd 4 (by omega)) rfl
      have e5 := hd_nth (hd 5 (by omega)) rfl
      have e6 := hd_nth (hd 6 (by omega)) rfl
      have e7 := hd_nth (hd 7 (by omega)) rfl
      have e8 := hd_nth (hd 8 (by omega)) rfl
      have e9 := hd_nth (hd 9 (by omega)) rfl
      have e10 := hd_nth (hd 10 (by omega)) rfl
      have e11 := hd_nth (hd 11 (by omega)) rfl
      have e12 := hd_nth (hd 12 (by omega)) rfl
      have e13 := hd_nth (hd 13 (by omega)) rfl
      have e14 := hd_nth (hd 14 (by omega)) rfl
      have e15 := hd_nth (hd 15 (by omega)) rfl
      have e16 := hd_nth (hd 16 (by omega)) rfl
      have e17 := hd_nth (hd 17 (by omega)) rfl
      have e18 := hd_nth (hd 18 (by omega)) rfl
      have e19 := hd_nth (hd 19 (by omega)) rfl
      have e20 := hd_nth (hd 20 (by omega)) rfl
      have e21 := hd_nth (hd 21 (by omega)) rfl
      go_simp
      refine hK _ _ ?_
      clear hd hK K e0 e1 e2 e3 e4 e5 e6 e7 e8 e9 e10 e11 e12 e13 e14 e15 e16 e17 e18 e19 e20 e21
      have HB14 := Lib.hid (HB13.out.trans (HW.mono HB13.out.size))
      clear HW hgd hql
      go_wp2
      go_ret
      exact ⟨rfl, HB14.out⟩
end Go.Proofs.Ytaokaaakofgdoaa.Cs
