/- The walk of hermitagelaw12.CsrUser. -/
import Derived.Test.YtaokaaakofgdoaaUk
namespace Go.Proofs.Ytaokaaakofgdoaa.Cs
open Go.RowKit Ut
set_option maxRecDepth 100000
set_option linter.unusedVariables false
set_option maxHeartbeats 4000000

/-- a status without the kernel's bit -/
theorem no_kernel (v : Nat) : hasB (v &&& 4294967291 &&& 15) 4 = false := by
  have h : v &&& 4294967291 &&& 15 &&& 4 = 0 := by
    rw [Nat.and_assoc, Nat.and_assoc]
    show v &&& 0 = 0
    exact Nat.and_zero v
  unfold hasB
  rw [h]
  rfl
theorem errZ_user {R : List Nat} (h : hasB (st R) 4 = false) (n c : Int) : errZ R n c = 4 := by
  unfold errZ
  rw [h]
  simp

theorem user_any (a : Nat) (n : Int) (v : Nat) (clock : Int) (w : World) (ha : a < 256) (hv : v < 4294967296) :
    Calls Try.prog 5 #[.int .u8 (a : Int), .int .i64 n, .int .u32 (v : Int), .int .i64 clock] w fun e w' => e = .returned (.bool true) ∧ Below w.heap.size w w' := by
  obtain ⟨i, hi⟩ : ∃ i, a % 4 = i := ⟨_, rfl⟩
  have hi4 : i < 4 := by omega
  obtain ⟨R1, h1⟩ : ∃ Q, wrR ini 6 7 = Q := ⟨_, rfl⟩
  have e1 : errZ ini 6 7 = 0 := by decide
  have s1 : R1 = [0, 0, 0, 0, 0, 4, 7] := by rw [← h1]; decide
  obtain ⟨u, hu⟩ : ∃ u, v &&& 4294967291 = u := ⟨_, rfl⟩
  have hul : u < 4294967296 := by rw [← hu]; exact Nat.lt_of_le_of_lt Nat.and_le_left hv
  obtain ⟨R2, h2⟩ : ∃ Q, wrR R1 5 u = Q := ⟨_, rfl⟩
  have e2 : errZ R1 5 7 = 0 := by rw [s1]; decide
  have s2 : hasB (st R2) 4 = false := by
    rw [← h2]
    unfold wrR
    rw [if_pos e2, s1]
    show hasB (u &&& 15) 4 = false
    rw [← hu]
    exact no_kernel v
  have q2 : bits .andNot .u32 (v : Int) 4 = (u : Int) := by
    rw [← hu]
    exact u32_andNot_nat v 4 hv (by decide)
  have A1 := write_at w.heap.size i 6 7 ini 0 R1 e1 h1 (by decide)
  have A2 := write_at w.heap.size i 5 u R1 0 R2 e2 h2 hul
  have A3 := read_at w.heap.size i n clock R2 0 4 (by unfold rdZ; rw [errZ_user s2]; rfl) (errZ_user s2 n 9)
  have A4 := write_at w.heap.size i n v R2 4 R2 (errZ_user s2 n 7) (by unfold wrR; rw [errZ_user s2]; rfl) hv
  have A5 := all_at w.heap.size i R2 (arrV R2) rfl
  have A6 := mode_at w.heap.size i R2 (.agg #[.bool (hasB (R2.getD 0 0) 1), .int .i64 ((rootN (R2.getD 0 0) : Nat) : Int), .bool true]) (by unfold modeV mV modeL; rw [s2]; rfl)
  have HRUN : Hid (∀ (W : World) (ρ : Operand → Value) (o : Oper), o.op = .alloc 48 → (execOp ρ o).run Try.prog W = .ok (.value (.pointer (some ⟨W.heap.size, 0, none⟩))) (W.alloc (.cells (wordsV zer).toArray 48))) := fun W ρ o ho => run_new_words W ρ o ho
  have HL : Hid (R2.length = 7) := Lib.hid (by
    rw [← h2]
    unfold wrR
    rw [if_pos e2, s1]
    rfl)
  generalize hasB (R2.getD 0 0) 1 = on at A6
  generalize rootN (R2.getD 0 0) = root at A6
  have HI : Hid ((a : Int) % 4 = (i : Int)) := Lib.hid (by omega)
  clear h1 e1 s1 hu h2 e2 s2 hul hi
  go_enter Try.func5, Try.ntmps5
  go_wp2_with fail
  rw [HI.out]
  refine (new_yes i w hi4).mono ?_
  rintro e w1 ⟨rfl, hF, hb⟩
  have HF1 := Lib.hid hF
  have HB1 := Lib.hid hb
  clear hF hb
  go_wp2_with fail
  refine (A1.out w1 HF1.out).mono ?_
  rintro e w2 ⟨rfl, hF, hg⟩
  have HF2 := Lib.hid hF
  have HB2 := Lib.hid (below_of_grown HB1.out hg HB1.out.size (Nat.le_refl _))
  clear hF hg HF1 HB1
  go_wp2_with fail
  refine (A2.out w2 HF2.out).mono ?_
  rintro e w3 ⟨rfl, hF, hg⟩
  have HF3 := Lib.hid hF
  have HB3 := Lib.hid (below_of_grown HB2.out hg HB2.out.size (Nat.le_refl _))
  clear hF hg HF2 HB2 q2
  go_wp2_with fail
  refine (A5.out w3 HF3.out).mono ?_
  rintro e w4 ⟨rfl, hb⟩
  have HF4 := Lib.hid (HF3.out.below hb HF3.out.1.lt)
  have HB4 := Lib.hid (HB3.out.trans (hb.mono HB3.out.size))
  clear hb HF3 HB3
  go_simp
  rename_i hK
  refine hK _ _ ?_
  clear hK
  refine Great.wpList_allocTo rfl (some 11) rfl (.pointer (some ⟨w4.heap.size, 0, none⟩)) (.cells (wordsV zer).toArray 48) (HRUN.out w4 _ _ rfl) ?_
  have hB4 := (Below.refl w4.heap.size w4).alloc (Nat.le_refl _) (.cells (wordsV zer).toArray 48)
  have HN : Hid (Blk (w4.alloc (.cells (wordsV zer).toArray 48)) w4.heap.size 48 (wordsV zer)) := Blk.new w4 _ _
  refine wpList_store_rowTo rfl 48 _ _ rfl rfl w4.heap.size (wordsV R2).toArray (by kernel_rfl) (by kernel_rfl) 48 (wordsV zer).toArray HN.out (by rw [size_words R2 HL.out]; simp) (by simp [wordsV, HL.out, zer]) (by simpa using one_words R2) ?_
  have hB5 := below_setRow hB4 (Nat.le_refl _) (wordsV R2).toArray
  have hN5 := HN.out.row (wordsV R2)
  have HF5 := Lib.hid (HF4.out.below hB5 HF4.out.1.lt)
  have HB5 := Lib.hid (HB4.out.trans (hB5.mono HB4.out.size))
  have HN5 := Lib.hid hN5
  have HGE := Lib.hid (Nat.ne_of_gt HF4.out.1.lt)
  clear hB5 hB4 HN hN5 HF4 HB4
  generalize (w4.alloc (.cells (wordsV zer).toArray 48)).setRow w4.heap.size (wordsV R2).toArray = w5 at HF5 HB5 HN5 ⊢
  generalize w4.heap.size = g at HN5 HGE ⊢
  go_wp2_with fail
  refine (A3.out w5 HF5.out).mono ?_
  rintro e w6 ⟨rfl, hb⟩
  have HF6 := Lib.hid (HF5.out.below hb HF5.out.1.lt)
  have HB6 := Lib.hid (HB5.out.trans (hb.mono HB5.out.size))
  have HN6 := Lib.hid (HN5.out.below hb HN5.out.lt)
  clear hb HF5 HB5 HN5
  go_wp2_with fail
  refine (A4.out w6 HF6.out).mono ?_
  rintro e w7 ⟨rfl, hF, hg⟩
  have HF7 := Lib.hid hF
  have HB7 := Lib.hid (below_of_grown HB6.out hg HB6.out.size (Nat.le_refl _))
  have HN7 := Lib.hid (HN6.out.kept hg (fun e => HGE.out (by injection e)))
  clear hF hg HF6 HB6 HN6 A1 A2 A3 A4 HRUN HI
  have hgd : ∀ (x y : Operand) (W : World), (eqGuard .eql 48 x y (arrV R2) (arrV R2)).run Try.prog W = .ok () W := fun x y W => guard_words _ x y _ _ W
  have hql : ∀ W : World, (binOp .eql 48 (arrV R2) (arrV R2)).run Try.prog W = .ok (.bool true) W := fun W => bin_eql R2 HL.out W
  have HLD : Hid (∀ (W : World) (ρ : Operand → Value) (o : Oper), Below w7.heap.size w7 W → o.op = .load 48 (.tmp 11) → ρ (.tmp 11) = .pointer (some ⟨g, 0, none⟩) → (execOp ρ o).run Try.prog W = .ok (.value (arrV R2)) W) := Lib.hid fun W ρ o hW ho hx => exec_load_blk (HN7.out.below hW HN7.out.lt) 0 48 _ ho hx (wordsV R2) (fun j v h => by rw [Nat.zero_add]; exact h) _ Try.underlying48 rfl (size_words R2 HL.out)
  generalize arrV R2 = A at hgd hql A5 HLD
  go_upto_region 7 with fail
  apply wp_region_auto [53, 54, 55, 56, 57, 58, 59, 60, 61, 62, 63, 64, 65, 66, 67, 68, 69, 70, 71, 72, 73, 74, 75, 76] [_, _, _, _, _, _, _, _, _, _, _, _, _, _, _, _, _, _, _, _, _, _, _, _] (fun W' => Below w7.heap.size w7 W')
  case hm => kernel_rfl
  case hT => intro y; simp only [setAll, List.setIfInBounds_toArray, List.set_cons_succ, List.set_cons_zero]; exact rfl
  case hok => kernel_rfl
  case hn => decide
  case hw => exact (Below.refl _ _).drew
  case hs =>
    refine auto_op 53 [] (by kernel_rfl) (fun y w' HW hd K hK => ?_) ?_
    · go_simp
      refine hK _ _ ?_ ?_ HW
      · simp [upd]
      · exact rfl
    refine auto_op 54 [0] (by kernel_rfl) (fun y w' HW hd K hK => ?_) ?_
    · have e0 := hd_nth (hd 0 (by simp)) rfl
      go_simp
      refine hK _ _ ?_ ?_ HW
      · simp [upd, e0]
      · exact rfl
    refine auto_op 55 [1] (by kernel_rfl) (fun y w' HW hd K hK => ?_) ?_
    · have e1 := hd_nth (hd 1 (by simp)) rfl
      go_simp
      refine hK _ _ ?_ ?_ HW
      · simp [upd, e1]
      · exact rfl
    refine auto_op 56 [2] (by kernel_rfl) (fun y w' HW hd K hK => ?_) ?_
    · have e2 := hd_nth (hd 2 (by simp)) rfl
      go_simp
      refine hK _ _ ?_ ?_ HW
      · simp [upd, e2]
      · exact rfl
    refine auto_op 57 [3, 2] (by kernel_rfl) (fun y w' HW hd K hK => ?_) ?_
    · have e2 := hd_nth (hd 2 (by simp)) rfl
      have e3 := hd_nth (hd 3 (by simp)) rfl
      go_simp
      refine hK _ _ ?_ ?_ HW
      · simp [upd, e2, e3]
      · exact rfl
    refine auto_op 58 [2, 4] (by kernel_rfl) (fun y w' HW hd K hK => ?_) ?_
    · have e2 := hd_nth (hd 2 (by simp)) rfl
      have e4 := hd_nth (hd 4 (by simp)) rfl
      go_simp
      refine hK _ _ ?_ ?_ HW
      · simp [upd, e2, e4]
      · exact rfl
    refine auto_op 59 [5, 2] (by kernel_rfl) (fun y w' HW hd K hK => ?_) ?_
    · have e2 := hd_nth (hd 2 (by simp)) rfl
      have e5 := hd_nth (hd 5 (by simp)) rfl
      go_simp
      refine hK _ _ ?_ ?_ HW
      · simp [upd, e2, e5]
      · exact rfl
    refine auto_op 60 [6] (by kernel_rfl) (fun y w' HW hd K hK => ?_) ?_
    · have e6 := hd_nth (hd 6 (by simp)) rfl
      go_simp
      refine hK _ _ ?_ ?_ HW
      · simp [upd, e6]
      · exact rfl
    refine auto_op 61 [7, 6] (by kernel_rfl) (fun y w' HW hd K hK => ?_) ?_
    · have e6 := hd_nth (hd 6 (by simp)) rfl
      have e7 := hd_nth (hd 7 (by simp)) rfl
      go_simp
      refine hK _ _ ?_ ?_ HW
      · simp [upd, e6, e7]
      · exact rfl
    refine auto_op 62 [6, 8] (by kernel_rfl) (fun y w' HW hd K hK => ?_) ?_
    · have e6 := hd_nth (hd 6 (by simp)) rfl
      have e8 := hd_nth (hd 8 (by simp)) rfl
      go_simp
      refine hK _ _ ?_ ?_ HW
      · simp [upd, e6, e8]
      · exact rfl
    refine auto_op 63 [9, 6] (by kernel_rfl) (fun y w' HW hd K hK => ?_) ?_
    · have e6 := hd_nth (hd 6 (by simp)) rfl
      have e9 := hd_nth (hd 9 (by simp)) rfl
      go_simp
      refine hK _ _ ?_ ?_ HW
      · simp [upd, e6, e9]
      · exact rfl
    refine auto_op 64 [10] (by kernel_rfl) (fun y w' HW hd K hK => ?_) ?_
    · have e10 := hd_nth (hd 10 (by simp)) rfl
      go_simp
      refine hK _ _ ?_ ?_ HW
      · simp [upd, e10]
      · exact rfl
    refine auto_op 65 [11, 10, 10] (by kernel_rfl) (fun y w' HW hd K hK => ?_) ?_
    · have e10 := hd_nth (hd 10 (by simp)) rfl
      have e11 := hd_nth (hd 11 (by simp)) rfl
      go_simp
      refine (A5.out _ (HF7.out.below HW HF7.out.1.lt)).mono ?_
      rintro e w3 ⟨rfl, hb3⟩
      refine hK _ _ ?_ ?_ (HW.trans (hb3.mono HW.size))
      · simp [upd, e10, e11]
      · exact rfl
    refine auto_op 66 [10] (by kernel_rfl) (fun y w' HW hd K hK => ?_) ?_
    · have e10 := hd_nth (hd 10 (by simp)) rfl
      have hcl : ∀ p : Addr, p.block < w7.heap.size → w'.cell? p = w7.cell? p := fun p hp => HW.cell hp
      refine step_val (a := ⟨_, _⟩) ?_ A ?_ ?_
      · go_simp
      · exact HLD.out _ _ _ HW rfl rfl
      refine hK _ _ ?_ ?_ HW
      · simp [upd, e10]
      · exact rfl
    refine auto_op 67 [12, 13, 10] (by kernel_rfl) (fun y w' HW hd K hK => ?_) ?_
    · have e10 := hd_nth (hd 10 (by simp)) rfl
      have e12 := hd_nth (hd 12 (by simp)) rfl
      have e13 := hd_nth (hd 13 (by simp)) rfl
      go_simp
      refine hK _ _ ?_ ?_ HW
      · simp [upd, e10, e12, e13]
      · exact rfl
    refine auto_op 68 [10, 14] (by kernel_rfl) (fun y w' HW hd K hK => ?_) ?_
    · have e10 := hd_nth (hd 10 (by simp)) rfl
      have e14 := hd_nth (hd 14 (by simp)) rfl
      go_simp
      refine hK _ _ ?_ ?_ HW
      · simp [upd, e10, e14]
      · exact rfl
    refine auto_op 69 [15, 12] (by kernel_rfl) (fun y w' HW hd K hK => ?_) ?_
    · have e12 := hd_nth (hd 12 (by simp)) rfl
      have e15 := hd_nth (hd 15 (by simp)) rfl
      go_simp
      refine hK _ _ ?_ ?_ HW
      · simp [upd, e12, e15]
      · exact rfl
    refine auto_op 70 [16] (by kernel_rfl) (fun y w' HW hd K hK => ?_) ?_
    · have e16 := hd_nth (hd 16 (by simp)) rfl
      go_simp
      refine hK _ _ ?_ ?_ HW
      · simp [upd, e16]
      · exact rfl
    refine auto_op 71 [17, 16, 16] (by kernel_rfl) (fun y w' HW hd K hK => ?_) ?_
    · have e16 := hd_nth (hd 16 (by simp)) rfl
      have e17 := hd_nth (hd 17 (by simp)) rfl
      go_simp
      refine (A6.out _ (HF7.out.below HW HF7.out.1.lt)).mono ?_
      rintro e w3 ⟨rfl, hb3⟩
      refine hK _ _ ?_ ?_ (HW.trans (hb3.mono HW.size))
      · simp [upd, e16, e17]
      · exact rfl
    refine auto_op 72 [18, 16] (by kernel_rfl) (fun y w' HW hd K hK => ?_) ?_
    · have e16 := hd_nth (hd 16 (by simp)) rfl
      have e18 := hd_nth (hd 18 (by simp)) rfl
      go_simp
      refine hK _ _ ?_ ?_ HW
      · simp [upd, e16, e18]
      · exact rfl
    refine auto_op 73 [16, 19] (by kernel_rfl) (fun y w' HW hd K hK => ?_) ?_
    · have e16 := hd_nth (hd 16 (by simp)) rfl
      have e19 := hd_nth (hd 19 (by simp)) rfl
      go_simp
      refine hK _ _ ?_ ?_ HW
      · simp [upd, e16, e19]
      · exact rfl
    refine auto_op 74 [20, 18] (by kernel_rfl) (fun y w' HW hd K hK => ?_) ?_
    · have e18 := hd_nth (hd 18 (by simp)) rfl
      have e20 := hd_nth (hd 20 (by simp)) rfl
      go_simp
      refine hK _ _ ?_ ?_ HW
      · simp [upd, e18, e20]
      · exact rfl
    refine auto_op 75 [21, 21] (by kernel_rfl) (fun y w' HW hd K hK => ?_) ?_
    · have e21 := hd_nth (hd 21 (by simp)) rfl
      go_simp
      refine (awake_any _).mono ?_
      rintro e w3 ⟨rfl, hb3⟩
      refine hK _ _ ?_ ?_ (HW.trans (hb3.mono HW.size))
      · simp [upd, e21]
      · exact rfl
    refine auto_op 76 [21, 22] (by kernel_rfl) (fun y w' HW hd K hK => ?_) ?_
    · have e21 := hd_nth (hd 21 (by simp)) rfl
      have e22 := hd_nth (hd 22 (by simp)) rfl
      go_simp
      refine hK _ _ ?_ ?_ HW
      · simp [upd, e21, e22]
      · exact rfl
    refine auto_last fun y w' HW hd K hK => ?_
    have e0 := hd_nth (hd 0 (by omega)) rfl
    have e1 := hd_nth (hd 1 (by omega)) rfl
    have e2 := hd_nth (hd 2 (by omega)) rfl
    have e3 := hd_nth (hd 3 (by omega)) rfl
    have e4 := hd_nth (hd 4 (by omega)) rfl
    have e5 := hd_nth (hd 5 (by omega)) rfl
    have e6 := hd_nth (hd 6 (by omega)) rfl
    have e7 := hd_nth (hd 7 (by omega)) rfl
    have e8 := hd_nth (hd 8 (by omega)) rfl
    have e9 := hd_nth (hd 9 (by omega)) rfl
    have e10 := hd_nth (hd 10 (by omega)) rfl
    have e11 := hd_nth (hd 11 (by omega)) rfl
    have e12 := hd_nth (hd 12 (by omega)) rfl
    have e13 := hd_nth (hd 13 (by omega)) rfl
    have e14 := hd_nth (hd 14 (by omega)) rfl
    have e15 := hd_nth (hd 15 (by omega)) rfl
    have e16 := hd_nth (hd 16 (by omega)) rfl
    have e17 := hd_nth (hd 17 (by omega)) rfl
    have e18 := hd_nth (hd 18 (by omega)) rfl
    have e19 := hd_nth (hd 19 (by omega)) rfl
    have e20 := hd_nth (hd 20 (by omega)) rfl
    have e21 := hd_nth (hd 21 (by omega)) rfl
    have e22 := hd_nth (hd 22 (by omega)) rfl
    have e23 := hd_nth (hd 23 (by omega)) rfl
    go_simp
    refine hK _ _ ?_
    clear hd hK K e0 e1 e2 e3 e4 e5 e6 e7 e8 e9 e10 e11 e12 e13 e14 e15 e16 e17 e18 e19 e20 e21 e22 e23
    have HB8 := Lib.hid (HB7.out.trans (HW.mono HB7.out.size))
    clear HW hgd hql
    go_wp2
    go_ret
    exact ⟨rfl, HB8.out⟩
end Go.Proofs.Ytaokaaakofgdoaa.Cs
