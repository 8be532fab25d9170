/- The document's registers of the kernel's mode (hermitageref12): Mode; comparing modes and arrays of registers. -/
import Derived.Test.YtaokaaakofgdoaaUg
namespace Go.Proofs.Ytaokaaakofgdoaa.Cs
open Go.RowKit Ut
set_option maxRecDepth 100000
set_option linter.unusedVariables false

theorem refMode_any (b i : Nat) (R : List Nat) (w : World) (h : RAt w b i R) :
    Calls Try.prog 22 #[.pointer (some ⟨b, 0, none⟩)] w fun e w' => e = .returned (modeV R) ∧ Below w.heap.size w w' := by
  have HRUN : Hid (∀ (ρ : Operand → Value) (o : Oper), o.op = .alloc 46 → (execOp ρ o).run Try.prog w = .ok (.value (.pointer (some ⟨w.heap.size, 0, none⟩))) (w.alloc (.cells (modeL false 0 false).toArray 46))) := fun ρ o ho => run_new_mode w ρ o ho
  have HB := Lib.hid ((Below.refl w.heap.size w).alloc (Nat.le_refl _) (.cells (modeL false 0 false).toArray 46))
  have HN : Hid (Blk (w.alloc (.cells (modeL false 0 false).toArray 46)) w.heap.size 46 (modeL false 0 false)) := Blk.new w _ _
  have HF := Lib.hid (h.below HB.out h.1.lt)
  obtain ⟨q, hq⟩ : ∃ q, hasB (st R) 4 = q := ⟨_, rfl⟩
  have A1 := refHas_at b i 4 R q hq (by decide)
  have c0 := HF.out.reg 0 (by decide)
  have hlt := HF.out.1.lt
  have hwd := h.2.1.reg 0
  have HA : Hid (modeV R = mV (hasB (R.getD 0 0) 1) (rootN (R.getD 0 0)) (!q)) := by rw [← hq]; exact Lib.hid rfl
  generalize modeV R = mR at HA ⊢
  clear h hq
  generalize R.getD 0 0 = a at c0 HA hwd
  have K1 : Hid (((a : Int).tmod 2 == 1) = hasB a 1) := Lib.hid (by
    rw [← on_is, show ((a : Int).tmod 2) = ((a % 2 : Nat) : Int) from by rw [Int.tmod_eq_emod_of_nonneg (by omega)]; omega, show (1 : Int) = ((1 : Nat) : Int) from rfl, beq_cast])
  have K2 : Hid (IntKind.i64.wrap (((a : Int) / 256).tmod 32) = (rootN a : Int)) := Lib.hid (by
    unfold rootN
    rw [Int.tmod_eq_emod_of_nonneg (by omega)]
    simp [IntKind.wrap, IntKind.bits, IntKind.signed]
    omega)
  generalize hasB a 1 = on at K1 HA
  generalize rootN a = root at K2 HA
  go_enter Try.func22, Try.ntmps22
  generalize hQQ : bodyPost _ _ _ = QQ
  have HQQ := Lib.hid hQQ
  clear hQQ
  go_upto_region 0 with fail
  refine wp_region_lit ?_
  refine Great.wpList_allocTo rfl (some 2) rfl (.pointer (some ⟨w.heap.size, 0, none⟩)) (.cells (modeL false 0 false).toArray 46) (HRUN.out _ _ rfl) ?_
  generalize hW : w.alloc (.cells (modeL false 0 false).toArray 46) = W at HB HN HF c0 hlt ⊢
  clear HRUN hW
  go_upto_region 1 with fail
  simp only [Act.put, List.setIfInBounds_toArray, List.set_cons_succ, List.set_cons_zero]
  apply wp_region_auto [3, 4, 5, 6, 7, 8, 9, 10, 11, 12, 13, 14, 15, 16, 17, 18, 19, 20, 21] [_, _, _, _, _, _, _, _, _, _, _, _, _, _, _, _, _, _, _] (fun W' => Below W.heap.size W W')
  case hm => kernel_rfl
  case hT => intro y; simp only [setAll, List.setIfInBounds_toArray, List.set_cons_succ, List.set_cons_zero]; exact rfl
  case hok => kernel_rfl
  case hn => decide
  case hw => exact (Below.refl _ _).drew
  case hs =>
    refine auto_op 3 [] (by kernel_rfl) (fun y w' HW hd K hK => ?_) ?_
    · go_simp
      refine hK _ _ ?_ ?_ HW
      · simp [upd]
      · exact rfl
    refine auto_op 4 [0] (by kernel_rfl) (fun y w' HW hd K hK => ?_) ?_
    · have e0 := hd_nth (hd 0 (by simp)) rfl
      go_simp
      refine hK _ _ ?_ ?_ HW
      · simp [upd, e0]
      · exact rfl
    refine auto_op 5 [1] (by kernel_rfl) (fun y w' HW hd K hK => ?_) ?_
    · have e1 := hd_nth (hd 1 (by simp)) rfl
      go_simp
      refine hK _ _ ?_ ?_ HW
      · simp [upd, e1]
      · exact rfl
    refine auto_op 6 [2] (by kernel_rfl) (fun y w' HW hd K hK => ?_) ?_
    · have e2 := hd_nth (hd 2 (by simp)) rfl
      go_simp
      refine hK _ _ ?_ ?_ HW
      · simp [upd, e2]
      · exact rfl
    refine auto_op 7 [3] (by kernel_rfl) (fun y w' HW hd K hK => ?_) ?_
    · have e3 := hd_nth (hd 3 (by simp)) rfl
      have hcl : ∀ p : Addr, p.block < W.heap.size → w'.cell? p = W.cell? p := fun p hp => HW.cell hp
      go_simp
      refine hK _ _ ?_ ?_ HW
      · simp [upd, e3]
      · exact rfl
    refine auto_op 8 [4] (by kernel_rfl) (fun y w' HW hd K hK => ?_) ?_
    · have e4 := hd_nth (hd 4 (by simp)) rfl
      go_simp
      refine hK _ _ ?_ ?_ HW
      · simp [upd, e4]
      · exact rfl
    refine auto_op 9 [5] (by kernel_rfl) (fun y w' HW hd K hK => ?_) ?_
    · have e5 := hd_nth (hd 5 (by simp)) rfl
      go_simp
      refine hK _ _ ?_ ?_ HW
      · simp [upd, e5]
      · exact rfl
    refine auto_op 10 [] (by kernel_rfl) (fun y w' HW hd K hK => ?_) ?_
    · go_simp
      refine hK _ _ ?_ ?_ HW
      · simp [upd]
      · exact rfl
    refine auto_op 11 [7] (by kernel_rfl) (fun y w' HW hd K hK => ?_) ?_
    · have e7 := hd_nth (hd 7 (by simp)) rfl
      go_simp
      refine hK _ _ ?_ ?_ HW
      · simp [upd, e7]
      · exact rfl
    refine auto_op 12 [8] (by kernel_rfl) (fun y w' HW hd K hK => ?_) ?_
    · have e8 := hd_nth (hd 8 (by simp)) rfl
      go_simp
      refine hK _ _ ?_ ?_ HW
      · simp [upd, e8]
      · exact rfl
    refine auto_op 13 [9] (by kernel_rfl) (fun y w' HW hd K hK => ?_) ?_
    · have e9 := hd_nth (hd 9 (by simp)) rfl
      go_simp
      refine hK _ _ ?_ ?_ HW
      · simp [upd, e9]
      · exact rfl
    refine auto_op 14 [10] (by kernel_rfl) (fun y w' HW hd K hK => ?_) ?_
    · have e10 := hd_nth (hd 10 (by simp)) rfl
      have hcl : ∀ p : Addr, p.block < W.heap.size → w'.cell? p = W.cell? p := fun p hp => HW.cell hp
      go_simp
      refine hK _ _ ?_ ?_ HW
      · simp [upd, e10]
      · exact rfl
    refine auto_op 15 [11] (by kernel_rfl) (fun y w' HW hd K hK => ?_) ?_
    · have e11 := hd_nth (hd 11 (by simp)) rfl
      go_simp
      refine hK _ _ ?_ ?_ HW
      · simp [upd, e11]
      · exact rfl
    refine auto_op 16 [12] (by kernel_rfl) (fun y w' HW hd K hK => ?_) ?_
    · have e12 := hd_nth (hd 12 (by simp)) rfl
      go_simp
      refine hK _ _ ?_ ?_ HW
      · simp [upd, e12]
      · exact rfl
    refine auto_op 17 [13] (by kernel_rfl) (fun y w' HW hd K hK => ?_) ?_
    · have e13 := hd_nth (hd 13 (by simp)) rfl
      go_simp
      refine hK _ _ ?_ ?_ HW
      · simp [upd, e13]
      · exact rfl
    refine auto_op 18 [] (by kernel_rfl) (fun y w' HW hd K hK => ?_) ?_
    · go_simp
      refine hK _ _ ?_ ?_ HW
      · simp [upd]
      · exact rfl
    refine auto_op 19 [15] (by kernel_rfl) (fun y w' HW hd K hK => ?_) ?_
    · have e15 := hd_nth (hd 15 (by simp)) rfl
      go_simp
      refine (A1.out _ (HF.out.below HW hlt)).mono ?_
      rintro e w5 ⟨rfl, rfl⟩
      refine hK _ _ ?_ ?_ HW
      · simp [upd, e15]
      · exact rfl
    refine auto_op 20 [16] (by kernel_rfl) (fun y w' HW hd K hK => ?_) ?_
    · have e16 := hd_nth (hd 16 (by simp)) rfl
      go_simp
      refine hK _ _ ?_ ?_ HW
      · simp [upd, e16]
      · exact rfl
    refine auto_op 21 [6, 14, 17] (by kernel_rfl) (fun y w' HW hd K hK => ?_) ?_
    · have e6 := hd_nth (hd 6 (by simp)) rfl
      have e14 := hd_nth (hd 14 (by simp)) rfl
      have e17 := hd_nth (hd 17 (by simp)) rfl
      go_simp
      refine hK _ _ ?_ ?_ HW
      · simp [upd, e6, e14, e17]
      · exact rfl
    refine auto_last fun y w' HW hd K hK => ?_
    have e0 := hd_nth (hd 0 (by omega)) rfl
    have e1 := hd_nth (hd 1 (by omega)) rfl
    have e2 := hd_nth (hd 2 (by omega)) rfl
    have e3 := hd_nth (hd 3 (by omega)) rfl
    have e4 := hd_nth (hd 4 (by omega)) rfl
    have e5 := hd_nth (hd 5 (by omega)) rfl
    have e6 := hd_nth (hd 6 (by omega)) rfl
    have e7 := hd_nth (hd 7 (by omega)) rfl
    have e8 := hd_nth (hd 8 (by omega)) rfl
    have e9 := hd_nth (hd 9 (by omega)) rfl
    have e10 := hd_nth (hd 10 (by omega)) rfl
    have e11 := hd_nth (hd 11 (by omega)) rfl
    have e12 := hd_nth (hd 12 (by omega)) rfl
    have e13 := hd_nth (hd 13 (by omega)) rfl
    have e14 := hd_nth (hd 14 (by omega)) rfl
    have e15 := hd_nth (hd 15 (by omega)) rfl
    have e16 := hd_nth (hd 16 (by omega)) rfl
    have e17 := hd_nth (hd 17 (by omega)) rfl
    have e18 := hd_nth (hd 18 (by omega)) rfl
    have e18' : y 18 = .agg (modeL on root (!q)).toArray := by
      rw [e18, K1.out, K2.out]
      rfl
    have HNW := Lib.hid (HN.out.below HW HN.out.lt)
    have HB2 := Lib.hid (below_setRow (HB.out.trans (HW.mono HB.out.size)) (Nat.le_refl w.heap.size) (splice (modeL false 0 false) 0 (modeL on root (!q))).toArray)
    have HN2 : Hid (Blk (w'.setRow w.heap.size (splice (modeL false 0 false) 0 (modeL on root (!q))).toArray) w.heap.size 46 (modeL on root (!q))) := Lib.hid (HNW.out.row _)
    refine step_store_blk (a := ⟨_, _⟩) (by kernel_rfl) 46 (.tmp 2) (.tmp 21) (by exact rfl) w.heap.size 0 46 (modeL false 0 false) (modeL on root (!q)) (by kernel_rfl) (by exact e18') HNW.out (by rw [size_mode]; rfl) (Nat.le_refl 3) (one_mode on root (!q)) ?_
    refine hK _ _ ?_
    clear hd hK K e0 e1 e2 e3 e4 e5 e6 e7 e8 e9 e10 e11 e12 e13 e14 e15 e16 e17 e18 e18'
    generalize w'.setRow w.heap.size (splice (modeL false 0 false) 0 (modeL on root (!q))).toArray = W2 at HB2 HN2 ⊢
    go_wp2
    rw [← HQQ.out]
    rw [HA.out]
    exact bodyPost_ret (v := mV on root (!q)) (results_cell_row Try.results22 _ _ _ _ _ _ _ rfl HN2.out Try.underlying46 rfl (by rw [size_mode]; rfl)) rfl ⟨rfl, HB2.out⟩

/-- two arrays of registers compared inside a walk -/
def intsOf (R : List Nat) : List Int := R.map (fun (x : Nat) => (x : Int))
theorem arrV_ints (R : List Nat) : arrV R = .agg ((intsOf R).map (Value.int .u32)).toArray := by
  unfold arrV wordsV intsOf
  rw [List.map_map]
  rfl
theorem intsOf_len (R : List Nat) : (intsOf R).length = R.length := by simp [intsOf]
theorem guard_words (op : BinOp) (x y : Operand) (R Q : List Nat) (w : World) : (eqGuard op 48 x y (arrV R) (arrV Q)).run Try.prog w = .ok () w := run_eqGuard_agg w op 48 x y _ _ (by kernel_rfl)
theorem bin_eql (R : List Nat) (hR : R.length = 7) (w : World) : (binOp .eql 48 (arrV R) (arrV R)).run Try.prog w = .ok (.bool true) w := by
  rw [arrV_ints, run_eql_ints w 48 33 7 .u32 Try.underlying48 Try.underlying33 (fun W => by kernel_rfl) (intsOf R) (intsOf R) (by rw [intsOf_len, hR]) (by rw [intsOf_len, hR])]
  simp
theorem bin_neq (R : List Nat) (hR : R.length = 7) (w : World) : (binOp .neq 48 (arrV R) (arrV R)).run Try.prog w = .ok (.bool false) w := by
  have h := run_equalIn_ints w 9998 48 33 7 .u32 Try.underlying48 Try.underlying33 (fun W => by kernel_rfl) (intsOf R) (intsOf R) (by rw [intsOf_len, hR]) (by rw [intsOf_len, hR])
  rw [arrV_ints, run_neq_struct, h]
  simp
theorem guard_mode (op : BinOp) (x y : Operand) (on on' : Bool) (root root' : Nat) (u u' : Bool) (w : World) : (eqGuard op 46 x y (mV on root u) (mV on' root' u')).run Try.prog w = .ok () w := run_eqGuard_agg w op 46 x y _ _ (by kernel_rfl)
theorem bin_eql_mode (on : Bool) (root : Nat) (u : Bool) (w : World) : (binOp .eql 46 (mV on root u) (mV on root u)).run Try.prog w = .ok (.bool true) w := by
  unfold mV modeL
  go_simp
theorem bin_neq_mode (on : Bool) (root : Nat) (u : Bool) (w : World) : (binOp .neq 46 (mV on root u) (mV on root u)).run Try.prog w = .ok (.bool false) w := by
  unfold mV modeL
  go_simp
end Go.Proofs.Ytaokaaakofgdoaa.Cs
