/- Several texts in one: Ui Tb -/
import Derived.Test.YtniaclhmfmkikaaGreatDoorZ06
import Derived.Test.YtniaclhmfmkikaaGreatDoorZ02
section
/- The document's registers of the kernel's mode (hermitageref12): Mode; comparing modes and arrays of registers. -/
namespace Go.Proofs.YtniaclhmfmkikaaGreatDoor.Cs
open Go.RowKit Ut
set_option maxRecDepth 100000
set_option linter.unusedVariables false

theorem refMode_any (b i : Nat) (R : List Nat) (w : World) (h : RAt w b i R) :
    Calls Tryz.prog 33 #[.pointer (some ⟨b, 0, none⟩)] w fun e w' => e = .returned (modeV R) ∧ Below w.heap.size w w' := by
  have HRUN : Hid (∀ (ρ : Operand → Value) (o : Oper), o.op = .alloc 74 → (execOp ρ o).run Tryz.prog w = .ok (.value (.pointer (some ⟨w.heap.size, 0, none⟩))) (w.alloc (.cells (modeL false 0 false).toArray 74))) := fun ρ o ho => run_new_mode w ρ o ho
  have HB := Lib.hid ((Below.refl w.heap.size w).alloc (Nat.le_refl _) (.cells (modeL false 0 false).toArray 74))
  have HN : Hid (Blk (w.alloc (.cells (modeL false 0 false).toArray 74)) w.heap.size 74 (modeL false 0 false)) := Blk.new w _ _
  have HF := Lib.hid (h.below HB.out h.1.lt)
  obtain ⟨q, hq⟩ : ∃ q, hasB (st R) 4 = q := ⟨_, rfl⟩
  have A1 := refHas_at b i 4 R q hq (by decide)
  have c0 := HF.out.reg 0 (by decide)
  have hlt := HF.out.1.lt
  have hwd := h.2.1.reg 0
  have HA : Hid (modeV R = mV (hasB (R.getD 0 0) 1) (rootN (R.getD 0 0)) (!q)) := by rw [← hq]; exact Lib.hid rfl
  generalize modeV R = mR at HA ⊢
  clear h hq
  generalize R.getD 0 0 = a at c0 HA hwd
  have K1 : Hid (((a : Int).tmod 2 == 1) = hasB a 1) := Lib.hid (by
    rw [← on_is, show ((a : Int).tmod 2) = ((a % 2 : Nat) : Int) from by rw [Int.tmod_eq_emod_of_nonneg (by omega)]; omega, show (1 : Int) = ((1 : Nat) : Int) from rfl, beq_cast])
  have K2 : Hid (IntKind.i64.wrap (((a : Int) / 256).tmod 32) = (rootN a : Int)) := Lib.hid (by
    unfold rootN
    rw [Int.tmod_eq_emod_of_nonneg (by omega)]
    simp [IntKind.wrap, IntKind.bits, IntKind.signed]
    omega)
  generalize hasB a 1 = on at K1 HA
  generalize rootN a = root at K2 HA
  go_enter Tryz.func33, Tryz.ntmps33
  generalize hQQ : bodyPost _ _ _ = QQ
  have HQQ := Lib.hid hQQ
  clear hQQ
  go_upto_region 0 with fail
  refine wp_region_lit ?_
  refine Great.wpList_allocTo rfl (some 2) rfl (.pointer (some ⟨w.heap.size, 0, none⟩)) (.cells (modeL false 0 false).toArray 74) (HRUN.out _ _ rfl) ?_
  generalize hW : w.alloc (.cells (modeL false 0 false).toArray 74) = W at HB HN HF c0 hlt ⊢
  clear HRUN hW
  go_upto_region 1 with fail
  simp only [Act.put, List.setIfInBounds_toArray, List.set_cons_succ, List.set_cons_zero]
  apply wp_region_auto [3, 4, 5, 6, 7, 8, 9, 10, 11, 12, 13, 14, 15, 16, 17, 18, 19, 20, 21] [_, _, _, _, _, _, _, _, _, _, _, _, _, _, _, _, _, _, _] (fun W' => Below W.heap.size W W')
  case hm => kernel_rfl
  case hT => intro y; simp only [setAll, List.setIfInBounds_toArray, List.set_cons_succ, List.set_cons_zero]; exact rfl
  case hok => kernel_rfl
  case hn => decide
  case hw => exact (Below.refl _ _).drew
  case hs =>
    refine auto_op 3 [] (by kernel_rfl) (fun y w' HW hd K hK => ?_) ?_
    · go_simp
      refine hK _ _ ?_ ?_ HW
      · simp [upd]
      · exact rfl
    refine auto_op 4 [0] (by kernel_rfl) (fun y w' HW hd K hK => ?_) ?_
    · have e0 := hd_nth (hd 0 (by simp)) rfl
      go_simp
      refine hK _ _ ?_ ?_ HW
      · simp [upd, e0]
      · exact rfl
    refine auto_op 5 [1] (by kernel_rfl) (fun y w' HW hd K hK => ?_) ?_
    · have e1 := hd_nth (hd 1 (by simp)) rfl
      go_simp
      refine hK _ _ ?_ ?_ HW
      · simp [upd, e1]
      · exact rfl
    refine auto_op 6 [2] (by kernel_rfl) (fun y w' HW hd K hK => ?_) ?_
    · have e2 := hd_nth (hd 2 (by simp)) rfl
      go_simp
      refine hK _ _ ?_ ?_ HW
      · simp [upd, e2]
      · exact rfl
    refine auto_op 7 [3] (by kernel_rfl) (fun y w' HW hd K hK => ?_) ?_
    · have e3 := hd_nth (hd 3 (by simp)) rfl
      have hcl : ∀ p : Addr, p.block < W.heap.size → w'.cell? p = W.cell? p := fun p hp => HW.cell hp
      go_simp
      refine hK _ _ ?_ ?_ HW
      · simp [upd, e3]
      · exact rfl
    refine auto_op 8 [4] (by kernel_rfl) (fun y w' HW hd K hK => ?_) ?_
    · have e4 := hd_nth (hd 4 (by simp)) rfl
      go_simp
      refine hK _ _ ?_ ?_ HW
      · simp [upd, e4]
      · exact rfl
    refine auto_op 9 [5] (by kernel_rfl) (fun y w' HW hd K hK => ?_) ?_
    · have e5 := hd_nth (hd 5 (by simp)) rfl
      go_simp
      refine hK _ _ ?_ ?_ HW
      · simp [upd, e5]
      · exact rfl
    refine auto_op 10 [] (by kernel_rfl) (fun y w' HW hd K hK => ?_) ?_
    · go_simp
      refine hK _ _ ?_ ?_ HW
      · simp [upd]
      · exact rfl
    refine auto_op 11 [7] (by kernel_rfl) (fun y w' HW hd K hK => ?_) ?_
    · have e7 := hd_nth (hd 7 (by simp)) rfl
      go_simp
      refine hK _ _ ?_ ?_ HW
      · simp [upd, e7]
      · exact rfl
    refine auto_op 12 [8] (by kernel_rfl) (fun y w' HW hd K hK => ?_) ?_
    · have e8 := hd_nth (hd 8 (by simp)) rfl
      go_simp
      refine hK _ _ ?_ ?_ HW
      · simp [upd, e8]
      · exact rfl
    refine auto_op 13 [9] (by kernel_rfl) (fun y w' HW hd K hK => ?_) ?_
    · have e9 := hd_nth (hd 9 (by simp)) rfl
      go_simp
      refine hK _ _ ?_ ?_ HW
      · simp [upd, e9]
      · exact rfl
    refine auto_op 14 [10] (by kernel_rfl) (fun y w' HW hd K hK => ?_) ?_
    · have e10 := hd_nth (hd 10 (by simp)) rfl
      have hcl : ∀ p : Addr, p.block < W.heap.size → w'.cell? p = W.cell? p := fun p hp => HW.cell hp
      go_simp
      refine hK _ _ ?_ ?_ HW
      · simp [upd, e10]
      · exact rfl
    refine auto_op 15 [11] (by kernel_rfl) (fun y w' HW hd K hK => ?_) ?_
    · have e11 := hd_nth (hd 11 (by simp)) rfl
      go_simp
      refine hK _ _ ?_ ?_ HW
      · simp [upd, e11]
      · exact rfl
    refine auto_op 16 [12] (by kernel_rfl) (fun y w' HW hd K hK => ?_) ?_
    · have e12 := hd_nth (hd 12 (by simp)) rfl
      go_simp
      refine hK _ _ ?_ ?_ HW
      · simp [upd, e12]
      · exact rfl
    refine auto_op 17 [13] (by kernel_rfl) (fun y w' HW hd K hK => ?_) ?_
    · have e13 := hd_nth (hd 13 (by simp)) rfl
      go_simp
      refine hK _ _ ?_ ?_ HW
      · simp [upd, e13]
      · exact rfl
    refine auto_op 18 [] (by kernel_rfl) (fun y w' HW hd K hK => ?_) ?_
    · go_simp
      refine hK _ _ ?_ ?_ HW
      · simp [upd]
      · exact rfl
    refine auto_op 19 [15] (by kernel_rfl) (fun y w' HW hd K hK => ?_) ?_
    · have e15 := hd_nth (hd 15 (by simp)) rfl
      go_simp
      refine (A1.out _ (HF.out.below HW hlt)).mono ?_
      rintro e w5 ⟨rfl, rfl⟩
      refine hK _ _ ?_ ?_ HW
      · simp [upd, e15]
      · exact rfl
    refine auto_op 20 [16] (by kernel_rfl) (fun y w' HW hd K hK => ?_) ?_
    · have e16 := hd_nth (hd 16 (by simp)) rfl
      go_simp
      refine hK _ _ ?_ ?_ HW
      · simp [upd, e16]
      · exact rfl
    refine auto_op 21 [6, 14, 17] (by kernel_rfl) (fun y w' HW hd K hK => ?_) ?_
    · have e6 := hd_nth (hd 6 (by simp)) rfl
      have e14 := hd_nth (hd 14 (by simp)) rfl
      have e17 := hd_nth (hd 17 (by simp)) rfl
      go_simp
      refine hK _ _ ?_ ?_ HW
      · simp [upd, e6, e14, e17]
      · exact rfl
    refine auto_last fun y w' HW hd K hK => ?_
    have e0 := hd_nth (hd 0 (by omega)) rfl
    have e1 := hd_nth (hd 1 (by omega)) rfl
    have e2 := hd_nth (hd 2 (by omega)) rfl
    have e3 := hd_nth (hd 3 (by omega)) rfl
    have e4 := hd_nth (hd 4 (by omega)) rfl
    have e5 := hd_nth (hd 5 (by omega)) rfl
    have e6 := hd_nth (hd 6 (by omega)) rfl
    have e7 := hd_nth (hd 7 (by omega)) rfl
    have e8 := hd_nth (hd 8 (by omega)) rfl
    have e9 := hd_nth (hd 9 (by omega)) rfl
    have e10 := hd_nth (hd 10 (by omega)) rfl
    have e11 := hd_nth (hd 11 (by omega)) rfl
    have e12 := hd_nth (hd 12 (by omega)) rfl
    have e13 := hd_nth (hd 13 (by omega)) rfl
    have e14 := hd_nth (hd 14 (by omega)) rfl
    have e15 := hd_nth (hd 15 (by omega)) rfl
    have e16 := hd_nth (hd 16 (by omega)) rfl
    have e17 := hd_nth (hd 17 (by omega)) rfl
    have e18 := hd_nth (hd 18 (by omega)) rfl
    have e18' : y 18 = .agg (modeL on root (!q)).toArray := by
      rw [e18, K1.out, K2.out]
      rfl
    have HNW := Lib.hid (HN.out.below HW HN.out.lt)
    have HB2 := Lib.hid (below_setRow (HB.out.trans (HW.mono HB.out.size)) (Nat.le_refl w.heap.size) (splice (modeL false 0 false) 0 (modeL on root (!q))).toArray)
    have HN2 : Hid (Blk (w'.setRow w.heap.size (splice (modeL false 0 false) 0 (modeL on root (!q))).toArray) w.heap.size 74 (modeL on root (!q))) := Lib.hid (HNW.out.row _)
    refine step_store_blk (a := ⟨_, _⟩) (by kernel_rfl) 74 (.tmp 2) (.tmp 21) (by exact rfl) w.heap.size 0 74 (modeL false 0 false) (modeL on root (!q)) (by kernel_rfl) (by exact e18') HNW.out (by rw [size_mode]; rfl) (Nat.le_refl 3) (one_mode on root (!q)) ?_
    refine hK _ _ ?_
    clear hd hK K e0 e1 e2 e3 e4 e5 e6 e7 e8 e9 e10 e11 e12 e13 e14 e15 e16 e17 e18 e18'
    generalize w'.setRow w.heap.size (splice (modeL false 0 false) 0 (modeL on root (!q))).toArray = W2 at HB2 HN2 ⊢
    go_wp2
    rw [← HQQ.out]
    rw [HA.out]
    exact bodyPost_ret (v := mV on root (!q)) (results_cell_row Tryz.results33 _ _ _ _ _ _ _ rfl HN2.out Tryz.underlying74 rfl (by rw [size_mode]; rfl)) rfl ⟨rfl, HB2.out⟩

/-- two arrays of registers compared inside a walk -/
def intsOf (R : List Nat) : List Int := R.map (fun (x : Nat) => (x : Int))
theorem arrV_ints (R : List Nat) : arrV R = .agg ((intsOf R).map (Value.int .u32)).toArray := by
  unfold arrV wordsV intsOf
  rw [List.map_map]
  rfl
theorem intsOf_len (R : List Nat) : (intsOf R).length = R.length := by simp [intsOf]
theorem guard_words (op : BinOp) (x y : Operand) (R Q : List Nat) (w : World) : (eqGuard op 45 x y (arrV R) (arrV Q)).run Tryz.prog w = .ok () w := run_eqGuard_agg w op 45 x y _ _ (by kernel_rfl)
theorem bin_eql (R : List Nat) (hR : R.length = 7) (w : World) : (binOp .eql 45 (arrV R) (arrV R)).run Tryz.prog w = .ok (.bool true) w := by
  rw [arrV_ints, run_eql_ints w 45 23 7 .u32 Tryz.underlying45 Tryz.underlying23 (fun W => by kernel_rfl) (intsOf R) (intsOf R) (by rw [intsOf_len, hR]) (by rw [intsOf_len, hR])]
  simp
theorem bin_neq (R : List Nat) (hR : R.length = 7) (w : World) : (binOp .neq 45 (arrV R) (arrV R)).run Tryz.prog w = .ok (.bool false) w := by
  have h := run_equalIn_ints w 9998 45 23 7 .u32 Tryz.underlying45 Tryz.underlying23 (fun W => by kernel_rfl) (intsOf R) (intsOf R) (by rw [intsOf_len, hR]) (by rw [intsOf_len, hR])
  rw [arrV_ints, run_neq_struct, h]
  simp
theorem guard_mode (op : BinOp) (x y : Operand) (on on' : Bool) (root root' : Nat) (u u' : Bool) (w : World) : (eqGuard op 74 x y (mV on root u) (mV on' root' u')).run Tryz.prog w = .ok () w := run_eqGuard_agg w op 74 x y _ _ (by kernel_rfl)
theorem bin_eql_mode (on : Bool) (root : Nat) (u : Bool) (w : World) : (binOp .eql 74 (mV on root u) (mV on root u)).run Tryz.prog w = .ok (.bool true) w := by
  unfold mV modeL
  go_simp
theorem bin_neq_mode (on : Bool) (root : Nat) (u : Bool) (w : World) : (binOp .neq 74 (mV on root u) (mV on root u)).run Tryz.prog w = .ok (.bool false) w := by
  unfold mV modeL
  go_simp
end Go.Proofs.YtniaclhmfmkikaaGreatDoor.Cs
end
section
/- Package regs: a file's block told by where it goes on and its registers; what its methods return and leave, for every argument. -/
namespace Go.Proofs.YtniaclhmfmkikaaGreatDoor.Rg
open Go.RowKit Ut
set_option maxRecDepth 100000
set_option linter.unusedVariables false

def wordsV (R : List Int) : List Value := R.map (Value.int .u32)
/-- a file's cells: made, where it goes on, its registers -/
def fCells (p : Int) (R : List Int) : List Value := .bool true :: .int .u32 p :: wordsV R
def FAt (w : World) (b : Nat) (p : Int) (R : List Int) : Prop := Blk w b 84 (fCells p R) ∧ R.length = 16
def zer : List Int := List.replicate 16 0
theorem zer_len : zer.length = 16 := rfl
/-- Set's and Get's error, what Set leaves, what Get gives -/
def errZ (i : Int) : Int := if 0 ≤ i ∧ i < 16 then 0 else 1
def setR (R : List Int) (i v : Int) : List Int := if 0 < i ∧ i < 16 then R.set i.toNat v else R
def getR (R : List Int) (i : Int) : Int := if 0 ≤ i ∧ i < 16 then R.getD i.toNat 0 else 0
theorem length_setR (R : List Int) (i v : Int) : (setR R i v).length = R.length := by unfold setR; split <;> simp

section
variable {w w' : World} {b : Nat} {p : Int} {R : List Int}
theorem FAt.below {B : Nat} (h : FAt w b p R) (hb : Below B w w') (hB : b < B) : FAt w' b p R := ⟨h.1.below hb hB, h.2⟩
theorem FAt.kept {row : Option Nat} (h : FAt w b p R) (hg : w.grownBy w' row) (hr : some b ≠ row) : FAt w' b p R := ⟨h.1.kept hg hr, h.2⟩
theorem FAt.cell0 (h : FAt w b p R) : w.cell? ⟨b, 0, none⟩ = some (.bool true) := h.1.cell rfl
theorem FAt.cell1 (h : FAt w b p R) : w.cell? ⟨b, 1, none⟩ = some (.int .u32 p) := h.1.cell rfl
theorem fCells_reg (p : Int) (R : List Int) (i : Nat) (hi : i < R.length) : (fCells p R)[2 + i]? = some (.int .u32 (R.getD i 0)) := by
  have e : 2 + i = i + 1 + 1 := by omega
  simp [fCells, wordsV, e, List.getD, hi]
theorem FAt.reg (h : FAt w b p R) (i : Nat) (hi : i < 16) : w.cell? ⟨b, 2 + i, none⟩ = some (.int .u32 (R.getD i 0)) := h.1.cell (fCells_reg p R i (by rw [h.2]; exact hi))
theorem FAt.set (h : FAt w b p R) (i : Nat) (hi : i < 16) (v : Int) : FAt (w.setCell ⟨b, 2 + i, none⟩ (.int .u32 v)) b p (R.set i v) := by
  refine ⟨?_, by rw [List.length_set]; exact h.2⟩
  have := h.1.set (2 + i) (.int .u32 v)
  have e : 2 + i = i + 1 + 1 := by omega
  rw [e] at this ⊢
  simpa [fCells, wordsV, List.map_set] using this
theorem FAt.jump (h : FAt w b p R) (q : Int) : FAt (w.setCell ⟨b, 1, none⟩ (.int .u32 q)) b q R := ⟨h.1.set 1 (.int .u32 q), h.2⟩
theorem fCells_words (p : Int) (R : List Int) : ∀ j v, (wordsV R)[j]? = some v → (fCells p R)[2 + j]? = some v := fun j v h => by
  have e : 2 + j = j + 1 + 1 := by omega
  simp [fCells, e, h]
end

theorem built_file : Tryz.prog.built 84 [(0, .bool true)] = some (fCells 0 zer).toArray := by kernel_rfl
theorem size_file (p : Int) (R : List Int) (h : R.length = 16) : (Tryz.prog.info? 84).map (·.size) = some (fCells p R).length := by
  rw [show (fCells p R).length = 18 by simp [fCells, wordsV, h]]; kernel_rfl
theorem size_words (R : List Int) (h : R.length = 16) : (Tryz.prog.info? 40).map (·.size) = some (wordsV R).length := by
  rw [show (wordsV R).length = 16 by simp [wordsV, h]]; kernel_rfl
theorem size_words' (R : List Int) (h : R.length = 16) : (Tryz.prog.info? 82).map (·.size) = some (wordsV R).length := by
  rw [show (wordsV R).length = 16 by simp [wordsV, h]]; kernel_rfl
theorem one_words (R : List Int) : ∀ v ∈ wordsV R, v.oneCell' = true := fun v hv => by
  obtain ⟨z, _, rfl⟩ := List.mem_map.1 hv; rfl
theorem one_file (p : Int) (R : List Int) : ∀ v ∈ fCells p R, v.oneCell' = true := fun v hv => by
  unfold fCells at hv
  rcases List.mem_cons.1 hv with rfl | hv
  · rfl
  · rcases List.mem_cons.1 hv with rfl | hv
    · rfl
    · exact one_words R v hv
theorem splice_whole (cs ds : List Value) (h : cs.length = ds.length) : splice cs 0 ds = ds := by simp [splice, h]

theorem new_any (w : World) : Calls Tryz.prog 21 #[] w fun e w' => e = .returned (.pointer (some ⟨w.heap.size, 0, none⟩)) ∧ FAt w' w.heap.size 0 zer ∧ Below w.heap.size w w' := by
  have hF : FAt (w.alloc (.cells (fCells 0 zer).toArray 84)) w.heap.size 0 zer := ⟨Blk.new w _ _, zer_len⟩
  have HF := Lib.hid hF
  have HB := (Below.refl w.heap.size w).alloc (Nat.le_refl _) (.cells (fCells 0 zer).toArray 84)
  clear hF
  go_enter Tryz.func21, Tryz.ntmps21
  go_upto_region 1 with fail
  refine wp_region_lit ?_
  refine wpList_buildTo rfl 84 _ rfl _ rfl (fCells 0 zer).toArray (by kernel_rfl) ?_
  refine Great.wpList_boxTo rfl 84 _ rfl _ rfl w.heap.size rfl (fCells 0 zer).toArray rfl ?_
  obtain ⟨W, hW⟩ : ∃ W, W = w.alloc (.cells (fCells 0 zer).toArray 84) := ⟨_, rfl⟩
  rw [← hW] at HF HB ⊢
  clear hW
  go_wp2
  go_ret
  exact ⟨rfl, HF.out, HB⟩

theorem made_nil (w : World) : Calls Tryz.prog 40 #[.pointer none] w fun e w' => e = .returned (.bool false) ∧ w = w' := by
  go_enter Tryz.func40, Tryz.ntmps40
  go_wp2
  go_ret
  exact ⟨rfl, rfl⟩
theorem made_is (b : Nat) (m : Bool) (w : World) (h : w.cell? ⟨b, 0, none⟩ = some (.bool m)) : Calls Tryz.prog 40 #[.pointer (some ⟨b, 0, none⟩)] w fun e w' => e = .returned (.bool m) ∧ w = w' := by
  go_enter Tryz.func40, Tryz.ntmps40
  go_wp2
  go_ret
  exact ⟨rfl, rfl⟩

/-- of what no call made: each method by isMade's no -/
def NotMade (a : Option Addr) (w : World) : Prop := Calls Tryz.prog 40 #[.pointer a] w fun e w' => e = .returned (.bool false) ∧ w = w'
theorem get_zero (a : Option Addr) (i : Int) (w : World) (h : NotMade a w) : Calls Tryz.prog 44 #[.pointer a, .int .i64 i] w fun e w' => e = .returned (.tuple #[.int .u32 0, .int .i64 7]) ∧ w = w' := by
  go_enter Tryz.func44, Tryz.ntmps44
  go_wp2_with (go_at_call 40; refine h.mono ?_; rintro e w' ⟨rfl, rfl⟩)
  go_ret2
  exact ⟨rfl, rfl⟩
theorem set_zero (a : Option Addr) (i v : Int) (w : World) (h : NotMade a w) : Calls Tryz.prog 24 #[.pointer a, .int .i64 i, .int .u32 v] w fun e w' => e = .returned (.int .i64 7) ∧ w = w' := by
  go_enter Tryz.func24, Tryz.ntmps24
  go_wp2_with (go_at_call 40; refine h.mono ?_; rintro e w' ⟨rfl, rfl⟩)
  go_ret
  exact ⟨rfl, rfl⟩
theorem pc_zero (a : Option Addr) (w : World) (h : NotMade a w) : Calls Tryz.prog 11 #[.pointer a] w fun e w' => e = .returned (.int .u32 0) ∧ w = w' := by
  go_enter Tryz.func11, Tryz.ntmps11
  go_wp2_with (go_at_call 40; refine h.mono ?_; rintro e w' ⟨rfl, rfl⟩)
  go_ret
  exact ⟨rfl, rfl⟩
theorem jump_zero (a : Option Addr) (q : Int) (w : World) (h : NotMade a w) : Calls Tryz.prog 15 #[.pointer a, .int .u32 q] w fun e w' => e = .returned (.int .i64 7) ∧ w = w' := by
  go_enter Tryz.func15, Tryz.ntmps15
  go_wp2_with (go_at_call 40; refine h.mono ?_; rintro e w' ⟨rfl, rfl⟩)
  go_ret
  exact ⟨rfl, rfl⟩
theorem has_yes (a : Option Addr) (i : Nat) (w : World) (h : i < 16) : Calls Tryz.prog 78 #[.pointer a, .int .i64 i] w fun e w' => e = .returned (.bool true) ∧ w = w' := by
  have h1 : decide ((0 : Int) ≤ (i : Int)) = true := by simp
  have h2 : decide ((i : Int) < 16) = true := by simp; omega
  go_enter Tryz.func78, Tryz.ntmps78
  go_wp2
  go_ret
  exact ⟨rfl, rfl⟩
theorem has_no (a : Option Addr) (i : Int) (w : World) (h : i < 0 ∨ 16 ≤ i) : Calls Tryz.prog 78 #[.pointer a, .int .i64 i] w fun e w' => e = .returned (.bool false) ∧ w = w' := by
  rcases Int.lt_or_le i 0 with h0 | h0
  · have h1 : decide ((0 : Int) ≤ i) = false := by simp; omega
    go_enter Tryz.func78, Tryz.ntmps78
    go_wp2
    go_ret
    exact ⟨rfl, rfl⟩
  · have h1 : decide ((0 : Int) ≤ i) = true := by simpa using h0
    have h2 : decide (i < 16) = false := by simp; omega
    go_enter Tryz.func78, Tryz.ntmps78
    go_wp2
    go_ret
    exact ⟨rfl, rfl⟩
end Go.Proofs.YtniaclhmfmkikaaGreatDoor.Rg
end
