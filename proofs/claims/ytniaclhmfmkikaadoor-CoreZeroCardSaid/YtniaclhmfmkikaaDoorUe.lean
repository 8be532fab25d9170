/- Package csr: All and Mode; what no call made; awake of the law. -/
import Derived.Test.YtniaclhmfmkikaaDoorUd
namespace Go.Proofs.YtniaclhmfmkikaaDoor.Cs
open Go.RowKit Ut
set_option maxRecDepth 100000
set_option linter.unusedVariables false

/-- an array of registers as a value -/
def arrV (R : List Nat) : Value := .agg (wordsV R).toArray
theorem run_new_words (w : World) (ρ : Operand → Value) (o : Oper) (ho : o.op = .alloc 35) : (execOp ρ o).run Tryd.prog w = .ok (.value (.pointer (some ⟨w.heap.size, 0, none⟩))) (w.alloc (.cells (wordsV zer).toArray 35)) := by
  unfold execOp
  rw [ho]
  kernel_rfl

/-- of what no call made: each method by isMade's no -/
def NotMade (a : Option Addr) (w : World) : Prop := Calls Tryd.prog 55 #[.pointer a] w fun e w' => e = .returned (.bool false) ∧ w = w'
/-- how addresses are meant, as a value -/
def modeL (on : Bool) (root : Nat) (user : Bool) : List Value := [.bool on, .int .i64 (root : Int), .bool user]
def mV (on : Bool) (root : Nat) (user : Bool) : Value := .agg (modeL on root user).toArray
def modeV (R : List Nat) : Value := mV (hasB (R.getD 0 0) 1) (rootN (R.getD 0 0)) (!hasB (st R) 4)
theorem run_new_mode (w : World) (ρ : Operand → Value) (o : Oper) (ho : o.op = .alloc 64) : (execOp ρ o).run Tryd.prog w = .ok (.value (.pointer (some ⟨w.heap.size, 0, none⟩))) (w.alloc (.cells (modeL false 0 false).toArray 64)) := by
  unfold execOp
  rw [ho]
  kernel_rfl
theorem one_mode (on : Bool) (root : Nat) (user : Bool) : ∀ v ∈ modeL on root user, v.oneCell' = true := fun v hv => by
  simp [modeL] at hv
  rcases hv with rfl | rfl | rfl <;> rfl
theorem size_mode : (Tryd.prog.info? 64).map (·.size) = some 3 := by kernel_rfl

theorem mode_any (b i : Nat) (R : List Nat) (w : World) (h : FAt w b i R) :
    Calls Tryd.prog 35 #[.pointer (some ⟨b, 0, none⟩)] w fun e w' => e = .returned (modeV R) ∧ Below w.heap.size w w' := by
  have HRUN : Hid (∀ (ρ : Operand → Value) (o : Oper), o.op = .alloc 64 → (execOp ρ o).run Tryd.prog w = .ok (.value (.pointer (some ⟨w.heap.size, 0, none⟩))) (w.alloc (.cells (modeL false 0 false).toArray 64))) := fun ρ o ho => run_new_mode w ρ o ho
  have HB := Lib.hid ((Below.refl w.heap.size w).alloc (Nat.le_refl _) (.cells (modeL false 0 false).toArray 64))
  have HN : Hid (Blk (w.alloc (.cells (modeL false 0 false).toArray 64)) w.heap.size 64 (modeL false 0 false)) := Blk.new w _ _
  have HF := Lib.hid (h.below HB.out h.1.lt)
  obtain ⟨q, hq⟩ : ∃ q, hasB (st R) 4 = q := ⟨_, rfl⟩
  have A1 := is_at b i 4 R q hq (by decide)
  have c0 := HF.out.reg 0 (by decide)
  have hlt := HF.out.1.lt
  have hwd := h.2.1.reg 0
  have HA : Hid (modeV R = mV (hasB (R.getD 0 0) 1) (rootN (R.getD 0 0)) (!q)) := by rw [← hq]; exact Lib.hid rfl
  generalize modeV R = mR at HA ⊢
  clear h hq
  generalize R.getD 0 0 = a at c0 HA hwd
  have q1 := u32_and_nat a 1 hwd (by decide)
  have q3 := u32_and_nat a 7936 hwd (by decide)
  have q2 : (((a &&& 1 : Nat) : Int) != 0) = hasB a 1 := bne_cast _
  have q4 : (a &&& 7936) / 256 = rootN a := root_is a
  have hb2 : a &&& 7936 < 4294967296 := Nat.lt_of_le_of_lt Nat.and_le_left hwd
  generalize hasB a 1 = on at q2 HA
  generalize rootN a = root at q4 HA
  generalize a &&& 1 = a1 at q1 q2
  generalize a &&& 7936 = a2 at q3 q4 hb2
  clear hwd
  have K1 : Hid ((bits .and .u32 (a : Int) 1 != 0) = on) := Lib.hid (by rw [show (1 : Int) = ((1 : Nat) : Int) from rfl, q1, q2])
  have K2 : Hid (wrap64 (bits .and .u32 (a : Int) 7936 / 256) = (root : Int)) := Lib.hid (by
    rw [show (7936 : Int) = ((7936 : Nat) : Int) from rfl, q3, ← q4]
    unfold wrap64
    omega)
  clear q1 q2 q3 q4 hb2
  go_enter Tryd.func35, Tryd.ntmps35
  generalize hQQ : bodyPost _ _ _ = QQ
  have HQQ := Lib.hid hQQ
  clear hQQ
  go_upto_region 0 with fail
  refine wp_region_lit ?_
  refine Great.wpList_allocTo rfl (some 2) rfl (.pointer (some ⟨w.heap.size, 0, none⟩)) (.cells (modeL false 0 false).toArray 64) (HRUN.out _ _ rfl) ?_
  generalize hW : w.alloc (.cells (modeL false 0 false).toArray 64) = W at HB HN HF c0 hlt ⊢
  clear HRUN hW
  go_upto_region 3 with (go_at_call 55; refine (made_is b true W HF.out.cell0).mono ?_; rintro e w' ⟨rfl, rfl⟩)
  apply wp_region_autoL [9, 10, 11, 12, 13, 14, 15, 3] [_, _, _, _, _, _, _, _] (fun L W' => Below W.heap.size W W' ∧ cond (L 6) (Var W' W.heap.size b) (W'.heap.size = W.heap.size))
  case hm => kernel_rfl
  case hT => intro y; simp only [setAll, List.setIfInBounds_toArray, List.set_cons_succ, List.set_cons_zero]; exact rfl
  case hok => kernel_rfl
  case hn => decide
  case hw => exact fun L hL => (by simp only [hL 6 (by decide)]; exact ⟨(Below.refl _ _).drew, rfl⟩)
  case hs =>
    refine autoL_op 9 [] (by kernel_rfl) (fun L y w' hL HW hd K hK => ?_) ?_
    · go_simp
      refine hK _ _ ?_ ?_ HW
      · simp [upd]
      · exact rfl
    refine autoL_op 10 [0] (by kernel_rfl) (fun L y w' hL HW hd K hK => ?_) ?_
    · have e0 := hd_nth (hd 0 (by simp)) rfl
      go_simp
      refine hK _ _ ?_ ?_ HW
      · simp [upd, e0]
      · exact rfl
    refine autoL_op 11 [1] (by kernel_rfl) (fun L y w' hL HW hd K hK => ?_) ?_
    · have e1 := hd_nth (hd 1 (by simp)) rfl
      go_simp
      refine hK _ _ ?_ ?_ HW
      · simp [upd, e1]
      · exact rfl
    refine autoL_op 12 [2] (by kernel_rfl) (fun L y w' hL HW hd K hK => ?_) ?_
    · have e2 := hd_nth (hd 2 (by simp)) rfl
      go_simp
      refine hK _ _ ?_ ?_ HW
      · simp [upd, e2]
      · exact rfl
    refine autoL_op 13 [3] (by kernel_rfl) (fun L y w' hL HW hd K hK => ?_) ?_
    · have e3 := hd_nth (hd 3 (by simp)) rfl
      have hcl : ∀ p : Addr, p.block < W.heap.size → w'.cell? p = W.cell? p := fun p hp => HW.1.cell hp
      go_simp
      refine hK _ _ ?_ ?_ HW
      · simp [upd, e3]
      · exact rfl
    refine autoL_op 14 [] (by kernel_rfl) (fun L y w' hL HW hd K hK => ?_) ?_
    · go_simp
      refine hK _ _ ?_ ?_ HW
      · simp [upd]
      · exact rfl
    refine autoL_op 15 [5] (by kernel_rfl) (fun L y w' hL HW hd K hK => ?_) ?_
    · have e5 := hd_nth (hd 5 (by simp)) rfl
      go_simp
      have HW0 : w'.heap.size = W.heap.size := by have h := HW.2; simp only [hL] at h; exact h
      have hA := asker_any b i R w' (HF.out.below HW.1 hlt)
      rw [HW0] at hA
      refine hA.mono ?_
      rintro e w3 ⟨rfl, hV3, hb3⟩
      refine hK _ _ ?_ ?_ ⟨HW.1.trans hb3, hV3⟩
      · simp [upd, e5]
      · exact rfl
    refine autoL_op 3 [4, 6, 0, 1, 2, 3, 4] (by kernel_rfl) (fun L y w' hL HW hd K hK => ?_) ?_
    · have e0 := hd_nth (hd 0 (by simp)) rfl
      have e1 := hd_nth (hd 1 (by simp)) rfl
      have e2 := hd_nth (hd 2 (by simp)) rfl
      have e3 := hd_nth (hd 3 (by simp)) rfl
      have e4 := hd_nth (hd 4 (by simp)) rfl
      have e6 := hd_nth (hd 6 (by simp)) rfl
      go_simp
      refine hK _ _ ?_ ?_ HW
      · simp [upd, e0, e1, e2, e3, e4, e6]
      · exact rfl
    refine autoL_last fun L y w' hLs HW hd K hK => ?_
    have e0 := hd_nth (hd 0 (by omega)) rfl
    have e1 := hd_nth (hd 1 (by omega)) rfl
    have e2 := hd_nth (hd 2 (by omega)) rfl
    have e3 := hd_nth (hd 3 (by omega)) rfl
    have e4 := hd_nth (hd 4 (by omega)) rfl
    have e5 := hd_nth (hd 5 (by omega)) rfl
    have e6 := hd_nth (hd 6 (by omega)) rfl
    have e7 := hd_nth (hd 7 (by omega)) rfl
    have HWF := Lib.hid (show Below W.heap.size W w' ∧ Var w' W.heap.size b by have h := HW; simp only [hLs 6 (by omega)] at h; exact h)
    go_simp
    refine hK _ _ ?_
    clear hd hK K e0 e1 e2 e3 e4 e5 e6 e7
    clear hLs HW c0
    go_wp2_with fail
    refine (A1.out w' W.heap.size (HF.out.below HWF.out.1 hlt) HWF.out.2).mono ?_
    rintro e w3 ⟨rfl, rfl⟩
    have HN1 := Lib.hid (HN.out.below HWF.out.1 HN.out.lt)
    have HB1 := Lib.hid (HB.out.trans (HWF.out.1.mono HB.out.size))
    clear HWF HN
    go_simp
    rename_i hK
    refine hK _ _ ?_
    clear hK
    rw [K1.out, K2.out]
    refine Great.wpList_readTo rfl _ rfl (.bool (!q)) (by kernel_rfl) ?_
    refine Great.wpList_readTo rfl _ rfl (mV on root (!q)) (by kernel_rfl) ?_
    refine wpList_store_rowTo rfl 64 _ _ rfl rfl w.heap.size (modeL on root (!q)).toArray (by kernel_rfl) (by kernel_rfl) 64 (modeL false 0 false).toArray HN1.out (by rw [size_mode]; rfl) rfl (by simpa using one_mode on root (!q)) ?_
    have HB2 := Lib.hid (below_setRow HB1.out (Nat.le_refl _) (modeL on root (!q)).toArray)
    have HN2 := Lib.hid (HN1.out.row (modeL on root (!q)))
    generalize hW2 : w'.setRow w.heap.size (modeL on root (!q)).toArray = W2 at HB2 HN2 ⊢
    clear hW2
    go_wp2
    rw [← HQQ.out]
    rw [HA.out]
    exact bodyPost_ret (v := mV on root (!q)) (results_cell_row Tryd.results35 _ _ _ _ _ _ _ rfl HN2.out Tryd.underlying64 rfl (by rw [size_mode]; rfl)) rfl ⟨rfl, HB2.out⟩

theorem mode_zero (a : Option Addr) (w : World) (h : ∀ W, Below w.heap.size w W → NotMade a W) : Calls Tryd.prog 35 #[.pointer a] w fun e w' => e = .returned (mV false 0 false) ∧ Below w.heap.size w w' := by
  have HRUN : Hid (∀ (ρ : Operand → Value) (o : Oper), o.op = .alloc 64 → (execOp ρ o).run Tryd.prog w = .ok (.value (.pointer (some ⟨w.heap.size, 0, none⟩))) (w.alloc (.cells (modeL false 0 false).toArray 64))) := fun ρ o ho => run_new_mode w ρ o ho
  have HB := Lib.hid ((Below.refl w.heap.size w).alloc (Nat.le_refl _) (.cells (modeL false 0 false).toArray 64))
  have HN : Hid (Blk (w.alloc (.cells (modeL false 0 false).toArray 64)) w.heap.size 64 (modeL false 0 false)) := Blk.new w _ _
  have H := Lib.hid (h _ HB.out)
  clear h
  go_enter Tryd.func35, Tryd.ntmps35
  generalize hQQ : bodyPost _ _ _ = QQ
  have HQQ := Lib.hid hQQ
  clear hQQ
  go_upto_region 0 with fail
  refine wp_region_lit ?_
  refine Great.wpList_allocTo rfl (some 2) rfl (.pointer (some ⟨w.heap.size, 0, none⟩)) (.cells (modeL false 0 false).toArray 64) (HRUN.out _ _ rfl) ?_
  generalize hW : w.alloc (.cells (modeL false 0 false).toArray 64) = W at HB HN H ⊢
  clear HRUN hW
  go_upto_region 2 with (go_at_call 55; refine H.out.mono ?_; rintro e w' ⟨rfl, rfl⟩)
  refine wp_region_lit ?_
  refine Great.wpList_readTo rfl _ rfl (mV false 0 false) (by kernel_rfl) ?_
  refine wpList_store_rowTo rfl 64 _ _ rfl rfl w.heap.size (modeL false 0 false).toArray (by kernel_rfl) (by kernel_rfl) 64 (modeL false 0 false).toArray HN.out (by kernel_rfl) rfl (by kernel_rfl) ?_
  have HB2 := Lib.hid (below_setRow HB.out (Nat.le_refl _) (modeL false 0 false).toArray)
  have HN2 := Lib.hid (HN.out.row (modeL false 0 false))
  generalize hW2 : W.setRow w.heap.size (modeL false 0 false).toArray = W2 at HB2 HN2 ⊢
  clear hW2
  go_wp2
  rw [← HQQ.out]
  exact bodyPost_ret (v := mV false 0 false) (results_cell_row Tryd.results35 _ _ _ _ _ _ _ rfl HN2.out Tryd.underlying64 rfl (by kernel_rfl)) rfl ⟨rfl, HB2.out⟩

theorem refusal_zero (a : Option Addr) (n c : Int) (w : World) (h : NotMade a w) : Calls Tryd.prog 34 #[.pointer a, .int .i64 n, .int .i64 c] w fun e w' => e = .returned (.int .i64 7) ∧ w = w' := by
  go_enter Tryd.func34, Tryd.ntmps34
  go_wp2_with (go_at_call 55; refine h.mono ?_; rintro e w' ⟨rfl, rfl⟩)
  go_ret
  exact ⟨rfl, rfl⟩
theorem read_zero (a : Option Addr) (n clock : Int) (w : World) (h : NotMade a w) : Calls Tryd.prog 13 #[.pointer a, .int .i64 n, .int .i64 clock] w fun e w' => e = .returned (.tuple #[.int .u32 0, .int .i64 7]) ∧ w = w' := by
  go_enter Tryd.func13, Tryd.ntmps13
  go_wp2_with (go_at_call 34; refine (refusal_zero a n 9 w h).mono ?_; rintro e w' ⟨rfl, rfl⟩)
  go_ret2
  exact ⟨rfl, rfl⟩
theorem write_zero (a : Option Addr) (n v : Int) (w : World) (h : NotMade a w) : Calls Tryd.prog 59 #[.pointer a, .int .i64 n, .int .u32 v] w fun e w' => e = .returned (.int .i64 7) ∧ w = w' := by
  go_enter Tryd.func59, Tryd.ntmps59
  go_wp2_with (go_at_call 34; refine (refusal_zero a n 7 w h).mono ?_; rintro e w' ⟨rfl, rfl⟩)
  go_ret
  exact ⟨rfl, rfl⟩
theorem leave_zero (a : Option Addr) (w : World) (h : NotMade a w) : Calls Tryd.prog 58 #[.pointer a] w fun e w' => e = .returned (.tuple #[.int .u32 0, .int .i64 7]) ∧ w = w' := by
  go_enter Tryd.func58, Tryd.ntmps58
  go_wp2_with (go_at_call 55; refine h.mono ?_; rintro e w' ⟨rfl, rfl⟩)
  go_ret2
  exact ⟨rfl, rfl⟩
/-- the methods with their answers named -/
theorem write_at (b i : Nat) (n : Int) (v : Nat) (R : List Nat) (z : Int) (Q : List Nat) (hz : errZ R n 7 = z) (hQ : wrR R n v = Q) (hv : v < 4294967296) : Hid (∀ W, FAt W b i R → Calls Tryd.prog 59 #[.pointer (some ⟨b, 0, none⟩), .int .i64 n, .int .u32 (v : Int)] W fun e w' => e = .returned (.int .i64 z) ∧ FAt w' b i Q ∧ W.grownBy w' (some b)) := Lib.hid fun W h => by
  rw [← hz, ← hQ]
  exact write_any b i n v R W h hv
theorem read_at (b i : Nat) (n clock : Int) (R : List Nat) (x z : Int) (hx : rdZ R i n clock = x) (hz : errZ R n 9 = z) : Hid (∀ W, FAt W b i R → Calls Tryd.prog 13 #[.pointer (some ⟨b, 0, none⟩), .int .i64 n, .int .i64 clock] W fun e w' => e = .returned (.tuple #[.int .u32 x, .int .i64 z]) ∧ Below W.heap.size W w') := Lib.hid fun W h => by
  rw [← hz, ← hx]
  exact read_any b i n clock R W h
theorem leave_at (b i : Nat) (R : List Nat) (x : Nat) (Q : List Nat) (hx : R.getD 2 0 = x) (hQ : lvR R = Q) : Hid (∀ W, FAt W b i R → Calls Tryd.prog 58 #[.pointer (some ⟨b, 0, none⟩)] W fun e w' => e = .returned (.tuple #[.int .u32 (x : Int), .int .i64 0]) ∧ FAt w' b i Q ∧ W.grownBy w' (some b)) := Lib.hid fun W h => by
  rw [← hx, ← hQ]
  exact leave_any b i R W h
theorem mode_at (b i : Nat) (R : List Nat) (V : Value) (hV : modeV R = V) : Hid (∀ W, FAt W b i R → Calls Tryd.prog 35 #[.pointer (some ⟨b, 0, none⟩)] W fun e w' => e = .returned V ∧ Below W.heap.size W w') := Lib.hid fun W h => by
  rw [← hV]
  exact mode_any b i R W h
end Go.Proofs.YtniaclhmfmkikaaDoor.Cs
