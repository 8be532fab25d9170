/- Package csr: All and Mode; what no call made; awake of the law. -/
import Derived.Test.YtaokaaakofgdoaaUd
namespace Go.Proofs.Ytaokaaakofgdoaa.Cs
open Go.RowKit Ut
set_option maxRecDepth 100000
set_option linter.unusedVariables false

/-- an array of registers as a value -/
def arrV (R : List Nat) : Value := .agg (wordsV R).toArray
theorem run_new_words (w : World) (ρ : Operand → Value) (o : Oper) (ho : o.op = .alloc 48) : (execOp ρ o).run Try.prog w = .ok (.value (.pointer (some ⟨w.heap.size, 0, none⟩))) (w.alloc (.cells (wordsV zer).toArray 48)) := by
  unfold execOp
  rw [ho]
  kernel_rfl

theorem all_any (b i : Nat) (R : List Nat) (w : World) (h : FAt w b i R) :
    Calls Try.prog 27 #[.pointer (some ⟨b, 0, none⟩)] w fun e w' => e = .returned (arrV R) ∧ Below w.heap.size w w' := by
  have HRUN : Hid (∀ (ρ : Operand → Value) (o : Oper), o.op = .alloc 48 → (execOp ρ o).run Try.prog w = .ok (.value (.pointer (some ⟨w.heap.size, 0, none⟩))) (w.alloc (.cells (wordsV zer).toArray 48))) := fun ρ o ho => run_new_words w ρ o ho
  have HB := Lib.hid ((Below.refl w.heap.size w).alloc (Nat.le_refl _) (.cells (wordsV zer).toArray 48))
  have HN : Hid (Blk (w.alloc (.cells (wordsV zer).toArray 48)) w.heap.size 48 (wordsV zer)) := Blk.new w _ _
  have HF := Lib.hid (h.below HB.out h.1.lt)
  have HL := Lib.hid h.2.1.len
  clear h
  go_enter Try.func27, Try.ntmps27
  generalize hQQ : bodyPost _ _ _ = QQ
  have HQQ := Lib.hid hQQ
  clear hQQ
  go_upto_region 0 with fail
  refine wp_region_lit ?_
  refine Great.wpList_allocTo rfl (some 2) rfl (.pointer (some ⟨w.heap.size, 0, none⟩)) (.cells (wordsV zer).toArray 48) (HRUN.out _ _ rfl) ?_
  generalize hW : w.alloc (.cells (wordsV zer).toArray 48) = W at HB HN HF ⊢
  clear HRUN hW
  go_upto_region 3 with (go_at_call 29; refine (made_is b true W HF.out.cell0).mono ?_; rintro e w' ⟨rfl, rfl⟩)
  refine wp_region_lit ?_
  refine Great.wpList_readTo rfl _ rfl (.pointer (some ⟨b, 0, none⟩)) (by kernel_rfl) ?_
  refine Great.wpList_readTo rfl _ rfl (.pointer (some ⟨b, 0, none⟩)) (by kernel_rfl) ?_
  refine Great.wpList_readTo rfl _ rfl (.pointer (some ⟨b, 2, none⟩)) (by kernel_rfl) ?_
  refine Great.wpList_readTo rfl _ rfl (arrV R) (exec_load_blk HF.out.1 2 48 _ rfl (by kernel_rfl) (wordsV R) (fCells_words i R) _ Try.underlying48 rfl (size_words R HL.out)) ?_
  refine wpList_store_rowTo rfl 48 _ _ rfl rfl w.heap.size (wordsV R).toArray (by kernel_rfl) (by kernel_rfl) 48 (wordsV zer).toArray HN.out (by rw [size_words R HL.out]; simp) (by simp [wordsV, HL.out, zer]) (by simpa using one_words R) ?_
  have HB2 := Lib.hid (below_setRow HB.out (Nat.le_refl _) (wordsV R).toArray)
  have HN2 := Lib.hid (HN.out.row (wordsV R))
  generalize hW2 : W.setRow w.heap.size (wordsV R).toArray = W2 at HB2 HN2 ⊢
  clear hW2
  go_wp2
  rw [← HQQ.out]
  exact bodyPost_ret (v := arrV R) (results_cell_row Try.results27 _ _ _ _ _ _ _ rfl HN2.out Try.underlying48 rfl (by rw [size_words R HL.out]; simp)) rfl ⟨rfl, HB2.out⟩

/-- of what no call made: each method by isMade's no -/
def NotMade (a : Option Addr) (w : World) : Prop := Calls Try.prog 29 #[.pointer a] w fun e w' => e = .returned (.bool false) ∧ w = w'
theorem all_zero (a : Option Addr) (w : World) (h : ∀ W, Below w.heap.size w W → NotMade a W) : Calls Try.prog 27 #[.pointer a] w fun e w' => e = .returned (arrV zer) ∧ Below w.heap.size w w' := by
  have HRUN : Hid (∀ (ρ : Operand → Value) (o : Oper), o.op = .alloc 48 → (execOp ρ o).run Try.prog w = .ok (.value (.pointer (some ⟨w.heap.size, 0, none⟩))) (w.alloc (.cells (wordsV zer).toArray 48))) := fun ρ o ho => run_new_words w ρ o ho
  have HB := Lib.hid ((Below.refl w.heap.size w).alloc (Nat.le_refl _) (.cells (wordsV zer).toArray 48))
  have HN : Hid (Blk (w.alloc (.cells (wordsV zer).toArray 48)) w.heap.size 48 (wordsV zer)) := Blk.new w _ _
  have H := Lib.hid (h _ HB.out)
  clear h
  go_enter Try.func27, Try.ntmps27
  generalize hQQ : bodyPost _ _ _ = QQ
  have HQQ := Lib.hid hQQ
  clear hQQ
  go_upto_region 0 with fail
  refine wp_region_lit ?_
  refine Great.wpList_allocTo rfl (some 2) rfl (.pointer (some ⟨w.heap.size, 0, none⟩)) (.cells (wordsV zer).toArray 48) (HRUN.out _ _ rfl) ?_
  generalize hW : w.alloc (.cells (wordsV zer).toArray 48) = W at HB HN H ⊢
  clear HRUN hW
  go_upto_region 2 with (go_at_call 29; refine H.out.mono ?_; rintro e w' ⟨rfl, rfl⟩)
  refine wp_region_lit ?_
  refine Great.wpList_readTo rfl _ rfl (arrV zer) (by kernel_rfl) ?_
  refine wpList_store_rowTo rfl 48 _ _ rfl rfl w.heap.size (wordsV zer).toArray (by kernel_rfl) (by kernel_rfl) 48 (wordsV zer).toArray HN.out (by kernel_rfl) rfl (by kernel_rfl) ?_
  have HB2 := Lib.hid (below_setRow HB.out (Nat.le_refl _) (wordsV zer).toArray)
  have HN2 := Lib.hid (HN.out.row (wordsV zer))
  generalize hW2 : W.setRow w.heap.size (wordsV zer).toArray = W2 at HB2 HN2 ⊢
  clear hW2
  go_wp2
  rw [← HQQ.out]
  exact bodyPost_ret (v := arrV zer) (results_cell_row Try.results27 _ _ _ _ _ _ _ rfl HN2.out Try.underlying48 rfl (by kernel_rfl)) rfl ⟨rfl, HB2.out⟩

/-- how addresses are meant, as a value -/
def modeL (on : Bool) (root : Nat) (user : Bool) : List Value := [.bool on, .int .i64 (root : Int), .bool user]
def mV (on : Bool) (root : Nat) (user : Bool) : Value := .agg (modeL on root user).toArray
def modeV (R : List Nat) : Value := mV (hasB (R.getD 0 0) 1) (rootN (R.getD 0 0)) (!hasB (st R) 4)
theorem run_new_mode (w : World) (ρ : Operand → Value) (o : Oper) (ho : o.op = .alloc 46) : (execOp ρ o).run Try.prog w = .ok (.value (.pointer (some ⟨w.heap.size, 0, none⟩))) (w.alloc (.cells (modeL false 0 false).toArray 46)) := by
  unfold execOp
  rw [ho]
  kernel_rfl
theorem one_mode (on : Bool) (root : Nat) (user : Bool) : ∀ v ∈ modeL on root user, v.oneCell' = true := fun v hv => by
  simp [modeL] at hv
  rcases hv with rfl | rfl | rfl <;> rfl
theorem size_mode : (Try.prog.info? 46).map (·.size) = some 3 := by kernel_rfl

theorem mode_any (b i : Nat) (R : List Nat) (w : World) (h : FAt w b i R) :
    Calls Try.prog 21 #[.pointer (some ⟨b, 0, none⟩)] w fun e w' => e = .returned (modeV R) ∧ Below w.heap.size w w' := by
  have HRUN : Hid (∀ (ρ : Operand → Value) (o : Oper), o.op = .alloc 46 → (execOp ρ o).run Try.prog w = .ok (.value (.pointer (some ⟨w.heap.size, 0, none⟩))) (w.alloc (.cells (modeL false 0 false).toArray 46))) := fun ρ o ho => run_new_mode w ρ o ho
  have HB := Lib.hid ((Below.refl w.heap.size w).alloc (Nat.le_refl _) (.cells (modeL false 0 false).toArray 46))
  have HN : Hid (Blk (w.alloc (.cells (modeL false 0 false).toArray 46)) w.heap.size 46 (modeL false 0 false)) := Blk.new w _ _
  have HF := Lib.hid (h.below HB.out h.1.lt)
  obtain ⟨q, hq⟩ : ∃ q, hasB (st R) 4 = q := ⟨_, rfl⟩
  have A1 := is_at b i 4 R q hq (by decide)
  have c0 := HF.out.reg 0 (by decide)
  have hlt := HF.out.1.lt
  have hwd := h.2.1.reg 0
  have HA : Hid (modeV R = mV (hasB (R.getD 0 0) 1) (rootN (R.getD 0 0)) (!q)) := by rw [← hq]; exact Lib.hid rfl
  generalize modeV R = mR at HA ⊢
  clear h hq
  generalize R.getD 0 0 = a at c0 HA hwd
  have q1 := u32_and_nat a 1 hwd (by decide)
  have q3 := u32_and_nat a 7936 hwd (by decide)
  have q2 : (((a &&& 1 : Nat) : Int) != 0) = hasB a 1 := bne_cast _
  have q4 : (a &&& 7936) / 256 = rootN a := root_is a
  have hb2 : a &&& 7936 < 4294967296 := Nat.lt_of_le_of_lt Nat.and_le_left hwd
  generalize hasB a 1 = on at q2 HA
  generalize rootN a = root at q4 HA
  generalize a &&& 1 = a1 at q1 q2
  generalize a &&& 7936 = a2 at q3 q4 hb2
  clear hwd
  have K1 : Hid ((bits .and .u32 (a : Int) 1 != 0) = on) := Lib.hid (by rw [show (1 : Int) = ((1 : Nat) : Int) from rfl, q1, q2])
  have K2 : Hid (wrap64 (bits .and .u32 (a : Int) 7936 / 256) = (root : Int)) := Lib.hid (by
    rw [show (7936 : Int) = ((7936 : Nat) : Int) from rfl, q3, ← q4]
    unfold wrap64
    omega)
  clear q1 q2 q3 q4 hb2
  go_enter Try.func21, Try.ntmps21
  generalize hQQ : bodyPost _ _ _ = QQ
  have HQQ := Lib.hid hQQ
  clear hQQ
  go_upto_region 0 with fail
  refine wp_region_lit ?_
  refine Great.wpList_allocTo rfl (some 2) rfl (.pointer (some ⟨w.heap.size, 0, none⟩)) (.cells (modeL false 0 false).toArray 46) (HRUN.out _ _ rfl) ?_
  generalize hW : w.alloc (.cells (modeL false 0 false).toArray 46) = W at HB HN HF c0 hlt ⊢
  clear HRUN hW
  go_upto_region 3 with (go_at_call 29; refine (made_is b true W HF.out.cell0).mono ?_; rintro e w' ⟨rfl, rfl⟩)
  apply wp_region_autoL [9, 10, 11, 12, 13, 14, 15, 3] [_, _, _, _, _, _, _, _] (fun L W' => Below W.heap.size W W' ∧ cond (L 6) (Var W' W.heap.size b) (W'.heap.size = W.heap.size))
  case hm => kernel_rfl
  case hT => intro y; simp only [setAll, List.setIfInBounds_toArray, List.set_cons_succ, List.set_cons_zero]; exact rfl
  case hok => kernel_rfl
  case hn => decide
  case hw => exact fun L hL => (by simp only [hL 6 (by decide)]; exact ⟨(Below.refl _ _).drew, rfl⟩)
  case hs =>
    refine autoL_op 9 [] (by kernel_rfl) (fun L y w' hL HW hd K hK => ?_) ?_
    · go_simp
      refine hK _ _ ?_ ?_ HW
      · simp [upd]
      · exact rfl
    refine autoL_op 10 [0] (by kernel_rfl) (fun L y w' hL HW hd K hK => ?_) ?_
    · have e0 := hd_nth (hd 0 (by simp)) rfl
      go_simp
      refine hK _ _ ?_ ?_ HW
      · simp [upd, e0]
      · exact rfl
    refine autoL_op 11 [1] (by kernel_rfl) (fun L y w' hL HW hd K hK => ?_) ?_
    · have e1 := hd_nth (hd 1 (by simp)) rfl
      go_simp
      refine hK _ _ ?_ ?_ HW
      · simp [upd, e1]
      · exact rfl
    refine autoL_op 12 [2] (by kernel_rfl) (fun L y w' hL HW hd K hK => ?_) ?_
    · have e2 := hd_nth (hd 2 (by simp)) rfl
      go_simp
      refine hK _ _ ?_ ?_ HW
      · simp [upd, e2]
      · exact rfl
    refine autoL_op 13 [3] (by kernel_rfl) (fun L y w' hL HW hd K hK => ?_) ?_
    · have e3 := hd_nth (hd 3 (by simp)) rfl
      have hcl : ∀ p : Addr, p.block < W.heap.size → w'.cell? p = W.cell? p := fun p hp => HW.1.cell hp
      go_simp
      refine hK _ _ ?_ ?_ HW
      · simp [upd, e3]
      · exact rfl
    refine autoL_op 14 [] (by kernel_rfl) (fun L y w' hL HW hd K hK => ?_) ?_
    · go_simp
      refine hK _ _ ?_ ?_ HW
      · simp [upd]
      · exact rfl
    refine autoL_op 15 [5] (by kernel_rfl) (fun L y w' hL HW hd K hK => ?_) ?_
    · have e5 := hd_nth (hd 5 (by simp)) rfl
      go_simp
      have HW0 : w'.heap.size = W.heap.size := by have h := HW.2; simp only [hL] at h; exact h
      have hA := asker_any b i R w' (HF.out.below HW.1 hlt)
      rw [HW0] at hA
      refine hA.mono ?_
      rintro e w3 ⟨rfl, hV3, hb3⟩
      refine hK _ _ ?_ ?_ ⟨HW.1.trans hb3, hV3⟩
      · simp [upd, e5]
      · exact rfl
    refine autoL_op 3 [4, 6, 0, 1, 2, 3, 4] (by kernel_rfl) (fun L y w' hL HW hd K hK => ?_) ?_
    · have e0 := hd_nth (hd 0 (by simp)) rfl
      have e1 := hd_nth (hd 1 (by simp)) rfl
      have e2 := hd_nth (hd 2 (by simp)) rfl
      have e3 := hd_nth (hd 3 (by simp)) rfl
      have e4 := hd_nth (hd 4 (by simp)) rfl
      have e6 := hd_nth (hd 6 (by simp)) rfl
      go_simp
      refine hK _ _ ?_ ?_ HW
      · simp [upd, e0, e1, e2, e3, e4, e6]
      · exact rfl
    refine autoL_last fun L y w' hLs HW hd K hK => ?_
    have e0 := hd_nth (hd 0 (by omega)) rfl
    have e1 := hd_nth (hd 1 (by omega)) rfl
    have e2 := hd_nth (hd 2 (by omega)) rfl
    have e3 := hd_nth (hd 3 (by omega)) rfl
    have e4 := hd_nth (hd 4 (by omega)) rfl
    have e5 := hd_nth (hd 5 (by omega)) rfl
    have e6 := hd_nth (hd 6 (by omega)) rfl
    have e7 := hd_nth (hd 7 (by omega)) rfl
    have HWF := Lib.hid (show Below W.heap.size W w' ∧ Var w' W.heap.size b by have h := HW; simp only [hLs 6 (by omega)] at h; exact h)
    go_simp
    refine hK _ _ ?_
    clear hd hK K e0 e1 e2 e3 e4 e5 e6 e7
    clear hLs HW c0
    go_wp2_with fail
    refine (A1.out w' W.heap.size (HF.out.below HWF.out.1 hlt) HWF.out.2).mono ?_
    rintro e w3 ⟨rfl, rfl⟩
    have HN1 := Lib.hid (HN.out.below HWF.out.1 HN.out.lt)
    have HB1 := Lib.hid (HB.out.trans (HWF.out.1.mono HB.out.size))
    clear HWF HN
    go_simp
    rename_i hK
    refine hK _ _ ?_
    clear hK
    rw [K1.out, K2.out]
    refine Great.wpList_readTo rfl _ rfl (.bool (!q)) (by kernel_rfl) ?_
    refine Great.wpList_readTo rfl _ rfl (mV on root (!q)) (by kernel_rfl) ?_
    refine wpList_store_rowTo rfl 46 _ _ rfl rfl w.heap.size (modeL on root (!q)).toArray (by kernel_rfl) (by kernel_rfl) 46 (modeL false 0 false).toArray HN1.out (by rw [size_mode]; rfl) rfl (by simpa using one_mode on root (!q)) ?_
    have HB2 := Lib.hid (below_setRow HB1.out (Nat.le_refl _) (modeL on root (!q)).toArray)
    have HN2 := Lib.hid (HN1.out.row (modeL on root (!q)))
    generalize hW2 : w'.setRow w.heap.size (modeL on root (!q)).toArray = W2 at HB2 HN2 ⊢
    clear hW2
    go_wp2
    rw [← HQQ.out]
    rw [HA.out]
    exact bodyPost_ret (v := mV on root (!q)) (results_cell_row Try.results21 _ _ _ _ _ _ _ rfl HN2.out Try.underlying46 rfl (by rw [size_mode]; rfl)) rfl ⟨rfl, HB2.out⟩

theorem mode_zero (a : Option Addr) (w : World) (h : ∀ W, Below w.heap.size w W → NotMade a W) : Calls Try.prog 21 #[.pointer a] w fun e w' => e = .returned (mV false 0 false) ∧ Below w.heap.size w w' := by
  have HRUN : Hid (∀ (ρ : Operand → Value) (o : Oper), o.op = .alloc 46 → (execOp ρ o).run Try.prog w = .ok (.value (.pointer (some ⟨w.heap.size, 0, none⟩))) (w.alloc (.cells (modeL false 0 false).toArray 46))) := fun ρ o ho => run_new_mode w ρ o ho
  have HB := Lib.hid ((Below.refl w.heap.size w).alloc (Nat.le_refl _) (.cells (modeL false 0 false).toArray 46))
  have HN : Hid (Blk (w.alloc (.cells (modeL false 0 false).toArray 46)) w.heap.size 46 (modeL false 0 false)) := Blk.new w _ _
  have H := Lib.hid (h _ HB.out)
  clear h
  go_enter Try.func21, Try.ntmps21
  generalize hQQ : bodyPost _ _ _ = QQ
  have HQQ := Lib.hid hQQ
  clear hQQ
  go_upto_region 0 with fail
  refine wp_region_lit ?_
  refine Great.wpList_allocTo rfl (some 2) rfl (.pointer (some ⟨w.heap.size, 0, none⟩)) (.cells (modeL false 0 false).toArray 46) (HRUN.out _ _ rfl) ?_
  generalize hW : w.alloc (.cells (modeL false 0 false).toArray 46) = W at HB HN H ⊢
  clear HRUN hW
  go_upto_region 2 with (go_at_call 29; refine H.out.mono ?_; rintro e w' ⟨rfl, rfl⟩)
  refine wp_region_lit ?_
  refine Great.wpList_readTo rfl _ rfl (mV false 0 false) (by kernel_rfl) ?_
  refine wpList_store_rowTo rfl 46 _ _ rfl rfl w.heap.size (modeL false 0 false).toArray (by kernel_rfl) (by kernel_rfl) 46 (modeL false 0 false).toArray HN.out (by kernel_rfl) rfl (by kernel_rfl) ?_
  have HB2 := Lib.hid (below_setRow HB.out (Nat.le_refl _) (modeL false 0 false).toArray)
  have HN2 := Lib.hid (HN.out.row (modeL false 0 false))
  generalize hW2 : W.setRow w.heap.size (modeL false 0 false).toArray = W2 at HB2 HN2 ⊢
  clear hW2
  go_wp2
  rw [← HQQ.out]
  exact bodyPost_ret (v := mV false 0 false) (results_cell_row Try.results21 _ _ _ _ _ _ _ rfl HN2.out Try.underlying46 rfl (by kernel_rfl)) rfl ⟨rfl, HB2.out⟩

theorem refusal_zero (a : Option Addr) (n c : Int) (w : World) (h : NotMade a w) : Calls Try.prog 34 #[.pointer a, .int .i64 n, .int .i64 c] w fun e w' => e = .returned (.int .i64 7) ∧ w = w' := by
  go_enter Try.func34, Try.ntmps34
  go_wp2_with (go_at_call 29; refine h.mono ?_; rintro e w' ⟨rfl, rfl⟩)
  go_ret
  exact ⟨rfl, rfl⟩
theorem read_zero (a : Option Addr) (n clock : Int) (w : World) (h : NotMade a w) : Calls Try.prog 19 #[.pointer a, .int .i64 n, .int .i64 clock] w fun e w' => e = .returned (.tuple #[.int .u32 0, .int .i64 7]) ∧ w = w' := by
  go_enter Try.func19, Try.ntmps19
  go_wp2_with (go_at_call 34; refine (refusal_zero a n 9 w h).mono ?_; rintro e w' ⟨rfl, rfl⟩)
  go_ret2
  exact ⟨rfl, rfl⟩
theorem write_zero (a : Option Addr) (n v : Int) (w : World) (h : NotMade a w) : Calls Try.prog 17 #[.pointer a, .int .i64 n, .int .u32 v] w fun e w' => e = .returned (.int .i64 7) ∧ w = w' := by
  go_enter Try.func17, Try.ntmps17
  go_wp2_with (go_at_call 34; refine (refusal_zero a n 7 w h).mono ?_; rintro e w' ⟨rfl, rfl⟩)
  go_ret
  exact ⟨rfl, rfl⟩
theorem enter_zero (a : Option Addr) (x y z : Int) (w : World) (h : NotMade a w) : Calls Try.prog 11 #[.pointer a, .int .u32 x, .int .u32 y, .int .u32 z] w fun e w' => e = .returned (.tuple #[.int .u32 0, .int .i64 7]) ∧ w = w' := by
  go_enter Try.func11, Try.ntmps11
  go_wp2_with (go_at_call 29; refine h.mono ?_; rintro e w' ⟨rfl, rfl⟩)
  go_ret2
  exact ⟨rfl, rfl⟩
theorem leave_zero (a : Option Addr) (w : World) (h : NotMade a w) : Calls Try.prog 13 #[.pointer a] w fun e w' => e = .returned (.tuple #[.int .u32 0, .int .i64 7]) ∧ w = w' := by
  go_enter Try.func13, Try.ntmps13
  go_wp2_with (go_at_call 29; refine h.mono ?_; rintro e w' ⟨rfl, rfl⟩)
  go_ret2
  exact ⟨rfl, rfl⟩
theorem reset_zero (a : Option Addr) (w : World) (h : NotMade a w) : Calls Try.prog 16 #[.pointer a] w fun e w' => e = .returned (.int .i64 7) ∧ w = w' := by
  go_enter Try.func16, Try.ntmps16
  go_wp2_with (go_at_call 29; refine h.mono ?_; rintro e w' ⟨rfl, rfl⟩)
  go_ret
  exact ⟨rfl, rfl⟩
theorem handles_zero (a : Option Addr) (w : World) (h : NotMade a w) : Calls Try.prog 25 #[.pointer a] w fun e w' => e = .returned (.bool false) ∧ w = w' := by
  go_enter Try.func25, Try.ntmps25
  go_wp2_with (go_at_call 29; refine h.mono ?_; rintro e w' ⟨rfl, rfl⟩)
  go_ret
  exact ⟨rfl, rfl⟩
theorem open_zero (a : Option Addr) (w : World) (h : NotMade a w) : Calls Try.prog 23 #[.pointer a] w fun e w' => e = .returned (.bool false) ∧ w = w' := by
  go_enter Try.func23, Try.ntmps23
  go_wp2_with (go_at_call 25; refine (handles_zero a w h).mono ?_; rintro e w' ⟨rfl, rfl⟩)
  go_ret
  exact ⟨rfl, rfl⟩

/-- the methods with their answers named -/
theorem write_at (b i : Nat) (n : Int) (v : Nat) (R : List Nat) (z : Int) (Q : List Nat) (hz : errZ R n 7 = z) (hQ : wrR R n v = Q) (hv : v < 4294967296) : Hid (∀ W, FAt W b i R → Calls Try.prog 17 #[.pointer (some ⟨b, 0, none⟩), .int .i64 n, .int .u32 (v : Int)] W fun e w' => e = .returned (.int .i64 z) ∧ FAt w' b i Q ∧ W.grownBy w' (some b)) := Lib.hid fun W h => by
  rw [← hz, ← hQ]
  exact write_any b i n v R W h hv
theorem read_at (b i : Nat) (n clock : Int) (R : List Nat) (x z : Int) (hx : rdZ R i n clock = x) (hz : errZ R n 9 = z) : Hid (∀ W, FAt W b i R → Calls Try.prog 19 #[.pointer (some ⟨b, 0, none⟩), .int .i64 n, .int .i64 clock] W fun e w' => e = .returned (.tuple #[.int .u32 x, .int .i64 z]) ∧ Below W.heap.size W w') := Lib.hid fun W h => by
  rw [← hz, ← hx]
  exact read_any b i n clock R W h
theorem enter_at (b i pc cause tval : Nat) (R : List Nat) (x : Nat) (Q : List Nat) (hx : R.getD 1 0 = x) (hQ : entR R pc cause tval = Q) (h1 : pc < 4294967296) (h2 : cause < 4294967296) (h3 : tval < 4294967296) : Hid (∀ W, FAt W b i R → Calls Try.prog 11 #[.pointer (some ⟨b, 0, none⟩), .int .u32 (pc : Int), .int .u32 (cause : Int), .int .u32 (tval : Int)] W fun e w' => e = .returned (.tuple #[.int .u32 (x : Int), .int .i64 0]) ∧ FAt w' b i Q ∧ W.grownBy w' (some b)) := Lib.hid fun W h => by
  rw [← hx, ← hQ]
  exact enter_any b i pc cause tval R W h h1 h2 h3
theorem leave_at (b i : Nat) (R : List Nat) (x : Nat) (Q : List Nat) (hx : R.getD 2 0 = x) (hQ : lvR R = Q) : Hid (∀ W, FAt W b i R → Calls Try.prog 13 #[.pointer (some ⟨b, 0, none⟩)] W fun e w' => e = .returned (.tuple #[.int .u32 (x : Int), .int .i64 0]) ∧ FAt w' b i Q ∧ W.grownBy w' (some b)) := Lib.hid fun W h => by
  rw [← hx, ← hQ]
  exact leave_any b i R W h
theorem mode_at (b i : Nat) (R : List Nat) (V : Value) (hV : modeV R = V) : Hid (∀ W, FAt W b i R → Calls Try.prog 21 #[.pointer (some ⟨b, 0, none⟩)] W fun e w' => e = .returned V ∧ Below W.heap.size W w') := Lib.hid fun W h => by
  rw [← hV]
  exact mode_any b i R W h
theorem open_at (b i : Nat) (R : List Nat) (q : Bool) (hq : opnB R = q) : Hid (∀ W, FAt W b i R → Calls Try.prog 23 #[.pointer (some ⟨b, 0, none⟩)] W fun e w' => e = .returned (.bool q) ∧ Below W.heap.size W w') := Lib.hid fun W h => by
  rw [← hq]
  exact open_any b i R W h
theorem handles_at (b i : Nat) (R : List Nat) (q : Bool) (hq : hndB R = q) : Hid (∀ W, FAt W b i R → Calls Try.prog 25 #[.pointer (some ⟨b, 0, none⟩)] W fun e w' => e = .returned (.bool q) ∧ W = w') := Lib.hid fun W h => by
  rw [← hq]
  exact handles_any b i R W h
theorem all_at (b i : Nat) (R : List Nat) (V : Value) (hV : arrV R = V) : Hid (∀ W, FAt W b i R → Calls Try.prog 27 #[.pointer (some ⟨b, 0, none⟩)] W fun e w' => e = .returned V ∧ Below W.heap.size W w') := Lib.hid fun W h => by
  rw [← hV]
  exact all_any b i R W h

theorem awake_any (w : World) : Calls Try.prog 10 #[] w fun e w' => e = .returned (.bool true) ∧ Below w.heap.size w w' := by
  obtain ⟨R1, h1⟩ : ∃ Q, wrR ini 1 64 = Q := ⟨_, rfl⟩
  obtain ⟨R2, h2⟩ : ∃ Q, entR R1 8 1 0 = Q := ⟨_, rfl⟩
  obtain ⟨R3, h3⟩ : ∃ Q, lvR R2 = Q := ⟨_, rfl⟩
  have A1 := write_at w.heap.size 1 1 64 ini 0 R1 rfl h1 (by decide)
  have A2 := enter_at w.heap.size 1 8 1 0 R1 64 R2 (by rw [← h1]; decide) h2 (by decide) (by decide) (by decide)
  have A3 := leave_at w.heap.size 1 R2 8 R3 (by rw [← h2, ← h1]; decide) h3
  clear h1 h2 h3
  go_enter Try.func10, Try.ntmps10
  go_wp2_with fail
  refine (new_yes 1 w (by decide)).mono ?_
  rintro e w1 ⟨rfl, hF, hb⟩
  have HF1 := Lib.hid hF
  have HB1 := Lib.hid hb
  clear hF hb
  go_wp2_with fail
  refine (A1.out w1 HF1.out).mono ?_
  rintro e w2 ⟨rfl, hF, hg⟩
  have HF2 := Lib.hid hF
  have HB2 := Lib.hid (below_of_grown HB1.out hg HB1.out.size (Nat.le_refl _))
  clear hF hg
  go_wp2_with fail
  refine (A2.out w2 HF2.out).mono ?_
  rintro e w3 ⟨rfl, hF, hg⟩
  have HF3 := Lib.hid hF
  have HB3 := Lib.hid (below_of_grown HB2.out hg HB2.out.size (Nat.le_refl _))
  clear hF hg
  go_wp2_with fail
  refine (A3.out w3 HF3.out).mono ?_
  rintro e w4 ⟨rfl, hF, hg⟩
  have HB4 := Lib.hid (below_of_grown HB3.out hg HB3.out.size (Nat.le_refl _))
  clear hF hg
  go_wp2
  go_ret
  exact ⟨rfl, HB4.out⟩
end Go.Proofs.Ytaokaaakofgdoaa.Cs
