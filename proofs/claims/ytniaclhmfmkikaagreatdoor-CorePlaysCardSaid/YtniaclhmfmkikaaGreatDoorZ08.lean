/- Several texts in one: Tc Td -/
import Derived.Test.YtniaclhmfmkikaaGreatDoorZ07
section
/- Package regs: the methods of a file that was made; the document's Get, Set. -/
namespace Go.Proofs.YtniaclhmfmkikaaGreatDoor.Rg
open Go.RowKit Ut
set_option maxRecDepth 100000
set_option linter.unusedVariables false

theorem errZ_no {i : Int} (h : i < 0 ∨ 16 ≤ i) : errZ i = 1 := if_neg (by omega)
theorem errZ_yes {i : Nat} (h : i < 16) : errZ i = 0 := if_pos (by omega)
theorem setR_no {R : List Int} {i v : Int} (h : i ≤ 0 ∨ 16 ≤ i) : setR R i v = R := if_neg (by omega)
theorem setR_yes {R : List Int} {i : Nat} {v : Int} (h0 : 0 < i) (h : i < 16) : setR R i v = R.set i v := if_pos (by omega)
theorem getR_no {R : List Int} {i : Int} (h : i < 0 ∨ 16 ≤ i) : getR R i = 0 := if_neg (by omega)
theorem getR_yes {R : List Int} {i : Nat} (h : i < 16) : getR R i = R.getD i 0 := if_pos (by omega)
theorem reg_cases (i : Int) : (i < 0 ∨ 16 ≤ i) ∨ i = 0 ∨ ∃ k : Nat, i = k ∧ 0 < k ∧ k < 16 := by
  by_cases h : i < 0 ∨ 16 ≤ i
  · exact .inl h
  · by_cases h0 : i = 0
    · exact .inr (.inl h0)
    · exact .inr (.inr ⟨i.toNat, by omega, by omega, by omega⟩)

theorem get_reg (b : Nat) (p i : Int) (R : List Int) (w : World) (h : FAt w b p R) :
    Calls Tryz.prog 77 #[.pointer (some ⟨b, 2, none⟩), .int .i64 i] w fun e w' => e = .returned (.tuple #[.int .u32 (getR R i), .int .i64 (errZ i)]) ∧ w = w' := by
  by_cases hi : i < 0 ∨ 16 ≤ i
  · rw [errZ_no hi, getR_no hi]
    go_enter Tryz.func77, Tryz.ntmps77
    go_wp2_with (go_at_call 78; refine (has_no _ i w hi).mono ?_; rintro e w' ⟨rfl, rfl⟩)
    go_ret2
    exact ⟨rfl, rfl⟩
  · obtain ⟨k, rfl, hk⟩ : ∃ k : Nat, i = k ∧ k < 16 := ⟨i.toNat, by omega, by omega⟩
    have hc := h.reg k hk
    rw [errZ_yes hk, getR_yes hk]
    generalize R.getD k 0 = z at hc ⊢
    clear hi h
    go_enter Tryz.func77, Tryz.ntmps77
    go_wp2_with (go_at_call 78; refine (has_yes _ k w hk).mono ?_; rintro e w' ⟨rfl, rfl⟩)
    go_ret2
    exact ⟨rfl, rfl⟩

theorem get_any (b : Nat) (p i : Int) (R : List Int) (w : World) (h : FAt w b p R) :
    Calls Tryz.prog 44 #[.pointer (some ⟨b, 0, none⟩), .int .i64 i] w fun e w' => e = .returned (.tuple #[.int .u32 (getR R i), .int .i64 (errZ i)]) ∧ w = w' := by
  have H := Lib.hid h
  clear h
  generalize hx : getR R i = x
  generalize hy : errZ i = y
  have HX := Lib.hid hx
  have HY := Lib.hid hy
  clear hx hy
  go_enter Tryz.func44, Tryz.ntmps44
  go_wp2_with (first | (go_at_call 40; refine (made_is b true w H.out.cell0).mono ?_; rintro e w' ⟨rfl, rfl⟩) | (go_at_call 77; refine (get_reg b p i R w H.out).mono ?_; rw [HX.out, HY.out]; rintro e w' ⟨rfl, rfl⟩))
  go_ret2
  exact ⟨rfl, rfl⟩

theorem set_reg (b : Nat) (p i v : Int) (R : List Int) (w : World) (h : FAt w b p R) :
    Calls Tryz.prog 49 #[.pointer (some ⟨b, 2, none⟩), .int .i64 i, .int .u32 v] w fun e w' => e = .returned (.int .i64 (errZ i)) ∧ FAt w' b p (setR R i v) ∧ w.grownBy w' (some b) := by
  rcases reg_cases i with hi | rfl | ⟨k, rfl, h0, hk⟩
  · rw [errZ_no hi, setR_no (by omega)]
    have H := Lib.hid h
    clear h
    go_enter Tryz.func49, Tryz.ntmps49
    go_wp2_with (go_at_call 78; refine (has_no _ i w hi).mono ?_; rintro e w' ⟨rfl, rfl⟩)
    go_ret
    exact ⟨rfl, H.out, World.grownBy.refl _ _⟩
  · rw [setR_no (by omega)]
    have H := Lib.hid h
    clear h
    go_enter Tryz.func49, Tryz.ntmps49
    go_wp2_with (go_at_call 78; refine (has_yes _ 0 w (by omega)).mono ?_; rintro e w' ⟨rfl, rfl⟩)
    go_ret
    exact ⟨rfl, H.out, World.grownBy.refl _ _⟩
  · rw [errZ_yes hk, setR_yes h0 hk]
    have hc := h.reg k hk
    have hf := h.1.frozen (2 + k)
    have hn : ((k : Int) != 0) = true := by simp; omega
    have H := Lib.hid (h.set k hk v)
    have G := Lib.hid (grown_setCell w b (2 + k) (.int .u32 v))
    clear h
    go_enter Tryz.func49, Tryz.ntmps49
    go_wp2_with (go_at_call 78; refine (has_yes _ k w hk).mono ?_; rintro e w' ⟨rfl, rfl⟩)
    go_ret
    exact ⟨rfl, H.out, G.out⟩

theorem set_any (b : Nat) (p i v : Int) (R : List Int) (w : World) (h : FAt w b p R) :
    Calls Tryz.prog 24 #[.pointer (some ⟨b, 0, none⟩), .int .i64 i, .int .u32 v] w fun e w' => e = .returned (.int .i64 (errZ i)) ∧ FAt w' b p (setR R i v) ∧ w.grownBy w' (some b) := by
  have H := Lib.hid h
  clear h
  generalize hx : setR R i v = x
  generalize hy : errZ i = y
  have HX := Lib.hid hx
  have HY := Lib.hid hy
  clear hx hy
  go_enter Tryz.func24, Tryz.ntmps24
  go_wp2_with (first | (go_at_call 40; refine (made_is b true w H.out.cell0).mono ?_; rintro e w' ⟨rfl, rfl⟩) | (go_at_call 49; refine (set_reg b p i v R w H.out).mono ?_; rw [HX.out, HY.out]; rintro e w' ⟨rfl, hF, hg⟩; have HF := Lib.hid hF; have HG := Lib.hid hg; clear hF hg))
  go_ret
  exact ⟨rfl, HF.out, HG.out⟩

theorem pc_any (b : Nat) (p : Int) (R : List Int) (w : World) (h : FAt w b p R) :
    Calls Tryz.prog 11 #[.pointer (some ⟨b, 0, none⟩)] w fun e w' => e = .returned (.int .u32 p) ∧ w = w' := by
  have h0 := h.cell0
  have h1 := h.cell1
  clear h
  go_enter Tryz.func11, Tryz.ntmps11
  go_wp2_with (go_at_call 40; refine (made_is b true w h0).mono ?_; rintro e w' ⟨rfl, rfl⟩)
  go_ret
  exact ⟨rfl, rfl⟩

theorem jump_any (b : Nat) (p q : Int) (R : List Int) (w : World) (h : FAt w b p R) :
    Calls Tryz.prog 15 #[.pointer (some ⟨b, 0, none⟩), .int .u32 q] w fun e w' => e = .returned (.int .i64 0) ∧ FAt w' b q R ∧ w.grownBy w' (some b) := by
  have h0 := h.cell0
  have h1 := h.cell1
  have hf := h.1.frozen 1
  have H := Lib.hid (h.jump q)
  have G := Lib.hid (grown_setCell w b 1 (.int .u32 q))
  clear h
  go_enter Tryz.func15, Tryz.ntmps15
  go_wp2_with (go_at_call 40; refine (made_is b true w h0).mono ?_; rintro e w' ⟨rfl, rfl⟩)
  go_ret
  exact ⟨rfl, H.out, G.out⟩

/-- an array of registers as a value -/
def arrV (R : List Int) : Value := .agg (wordsV R).toArray
theorem all_reg (b : Nat) (p : Int) (R : List Int) (w : World) (h : FAt w b p R) :
    Calls Tryz.prog 41 #[.pointer (some ⟨b, 2, none⟩)] w fun e w' => e = .returned (arrV R) ∧ Below w.heap.size w w' := by
  have HRUN : Hid (∀ (ρ : Operand → Value) (o : Oper), o.op = .alloc 40 → (execOp ρ o).run Tryz.prog w = .ok (.value (.pointer (some ⟨w.heap.size, 0, none⟩))) (w.alloc (.cells (wordsV zer).toArray 40))) := fun ρ o ho => by
    unfold execOp
    rw [ho]
    kernel_rfl
  have HB := Lib.hid ((Below.refl w.heap.size w).alloc (Nat.le_refl _) (.cells (wordsV zer).toArray 40))
  have HN : Hid (Blk (w.alloc (.cells (wordsV zer).toArray 40)) w.heap.size 40 (wordsV zer)) := Blk.new w _ _
  have HF := Lib.hid (h.below HB.out h.1.lt)
  have HL := Lib.hid h.2
  clear h
  go_enter Tryz.func41, Tryz.ntmps41
  generalize hQQ : bodyPost _ _ _ = QQ
  have HQQ := Lib.hid hQQ
  clear hQQ
  go_upto_region 0 with fail
  refine wp_region_lit ?_
  refine Great.wpList_allocTo rfl (some 2) rfl (.pointer (some ⟨w.heap.size, 0, none⟩)) (.cells (wordsV zer).toArray 40) (HRUN.out _ _ rfl) ?_
  generalize hW : w.alloc (.cells (wordsV zer).toArray 40) = W at HB HN HF ⊢
  clear HRUN hW
  go_upto_region 1 with fail
  refine wp_region_lit ?_
  refine Great.wpList_readTo rfl _ rfl (.pointer (some ⟨b, 2, none⟩)) (by kernel_rfl) ?_
  refine Great.wpList_readTo rfl _ rfl (.pointer (some ⟨b, 2, none⟩)) (by kernel_rfl) ?_
  refine Great.wpList_readTo rfl _ rfl (arrV R) (exec_load_blk HF.out.1 2 82 _ rfl (by kernel_rfl) (wordsV R) (fCells_words p R) _ Tryz.underlying82 rfl (size_words' R HL.out)) ?_
  refine wpList_store_rowTo rfl 40 _ _ rfl rfl w.heap.size (wordsV R).toArray (by kernel_rfl) (by kernel_rfl) 40 (wordsV zer).toArray HN.out (by rw [size_words R HL.out]; simp) (by simp [wordsV, HL.out, zer]) (by simpa using one_words R) ?_
  have HB2 := Lib.hid (below_setRow HB.out (Nat.le_refl _) (wordsV R).toArray)
  have HN2 := Lib.hid (HN.out.row (wordsV R))
  generalize hW2 : W.setRow w.heap.size (wordsV R).toArray = W2 at HB2 HN2 ⊢
  clear hW2
  go_wp2
  rw [← HQQ.out]
  exact bodyPost_ret (v := arrV R) (results_cell_row Tryz.results41 _ _ _ _ _ _ _ rfl HN2.out Tryz.underlying40 rfl (by rw [size_words R HL.out]; simp)) rfl ⟨rfl, HB2.out⟩
end Go.Proofs.YtniaclhmfmkikaaGreatDoor.Rg
end
section
/- Package regs: All and Clear; the document's Get, Set; awake. -/
namespace Go.Proofs.YtniaclhmfmkikaaGreatDoor.Rg
open Go.RowKit Ut
set_option maxRecDepth 100000
set_option linter.unusedVariables false

theorem run_new_words (w : World) (ρ : Operand → Value) (o : Oper) (ho : o.op = .alloc 40) : (execOp ρ o).run Tryz.prog w = .ok (.value (.pointer (some ⟨w.heap.size, 0, none⟩))) (w.alloc (.cells (wordsV zer).toArray 40)) := by
  unfold execOp
  rw [ho]
  kernel_rfl
theorem run_zero_words (w : World) : (Instr.build 40 #[]).run Tryz.prog w = .ok (arrV zer) w := by kernel_rfl

theorem all_any (b : Nat) (p : Int) (R : List Int) (w : World) (h : FAt w b p R) :
    Calls Tryz.prog 10 #[.pointer (some ⟨b, 0, none⟩)] w fun e w' => e = .returned (arrV R) ∧ Below w.heap.size w w' := by
  have HRUN : Hid (∀ (ρ : Operand → Value) (o : Oper), o.op = .alloc 40 → (execOp ρ o).run Tryz.prog w = .ok (.value (.pointer (some ⟨w.heap.size, 0, none⟩))) (w.alloc (.cells (wordsV zer).toArray 40))) := fun ρ o ho => run_new_words w ρ o ho
  have HB := Lib.hid ((Below.refl w.heap.size w).alloc (Nat.le_refl _) (.cells (wordsV zer).toArray 40))
  have HN : Hid (Blk (w.alloc (.cells (wordsV zer).toArray 40)) w.heap.size 40 (wordsV zer)) := Blk.new w _ _
  have HF := Lib.hid (h.below HB.out h.1.lt)
  have HL := Lib.hid h.2
  clear h
  go_enter Tryz.func10, Tryz.ntmps10
  generalize hQQ : bodyPost _ _ _ = QQ
  have HQQ := Lib.hid hQQ
  clear hQQ
  go_upto_region 0 with fail
  refine wp_region_lit ?_
  refine Great.wpList_allocTo rfl (some 2) rfl (.pointer (some ⟨w.heap.size, 0, none⟩)) (.cells (wordsV zer).toArray 40) (HRUN.out _ _ rfl) ?_
  generalize hW : w.alloc (.cells (wordsV zer).toArray 40) = W at HB HN HF ⊢
  clear HRUN hW
  go_wp2_with fail
  refine (made_is b true W HF.out.cell0).mono ?_
  rintro e w' ⟨rfl, rfl⟩
  go_wp2_with fail
  refine (all_reg b p R W HF.out).mono ?_
  rintro e w' ⟨rfl, hb⟩
  have HNW := Lib.hid (HN.out.below hb HN.out.lt)
  have HBW := Lib.hid (HB.out.trans (hb.mono HB.out.size))
  clear hb
  go_simp
  rename_i hK
  refine hK _ _ ?_
  clear hK
  refine wpList_store_rowTo rfl 40 _ _ rfl rfl w.heap.size (wordsV R).toArray (by kernel_rfl) (by kernel_rfl) 40 (wordsV zer).toArray HNW.out (by rw [size_words R HL.out]; simp) (by simp [wordsV, HL.out, zer]) (by simpa using one_words R) ?_
  have HB2 := Lib.hid (below_setRow HBW.out (Nat.le_refl _) (wordsV R).toArray)
  have HN2 := Lib.hid (HNW.out.row (wordsV R))
  generalize hW2 : w'.setRow w.heap.size (wordsV R).toArray = W2 at HB2 HN2 ⊢
  clear hW2
  go_wp2
  rw [← HQQ.out]
  exact bodyPost_ret (v := arrV R) (results_cell_row Tryz.results10 _ _ _ _ _ _ _ rfl HN2.out Tryz.underlying40 rfl (by rw [size_words R HL.out]; simp)) rfl ⟨rfl, HB2.out⟩

/-- what no call made has nothing -/
theorem all_zero (a : Option Addr) (w : World) (h : ∀ W, Below w.heap.size w W → NotMade a W) : Calls Tryz.prog 10 #[.pointer a] w fun e w' => e = .returned (arrV zer) ∧ Below w.heap.size w w' := by
  have HRUN : Hid (∀ (ρ : Operand → Value) (o : Oper), o.op = .alloc 40 → (execOp ρ o).run Tryz.prog w = .ok (.value (.pointer (some ⟨w.heap.size, 0, none⟩))) (w.alloc (.cells (wordsV zer).toArray 40))) := fun ρ o ho => run_new_words w ρ o ho
  have HB := Lib.hid ((Below.refl w.heap.size w).alloc (Nat.le_refl _) (.cells (wordsV zer).toArray 40))
  have HN : Hid (Blk (w.alloc (.cells (wordsV zer).toArray 40)) w.heap.size 40 (wordsV zer)) := Blk.new w _ _
  have H := Lib.hid (h _ HB.out)
  clear h
  go_enter Tryz.func10, Tryz.ntmps10
  generalize hQQ : bodyPost _ _ _ = QQ
  have HQQ := Lib.hid hQQ
  clear hQQ
  go_upto_region 0 with fail
  refine wp_region_lit ?_
  refine Great.wpList_allocTo rfl (some 2) rfl (.pointer (some ⟨w.heap.size, 0, none⟩)) (.cells (wordsV zer).toArray 40) (HRUN.out _ _ rfl) ?_
  generalize hW : w.alloc (.cells (wordsV zer).toArray 40) = W at HB HN H ⊢
  clear HRUN hW
  go_upto_region 2 with (go_at_call 40; refine H.out.mono ?_; rintro e w' ⟨rfl, rfl⟩)
  refine wp_region_lit ?_
  refine Great.wpList_readTo rfl _ rfl (arrV zer) (by kernel_rfl) ?_
  refine wpList_store_rowTo rfl 40 _ _ rfl rfl w.heap.size (wordsV zer).toArray (by kernel_rfl) (by kernel_rfl) 40 (wordsV zer).toArray HN.out (by kernel_rfl) rfl (by kernel_rfl) ?_
  have HB2 := Lib.hid (below_setRow HB.out (Nat.le_refl _) (wordsV zer).toArray)
  have HN2 := Lib.hid (HN.out.row (wordsV zer))
  generalize hW2 : W.setRow w.heap.size (wordsV zer).toArray = W2 at HB2 HN2 ⊢
  clear hW2
  go_wp2
  rw [← HQQ.out]
  exact bodyPost_ret (v := arrV zer) (results_cell_row Tryz.results10 _ _ _ _ _ _ _ rfl HN2.out Tryz.underlying40 rfl (by kernel_rfl)) rfl ⟨rfl, HB2.out⟩

end Go.Proofs.YtniaclhmfmkikaaGreatDoor.Rg
end
