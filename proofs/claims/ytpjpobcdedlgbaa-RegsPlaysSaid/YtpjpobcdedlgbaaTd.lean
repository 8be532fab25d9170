/- Package regs: All and Clear; the document's Get, Set; awake. -/
import Derived.Test.YtpjpobcdedlgbaaTc
namespace Go.Proofs.Ytpjpobcdedlgbaa.Rg
open Go.RowKit Ut
set_option maxRecDepth 100000
set_option linter.unusedVariables false

theorem run_new_words (w : World) (ρ : Operand → Value) (o : Oper) (ho : o.op = .alloc 29) : (execOp ρ o).run Try.prog w = .ok (.value (.pointer (some ⟨w.heap.size, 0, none⟩))) (w.alloc (.cells (wordsV zer).toArray 29)) := by
  unfold execOp
  rw [ho]
  kernel_rfl
theorem run_zero_words (w : World) : (Instr.build 29 #[]).run Try.prog w = .ok (arrV zer) w := by kernel_rfl

theorem all_any (b : Nat) (p : Int) (R : List Int) (w : World) (h : FAt w b p R) :
    Calls Try.prog 14 #[.pointer (some ⟨b, 0, none⟩)] w fun e w' => e = .returned (arrV R) ∧ Below w.heap.size w w' := by
  have HRUN : Hid (∀ (ρ : Operand → Value) (o : Oper), o.op = .alloc 29 → (execOp ρ o).run Try.prog w = .ok (.value (.pointer (some ⟨w.heap.size, 0, none⟩))) (w.alloc (.cells (wordsV zer).toArray 29))) := fun ρ o ho => run_new_words w ρ o ho
  have HB := Lib.hid ((Below.refl w.heap.size w).alloc (Nat.le_refl _) (.cells (wordsV zer).toArray 29))
  have HN : Hid (Blk (w.alloc (.cells (wordsV zer).toArray 29)) w.heap.size 29 (wordsV zer)) := Blk.new w _ _
  have HF := Lib.hid (h.below HB.out h.1.lt)
  have HL := Lib.hid h.2
  clear h
  go_enter Try.func14, Try.ntmps14
  generalize hQQ : bodyPost _ _ _ = QQ
  have HQQ := Lib.hid hQQ
  clear hQQ
  go_upto_region 0 with fail
  refine wp_region_lit ?_
  refine Great.wpList_allocTo rfl (some 2) rfl (.pointer (some ⟨w.heap.size, 0, none⟩)) (.cells (wordsV zer).toArray 29) (HRUN.out _ _ rfl) ?_
  generalize hW : w.alloc (.cells (wordsV zer).toArray 29) = W at HB HN HF ⊢
  clear HRUN hW
  go_wp2_with fail
  refine (made_is b true W HF.out.cell0).mono ?_
  rintro e w' ⟨rfl, rfl⟩
  go_wp2_with fail
  refine (all_reg b p R W HF.out).mono ?_
  rintro e w' ⟨rfl, hb⟩
  have HNW := Lib.hid (HN.out.below hb HN.out.lt)
  have HBW := Lib.hid (HB.out.trans (hb.mono HB.out.size))
  clear hb
  go_simp
  rename_i hK
  refine hK _ _ ?_
  clear hK
  refine wpList_store_rowTo rfl 29 _ _ rfl rfl w.heap.size (wordsV R).toArray (by kernel_rfl) (by kernel_rfl) 29 (wordsV zer).toArray HNW.out (by rw [size_words R HL.out]; simp) (by simp [wordsV, HL.out, zer]) (by simpa using one_words R) ?_
  have HB2 := Lib.hid (below_setRow HBW.out (Nat.le_refl _) (wordsV R).toArray)
  have HN2 := Lib.hid (HNW.out.row (wordsV R))
  generalize hW2 : w'.setRow w.heap.size (wordsV R).toArray = W2 at HB2 HN2 ⊢
  clear hW2
  go_wp2
  rw [← HQQ.out]
  exact bodyPost_ret (v := arrV R) (results_cell_row Try.results14 _ _ _ _ _ _ _ rfl HN2.out Try.underlying29 rfl (by rw [size_words R HL.out]; simp)) rfl ⟨rfl, HB2.out⟩

/-- what no call made has nothing -/
theorem all_zero (a : Option Addr) (w : World) (h : ∀ W, Below w.heap.size w W → NotMade a W) : Calls Try.prog 14 #[.pointer a] w fun e w' => e = .returned (arrV zer) ∧ Below w.heap.size w w' := by
  have HRUN : Hid (∀ (ρ : Operand → Value) (o : Oper), o.op = .alloc 29 → (execOp ρ o).run Try.prog w = .ok (.value (.pointer (some ⟨w.heap.size, 0, none⟩))) (w.alloc (.cells (wordsV zer).toArray 29))) := fun ρ o ho => run_new_words w ρ o ho
  have HB := Lib.hid ((Below.refl w.heap.size w).alloc (Nat.le_refl _) (.cells (wordsV zer).toArray 29))
  have HN : Hid (Blk (w.alloc (.cells (wordsV zer).toArray 29)) w.heap.size 29 (wordsV zer)) := Blk.new w _ _
  have H := Lib.hid (h _ HB.out)
  clear h
  go_enter Try.func14, Try.ntmps14
  generalize hQQ : bodyPost _ _ _ = QQ
  have HQQ := Lib.hid hQQ
  clear hQQ
  go_upto_region 0 with fail
  refine wp_region_lit ?_
  refine Great.wpList_allocTo rfl (some 2) rfl (.pointer (some ⟨w.heap.size, 0, none⟩)) (.cells (wordsV zer).toArray 29) (HRUN.out _ _ rfl) ?_
  generalize hW : w.alloc (.cells (wordsV zer).toArray 29) = W at HB HN H ⊢
  clear HRUN hW
  go_upto_region 2 with (go_at_call 17; refine H.out.mono ?_; rintro e w' ⟨rfl, rfl⟩)
  refine wp_region_lit ?_
  refine Great.wpList_readTo rfl _ rfl (arrV zer) (by kernel_rfl) ?_
  refine wpList_store_rowTo rfl 29 _ _ rfl rfl w.heap.size (wordsV zer).toArray (by kernel_rfl) (by kernel_rfl) 29 (wordsV zer).toArray HN.out (by kernel_rfl) rfl (by kernel_rfl) ?_
  have HB2 := Lib.hid (below_setRow HB.out (Nat.le_refl _) (wordsV zer).toArray)
  have HN2 := Lib.hid (HN.out.row (wordsV zer))
  generalize hW2 : W.setRow w.heap.size (wordsV zer).toArray = W2 at HB2 HN2 ⊢
  clear hW2
  go_wp2
  rw [← HQQ.out]
  exact bodyPost_ret (v := arrV zer) (results_cell_row Try.results14 _ _ _ _ _ _ _ rfl HN2.out Try.underlying29 rfl (by kernel_rfl)) rfl ⟨rfl, HB2.out⟩

theorem clear_any (b : Nat) (p : Int) (R : List Int) (w : World) (h : FAt w b p R) :
    Calls Try.prog 9 #[.pointer (some ⟨b, 0, none⟩)] w fun e w' => e = .returned (.int .i64 0) ∧ FAt w' b 0 zer ∧ w.grownBy w' (some b) := by
  have HF := Lib.hid h
  clear h
  go_enter Try.func9, Try.ntmps9
  go_wp2_with fail
  refine (made_is b true w HF.out.cell0).mono ?_
  rintro e w' ⟨rfl, rfl⟩
  go_wp2_with fail
  refine (new_any w).mono ?_
  rintro e w1 ⟨rfl, hN, hb⟩
  have HN := Lib.hid hN
  have HF1 := Lib.hid (HF.out.below hb HF.out.1.lt)
  have HG := Lib.hid (grown_row hb b (fCells 0 zer).toArray)
  have HS : Hid (FAt (w1.setRow b (fCells 0 zer).toArray) b 0 zer) := ⟨HF1.out.1.row _, zer_len⟩
  clear hN hb
  go_simp
  rename_i hK
  refine hK _ _ ?_
  clear hK
  refine Great.wpList_readTo rfl _ rfl (.pointer (some ⟨w.heap.size, 0, none⟩)) (by kernel_rfl) ?_
  refine Great.wpList_readTo rfl _ rfl (.agg (fCells 0 zer).toArray) (exec_load_blk HN.out.1 0 49 _ rfl (by kernel_rfl) (fCells 0 zer) (fun j v hv => by rw [Nat.zero_add]; exact hv) _ Try.underlying49 rfl (size_file 0 zer zer_len)) ?_
  refine Great.wpList_readTo rfl _ rfl (.pointer (some ⟨b, 0, none⟩)) (by kernel_rfl) ?_
  refine wpList_store_rowTo rfl 49 _ _ rfl rfl b (fCells 0 zer).toArray (by kernel_rfl) (by kernel_rfl) 49 (fCells p R).toArray HF1.out.1 (by kernel_rfl) (by simp [fCells, wordsV, HF.out.2, zer]) (by kernel_rfl) ?_
  generalize hW2 : w1.setRow b (fCells 0 zer).toArray = W2 at HS HG ⊢
  clear hW2
  go_wp2
  go_ret
  exact ⟨rfl, HS.out, HG.out⟩
end Go.Proofs.Ytpjpobcdedlgbaa.Rg
