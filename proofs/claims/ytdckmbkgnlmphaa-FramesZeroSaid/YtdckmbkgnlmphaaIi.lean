/- The walk of hermitagelaw06.FramesZero. -/
import Derived.Test.YtdckmbkgnlmphaaIc
import Derived.Great.Walk
namespace Go.Proofs.Ytdckmbkgnlmphaa.Fr
open Go.RowKit Ut Oc
set_option linter.unusedVariables false

/-- the cells of a store that no call made -/
def unCells : List Value := .bool false :: .int .i64 0 :: zeros.map (Value.int .u8)
theorem run_un (ρ : Operand → Value) (o : Oper) (ho : o.op = .alloc 59) (w : World) : (execOp ρ o).run Try.prog w = .ok (.value (.pointer (some ⟨w.heap.size, 0, none⟩))) (w.alloc (.cells unCells.toArray 59)) := by
  unfold execOp
  rw [ho]
  kernel_rfl

theorem un_cell (w : World) (Z : List Value) : (w.alloc (.cells (.bool false :: .int .i64 0 :: Z).toArray 59)).cell? ⟨w.heap.size, 0, none⟩ = some (.bool false) ∧ (w.alloc (.cells (.bool false :: .int .i64 0 :: Z).toArray 59)).cell? ⟨w.heap.size, 1, none⟩ = some (.int .i64 0) := by
  have hh := heap_alloc_new w (.cells (.bool false :: .int .i64 0 :: Z).toArray 59)
  unfold World.cell?
  simp only [hh]
  exact ⟨rfl, rfl⟩

theorem zero_any (f off width v : Int) (w : World) :
    Calls Try.prog 6 #[.int .i64 f, .int .i64 off, .int .i64 width, .int .u32 v] w fun e w' => e = .returned (.bool true) ∧ Below w.heap.size w w' := by
  have HRUN : Hid (∀ (ρ : Operand → Value) (o : Oper), o.op = .alloc 59 → (execOp ρ o).run Try.prog w = .ok (.value (.pointer (some ⟨w.heap.size, 0, none⟩))) (w.alloc (.cells unCells.toArray 59))) := fun ρ o ho => run_un ρ o ho w
  have HC := Lib.hid (un_cell w (zeros.map (Value.int .u8)))
  change Hid ((w.alloc (.cells unCells.toArray 59)).cell? ⟨w.heap.size, 0, none⟩ = some (.bool false) ∧ (w.alloc (.cells unCells.toArray 59)).cell? ⟨w.heap.size, 1, none⟩ = some (.int .i64 0)) at HC
  generalize unCells.toArray = C at HRUN HC
  have HC0 := Lib.hid HC.out.1
  have HC1 := Lib.hid HC.out.2
  clear HC
  have HB := Lib.hid ((Below.refl w.heap.size w).alloc (Nat.le_refl _) (.cells C 59))
  go_enter Try.func6, Try.ntmps6
  go_upto_region 2 with fail
  refine wp_region_lit ?_
  refine Great.wpList_allocTo rfl (some 10) rfl (.pointer (some ⟨w.heap.size, 0, none⟩)) (.cells C 59) (HRUN.out _ _ rfl) ?_
  generalize w.alloc (.cells C 59) = W at HB HC0 HC1 ⊢
  clear HRUN
  go_wp2_with fail
  refine (load_no none f off width 7 W (.inr rfl) (find_nil f W)).mono ?_
  rintro e w1 ⟨rfl, rfl⟩
  go_wp2_with fail
  refine (bytes_no _ f 7 W (.inr rfl) (find_unmade _ f W HC0.out)).mono ?_
  rintro e w1 ⟨rfl, rfl⟩
  go_wp2_with fail
  refine (save_no none f off width v 7 W (.inr rfl) (find_nil f W)).mono ?_
  rintro e w1 ⟨rfl, rfl⟩
  go_wp2_with fail
  refine (save_no _ f off width v 7 W (.inr rfl) (find_unmade _ f W HC0.out)).mono ?_
  rintro e w1 ⟨rfl, rfl⟩
  go_wp2_with fail
  refine (clear_no _ f 7 W (.inr rfl) (find_unmade _ f W HC0.out)).mono ?_
  rintro e w1 ⟨rfl, rfl⟩
  go_wp2_with fail
  refine (len_nil W).mono ?_
  rintro e w1 ⟨rfl, rfl⟩
  go_wp2_with fail
  refine (len_of _ 0 W HC1.out).mono ?_
  rintro e w1 ⟨rfl, rfl⟩
  go_wp2_with fail
  refine (clean_no none f 7 W (.inr rfl) (find_nil f W)).mono ?_
  rintro e w1 ⟨rfl, rfl⟩
  go_wp2_with fail
  refine (clean_no _ f 7 W (.inr rfl) (find_unmade _ f W HC0.out)).mono ?_
  rintro e w1 ⟨rfl, rfl⟩
  go_wp2
  go_ret
  exact ⟨rfl, HB.out⟩
end Go.Proofs.Ytdckmbkgnlmphaa.Fr
