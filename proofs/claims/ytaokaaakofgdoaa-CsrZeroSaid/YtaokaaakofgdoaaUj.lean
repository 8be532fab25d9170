/- The walk of hermitagelaw12.CsrZero. -/
import Derived.Test.YtaokaaakofgdoaaUi
namespace Go.Proofs.Ytaokaaakofgdoaa.Cs
open Go.RowKit Ut
set_option maxRecDepth 100000
set_option linter.unusedVariables false
set_option maxHeartbeats 4000000

/-- the cells of a file that no call made -/
def unCells : List Value := .bool false :: .int .i64 0 :: wordsV zer
theorem run_un (ρ : Operand → Value) (o : Oper) (ho : o.op = .alloc 57) (w : World) : (execOp ρ o).run Try.prog w = .ok (.value (.pointer (some ⟨w.heap.size, 0, none⟩))) (w.alloc (.cells unCells.toArray 57)) := by
  unfold execOp
  rw [ho]
  kernel_rfl

theorem zero_any (n v : Int) (w : World) :
    Calls Try.prog 7 #[.int .i64 n, .int .u32 v] w fun e w' => e = .returned (.bool true) ∧ Below w.heap.size w w' := by
  have hgd : ∀ (x y : Operand) (W : World), (eqGuard .eql 48 x y (arrV zer) (.agg #[.int .u32 0, .int .u32 0, .int .u32 0, .int .u32 0, .int .u32 0, .int .u32 0, .int .u32 0])).run Try.prog W = .ok () W := fun x y W => guard_words _ x y zer zer W
  have hql : ∀ W : World, (binOp .eql 48 (arrV zer) (.agg #[.int .u32 0, .int .u32 0, .int .u32 0, .int .u32 0, .int .u32 0, .int .u32 0, .int .u32 0])).run Try.prog W = .ok (.bool true) W := fun W => bin_eql zer rfl W
  have hgm : ∀ (x y : Operand) (W : World), (eqGuard .eql 46 x y (mV false 0 false) (.agg #[.bool false, .int .i64 0, .bool false])).run Try.prog W = .ok () W := fun x y W => guard_mode _ x y false false 0 0 false false W
  have hqm : ∀ W : World, (binOp .eql 46 (mV false 0 false) (.agg #[.bool false, .int .i64 0, .bool false])).run Try.prog W = .ok (.bool true) W := fun W => bin_eql_mode false 0 false W
  have HRUN : Hid (∀ (ρ : Operand → Value) (o : Oper), o.op = .alloc 57 → (execOp ρ o).run Try.prog w = .ok (.value (.pointer (some ⟨w.heap.size, 0, none⟩))) (w.alloc (.cells unCells.toArray 57))) := fun ρ o ho => run_un ρ o ho w
  have HC : Hid (Blk (w.alloc (.cells unCells.toArray 57)) w.heap.size 57 unCells) := Blk.new w _ _
  have HB := Lib.hid ((Below.refl w.heap.size w).alloc (Nat.le_refl _) (.cells unCells.toArray 57))
  go_enter Try.func7, Try.ntmps7
  go_upto_region 2 with fail
  refine wp_region_lit ?_
  refine Great.wpList_allocTo rfl (some 6) rfl (.pointer (some ⟨w.heap.size, 0, none⟩)) (.cells unCells.toArray 57) (HRUN.out _ _ rfl) ?_
  generalize w.alloc (.cells unCells.toArray 57) = W at HB HC ⊢
  clear HRUN
  have HN : Hid (∀ V, NotMade none V) := fun V => made_nil V
  have HU : Hid (∀ V, Below W.heap.size W V → NotMade (some ⟨w.heap.size, 0, none⟩) V) := fun V hb => made_is w.heap.size false V ((HC.out.below hb HC.out.lt).cell rfl)
  have HR := Lib.hid (Below.refl W.heap.size W)
  go_wp2_with fail
  refine (read_zero none n 0 W (HN.out W)).mono ?_
  rintro e w1 ⟨rfl, rfl⟩
  go_wp2_with fail
  refine (enter_zero _ v v v W (HU.out W HR.out)).mono ?_
  rintro e w1 ⟨rfl, rfl⟩
  go_wp2_with fail
  refine (leave_zero none W (HN.out W)).mono ?_
  rintro e w1 ⟨rfl, rfl⟩
  go_wp2_with fail
  refine (write_zero none n v W (HN.out W)).mono ?_
  rintro e w1 ⟨rfl, rfl⟩
  go_wp2_with fail
  refine (write_zero _ n v W (HU.out W HR.out)).mono ?_
  rintro e w1 ⟨rfl, rfl⟩
  go_wp2_with fail
  refine (reset_zero _ W (HU.out W HR.out)).mono ?_
  rintro e w1 ⟨rfl, rfl⟩
  go_wp2_with fail
  refine (mode_zero none W (fun V _ => HN.out V)).mono ?_
  rintro e w1 ⟨rfl, hb⟩
  have HB1 := Lib.hid hb
  clear hb
  go_wp2_with fail
  refine (open_zero _ w1 (HU.out w1 HB1.out)).mono ?_
  rintro e w2 ⟨rfl, rfl⟩
  go_wp2_with fail
  refine (handles_zero none w1 (HN.out w1)).mono ?_
  rintro e w2 ⟨rfl, rfl⟩
  go_wp2_with fail
  refine (all_zero _ w1 (fun V hv => HU.out V (HB1.out.trans (hv.mono HB1.out.size)))).mono ?_
  rintro e w2 ⟨rfl, hb⟩
  have HB3 := Lib.hid (HB.out.trans ((HB1.out.trans (hb.mono HB1.out.size)).mono HB.out.size))
  clear hb
  go_wp2
  go_ret
  exact ⟨rfl, HB3.out⟩
end Go.Proofs.Ytaokaaakofgdoaa.Cs
