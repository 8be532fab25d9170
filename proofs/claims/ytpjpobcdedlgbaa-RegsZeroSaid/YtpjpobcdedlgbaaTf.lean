/- The walk of hermitagelaw11.RegsZero. -/
import Derived.Test.YtpjpobcdedlgbaaTe
namespace Go.Proofs.Ytpjpobcdedlgbaa.Rg
open Go.RowKit Ut
set_option maxRecDepth 100000
set_option linter.unusedVariables false
set_option maxHeartbeats 4000000

/-- the cells of a file that no call made -/
def unCells : List Value := .bool false :: .int .u32 0 :: wordsV zer
theorem run_un (ρ : Operand → Value) (o : Oper) (ho : o.op = .alloc 49) (w : World) : (execOp ρ o).run Try.prog w = .ok (.value (.pointer (some ⟨w.heap.size, 0, none⟩))) (w.alloc (.cells unCells.toArray 49)) := by
  unfold execOp
  rw [ho]
  kernel_rfl
def ZLit : Value := .agg #[.int .u32 0, .int .u32 0, .int .u32 0, .int .u32 0, .int .u32 0, .int .u32 0, .int .u32 0, .int .u32 0, .int .u32 0, .int .u32 0, .int .u32 0, .int .u32 0, .int .u32 0, .int .u32 0, .int .u32 0, .int .u32 0]

theorem zero_any (i v : Int) (w : World) :
    Calls Try.prog 6 #[.int .i64 i, .int .u32 v] w fun e w' => e = .returned (.bool true) ∧ Below w.heap.size w w' := by
  have hgd : ∀ (x y : Operand) (W : World), (eqGuard .eql 29 x y (arrV zer) (arrV zer)).run Try.prog W = .ok () W := fun x y W => guard_words _ x y _ _ W
  have hql : ∀ W : World, (binOp .eql 29 (arrV zer) (arrV zer)).run Try.prog W = .ok (.bool true) W := fun W => by rw [bin_eql zer zer rfl rfl W]; rfl
  have hgd2 : ∀ (x y : Operand) (W : World), (eqGuard .eql 29 x y (arrV zer) (.agg #[.int .u32 0, .int .u32 0, .int .u32 0, .int .u32 0, .int .u32 0, .int .u32 0, .int .u32 0, .int .u32 0, .int .u32 0, .int .u32 0, .int .u32 0, .int .u32 0, .int .u32 0, .int .u32 0, .int .u32 0, .int .u32 0])).run Try.prog W = .ok () W := fun x y W => guard_words _ x y zer zer W
  have hql2 : ∀ W : World, (binOp .eql 29 (arrV zer) (.agg #[.int .u32 0, .int .u32 0, .int .u32 0, .int .u32 0, .int .u32 0, .int .u32 0, .int .u32 0, .int .u32 0, .int .u32 0, .int .u32 0, .int .u32 0, .int .u32 0, .int .u32 0, .int .u32 0, .int .u32 0, .int .u32 0])).run Try.prog W = .ok (.bool true) W := fun W => by rw [show (Value.agg #[.int .u32 0, .int .u32 0, .int .u32 0, .int .u32 0, .int .u32 0, .int .u32 0, .int .u32 0, .int .u32 0, .int .u32 0, .int .u32 0, .int .u32 0, .int .u32 0, .int .u32 0, .int .u32 0, .int .u32 0, .int .u32 0]) = arrV zer from rfl, bin_eql zer zer rfl rfl W]; rfl
  have HRUN : Hid (∀ (ρ : Operand → Value) (o : Oper), o.op = .alloc 49 → (execOp ρ o).run Try.prog w = .ok (.value (.pointer (some ⟨w.heap.size, 0, none⟩))) (w.alloc (.cells unCells.toArray 49))) := fun ρ o ho => run_un ρ o ho w
  have HC : Hid (Blk (w.alloc (.cells unCells.toArray 49)) w.heap.size 49 unCells) := Blk.new w _ _
  have HB := Lib.hid ((Below.refl w.heap.size w).alloc (Nat.le_refl _) (.cells unCells.toArray 49))
  go_enter Try.func6, Try.ntmps6
  go_upto_region 2 with fail
  refine wp_region_lit ?_
  refine Great.wpList_allocTo rfl (some 6) rfl (.pointer (some ⟨w.heap.size, 0, none⟩)) (.cells unCells.toArray 49) (HRUN.out _ _ rfl) ?_
  generalize w.alloc (.cells unCells.toArray 49) = W at HB HC ⊢
  clear HRUN
  have HN : Hid (∀ V, NotMade none V) := fun V => made_nil V
  have HU : Hid (∀ V, Below W.heap.size W V → NotMade (some ⟨w.heap.size, 0, none⟩) V) := fun V hb => made_is w.heap.size false V ((HC.out.below hb HC.out.lt).cell rfl)
  have HR := Lib.hid (Below.refl W.heap.size W)
  go_wp2_with fail
  refine (get_zero none i W (HN.out W)).mono ?_
  rintro e w1 ⟨rfl, rfl⟩
  go_wp2_with fail
  refine (get_zero _ i W (HU.out W HR.out)).mono ?_
  rintro e w1 ⟨rfl, rfl⟩
  go_wp2_with fail
  refine (set_zero none i v W (HN.out W)).mono ?_
  rintro e w1 ⟨rfl, rfl⟩
  go_wp2_with fail
  refine (set_zero _ i v W (HU.out W HR.out)).mono ?_
  rintro e w1 ⟨rfl, rfl⟩
  go_wp2_with fail
  refine (jump_zero none v W (HN.out W)).mono ?_
  rintro e w1 ⟨rfl, rfl⟩
  go_wp2_with fail
  refine (jump_zero _ v W (HU.out W HR.out)).mono ?_
  rintro e w1 ⟨rfl, rfl⟩
  go_wp2_with fail
  refine (clear_zero none W (HN.out W)).mono ?_
  rintro e w1 ⟨rfl, rfl⟩
  go_wp2_with fail
  refine (clear_zero _ W (HU.out W HR.out)).mono ?_
  rintro e w1 ⟨rfl, rfl⟩
  go_wp2_with fail
  refine (pc_zero none W (HN.out W)).mono ?_
  rintro e w1 ⟨rfl, rfl⟩
  go_wp2_with fail
  refine (pc_zero _ W (HU.out W HR.out)).mono ?_
  rintro e w1 ⟨rfl, rfl⟩
  go_wp2_with fail
  refine (all_zero none W (fun V _ => HN.out V)).mono ?_
  rintro e w1 ⟨rfl, hb⟩
  have HB1 := Lib.hid hb
  clear hb
  go_wp2_with fail
  refine (all_zero _ w1 (fun V hv => HU.out V (HB1.out.trans (hv.mono HB1.out.size)))).mono ?_
  rintro e w2 ⟨rfl, hb⟩
  have HB2 := Lib.hid (HB1.out.trans (hb.mono HB1.out.size))
  clear hb
  go_wp2_with fail
  refine (all_zero _ w2 (fun V hv => HU.out V (HB2.out.trans (hv.mono HB2.out.size)))).mono ?_
  rintro e w3 ⟨rfl, hb⟩
  have HB3 := Lib.hid (HB.out.trans ((HB2.out.trans (hb.mono HB2.out.size)).mono HB.out.size))
  clear hb
  go_wp2
  go_ret
  exact ⟨rfl, HB3.out⟩
end Go.Proofs.Ytpjpobcdedlgbaa.Rg
