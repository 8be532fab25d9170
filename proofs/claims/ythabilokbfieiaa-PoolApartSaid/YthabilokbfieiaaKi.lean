/- Package pool: awake; the walk of hermitagelaw07.PoolZero. -/
import Derived.Test.YthabilokbfieiaaKh
namespace Go.Proofs.Ythabilokbfieiaa.Lo
open Go.RowKit Ut Hp Fr
set_option linter.unusedVariables false
set_option maxRecDepth 100000
set_option maxHeartbeats 4000000

theorem awake_any (w : World) : Calls Try.prog 11 #[] w fun e w' => e = .returned (.bool true) ∧ Below w.heap.size w w' := by
  go_enter Try.func11, Try.ntmps11
  go_wp2_with fail
  refine (new_ok 4 w (by omega)).mono ?_
  rintro e w1 ⟨rfl, hS1, hb1⟩
  have HS1 := Lib.hid hS1
  have HB1 := Lib.hid hb1
  clear hS1 hb1
  go_wp2_with fail
  refine (new_any w.heap.size 4 w1 HS1.out.cell1 (by omega) (by omega)).mono ?_
  rintro e w2 ⟨rfl, hP2, hb2⟩
  have HNE := Lib.hid (Nat.ne_of_lt HS1.out.lt)
  have HLT := Lib.hid (Nat.le_of_lt HS1.out.lt)
  have HS2 := Lib.hid (HS1.out.below hb2 HS1.out.lt)
  have HP2 := Lib.hid hP2
  have HB2 := Lib.hid (HB1.out.trans (hb2.mono HB1.out.size))
  clear hP2 hb2 HB1 HS1
  generalize w1.heap.size = pb at HNE HLT HP2 ⊢
  go_wp2_with fail
  refine (own_ok pb w.heap.size 4 3 1 _ _ w2 HS2.out HP2.out HNE.out (by omega) (by omega) rfl).mono ?_
  rintro e w3 ⟨rfl, hS3, hP3, hT3⟩
  have HS3 := Lib.hid hS3
  have HP3 := Lib.hid hP3
  have HB3 := Lib.hid (hT3.below HB2.out HB2.out.size (Nat.le_refl _) HLT.out)
  clear hS3 hP3 hT3 HB2 HP2 HS2
  go_wp2_with fail
  refine (own_ok pb w.heap.size 4 1 1 _ _ w3 HS3.out HP3.out HNE.out (by omega) (by omega) rfl).mono ?_
  rintro e w4 ⟨rfl, hS4, hP4, hT4⟩
  have HS4 := Lib.hid hS4
  have HP4 := Lib.hid hP4
  have HB4 := Lib.hid (hT4.below HB3.out HB3.out.size (Nat.le_refl _) HLT.out)
  clear hS4 hP4 hT4 HB3 HP3 HS3
  go_wp2_with fail
  refine (take_some pb w.heap.size 4 1 1 _ _ w4 HS4.out HP4.out HNE.out (by omega) (by omega) rfl (fun k hk => by obtain rfl : k = 0 := by omega
                                                                                                                  rfl)).mono ?_
  rintro e w5 ⟨rfl, hS5, hP5, hT5⟩
  have HP5 := Lib.hid hP5
  have HB5 := Lib.hid (hT5.below HB4.out HB4.out.size (Nat.le_refl _) HLT.out)
  clear hS5 hP5 hT5 HB4 HP4 HS4
  go_wp2_with fail
  refine (left_of pb w.heap.size 4 1 _ w5 HP5.out (by omega)).mono ?_
  rintro e w6 ⟨rfl, rfl⟩
  rw [show countN (hit (tkS (owS (owS noS 3 1) 1 1) 1 true) 1) 4 = 1 from rfl]
  go_wp2
  go_ret
  exact ⟨rfl, HB5.out⟩

/-- the cells of a pool that no call made -/
def unCells : List Value := (List.range 625).map fun i => if i = 0 then .pointer none else cellP 0 i
theorem run_un (ρ : Operand → Value) (o : Oper) (ho : o.op = .alloc 67) (w : World) : (execOp ρ o).run Try.prog w = .ok (.value (.pointer (some ⟨w.heap.size, 0, none⟩))) (w.alloc (.cells unCells.toArray 67)) := by
  unfold execOp
  rw [ho]
  kernel_rfl
theorem un_cell (w : World) : (w.alloc (.cells unCells.toArray 67)).cell? ⟨w.heap.size, 0, none⟩ = some (.pointer none) := by
  have hh := heap_alloc_new w (.cells unCells.toArray 67)
  unfold World.cell?
  simp only [hh]
  rfl

theorem zero_any (f who : Int) (w : World) :
    Calls Try.prog 6 #[.int .i64 f, .int .i64 who] w fun e w' => e = .returned (.bool true) ∧ Below w.heap.size w w' := by
  have HRUN : Hid (∀ (ρ : Operand → Value) (o : Oper), o.op = .alloc 67 → (execOp ρ o).run Try.prog w = .ok (.value (.pointer (some ⟨w.heap.size, 0, none⟩))) (w.alloc (.cells unCells.toArray 67))) := fun ρ o ho => run_un ρ o ho w
  have HC := Lib.hid (un_cell w)
  generalize unCells.toArray = C at HRUN HC
  have HB := Lib.hid ((Below.refl w.heap.size w).alloc (Nat.le_refl _) (.cells C 67))
  go_enter Try.func6, Try.ntmps6
  go_upto_region 2 with fail
  refine wp_region_lit ?_
  refine Great.wpList_allocTo rfl (some 6) rfl (.pointer (some ⟨w.heap.size, 0, none⟩)) (.cells C 67) (HRUN.out _ _ rfl) ?_
  generalize w.alloc (.cells C 67) = W at HB HC ⊢
  clear HRUN
  go_wp2_with fail
  refine (take_zero none who 7 W (.inr rfl) (leftOf_zero none who W (made_nil W))).mono ?_
  rintro e w1 ⟨rfl, rfl⟩
  go_wp2_with fail
  refine (take_zero _ who 7 W (.inr rfl) (leftOf_zero _ who W (made_un _ W HC.out))).mono ?_
  rintro e w1 ⟨rfl, rfl⟩
  go_wp2_with fail
  refine (who_zero _ f 7 W (.inr rfl) (find_zero _ f W (made_un _ W HC.out))).mono ?_
  rintro e w1 ⟨rfl, rfl⟩
  go_wp2_with fail
  refine (new_none none W (len_nil W)).mono ?_
  rintro e w1 ⟨rfl, rfl⟩
  go_wp2_with fail
  refine (own_zero none f who 7 W (.inr rfl) (find_zero none f W (made_nil W))).mono ?_
  rintro e w1 ⟨rfl, rfl⟩
  go_wp2_with fail
  refine (own_zero _ f who 7 W (.inr rfl) (find_zero _ f W (made_un _ W HC.out))).mono ?_
  rintro e w1 ⟨rfl, rfl⟩
  go_wp2_with fail
  refine (back_zero _ f 7 W (.inr rfl) (find_zero _ f W (made_un _ W HC.out))).mono ?_
  rintro e w1 ⟨rfl, rfl⟩
  go_wp2_with fail
  refine (taken_zero none f 7 W (.inr rfl) (find_zero none f W (made_nil W))).mono ?_
  rintro e w1 ⟨rfl, rfl⟩
  go_wp2_with fail
  refine (left_zero _ who 7 W (.inr rfl) (leftOf_zero _ who W (made_un _ W HC.out))).mono ?_
  rintro e w1 ⟨rfl, rfl⟩
  go_wp2
  go_ret
  exact ⟨rfl, HB.out⟩
end Go.Proofs.Ythabilokbfieiaa.Lo
