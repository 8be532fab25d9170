/- hermitagelaw02.awake; the walk of hermitagelaw02.OctetPlays. -/
import Derived.Test.YtkkolbdapoejkaaOc
namespace Go.Proofs.Ytkkolbdapoejkaa.Oc
open Go.RowKit Ut
set_option linter.unusedVariables false

theorem RowK.two (w : World) (x y : Int) (t : TypeId) : RowK .u8 (w.alloc (.cells #[.int .u8 x, .int .u8 y] t)) (w.heap.size + 1) (some ⟨w.heap.size, 0, none⟩) 2 [x, y] :=
  ⟨rfl, fun i hi => ⟨_, rfl, Nat.lt_succ_self _, by
    obtain rfl | rfl : i = 0 ∨ i = 1 := by omega
    all_goals simp [Addr.add]⟩⟩

end Go.Proofs.Ytkkolbdapoejkaa.Oc
