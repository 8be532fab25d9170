/- Several texts in one: Xd Xg Xi -/
import Derived.Test.YteaincdeoajkeaaGreatDoorV10
section
/- Package gmap: Set and Drop of the program. -/
namespace Go.Proofs.YteaincdeoajkeaaGreatDoor.Gm
open Go.RowKit Ut
set_option maxRecDepth 100000
set_option linter.unusedVariables false
set_option maxHeartbeats 4000000

theorem set_no (a : Option Addr) (n z : Int) (p : Pl) (hz : z = 1 ∨ z = 7) (w : World) (hF : ∀ W, Below w.heap.size w W → Calls Tryz.prog 51 #[.pointer a, .int .i64 n] W fun e w' => e = .returned (.tuple #[.pointer none, .int .i64 z]) ∧ W = w') :
  Calls Tryz.prog 28 #[.pointer a, .int .i64 n, plV p] w fun e w' => e = .returned (.int .i64 z) ∧ Below w.heap.size w w' := by
 obtain ⟨f, r⟩ := p
 have hz0 : (z == 0) = false := by rcases hz with rfl | rfl <;> rfl
 have HB := Lib.hid (box_below w f r)
 have HF := Lib.hid (hF _ HB.out)
 clear hF hz
 show Calls _ _ #[_, _, .agg #[.int .i64 f, .int .i64 r]] _ _
 go_enter Tryz.func28, Tryz.ntmps28
 go_wp2_with fail
 refine HF.out.mono ?_
 rintro e w1 ⟨rfl, rfl⟩
 go_wp2
 go_ret
 exact ⟨rfl, HB.out⟩
end Go.Proofs.YteaincdeoajkeaaGreatDoor.Gm
end
section
/- The document's map (hermitageref15): Is, Get, Set, Drop. -/
namespace Go.Proofs.YteaincdeoajkeaaGreatDoor.Gm
open Go.RowKit Ut
set_option maxRecDepth 100000
set_option linter.unusedVariables false
set_option maxHeartbeats 4000000

end Go.Proofs.YteaincdeoajkeaaGreatDoor.Gm
end
section
/- The document's map (hermitageref15): Pages, Allows. -/
namespace Go.Proofs.YteaincdeoajkeaaGreatDoor.Gm
open Go.RowKit Ut
set_option maxRecDepth 100000
set_option linter.unusedVariables false
set_option maxHeartbeats 4000000

end Go.Proofs.YteaincdeoajkeaaGreatDoor.Gm
end
