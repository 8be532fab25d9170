/- Several texts in one: Bi -/
import Derived.Test.YteaincdeoajkeaaGreatDoorV21
section
/- Package pte: the document's Allows; awake. -/
namespace Go.Proofs.YteaincdeoajkeaaGreatDoor.Pe
open Go.RowKit Ut
set_option linter.unusedVariables false
set_option maxRecDepth 100000
set_option maxHeartbeats 4000000

/-- what goes on from the world in which a walk began -/
theorem keep {f : Nat} {args : Array Value} {v : Value} {w0 w : World} (hb : Below w0.heap.size w0 w) (h : Calls Tryz.prog f args w fun e w' => e = .returned v ∧ Below w.heap.size w w') : Calls Tryz.prog f args w fun e w' => e = .returned v ∧ Below w0.heap.size w0 w' :=
 h.mono fun e w' ⟨he, hb'⟩ => ⟨he, hb.trans (hb'.mono hb.size)⟩
end Go.Proofs.YteaincdeoajkeaaGreatDoor.Pe
end
