/- Several texts in one: Yg -/
import Derived.Test.YteaincdeoajkeaaGreatDoorV14
import Derived.Test.YteaincdeoajkeaaGreatDoorV12
section
/- The document's view (hermitageref16): Find, Load, Save. -/
namespace Go.Proofs.YteaincdeoajkeaaGreatDoor.Vw
open Go.RowKit Ut Oc
set_option maxRecDepth 100000
set_option linter.unusedVariables false
set_option maxHeartbeats 4000000

section
variable {g bt B q n gv cap : Nat} {S : List Int} {L : List Gm.Pl} {D : List Bool}
end
end Go.Proofs.YteaincdeoajkeaaGreatDoor.Vw
end
