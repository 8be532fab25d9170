/- Several texts in one: Ac Ad Ae -/
import Derived.Test.YteaincdeoajkeaaGreatDoorV38
import Derived.Deep.DeepCutAuto
import Derived.Deep.CutRange
import Derived.Deep.RegionLaw
section
/- The document's translations: one record more; without. -/
namespace Go.Proofs.YteaincdeoajkeaaGreatDoor.Sb
open Go.RowKit Ut
set_option maxRecDepth 100000
set_option linter.unusedVariables false
set_option maxHeartbeats 4000000

section
variable {g n cap : Nat} {room : Int} {a : Option Addr} {l : List Rc}
end
end Go.Proofs.YteaincdeoajkeaaGreatDoor.Sb
end
section
/- The document's translations: Put, Drop. -/
namespace Go.Proofs.YteaincdeoajkeaaGreatDoor.Sb
open Go.RowKit Ut
set_option maxRecDepth 100000
set_option linter.unusedVariables false
set_option maxHeartbeats 4000000

section
variable {w w0 : World} {g n cap k c B : Nat} {room : Int} {a b : Option Addr} {l xs : List Rc}
end
end Go.Proofs.YteaincdeoajkeaaGreatDoor.Sb
end
section
/- The document's translations: Put. -/
namespace Go.Proofs.YteaincdeoajkeaaGreatDoor.Sb
open Go.RowKit Ut
set_option maxRecDepth 100000
set_option linter.unusedVariables false
set_option maxHeartbeats 4000000

def putL (room : Int) (l : List Rc) (x : Rc) : List Rc := if (room : Int) < ((withoutL l x.kr x.kp).length + 1 : Nat) then (withoutL l x.kr x.kp ++ [x]).drop 1 else withoutL l x.kr x.kp ++ [x]
section
variable {g n cap : Nat} {room : Int} {a : Option Addr} {l : List Rc}
end
end Go.Proofs.YteaincdeoajkeaaGreatDoor.Sb
end
