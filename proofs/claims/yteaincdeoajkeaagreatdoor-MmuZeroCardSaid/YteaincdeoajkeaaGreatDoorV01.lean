/- Several texts in one: Ut -/
import Derived.Test.YteaincdeoajkeaaGreatDoorProg
import Derived.WalkKit
import Derived.Handy
import Derived.Lib.Hide
import Derived.Laws.BytesArg
import Derived.Maps.AppendAt
section
/- Small laws that the walks of several packages share: a slice of bytes of the call's own, made a string; a block below. -/
namespace Go.Proofs.YteaincdeoajkeaaGreatDoor.Ut
open Go.RowKit

/-- What the call owns stays owned behind a call that writes nothing that was there. -/
theorem ownsRow_below {w w' : World} {B e n : Nat} {v : Value} {xs : List Value} (h : w.ownsRow B e 1 v n xs) (hb : Below w.heap.size w w') : w'.ownsRow B e 1 v n xs :=
 h.kept (row := none) ⟨hb.os, hb.tape, hb.output, hb.size, fun q hq _ => hb.block q hq⟩ (Classical.em _)
end Go.Proofs.YteaincdeoajkeaaGreatDoor.Ut
end
