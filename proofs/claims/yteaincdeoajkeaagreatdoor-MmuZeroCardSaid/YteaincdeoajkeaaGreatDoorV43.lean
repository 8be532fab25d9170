/- Several texts in one: Hz Am Re An -/
import Derived.Test.YteaincdeoajkeaaGreatDoorV41
import Derived.Test.YteaincdeoajkeaaGreatDoorV42
import Derived.Test.YteaincdeoajkeaaGreatDoorV07
section
/- The library's heaps: which method is meant, where the heap is a pointer and its methods have pointer receivers. Serves all packages. -/
namespace Go.Proofs.YteaincdeoajkeaaGreatDoor.Hg
open Go.RowKit Ut
set_option linter.unusedVariables false

end Go.Proofs.YteaincdeoajkeaaGreatDoor.Hg
end
section
/- Package stlb: the heap's methods Len, Less, Push. -/
namespace Go.Proofs.YteaincdeoajkeaaGreatDoor.Sb
open Go.RowKit Ut Hg
set_option maxRecDepth 100000
set_option linter.unusedVariables false
set_option maxHeartbeats 4000000

section
variable {W : World} {b o : Nat} {t : TypeId} {pre : List Value} {l : List Us}
end
end Go.Proofs.YteaincdeoajkeaaGreatDoor.Sb
end
section
/- Drawn regions whose invariant looks at which operations are done, and whose operations are told that what they lean on is done; a store among them. Serves all packages. -/
namespace Go.Proofs.YteaincdeoajkeaaGreatDoor.Ut
open Go.RowKit
set_option linter.unusedVariables false

section
variable {P : Program} {ops : Array Oper} {Q : Exit → Act → World → Prop} {T : (Nat → Value) → Array Value} {d : List Deferred} {WI : (Nat → Bool) → World → Prop} {vals : List Value}
end
end Go.Proofs.YteaincdeoajkeaaGreatDoor.Ut
end
section
/- Package stlb: the heap's method Swap. -/
namespace Go.Proofs.YteaincdeoajkeaaGreatDoor.Sb
open Go.RowKit Ut Hg
set_option maxRecDepth 100000
set_option linter.unusedVariables false
set_option maxHeartbeats 4000000

/-- place i is written whole -/
def setU (W : World) (b : Nat) (pre : List Value) (n : Int) (L : List Us) : World := W.setRow b (pre ++ .int .i64 n :: flatU L).toArray
section
variable {W : World} {b o : Nat} {t : TypeId} {pre : List Value} {n : Int} {l L : List Us}
theorem RB.row (h : RB W b t pre n L) (L2 : List Us) (h2 : L2.length = 5) : RB (setU W b pre n L2) b t pre n L2 := ⟨h2, h.2.row _⟩
/-- what stands while two places are exchanged: a first, then b -/
def SwI (W : World) (b : Nat) (t : TypeId) (pre : List Value) (n : Int) (L L1 : List Us) (L0 : Bool) (W' : World) : Prop := Kq [b] W W' ∧ RB W' b t pre n (cond L0 L1 L)
end
end Go.Proofs.YteaincdeoajkeaaGreatDoor.Sb
end
