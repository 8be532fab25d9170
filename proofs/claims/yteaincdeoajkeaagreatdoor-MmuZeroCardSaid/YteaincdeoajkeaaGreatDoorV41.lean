/- Several texts in one: Hw Hx Hy -/
import Derived.Test.YteaincdeoajkeaaGreatDoorV40
section
/- The library's heaps, walked once for whatever is kept: down. Serves all packages. -/
namespace Go.Proofs.YteaincdeoajkeaaGreatDoor.Hg
open Go.RowKit Ut
set_option maxRecDepth 100000
set_option linter.unusedVariables false
set_option maxHeartbeats 4000000

section
variable {α : Type} [Inhabited α] {T : TypeId} {p : Value} {ky : α → Int} {St : World → List α → Prop} {K : World → World → Prop}
end
end Go.Proofs.YteaincdeoajkeaaGreatDoor.Hg
end
section
/- The library's heaps, walked once for whatever is kept: Push, Pop, Fix, Remove. Serves all packages. -/
namespace Go.Proofs.YteaincdeoajkeaaGreatDoor.Hg
open Go.RowKit Ut
set_option maxRecDepth 100000
set_option linter.unusedVariables false
set_option maxHeartbeats 4000000

section
variable {α : Type} [Inhabited α] {T : TypeId} {p : Value} {ky : α → Int} {St : World → List α → Prop} {K : World → World → Prop}
/-- what is left when the one at i is taken out, its row's last being it -/
def remL (ky : α → Int) (l : List α) (i : Nat) : List α := if i = l.length - 1 then l else fixL ky (swapL l i (l.length - 1)) i (l.length - 1)
end
end Go.Proofs.YteaincdeoajkeaaGreatDoor.Hg
end
section
/- Plain facts on heaps: what Fix and Remove leave. Serves all packages. -/
namespace Go.Proofs.YteaincdeoajkeaaGreatDoor.Hg
set_option linter.unusedVariables false

section
variable {α : Type} [Inhabited α] {ky : α → Int}
end
end Go.Proofs.YteaincdeoajkeaaGreatDoor.Hg
end
