/- Several texts in one: Rd -/
import Derived.Test.YteaincdeoajkeaaGreatDoorV05
section
/- Drawn regions with neither the frame nor the operations' values written out, whose invariant looks at which operations are done (calls that write among them). Serves all packages. -/
namespace Go.Proofs.YteaincdeoajkeaaGreatDoor.Ut
open Go.RowKit
set_option linter.unusedVariables false

section
variable {P : Program} {ops : Array Oper} {Q : Exit → Act → World → Prop} {T : (Nat → Value) → Array Value} {d : List Deferred} {WI : (Nat → Bool) → World → Prop} {vals : List Value}

/-- what the operations from number k on are asked -/
def AutoLFrom (P : Program) (ops : Array Oper) (Q : Exit → Act → World → Prop) (T : (Nat → Value) → Array Value) (d : List Deferred) (vals : List Value) (WI : (Nat → Bool) → World → Prop) (k : Nat) (l : List Oper) : Prop :=
 StepsFrom P ops Q T d (RV vals) WI (fun _ _ _ => True) k l
end
end Go.Proofs.YteaincdeoajkeaaGreatDoor.Ut
end
