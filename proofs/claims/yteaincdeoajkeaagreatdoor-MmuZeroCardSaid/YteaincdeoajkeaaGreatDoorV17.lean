/- Several texts in one: Yi Yj Yk Yl -/
import Derived.Test.YteaincdeoajkeaaGreatDoorV15
import Derived.RangeFuncNested
import Derived.RangeFuncBound
import Derived.RangeFuncCalls
import Derived.RangeFuncLeaves
import Derived.Shelf.Abstract
import Derived.Shelf.RegionOpen
import Derived.WalkKit
import Derived.OwnWalkIn
import Derived.TacticsInMore
import Derived.LoopNIn
import Derived.LoopIn
import Derived.Laws.EntriesVeiled
section
/- Package view: parts and the function that it makes; Own of the program. -/
namespace Go.Proofs.YteaincdeoajkeaaGreatDoor.Vw
open Go.RowKit Go.Shelf Ut Oc
set_option maxRecDepth 100000
set_option linter.unusedVariables false
set_option maxHeartbeats 4000000
attribute [local go_sem] Oper.semAt_some

/-- what is no row of bytes -/
def NoB (o : Obj) : Prop := ∀ cs fr, o ≠ .cells cs 5 fr
/-- all blocks but those of T, and rows of bytes, stay as they are -/
def Kz (T : List Nat) (X Y : World) : Prop := X.heap.size ≤ Y.heap.size ∧ ∀ q o, X.heap[q]? = some o → q ∉ T → NoB o → Y.heap[q]? = some o
theorem Kz.of_kq {T : List Nat} {X Y : World} (h : Kq T X Y) : Kz T X Y := ⟨h.size, fun q o h1 h3 _ => (h.block q (Array.getElem?_eq_some_iff.1 h1).1 h3).trans h1⟩
theorem Kz.trans {T : List Nat} {X Y Z : World} (h : Kz T X Y) (k : Kz T Y Z) : Kz T X Z := ⟨Nat.le_trans h.1 k.1, fun q o h1 h2 h3 => k.2 q o (h.2 q o h1 h2 h3) h2 h3⟩
/-- .. of blocks of cells alone -/
def Kc (T : List Nat) (X Y : World) : Prop := X.heap.size ≤ Y.heap.size ∧ ∀ q o, X.heap[q]? = some o → o.isCells = true → q ∉ T → NoB o → Y.heap[q]? = some o
theorem Kc.refl (T : List Nat) (X : World) : Kc T X X := ⟨Nat.le_refl _, fun q o h _ _ _ => h⟩
theorem Kc.trans {T : List Nat} {X Y Z : World} (h : Kc T X Y) (k : Kc T Y Z) : Kc T X Z := ⟨Nat.le_trans h.1 k.1, fun q o h1 h2 h3 h4 => k.2 q o (h.2 q o h1 h2 h3 h4) h2 h3 h4⟩
theorem Kc.of_kz {T : List Nat} {X Y : World} (h : Kz T X Y) : Kc T X Y := ⟨h.1, fun q o h1 _ h3 h4 => h.2 q o h1 h3 h4⟩
theorem Kc.of_below {T : List Nat} {X Y : World} (h : Below X.heap.size X Y) : Kc T X Y := Kc.of_kz (Kz.of_kq (Kq.of_below h))
/-- what a round is handed -/
def encP {a K : Nat} (x : BP a K) : Array Value := #[x.1.v]

end Go.Proofs.YteaincdeoajkeaaGreatDoor.Vw
end
section
/- Package view: Own of the program: a loop over the parts of a range. -/
namespace Go.Proofs.YteaincdeoajkeaaGreatDoor.Vw
open Go.RowKit Go.Shelf Ut Oc
set_option maxRecDepth 100000
set_option linter.unusedVariables false
set_option maxHeartbeats 4000000
attribute [local go_sem] Oper.semAt_some

section
variable {b s m n : Nat} {S : List Int} {L : List Gm.Pl} {D : List Bool}
end
end Go.Proofs.YteaincdeoajkeaaGreatDoor.Vw
end
section
/- Package view: each, over any function that is called with a part and its frame. -/
namespace Go.Proofs.YteaincdeoajkeaaGreatDoor.Vw
open Go.RowKit Go.Shelf Ut Oc
set_option maxRecDepth 100000
set_option linter.unusedVariables false
set_option maxHeartbeats 4000000
attribute [local go_sem] Oper.semAt_some

section
variable {b s m n : Nat} {S : List Int} {L : List Gm.Pl} {D : List Bool}
end
end Go.Proofs.YteaincdeoajkeaaGreatDoor.Vw
end
section
/- Package view: Read of the program. -/
namespace Go.Proofs.YteaincdeoajkeaaGreatDoor.Vw
open Go.RowKit Go.Shelf Ut Oc
set_option maxRecDepth 100000
set_option linter.unusedVariables false
set_option maxHeartbeats 4000000

/-- blocks below B but those of T stay as they are -/
structure Kr (B : Nat) (T : List Nat) (w w' : World) : Prop where
 os : w'.os = w.os
 tape : w'.tape = w.tape
 output : w'.output = w.output
 size : w.heap.size ≤ w'.heap.size
 block : ∀ q, q < B → q ∉ T → w'.heap[q]? = w.heap[q]?
theorem Kr.of_below {B : Nat} {T : List Nat} {w w' : World} (h : Below B w w') : Kr B T w w' := ⟨h.os, h.tape, h.output, h.size, fun q hq _ => h.block q hq⟩
section
variable {b s m n : Nat} {S : List Int} {L : List Gm.Pl} {D : List Bool}
/-- between two parts: what has come lies in the variable -/
def RdI (b s m n : Nat) (S : List Int) (L : List Gm.Pl) (D : List Bool) (Bv Bb B0 : Nat) {a K : Nat} (pre : List (BP a K)) (W : World) : Prop :=
 PV W b s m n S L D ∧ Boxed W Bv 25 (.pointer (some ⟨b, 0, none⟩)) ∧ B0 ≤ W.heap.size ∧ ∃ v, Boxed W Bb 70 v ∧ OwnI .u8 W B0 5 v (foldB L S pre).length (foldB L S pre)
end
end Go.Proofs.YteaincdeoajkeaaGreatDoor.Vw
end
