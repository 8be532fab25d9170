/- Several texts in one: Bf Bd Bg Zb Zc -/
import Derived.Test.YteaincdeoajkeaaGreatDoorV21
import Derived.Test.YteaincdeoajkeaaGreatDoorV20
import Derived.WalkMore
import Derived.Laws.EntriesVeiled
import Derived.Laws.Rows
import Derived.Great.Walk
section
/- Package pte: the document's Get. -/
namespace Go.Proofs.YteaincdeoajkeaaGreatDoor.Pe
open Go.RowKit Ut
set_option linter.unusedVariables false
set_option maxRecDepth 100000
set_option maxHeartbeats 4000000

end Go.Proofs.YteaincdeoajkeaaGreatDoor.Pe
end
section
/- Package pte: hasAny, of a slice of words. -/
namespace Go.Proofs.YteaincdeoajkeaaGreatDoor.Pe
open Go.RowKit Ut
set_option linter.unusedVariables false
set_option maxRecDepth 100000
set_option maxHeartbeats 4000000

/-- the slice at a of n words reads as zs -/
def WordsAt (w : World) (a : Option Addr) (n : Nat) (zs : List Nat) : Prop := zs.length = n ∧ n ≤ 9223372036854775807 ∧ ∀ k, k < n → ∃ y z, a = some y ∧ zs[k]? = some z ∧ z < 4294967296 ∧ w.cell? (y.add k) = some (.int .u32 (z : Int))
end Go.Proofs.YteaincdeoajkeaaGreatDoor.Pe
end
section
/- Package pte: Table of both. -/
namespace Go.Proofs.YteaincdeoajkeaaGreatDoor.Pe
open Go.RowKit Ut
set_option linter.unusedVariables false
set_option maxRecDepth 100000
set_option maxHeartbeats 4000000

end Go.Proofs.YteaincdeoajkeaaGreatDoor.Pe
end
section
/- Package walk: what a walk comes to, plainly; the steps and what follows of an entry, as closures. -/
namespace Go.Proofs.YteaincdeoajkeaaGreatDoor.Wa
open Go.RowKit Go.Shelf Ut Oc Vw
set_option maxRecDepth 100000
set_option linter.unusedVariables false
set_option maxHeartbeats 4000000

/-- what a walk comes to -/
structure Stp where
 o : Bool
 r : Int
 g : Int
 f : Int
 rt : Int
 lf : Int
def Stp.cs (t : Stp) : List Value := [.bool t.o, .int .i64 t.r, .int .i64 t.g, .int .i64 t.f, .int .i64 t.rt, .int .i64 t.lf]
abbrev Stp.v (t : Stp) : Value := .agg #[.bool t.o, .int .i64 t.r, .int .i64 t.g, .int .i64 t.f, .int .i64 t.rt, .int .i64 t.lf]
def noneF (n : Nat) (L : List Gm.Pl) (p : Int) : Int := if hasT n L p = true then 0 else 3
/-- the root's word, what it says, the leaf's word -/
def rootW (n : Nat) (S : List Int) (L : List Gm.Pl) (p z : Int) : Nat := wordT n S L p (z / 1024).toNat
def rootF (n : Nat) (S : List Int) (L : List Gm.Pl) (p z : Int) : Int := Pe.tabF (rootW n S L p z)
def rootT (n : Nat) (S : List Int) (L : List Gm.Pl) (p z : Int) : Int := Pe.gF (rootF n S L p z) (rootW n S L p z)
def leafW (n : Nat) (S : List Int) (L : List Gm.Pl) (p z : Int) : Nat := wordT n S L (rootT n S L p z) (z / 64 % 16).toNat
def leafE (n : Nat) (S : List Int) (L : List Gm.Pl) (p z : Int) : Int := Pe.leafF (leafW n S L p z)
def st0 : Stp := ⟨false, 0, 0, 0, -1, -1⟩
def st1 (n : Nat) (L : List Gm.Pl) (p : Int) : Stp := ⟨false, 0, 0, noneF n L p, -1, -1⟩
def st2 (n : Nat) (S : List Int) (L : List Gm.Pl) (p z : Int) : Stp := ⟨false, 0, 0, rootF n S L p z, p, -1⟩
def st3 (n : Nat) (S : List Int) (L : List Gm.Pl) (p z : Int) : Stp := ⟨false, 0, 0, noneF n L (rootT n S L p z), p, -1⟩
def st4 (n : Nat) (S : List Int) (L : List Gm.Pl) (p z : Int) : Stp :=
 ⟨Pe.oF (leafE n S L p z), Pe.rF (leafE n S L p z) (leafW n S L p z), Pe.gF (leafE n S L p z) (leafW n S L p z), leafE n S L p z, p, rootT n S L p z⟩
def walkF (n : Nat) (S : List Int) (L : List Gm.Pl) (p z : Int) : Stp :=
 if 16384 ≤ z then ⟨false, 0, 0, 2, -1, -1⟩
 else if noneF n L p ≠ 0 then st1 n L p
 else if rootF n S L p z ≠ 0 then st2 n S L p z
 else if noneF n L (rootT n S L p z) ≠ 0 then st3 n S L p z
 else st4 n S L p z

section
variable {w : World} {b s m n bv bp bw bs : Nat} {S : List Int} {L : List Gm.Pl} {D : List Bool}
end
end Go.Proofs.YteaincdeoajkeaaGreatDoor.Wa
end
section
/- Package walk: Walk of the program: its blocks, what a step leaves; an address beyond all. -/
namespace Go.Proofs.YteaincdeoajkeaaGreatDoor.Wa
open Go.RowKit Go.Shelf Ut Oc Vw
set_option maxRecDepth 100000
set_option linter.unusedVariables false
set_option maxHeartbeats 4000000

def stz : Stp := ⟨false, 0, 0, 0, 0, 0⟩
end Go.Proofs.YteaincdeoajkeaaGreatDoor.Wa
end
