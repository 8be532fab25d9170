/-
  No cell of these rows narrows 'for every input' (looked for: loops, veiled, ifaces, maps, wideKeys, modest, calm, conditions, laid).
  DERIVED. THE GIVEN ROWS OF THIS SEAT. 4 by the template 'for every input the law returns true; each argument reads behind the call as it read before'; 0 by the template 'total and deterministic' (their statements: YtoafonbplbblpaaTotals.lean).
  GIVEN WITH THE SEED: the statements are not yours to turn. If you find one false, say at which input.
  Laid BY PROGRAM, IN A SANDBOX (cutbox-rows.mjs): the forced cells as the released guide's own fill.sh prints them over the translation 60fd03a8930ff36b… (all of the seat's roots in one cut). By AI agents, Wed Nov 11 2026. No macro, syntax, notation, axiom, sorry.
-/
import Derived.Test.YtoafonbplbblpaaChecked
import GoSem.Claim
import GoSem.ClaimJoined
import GoSem.ClaimMapViews
import Derived.JoinedTies
import Derived.KernelRfl
namespace Go.Proofs.Ytoafonbplbblpaa
/- THE CELL 'sum', in the pinned program and in every row, IS THE sha256 OF THE DUMP (.gsa) THAT YtoafonbplbblpaaProg.lean LOADS. Nothing in Lean hashes anything: it is a label: what it is worth is what the hold of that sum in a sandbox is worth. -/
noncomputable def Try.pinned : Pinned := { name := "ytoafonbplbblpaa", sum := "60fd03a8930ff36b96d963773b414ec3a3a108b16ee8e26d1b150865cd03253d", checked := Try.checked }
namespace Rows
def none {H : Type} : Left H := { results := [], args := [] }

/-- 'hermitagelaw17.WalkPlays': WHATEVER THE INPUT: true; the input reads as it did. -/
def walkPlaysSpec : ChangeSpec := { name := "walkPlays", fn := fun _ => fun
  | [d1, d2, d3, d4, d5] => { results := [.lit (.bool true)], args := [d1, d2, d3, d4, d5] }
  | _ => none }
def walkPlaysRow : OpenClaim := { program := "ytoafonbplbblpaa", sum := "60fd03a8930ff36b96d963773b414ec3a3a108b16ee8e26d1b150865cd03253d", func := "hermitage/hermitagelaw17.WalkPlays", spec := "walkPlays", unfollowed := true, recurses := true, apart := false }
def WalkPlaysSaid : Prop := walkPlaysRow.holds Try.pinned (OpenSpec.ofChange walkPlaysSpec)

/-- ITS FALSE NEIGHBOUR: 'it returns false'. Refute it at one input. -/
def walkPlaysWrong : ChangeSpec := { name := "walkPlays", fn := fun _ => fun
  | [d1, d2, d3, d4, d5] => { results := [.lit (.bool false)], args := [d1, d2, d3, d4, d5] }
  | _ => none }
def WalkPlaysWrongFalsely : Prop := walkPlaysRow.holds Try.pinned (OpenSpec.ofChange walkPlaysWrong)

/-- 'hermitagelaw17.WalkTables': WHATEVER THE INPUT: true; the input reads as it did. -/
def walkTablesSpec : ChangeSpec := { name := "walkTables", fn := fun _ => fun
  | [d1, d2, d3, d4] => { results := [.lit (.bool true)], args := [d1, d2, d3, d4] }
  | _ => none }
def walkTablesRow : OpenClaim := { program := "ytoafonbplbblpaa", sum := "60fd03a8930ff36b96d963773b414ec3a3a108b16ee8e26d1b150865cd03253d", func := "hermitage/hermitagelaw17.WalkTables", spec := "walkTables", unfollowed := true, recurses := true, apart := false }
def WalkTablesSaid : Prop := walkTablesRow.holds Try.pinned (OpenSpec.ofChange walkTablesSpec)

/-- ITS FALSE NEIGHBOUR: 'it returns false'. Refute it at one input. -/
def walkTablesWrong : ChangeSpec := { name := "walkTables", fn := fun _ => fun
  | [d1, d2, d3, d4] => { results := [.lit (.bool false)], args := [d1, d2, d3, d4] }
  | _ => none }
def WalkTablesWrongFalsely : Prop := walkTablesRow.holds Try.pinned (OpenSpec.ofChange walkTablesWrong)

/-- 'hermitagelaw17.WalkFlat': WHATEVER THE INPUT: true; the input reads as it did. -/
def walkFlatSpec : ChangeSpec := { name := "walkFlat", fn := fun _ => fun
  | [d1, d2, d3, d4, d5] => { results := [.lit (.bool true)], args := [d1, d2, d3, d4, d5] }
  | _ => none }
def walkFlatRow : OpenClaim := { program := "ytoafonbplbblpaa", sum := "60fd03a8930ff36b96d963773b414ec3a3a108b16ee8e26d1b150865cd03253d", func := "hermitage/hermitagelaw17.WalkFlat", spec := "walkFlat", unfollowed := true, recurses := true, apart := false }
def WalkFlatSaid : Prop := walkFlatRow.holds Try.pinned (OpenSpec.ofChange walkFlatSpec)

/-- ITS FALSE NEIGHBOUR: 'it returns false'. Refute it at one input. -/
def walkFlatWrong : ChangeSpec := { name := "walkFlat", fn := fun _ => fun
  | [d1, d2, d3, d4, d5] => { results := [.lit (.bool false)], args := [d1, d2, d3, d4, d5] }
  | _ => none }
def WalkFlatWrongFalsely : Prop := walkFlatRow.holds Try.pinned (OpenSpec.ofChange walkFlatWrong)

/-- 'hermitagelaw17.WalkLess': WHATEVER THE INPUT: true; the input reads as it did. -/
def walkLessSpec : ChangeSpec := { name := "walkLess", fn := fun _ => fun
  | [d1, d2, d3, d4, d5] => { results := [.lit (.bool true)], args := [d1, d2, d3, d4, d5] }
  | _ => none }
def walkLessRow : OpenClaim := { program := "ytoafonbplbblpaa", sum := "60fd03a8930ff36b96d963773b414ec3a3a108b16ee8e26d1b150865cd03253d", func := "hermitage/hermitagelaw17.WalkLess", spec := "walkLess", unfollowed := true, recurses := true, apart := false }
def WalkLessSaid : Prop := walkLessRow.holds Try.pinned (OpenSpec.ofChange walkLessSpec)

/-- ITS FALSE NEIGHBOUR: 'it returns false'. Refute it at one input. -/
def walkLessWrong : ChangeSpec := { name := "walkLess", fn := fun _ => fun
  | [d1, d2, d3, d4, d5] => { results := [.lit (.bool false)], args := [d1, d2, d3, d4, d5] }
  | _ => none }
def WalkLessWrongFalsely : Prop := walkLessRow.holds Try.pinned (OpenSpec.ofChange walkLessWrong)

/- THE SECOND FORM. 'bulk': how many values and letters a reading holds, each counted each time it is reached (what is shared counts as often as it is met; a slice's spare places count too). A statement '..UptoSaid' is the law's where the arguments, and the package variables that the reading takes, are together of bulk at most 1048576: NARROWER than '..Said'. Prove '..Said' where nothing that the law and all that it calls make is longer than what came in: it says more and counts as full. Else prove '..UptoSaid'. A law counts once. -/
mutual
def uptoBulk {H : Type} : DataW H → Nat
  | .lit (.string bytes) => bytes.length + 1
  | .lit _ => 1
  | .nil => 1
  | .ptr d => uptoBulk d + 1
  | .slice elems spare => uptoBulkAll elems + uptoBulkAll spare + 1
  | .agg parts => uptoBulkAll parts + 1
  | .iface _ d => uptoBulk d + 1
  | .map entries => uptoBulkEntries entries + 1
  | .held _ => 1
def uptoBulkAll {H : Type} : List (DataW H) → Nat
  | [] => 0
  | d :: r => uptoBulk d + uptoBulkAll r
def uptoBulkEntries {H : Type} : List (Lit × DataW H) → Nat
  | [] => 0
  | x :: r => uptoBulkEntry x + uptoBulkEntries r
def uptoBulkEntry {H : Type} : Lit × DataW H → Nat
  | (.string bytes, d) => bytes.length + uptoBulk d + 1
  | (_, d) => uptoBulk d + 1
 end
def uptoSmall : (H : Type) → List (DataW H) → Bool := fun _ ds => decide (uptoBulkAll ds ≤ 1048576)
def OpenSpec.upto (s : _root_.Go.ChangeSpec) : _root_.Go.OpenSpec := { _root_.Go.OpenSpec.ofChange s with cond := some uptoSmall }

/-- 'hermitagelaw17.WalkPlays', WHERE WHAT IT READS IS OF BULK AT MOST 1048576: true; the input reads as it did. -/
def walkPlaysUptoRow : OpenClaim := { program := "ytoafonbplbblpaa", sum := "60fd03a8930ff36b96d963773b414ec3a3a108b16ee8e26d1b150865cd03253d", func := "hermitage/hermitagelaw17.WalkPlays", spec := "walkPlays", unfollowed := true, recurses := true, apart := false, narrowed := true }
def WalkPlaysUptoSaid : Prop := walkPlaysUptoRow.holds Try.pinned (OpenSpec.upto walkPlaysSpec)

/-- 'hermitagelaw17.WalkTables', WHERE WHAT IT READS IS OF BULK AT MOST 1048576: true; the input reads as it did. -/
def walkTablesUptoRow : OpenClaim := { program := "ytoafonbplbblpaa", sum := "60fd03a8930ff36b96d963773b414ec3a3a108b16ee8e26d1b150865cd03253d", func := "hermitage/hermitagelaw17.WalkTables", spec := "walkTables", unfollowed := true, recurses := true, apart := false, narrowed := true }
def WalkTablesUptoSaid : Prop := walkTablesUptoRow.holds Try.pinned (OpenSpec.upto walkTablesSpec)

/-- 'hermitagelaw17.WalkFlat', WHERE WHAT IT READS IS OF BULK AT MOST 1048576: true; the input reads as it did. -/
def walkFlatUptoRow : OpenClaim := { program := "ytoafonbplbblpaa", sum := "60fd03a8930ff36b96d963773b414ec3a3a108b16ee8e26d1b150865cd03253d", func := "hermitage/hermitagelaw17.WalkFlat", spec := "walkFlat", unfollowed := true, recurses := true, apart := false, narrowed := true }
def WalkFlatUptoSaid : Prop := walkFlatUptoRow.holds Try.pinned (OpenSpec.upto walkFlatSpec)

/-- 'hermitagelaw17.WalkLess', WHERE WHAT IT READS IS OF BULK AT MOST 1048576: true; the input reads as it did. -/
def walkLessUptoRow : OpenClaim := { program := "ytoafonbplbblpaa", sum := "60fd03a8930ff36b96d963773b414ec3a3a108b16ee8e26d1b150865cd03253d", func := "hermitage/hermitagelaw17.WalkLess", spec := "walkLess", unfollowed := true, recurses := true, apart := false, narrowed := true }
def WalkLessUptoSaid : Prop := walkLessUptoRow.holds Try.pinned (OpenSpec.upto walkLessSpec)

end Rows
end Go.Proofs.Ytoafonbplbblpaa
