/-
  NARROWER THAN 'FOR EVERY INPUT', by the rows' own cells (each row's printed sentence says how): MmuFinds: laid · MmuHolds: laid · MmuSaves: laid · MmuZero: laid.
  DERIVED. THE GIVEN ROWS OF THIS SEAT. 4 by the template 'for every input the law returns true; each argument reads behind the call as it read before'; 0 by the template 'total and deterministic' (their statements: YteaincdeoajkeaaGreatDoorTotals.lean).
  GIVEN WITH THE SEED: the statements are not yours to turn. If you find one false, say at which input.
  Laid BY PROGRAM, IN A SANDBOX (cutbox-rows.mjs): the forced cells as the released guide's own fill.sh prints them over the translation 42d7f16dda0c4759… (all of the seat's roots in one cut). By AI agents, Wed Nov 11 2026. No macro, syntax, notation, axiom, sorry.
-/
import Derived.Test.YteaincdeoajkeaaGreatDoorChecked
import GoSem.Claim
import GoSem.ClaimJoined
import GoSem.ClaimMapViews
import Derived.JoinedTies
import Derived.KernelRfl
namespace Go.Proofs.YteaincdeoajkeaaGreatDoor
/- THE CELL 'sum', in the pinned program and in every row, IS THE sha256 OF THE DUMP (.gsa) THAT YteaincdeoajkeaaGreatDoorProg.lean LOADS. Nothing in Lean hashes anything: it is a label: what it is worth is what the hold of that sum in a sandbox is worth. -/
noncomputable def Tryz.pinned : Pinned := { name := "yteaincdeoajkeaagreatdoor", sum := "42d7f16dda0c47596ea7ba9de07fd60bad52418ea14e2087516ab1f8a334b356", checked := Tryz.checked }
namespace Rows
def none {H : Type} : Left H := { results := [], args := [] }

/- WHAT THE LISTED PACKAGE-LEVEL VARIABLES READ AS WHEN THE CALL BEGINS. Each datum BY PROGRAM (the guide's laid-datum.mjs) off the statement by which the dump's own 'gosem.cut.vars' lays the variable. In a bare row this is a premise. The card (YteaincdeoajkeaaGreatDoorCards.lean) ties it to the program's text. -/
def laid_hermitage_mmu_needed {H : Type} : DataW H := .agg [.lit (.int .i64 4), .lit (.int .i64 1), .lit (.int .i64 2)]

/-- 'hermitagelaw20.MmuFinds': WHATEVER THE INPUT: true; the input reads as it did. -/
def mmuFindsSpec : ChangeSpec := { name := "mmuFinds", fn := fun _ => fun
  | [d1, d2, d3] => { results := [.lit (.bool true)], args := [d1, d2, d3] }
  | _ => none }
def mmuFindsRow : OpenClaim := { program := "yteaincdeoajkeaagreatdoor", sum := "42d7f16dda0c47596ea7ba9de07fd60bad52418ea14e2087516ab1f8a334b356", func := "hermitage/hermitagelaw20.MmuFinds", spec := "mmuFinds", unfollowed := true, recurses := true, named := ["hermitage/mmu.needed"], apart := false, laid := [("hermitage/mmu.needed", laid_hermitage_mmu_needed)] }
def MmuFindsSaid : Prop := mmuFindsRow.holds Tryz.pinned (OpenSpec.ofChange mmuFindsSpec)

/-- ITS FALSE NEIGHBOUR: 'it returns false'. Refute it at one input. -/
def mmuFindsWrong : ChangeSpec := { name := "mmuFinds", fn := fun _ => fun
  | [d1, d2, d3] => { results := [.lit (.bool false)], args := [d1, d2, d3] }
  | _ => none }
def MmuFindsWrongFalsely : Prop := mmuFindsRow.holds Tryz.pinned (OpenSpec.ofChange mmuFindsWrong)

/-- 'hermitagelaw20.MmuHolds': WHATEVER THE INPUT: true; the input reads as it did. -/
def mmuHoldsSpec : ChangeSpec := { name := "mmuHolds", fn := fun _ => fun
  | [d1, d2, d3] => { results := [.lit (.bool true)], args := [d1, d2, d3] }
  | _ => none }
def mmuHoldsRow : OpenClaim := { program := "yteaincdeoajkeaagreatdoor", sum := "42d7f16dda0c47596ea7ba9de07fd60bad52418ea14e2087516ab1f8a334b356", func := "hermitage/hermitagelaw20.MmuHolds", spec := "mmuHolds", unfollowed := true, recurses := true, named := ["hermitage/mmu.needed"], apart := false, laid := [("hermitage/mmu.needed", laid_hermitage_mmu_needed)] }
def MmuHoldsSaid : Prop := mmuHoldsRow.holds Tryz.pinned (OpenSpec.ofChange mmuHoldsSpec)

/-- ITS FALSE NEIGHBOUR: 'it returns false'. Refute it at one input. -/
def mmuHoldsWrong : ChangeSpec := { name := "mmuHolds", fn := fun _ => fun
  | [d1, d2, d3] => { results := [.lit (.bool false)], args := [d1, d2, d3] }
  | _ => none }
def MmuHoldsWrongFalsely : Prop := mmuHoldsRow.holds Tryz.pinned (OpenSpec.ofChange mmuHoldsWrong)

/-- 'hermitagelaw20.MmuSaves': WHATEVER THE INPUT: true; the input reads as it did. -/
def mmuSavesSpec : ChangeSpec := { name := "mmuSaves", fn := fun _ => fun
  | [d1, d2, d3] => { results := [.lit (.bool true)], args := [d1, d2, d3] }
  | _ => none }
def mmuSavesRow : OpenClaim := { program := "yteaincdeoajkeaagreatdoor", sum := "42d7f16dda0c47596ea7ba9de07fd60bad52418ea14e2087516ab1f8a334b356", func := "hermitage/hermitagelaw20.MmuSaves", spec := "mmuSaves", unfollowed := true, recurses := true, named := ["hermitage/mmu.needed"], apart := false, laid := [("hermitage/mmu.needed", laid_hermitage_mmu_needed)] }
def MmuSavesSaid : Prop := mmuSavesRow.holds Tryz.pinned (OpenSpec.ofChange mmuSavesSpec)

/-- ITS FALSE NEIGHBOUR: 'it returns false'. Refute it at one input. -/
def mmuSavesWrong : ChangeSpec := { name := "mmuSaves", fn := fun _ => fun
  | [d1, d2, d3] => { results := [.lit (.bool false)], args := [d1, d2, d3] }
  | _ => none }
def MmuSavesWrongFalsely : Prop := mmuSavesRow.holds Tryz.pinned (OpenSpec.ofChange mmuSavesWrong)

/-- 'hermitagelaw20.MmuZero': WHATEVER THE INPUT: true; the input reads as it did. -/
def mmuZeroSpec : ChangeSpec := { name := "mmuZero", fn := fun _ => fun
  | [d1, d2, d3, d4, d5] => { results := [.lit (.bool true)], args := [d1, d2, d3, d4, d5] }
  | _ => none }
def mmuZeroRow : OpenClaim := { program := "yteaincdeoajkeaagreatdoor", sum := "42d7f16dda0c47596ea7ba9de07fd60bad52418ea14e2087516ab1f8a334b356", func := "hermitage/hermitagelaw20.MmuZero", spec := "mmuZero", unfollowed := true, recurses := true, named := ["hermitage/mmu.needed"], apart := false, laid := [("hermitage/mmu.needed", laid_hermitage_mmu_needed)] }
def MmuZeroSaid : Prop := mmuZeroRow.holds Tryz.pinned (OpenSpec.ofChange mmuZeroSpec)

/-- ITS FALSE NEIGHBOUR: 'it returns false'. Refute it at one input. -/
def mmuZeroWrong : ChangeSpec := { name := "mmuZero", fn := fun _ => fun
  | [d1, d2, d3, d4, d5] => { results := [.lit (.bool false)], args := [d1, d2, d3, d4, d5] }
  | _ => none }
def MmuZeroWrongFalsely : Prop := mmuZeroRow.holds Tryz.pinned (OpenSpec.ofChange mmuZeroWrong)

/- THE SECOND FORM. 'bulk': how many values and letters a reading holds, each counted each time it is reached (what is shared counts as often as it is met; a slice's spare places count too). A statement '..UptoSaid' is the law's where the arguments, and the package variables that the reading takes, are together of bulk at most 1048576: NARROWER than '..Said'. Prove '..Said' where nothing that the law and all that it calls make is longer than what came in: it says more and counts as full. Else prove '..UptoSaid'. A law counts once. -/
mutual
def uptoBulk {H : Type} : DataW H → Nat
  | .lit (.string bytes) => bytes.length + 1
  | .lit _ => 1
  | .nil => 1
  | .ptr d => uptoBulk d + 1
  | .slice elems spare => uptoBulkAll elems + uptoBulkAll spare + 1
  | .agg parts => uptoBulkAll parts + 1
  | .iface _ d => uptoBulk d + 1
  | .map entries => uptoBulkEntries entries + 1
  | .held _ => 1
def uptoBulkAll {H : Type} : List (DataW H) → Nat
  | [] => 0
  | d :: r => uptoBulk d + uptoBulkAll r
def uptoBulkEntries {H : Type} : List (Lit × DataW H) → Nat
  | [] => 0
  | x :: r => uptoBulkEntry x + uptoBulkEntries r
def uptoBulkEntry {H : Type} : Lit × DataW H → Nat
  | (.string bytes, d) => bytes.length + uptoBulk d + 1
  | (_, d) => uptoBulk d + 1
 end
def uptoSmall : (H : Type) → List (DataW H) → Bool := fun _ ds => decide (uptoBulkAll ds ≤ 1048576)
def OpenSpec.upto (s : _root_.Go.ChangeSpec) : _root_.Go.OpenSpec := { _root_.Go.OpenSpec.ofChange s with cond := some uptoSmall }

/-- 'hermitagelaw20.MmuFinds', WHERE WHAT IT READS IS OF BULK AT MOST 1048576: true; the input reads as it did. -/
def mmuFindsUptoRow : OpenClaim := { program := "yteaincdeoajkeaagreatdoor", sum := "42d7f16dda0c47596ea7ba9de07fd60bad52418ea14e2087516ab1f8a334b356", func := "hermitage/hermitagelaw20.MmuFinds", spec := "mmuFinds", unfollowed := true, recurses := true, named := ["hermitage/mmu.needed"], apart := false, laid := [("hermitage/mmu.needed", laid_hermitage_mmu_needed)], narrowed := true }
def MmuFindsUptoSaid : Prop := mmuFindsUptoRow.holds Tryz.pinned (OpenSpec.upto mmuFindsSpec)

/-- 'hermitagelaw20.MmuHolds', WHERE WHAT IT READS IS OF BULK AT MOST 1048576: true; the input reads as it did. -/
def mmuHoldsUptoRow : OpenClaim := { program := "yteaincdeoajkeaagreatdoor", sum := "42d7f16dda0c47596ea7ba9de07fd60bad52418ea14e2087516ab1f8a334b356", func := "hermitage/hermitagelaw20.MmuHolds", spec := "mmuHolds", unfollowed := true, recurses := true, named := ["hermitage/mmu.needed"], apart := false, laid := [("hermitage/mmu.needed", laid_hermitage_mmu_needed)], narrowed := true }
def MmuHoldsUptoSaid : Prop := mmuHoldsUptoRow.holds Tryz.pinned (OpenSpec.upto mmuHoldsSpec)

/-- 'hermitagelaw20.MmuSaves', WHERE WHAT IT READS IS OF BULK AT MOST 1048576: true; the input reads as it did. -/
def mmuSavesUptoRow : OpenClaim := { program := "yteaincdeoajkeaagreatdoor", sum := "42d7f16dda0c47596ea7ba9de07fd60bad52418ea14e2087516ab1f8a334b356", func := "hermitage/hermitagelaw20.MmuSaves", spec := "mmuSaves", unfollowed := true, recurses := true, named := ["hermitage/mmu.needed"], apart := false, laid := [("hermitage/mmu.needed", laid_hermitage_mmu_needed)], narrowed := true }
def MmuSavesUptoSaid : Prop := mmuSavesUptoRow.holds Tryz.pinned (OpenSpec.upto mmuSavesSpec)

/-- 'hermitagelaw20.MmuZero', WHERE WHAT IT READS IS OF BULK AT MOST 1048576: true; the input reads as it did. -/
def mmuZeroUptoRow : OpenClaim := { program := "yteaincdeoajkeaagreatdoor", sum := "42d7f16dda0c47596ea7ba9de07fd60bad52418ea14e2087516ab1f8a334b356", func := "hermitage/hermitagelaw20.MmuZero", spec := "mmuZero", unfollowed := true, recurses := true, named := ["hermitage/mmu.needed"], apart := false, laid := [("hermitage/mmu.needed", laid_hermitage_mmu_needed)], narrowed := true }
def MmuZeroUptoSaid : Prop := mmuZeroUptoRow.holds Tryz.pinned (OpenSpec.upto mmuZeroSpec)

end Rows
end Go.Proofs.YteaincdeoajkeaaGreatDoor
