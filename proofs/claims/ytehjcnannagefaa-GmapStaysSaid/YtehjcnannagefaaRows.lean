/-
  No cell of these rows narrows 'for every input' (looked for: loops, veiled, ifaces, maps, wideKeys, modest, calm, conditions, laid).
  DERIVED. THE GIVEN ROWS OF THIS SEAT. 4 by the template 'for every input the law returns true; each argument reads behind the call as it read before'; 0 by the template 'total and deterministic' (their statements: YtehjcnannagefaaTotals.lean).
  GIVEN WITH THE SEED: the statements are not yours to turn. If you find one false, say at which input.
  Laid BY PROGRAM, IN A SANDBOX (cutbox-rows.mjs): the forced cells as the released guide's own fill.sh prints them over the translation 3d1adbd32e330789… (all of the seat's roots in one cut). By AI agents, Wed Nov 11 2026. No macro, syntax, notation, axiom, sorry.
-/
import Derived.Test.YtehjcnannagefaaChecked
import GoSem.Claim
import GoSem.ClaimJoined
import GoSem.ClaimMapViews
import Derived.JoinedTies
import Derived.KernelRfl
namespace Go.Proofs.Ytehjcnannagefaa
/- THE CELL 'sum', in the pinned program and in every row, IS THE sha256 OF THE DUMP (.gsa) THAT YtehjcnannagefaaProg.lean LOADS. Nothing in Lean hashes anything: it is a label: what it is worth is what the hold of that sum in a sandbox is worth. -/
noncomputable def Try.pinned : Pinned := { name := "ytehjcnannagefaa", sum := "3d1adbd32e3307892baaaa13dd2953904a9b0d8b1a85f5ee42b3f667269bc98d", checked := Try.checked }
namespace Rows
def none {H : Type} : Left H := { results := [], args := [] }

/-- 'hermitagelaw15.GmapPlays': WHATEVER THE INPUT: true; the input reads as it did. -/
def gmapPlaysSpec : ChangeSpec := { name := "gmapPlays", fn := fun _ => fun
  | [d1, d2, d3] => { results := [.lit (.bool true)], args := [d1, d2, d3] }
  | _ => none }
def gmapPlaysRow : OpenClaim := { program := "ytehjcnannagefaa", sum := "3d1adbd32e3307892baaaa13dd2953904a9b0d8b1a85f5ee42b3f667269bc98d", func := "hermitage/hermitagelaw15.GmapPlays", spec := "gmapPlays", apart := false }
def GmapPlaysSaid : Prop := gmapPlaysRow.holds Try.pinned (OpenSpec.ofChange gmapPlaysSpec)

/-- ITS FALSE NEIGHBOUR: 'it returns false'. Refute it at one input. -/
def gmapPlaysWrong : ChangeSpec := { name := "gmapPlays", fn := fun _ => fun
  | [d1, d2, d3] => { results := [.lit (.bool false)], args := [d1, d2, d3] }
  | _ => none }
def GmapPlaysWrongFalsely : Prop := gmapPlaysRow.holds Try.pinned (OpenSpec.ofChange gmapPlaysWrong)

/-- 'hermitagelaw15.GmapStays': WHATEVER THE INPUT: true; the input reads as it did. -/
def gmapStaysSpec : ChangeSpec := { name := "gmapStays", fn := fun _ => fun
  | [d1, d2, d3, d4, d5] => { results := [.lit (.bool true)], args := [d1, d2, d3, d4, d5] }
  | _ => none }
def gmapStaysRow : OpenClaim := { program := "ytehjcnannagefaa", sum := "3d1adbd32e3307892baaaa13dd2953904a9b0d8b1a85f5ee42b3f667269bc98d", func := "hermitage/hermitagelaw15.GmapStays", spec := "gmapStays", apart := false }
def GmapStaysSaid : Prop := gmapStaysRow.holds Try.pinned (OpenSpec.ofChange gmapStaysSpec)

/-- ITS FALSE NEIGHBOUR: 'it returns false'. Refute it at one input. -/
def gmapStaysWrong : ChangeSpec := { name := "gmapStays", fn := fun _ => fun
  | [d1, d2, d3, d4, d5] => { results := [.lit (.bool false)], args := [d1, d2, d3, d4, d5] }
  | _ => none }
def GmapStaysWrongFalsely : Prop := gmapStaysRow.holds Try.pinned (OpenSpec.ofChange gmapStaysWrong)

/-- 'hermitagelaw15.GmapRights': WHATEVER THE INPUT: true; the input reads as it did. -/
def gmapRightsSpec : ChangeSpec := { name := "gmapRights", fn := fun _ => fun
  | [d1, d2, d3] => { results := [.lit (.bool true)], args := [d1, d2, d3] }
  | _ => none }
def gmapRightsRow : OpenClaim := { program := "ytehjcnannagefaa", sum := "3d1adbd32e3307892baaaa13dd2953904a9b0d8b1a85f5ee42b3f667269bc98d", func := "hermitage/hermitagelaw15.GmapRights", spec := "gmapRights", apart := false }
def GmapRightsSaid : Prop := gmapRightsRow.holds Try.pinned (OpenSpec.ofChange gmapRightsSpec)

/-- ITS FALSE NEIGHBOUR: 'it returns false'. Refute it at one input. -/
def gmapRightsWrong : ChangeSpec := { name := "gmapRights", fn := fun _ => fun
  | [d1, d2, d3] => { results := [.lit (.bool false)], args := [d1, d2, d3] }
  | _ => none }
def GmapRightsWrongFalsely : Prop := gmapRightsRow.holds Try.pinned (OpenSpec.ofChange gmapRightsWrong)

/-- 'hermitagelaw15.GmapZero': WHATEVER THE INPUT: true; the input reads as it did. -/
def gmapZeroSpec : ChangeSpec := { name := "gmapZero", fn := fun _ => fun
  | [d1, d2, d3] => { results := [.lit (.bool true)], args := [d1, d2, d3] }
  | _ => none }
def gmapZeroRow : OpenClaim := { program := "ytehjcnannagefaa", sum := "3d1adbd32e3307892baaaa13dd2953904a9b0d8b1a85f5ee42b3f667269bc98d", func := "hermitage/hermitagelaw15.GmapZero", spec := "gmapZero", apart := false }
def GmapZeroSaid : Prop := gmapZeroRow.holds Try.pinned (OpenSpec.ofChange gmapZeroSpec)

/-- ITS FALSE NEIGHBOUR: 'it returns false'. Refute it at one input. -/
def gmapZeroWrong : ChangeSpec := { name := "gmapZero", fn := fun _ => fun
  | [d1, d2, d3] => { results := [.lit (.bool false)], args := [d1, d2, d3] }
  | _ => none }
def GmapZeroWrongFalsely : Prop := gmapZeroRow.holds Try.pinned (OpenSpec.ofChange gmapZeroWrong)

/- THE SECOND FORM. 'bulk': how many values and letters a reading holds, each counted each time it is reached (what is shared counts as often as it is met; a slice's spare places count too). A statement '..UptoSaid' is the law's where the arguments, and the package variables that the reading takes, are together of bulk at most 1048576: NARROWER than '..Said'. Prove '..Said' where nothing that the law and all that it calls make is longer than what came in: it says more and counts as full. Else prove '..UptoSaid'. A law counts once. -/
mutual
def uptoBulk {H : Type} : DataW H → Nat
  | .lit (.string bytes) => bytes.length + 1
  | .lit _ => 1
  | .nil => 1
  | .ptr d => uptoBulk d + 1
  | .slice elems spare => uptoBulkAll elems + uptoBulkAll spare + 1
  | .agg parts => uptoBulkAll parts + 1
  | .iface _ d => uptoBulk d + 1
  | .map entries => uptoBulkEntries entries + 1
  | .held _ => 1
def uptoBulkAll {H : Type} : List (DataW H) → Nat
  | [] => 0
  | d :: r => uptoBulk d + uptoBulkAll r
def uptoBulkEntries {H : Type} : List (Lit × DataW H) → Nat
  | [] => 0
  | x :: r => uptoBulkEntry x + uptoBulkEntries r
def uptoBulkEntry {H : Type} : Lit × DataW H → Nat
  | (.string bytes, d) => bytes.length + uptoBulk d + 1
  | (_, d) => uptoBulk d + 1
 end
def uptoSmall : (H : Type) → List (DataW H) → Bool := fun _ ds => decide (uptoBulkAll ds ≤ 1048576)
def OpenSpec.upto (s : _root_.Go.ChangeSpec) : _root_.Go.OpenSpec := { _root_.Go.OpenSpec.ofChange s with cond := some uptoSmall }

/-- 'hermitagelaw15.GmapPlays', WHERE WHAT IT READS IS OF BULK AT MOST 1048576: true; the input reads as it did. -/
def gmapPlaysUptoRow : OpenClaim := { program := "ytehjcnannagefaa", sum := "3d1adbd32e3307892baaaa13dd2953904a9b0d8b1a85f5ee42b3f667269bc98d", func := "hermitage/hermitagelaw15.GmapPlays", spec := "gmapPlays", apart := false, narrowed := true }
def GmapPlaysUptoSaid : Prop := gmapPlaysUptoRow.holds Try.pinned (OpenSpec.upto gmapPlaysSpec)

/-- 'hermitagelaw15.GmapStays', WHERE WHAT IT READS IS OF BULK AT MOST 1048576: true; the input reads as it did. -/
def gmapStaysUptoRow : OpenClaim := { program := "ytehjcnannagefaa", sum := "3d1adbd32e3307892baaaa13dd2953904a9b0d8b1a85f5ee42b3f667269bc98d", func := "hermitage/hermitagelaw15.GmapStays", spec := "gmapStays", apart := false, narrowed := true }
def GmapStaysUptoSaid : Prop := gmapStaysUptoRow.holds Try.pinned (OpenSpec.upto gmapStaysSpec)

/-- 'hermitagelaw15.GmapRights', WHERE WHAT IT READS IS OF BULK AT MOST 1048576: true; the input reads as it did. -/
def gmapRightsUptoRow : OpenClaim := { program := "ytehjcnannagefaa", sum := "3d1adbd32e3307892baaaa13dd2953904a9b0d8b1a85f5ee42b3f667269bc98d", func := "hermitage/hermitagelaw15.GmapRights", spec := "gmapRights", apart := false, narrowed := true }
def GmapRightsUptoSaid : Prop := gmapRightsUptoRow.holds Try.pinned (OpenSpec.upto gmapRightsSpec)

/-- 'hermitagelaw15.GmapZero', WHERE WHAT IT READS IS OF BULK AT MOST 1048576: true; the input reads as it did. -/
def gmapZeroUptoRow : OpenClaim := { program := "ytehjcnannagefaa", sum := "3d1adbd32e3307892baaaa13dd2953904a9b0d8b1a85f5ee42b3f667269bc98d", func := "hermitage/hermitagelaw15.GmapZero", spec := "gmapZero", apart := false, narrowed := true }
def GmapZeroUptoSaid : Prop := gmapZeroUptoRow.holds Try.pinned (OpenSpec.upto gmapZeroSpec)

end Rows
end Go.Proofs.Ytehjcnannagefaa
