/-
  No cell of these rows narrows 'for every input' (looked for: loops, veiled, ifaces, maps, wideKeys, modest, calm, conditions, laid).
  DERIVED. THE GIVEN ROWS OF THIS SEAT. 4 by the template 'for every input the law returns true; each argument reads behind the call as it read before'; 0 by the template 'total and deterministic' (their statements: YtfifflepgfpjiaaTotals.lean).
  GIVEN WITH THE SEED: the statements are not yours to turn. If you find one false, say at which input.
  Laid BY PROGRAM, IN A SANDBOX (cutbox-rows.mjs): the forced cells as the released guide's own fill.sh prints them over the translation ccdfe438ca3498b2… (all of the seat's roots in one cut). By AI agents, Wed Nov 11 2026. No macro, syntax, notation, axiom, sorry.
-/
import Derived.Test.YtfifflepgfpjiaaChecked
import GoSem.Claim
import GoSem.ClaimJoined
import GoSem.ClaimMapViews
import Derived.JoinedTies
import Derived.KernelRfl
namespace Go.Proofs.Ytfifflepgfpjiaa
/- THE CELL 'sum', in the pinned program and in every row, IS THE sha256 OF THE DUMP (.gsa) THAT YtfifflepgfpjiaaProg.lean LOADS. Nothing in Lean hashes anything: it is a label: what it is worth is what the hold of that sum in a sandbox is worth. -/
noncomputable def Try.pinned : Pinned := { name := "ytfifflepgfpjiaa", sum := "ccdfe438ca3498b20bebf42f2671928c7446275b8c1abced16d0c771ca842b20", checked := Try.checked }
namespace Rows
def none {H : Type} : Left H := { results := [], args := [] }

/-- 'hermitagelaw14.PtePlays': WHATEVER THE INPUT: true; the input reads as it did. -/
def ptePlaysSpec : ChangeSpec := { name := "ptePlays", fn := fun _ => fun
  | [d1, d2, d3, d4] => { results := [.lit (.bool true)], args := [d1, d2, d3, d4] }
  | _ => none }
def ptePlaysRow : OpenClaim := { program := "ytfifflepgfpjiaa", sum := "ccdfe438ca3498b20bebf42f2671928c7446275b8c1abced16d0c771ca842b20", func := "hermitage/hermitagelaw14.PtePlays", spec := "ptePlays", apart := false }
def PtePlaysSaid : Prop := ptePlaysRow.holds Try.pinned (OpenSpec.ofChange ptePlaysSpec)

/-- ITS FALSE NEIGHBOUR: 'it returns false'. Refute it at one input. -/
def ptePlaysWrong : ChangeSpec := { name := "ptePlays", fn := fun _ => fun
  | [d1, d2, d3, d4] => { results := [.lit (.bool false)], args := [d1, d2, d3, d4] }
  | _ => none }
def PtePlaysWrongFalsely : Prop := ptePlaysRow.holds Try.pinned (OpenSpec.ofChange ptePlaysWrong)

/-- 'hermitagelaw14.PteBack': WHATEVER THE INPUT: true; the input reads as it did. -/
def pteBackSpec : ChangeSpec := { name := "pteBack", fn := fun _ => fun
  | [d1, d2] => { results := [.lit (.bool true)], args := [d1, d2] }
  | _ => none }
def pteBackRow : OpenClaim := { program := "ytfifflepgfpjiaa", sum := "ccdfe438ca3498b20bebf42f2671928c7446275b8c1abced16d0c771ca842b20", func := "hermitage/hermitagelaw14.PteBack", spec := "pteBack", apart := false }
def PteBackSaid : Prop := pteBackRow.holds Try.pinned (OpenSpec.ofChange pteBackSpec)

/-- ITS FALSE NEIGHBOUR: 'it returns false'. Refute it at one input. -/
def pteBackWrong : ChangeSpec := { name := "pteBack", fn := fun _ => fun
  | [d1, d2] => { results := [.lit (.bool false)], args := [d1, d2] }
  | _ => none }
def PteBackWrongFalsely : Prop := pteBackRow.holds Try.pinned (OpenSpec.ofChange pteBackWrong)

/-- 'hermitagelaw14.PteMore': WHATEVER THE INPUT: true; the input reads as it did. -/
def pteMoreSpec : ChangeSpec := { name := "pteMore", fn := fun _ => fun
  | [d1, d2, d3, d4, d5] => { results := [.lit (.bool true)], args := [d1, d2, d3, d4, d5] }
  | _ => none }
def pteMoreRow : OpenClaim := { program := "ytfifflepgfpjiaa", sum := "ccdfe438ca3498b20bebf42f2671928c7446275b8c1abced16d0c771ca842b20", func := "hermitage/hermitagelaw14.PteMore", spec := "pteMore", apart := false }
def PteMoreSaid : Prop := pteMoreRow.holds Try.pinned (OpenSpec.ofChange pteMoreSpec)

/-- ITS FALSE NEIGHBOUR: 'it returns false'. Refute it at one input. -/
def pteMoreWrong : ChangeSpec := { name := "pteMore", fn := fun _ => fun
  | [d1, d2, d3, d4, d5] => { results := [.lit (.bool false)], args := [d1, d2, d3, d4, d5] }
  | _ => none }
def PteMoreWrongFalsely : Prop := pteMoreRow.holds Try.pinned (OpenSpec.ofChange pteMoreWrong)

/-- 'hermitagelaw14.PteLevels': WHATEVER THE INPUT: true; the input reads as it did. -/
def pteLevelsSpec : ChangeSpec := { name := "pteLevels", fn := fun _ => fun
  | [d] => { results := [.lit (.bool true)], args := [d] }
  | _ => none }
def pteLevelsRow : OpenClaim := { program := "ytfifflepgfpjiaa", sum := "ccdfe438ca3498b20bebf42f2671928c7446275b8c1abced16d0c771ca842b20", func := "hermitage/hermitagelaw14.PteLevels", spec := "pteLevels", apart := false }
def PteLevelsSaid : Prop := pteLevelsRow.holds Try.pinned (OpenSpec.ofChange pteLevelsSpec)

/-- ITS FALSE NEIGHBOUR: 'it returns false'. Refute it at one input. -/
def pteLevelsWrong : ChangeSpec := { name := "pteLevels", fn := fun _ => fun
  | [d] => { results := [.lit (.bool false)], args := [d] }
  | _ => none }
def PteLevelsWrongFalsely : Prop := pteLevelsRow.holds Try.pinned (OpenSpec.ofChange pteLevelsWrong)

/- THE SECOND FORM. 'bulk': how many values and letters a reading holds, each counted each time it is reached (what is shared counts as often as it is met; a slice's spare places count too). A statement '..UptoSaid' is the law's where the arguments, and the package variables that the reading takes, are together of bulk at most 1048576: NARROWER than '..Said'. Prove '..Said' where nothing that the law and all that it calls make is longer than what came in: it says more and counts as full. Else prove '..UptoSaid'. A law counts once. -/
mutual
def uptoBulk {H : Type} : DataW H → Nat
  | .lit (.string bytes) => bytes.length + 1
  | .lit _ => 1
  | .nil => 1
  | .ptr d => uptoBulk d + 1
  | .slice elems spare => uptoBulkAll elems + uptoBulkAll spare + 1
  | .agg parts => uptoBulkAll parts + 1
  | .iface _ d => uptoBulk d + 1
  | .map entries => uptoBulkEntries entries + 1
  | .held _ => 1
def uptoBulkAll {H : Type} : List (DataW H) → Nat
  | [] => 0
  | d :: r => uptoBulk d + uptoBulkAll r
def uptoBulkEntries {H : Type} : List (Lit × DataW H) → Nat
  | [] => 0
  | x :: r => uptoBulkEntry x + uptoBulkEntries r
def uptoBulkEntry {H : Type} : Lit × DataW H → Nat
  | (.string bytes, d) => bytes.length + uptoBulk d + 1
  | (_, d) => uptoBulk d + 1
 end
def uptoSmall : (H : Type) → List (DataW H) → Bool := fun _ ds => decide (uptoBulkAll ds ≤ 1048576)
def OpenSpec.upto (s : _root_.Go.ChangeSpec) : _root_.Go.OpenSpec := { _root_.Go.OpenSpec.ofChange s with cond := some uptoSmall }

/-- 'hermitagelaw14.PtePlays', WHERE WHAT IT READS IS OF BULK AT MOST 1048576: true; the input reads as it did. -/
def ptePlaysUptoRow : OpenClaim := { program := "ytfifflepgfpjiaa", sum := "ccdfe438ca3498b20bebf42f2671928c7446275b8c1abced16d0c771ca842b20", func := "hermitage/hermitagelaw14.PtePlays", spec := "ptePlays", apart := false, narrowed := true }
def PtePlaysUptoSaid : Prop := ptePlaysUptoRow.holds Try.pinned (OpenSpec.upto ptePlaysSpec)

/-- 'hermitagelaw14.PteBack', WHERE WHAT IT READS IS OF BULK AT MOST 1048576: true; the input reads as it did. -/
def pteBackUptoRow : OpenClaim := { program := "ytfifflepgfpjiaa", sum := "ccdfe438ca3498b20bebf42f2671928c7446275b8c1abced16d0c771ca842b20", func := "hermitage/hermitagelaw14.PteBack", spec := "pteBack", apart := false, narrowed := true }
def PteBackUptoSaid : Prop := pteBackUptoRow.holds Try.pinned (OpenSpec.upto pteBackSpec)

/-- 'hermitagelaw14.PteMore', WHERE WHAT IT READS IS OF BULK AT MOST 1048576: true; the input reads as it did. -/
def pteMoreUptoRow : OpenClaim := { program := "ytfifflepgfpjiaa", sum := "ccdfe438ca3498b20bebf42f2671928c7446275b8c1abced16d0c771ca842b20", func := "hermitage/hermitagelaw14.PteMore", spec := "pteMore", apart := false, narrowed := true }
def PteMoreUptoSaid : Prop := pteMoreUptoRow.holds Try.pinned (OpenSpec.upto pteMoreSpec)

/-- 'hermitagelaw14.PteLevels', WHERE WHAT IT READS IS OF BULK AT MOST 1048576: true; the input reads as it did. -/
def pteLevelsUptoRow : OpenClaim := { program := "ytfifflepgfpjiaa", sum := "ccdfe438ca3498b20bebf42f2671928c7446275b8c1abced16d0c771ca842b20", func := "hermitage/hermitagelaw14.PteLevels", spec := "pteLevels", apart := false, narrowed := true }
def PteLevelsUptoSaid : Prop := pteLevelsUptoRow.holds Try.pinned (OpenSpec.upto pteLevelsSpec)

end Rows
end Go.Proofs.Ytfifflepgfpjiaa
