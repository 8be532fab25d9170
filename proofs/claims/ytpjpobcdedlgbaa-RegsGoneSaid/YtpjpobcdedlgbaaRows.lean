/-
  No cell of these rows narrows 'for every input' (looked for: loops, veiled, ifaces, maps, wideKeys, modest, calm, conditions, laid).
  DERIVED. THE GIVEN ROWS OF THIS SEAT. 4 by the template 'for every input the law returns true; each argument reads behind the call as it read before'; 0 by the template 'total and deterministic' (their statements: YtpjpobcdedlgbaaTotals.lean).
  GIVEN WITH THE SEED: the statements are not yours to turn. If you find one false, say at which input.
  Laid BY PROGRAM, IN A SANDBOX (cutbox-rows.mjs): the forced cells as the released guide's own fill.sh prints them over the translation 1b9cfd28715a33c4… (all of the seat's roots in one cut). By AI agents, Wed Nov 11 2026. No macro, syntax, notation, axiom, sorry.
-/
import Derived.Test.YtpjpobcdedlgbaaChecked
import GoSem.Claim
import GoSem.ClaimJoined
import GoSem.ClaimMapViews
import Derived.JoinedTies
import Derived.KernelRfl
namespace Go.Proofs.Ytpjpobcdedlgbaa
/- THE CELL 'sum', in the pinned program and in every row, IS THE sha256 OF THE DUMP (.gsa) THAT YtpjpobcdedlgbaaProg.lean LOADS. Nothing in Lean hashes anything: it is a label: what it is worth is what the hold of that sum in a sandbox is worth. -/
noncomputable def Try.pinned : Pinned := { name := "ytpjpobcdedlgbaa", sum := "1b9cfd28715a33c489b154a5a423b6316e679a2694aa37e82d066b4ffd333d7b", checked := Try.checked }
namespace Rows
def none {H : Type} : Left H := { results := [], args := [] }

/-- 'hermitagelaw11.RegsPlays': WHATEVER THE INPUT: true; the input reads as it did. -/
def regsPlaysSpec : ChangeSpec := { name := "regsPlays", fn := fun _ => fun
  | [d1, d2, d3] => { results := [.lit (.bool true)], args := [d1, d2, d3] }
  | _ => none }
def regsPlaysRow : OpenClaim := { program := "ytpjpobcdedlgbaa", sum := "1b9cfd28715a33c489b154a5a423b6316e679a2694aa37e82d066b4ffd333d7b", func := "hermitage/hermitagelaw11.RegsPlays", spec := "regsPlays", apart := false }
def RegsPlaysSaid : Prop := regsPlaysRow.holds Try.pinned (OpenSpec.ofChange regsPlaysSpec)

/-- ITS FALSE NEIGHBOUR: 'it returns false'. Refute it at one input. -/
def regsPlaysWrong : ChangeSpec := { name := "regsPlays", fn := fun _ => fun
  | [d1, d2, d3] => { results := [.lit (.bool false)], args := [d1, d2, d3] }
  | _ => none }
def RegsPlaysWrongFalsely : Prop := regsPlaysRow.holds Try.pinned (OpenSpec.ofChange regsPlaysWrong)

/-- 'hermitagelaw11.RegsOne': WHATEVER THE INPUT: true; the input reads as it did. -/
def regsOneSpec : ChangeSpec := { name := "regsOne", fn := fun _ => fun
  | [d1, d2] => { results := [.lit (.bool true)], args := [d1, d2] }
  | _ => none }
def regsOneRow : OpenClaim := { program := "ytpjpobcdedlgbaa", sum := "1b9cfd28715a33c489b154a5a423b6316e679a2694aa37e82d066b4ffd333d7b", func := "hermitage/hermitagelaw11.RegsOne", spec := "regsOne", apart := false }
def RegsOneSaid : Prop := regsOneRow.holds Try.pinned (OpenSpec.ofChange regsOneSpec)

/-- ITS FALSE NEIGHBOUR: 'it returns false'. Refute it at one input. -/
def regsOneWrong : ChangeSpec := { name := "regsOne", fn := fun _ => fun
  | [d1, d2] => { results := [.lit (.bool false)], args := [d1, d2] }
  | _ => none }
def RegsOneWrongFalsely : Prop := regsOneRow.holds Try.pinned (OpenSpec.ofChange regsOneWrong)

/-- 'hermitagelaw11.RegsGone': WHATEVER THE INPUT: true; the input reads as it did. -/
def regsGoneSpec : ChangeSpec := { name := "regsGone", fn := fun _ => fun
  | [d1, d2, d3] => { results := [.lit (.bool true)], args := [d1, d2, d3] }
  | _ => none }
def regsGoneRow : OpenClaim := { program := "ytpjpobcdedlgbaa", sum := "1b9cfd28715a33c489b154a5a423b6316e679a2694aa37e82d066b4ffd333d7b", func := "hermitage/hermitagelaw11.RegsGone", spec := "regsGone", apart := false }
def RegsGoneSaid : Prop := regsGoneRow.holds Try.pinned (OpenSpec.ofChange regsGoneSpec)

/-- ITS FALSE NEIGHBOUR: 'it returns false'. Refute it at one input. -/
def regsGoneWrong : ChangeSpec := { name := "regsGone", fn := fun _ => fun
  | [d1, d2, d3] => { results := [.lit (.bool false)], args := [d1, d2, d3] }
  | _ => none }
def RegsGoneWrongFalsely : Prop := regsGoneRow.holds Try.pinned (OpenSpec.ofChange regsGoneWrong)

/-- 'hermitagelaw11.RegsZero': WHATEVER THE INPUT: true; the input reads as it did. -/
def regsZeroSpec : ChangeSpec := { name := "regsZero", fn := fun _ => fun
  | [d1, d2] => { results := [.lit (.bool true)], args := [d1, d2] }
  | _ => none }
def regsZeroRow : OpenClaim := { program := "ytpjpobcdedlgbaa", sum := "1b9cfd28715a33c489b154a5a423b6316e679a2694aa37e82d066b4ffd333d7b", func := "hermitage/hermitagelaw11.RegsZero", spec := "regsZero", apart := false }
def RegsZeroSaid : Prop := regsZeroRow.holds Try.pinned (OpenSpec.ofChange regsZeroSpec)

/-- ITS FALSE NEIGHBOUR: 'it returns false'. Refute it at one input. -/
def regsZeroWrong : ChangeSpec := { name := "regsZero", fn := fun _ => fun
  | [d1, d2] => { results := [.lit (.bool false)], args := [d1, d2] }
  | _ => none }
def RegsZeroWrongFalsely : Prop := regsZeroRow.holds Try.pinned (OpenSpec.ofChange regsZeroWrong)

/- THE SECOND FORM. 'bulk': how many values and letters a reading holds, each counted each time it is reached (what is shared counts as often as it is met; a slice's spare places count too). A statement '..UptoSaid' is the law's where the arguments, and the package variables that the reading takes, are together of bulk at most 1048576: NARROWER than '..Said'. Prove '..Said' where nothing that the law and all that it calls make is longer than what came in: it says more and counts as full. Else prove '..UptoSaid'. A law counts once. -/
mutual
def uptoBulk {H : Type} : DataW H → Nat
  | .lit (.string bytes) => bytes.length + 1
  | .lit _ => 1
  | .nil => 1
  | .ptr d => uptoBulk d + 1
  | .slice elems spare => uptoBulkAll elems + uptoBulkAll spare + 1
  | .agg parts => uptoBulkAll parts + 1
  | .iface _ d => uptoBulk d + 1
  | .map entries => uptoBulkEntries entries + 1
  | .held _ => 1
def uptoBulkAll {H : Type} : List (DataW H) → Nat
  | [] => 0
  | d :: r => uptoBulk d + uptoBulkAll r
def uptoBulkEntries {H : Type} : List (Lit × DataW H) → Nat
  | [] => 0
  | x :: r => uptoBulkEntry x + uptoBulkEntries r
def uptoBulkEntry {H : Type} : Lit × DataW H → Nat
  | (.string bytes, d) => bytes.length + uptoBulk d + 1
  | (_, d) => uptoBulk d + 1
 end
def uptoSmall : (H : Type) → List (DataW H) → Bool := fun _ ds => decide (uptoBulkAll ds ≤ 1048576)
def OpenSpec.upto (s : _root_.Go.ChangeSpec) : _root_.Go.OpenSpec := { _root_.Go.OpenSpec.ofChange s with cond := some uptoSmall }

/-- 'hermitagelaw11.RegsPlays', WHERE WHAT IT READS IS OF BULK AT MOST 1048576: true; the input reads as it did. -/
def regsPlaysUptoRow : OpenClaim := { program := "ytpjpobcdedlgbaa", sum := "1b9cfd28715a33c489b154a5a423b6316e679a2694aa37e82d066b4ffd333d7b", func := "hermitage/hermitagelaw11.RegsPlays", spec := "regsPlays", apart := false, narrowed := true }
def RegsPlaysUptoSaid : Prop := regsPlaysUptoRow.holds Try.pinned (OpenSpec.upto regsPlaysSpec)

/-- 'hermitagelaw11.RegsOne', WHERE WHAT IT READS IS OF BULK AT MOST 1048576: true; the input reads as it did. -/
def regsOneUptoRow : OpenClaim := { program := "ytpjpobcdedlgbaa", sum := "1b9cfd28715a33c489b154a5a423b6316e679a2694aa37e82d066b4ffd333d7b", func := "hermitage/hermitagelaw11.RegsOne", spec := "regsOne", apart := false, narrowed := true }
def RegsOneUptoSaid : Prop := regsOneUptoRow.holds Try.pinned (OpenSpec.upto regsOneSpec)

/-- 'hermitagelaw11.RegsGone', WHERE WHAT IT READS IS OF BULK AT MOST 1048576: true; the input reads as it did. -/
def regsGoneUptoRow : OpenClaim := { program := "ytpjpobcdedlgbaa", sum := "1b9cfd28715a33c489b154a5a423b6316e679a2694aa37e82d066b4ffd333d7b", func := "hermitage/hermitagelaw11.RegsGone", spec := "regsGone", apart := false, narrowed := true }
def RegsGoneUptoSaid : Prop := regsGoneUptoRow.holds Try.pinned (OpenSpec.upto regsGoneSpec)

/-- 'hermitagelaw11.RegsZero', WHERE WHAT IT READS IS OF BULK AT MOST 1048576: true; the input reads as it did. -/
def regsZeroUptoRow : OpenClaim := { program := "ytpjpobcdedlgbaa", sum := "1b9cfd28715a33c489b154a5a423b6316e679a2694aa37e82d066b4ffd333d7b", func := "hermitage/hermitagelaw11.RegsZero", spec := "regsZero", apart := false, narrowed := true }
def RegsZeroUptoSaid : Prop := regsZeroUptoRow.holds Try.pinned (OpenSpec.upto regsZeroSpec)

end Rows
end Go.Proofs.Ytpjpobcdedlgbaa
