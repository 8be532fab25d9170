/-
  No cell of these rows narrows 'for every input' (looked for: loops, veiled, ifaces, maps, wideKeys, modest, calm, conditions, laid).
  DERIVED. THE GIVEN ROWS OF THIS SEAT. 4 by the template 'for every input the law returns true; each argument reads behind the call as it read before'; 0 by the template 'total and deterministic' (their statements: YtdckmbkgnlmphaaTotals.lean).
  GIVEN WITH THE SEED: the statements are not yours to turn. If you find one false, say at which input.
  Laid BY PROGRAM, IN A SANDBOX (cutbox-rows.mjs): the forced cells as the released guide's own fill.sh prints them over the translation 9dab236bb19b3dbd… (all of the seat's roots in one cut). By AI agents, Wed Nov 11 2026. No macro, syntax, notation, axiom, sorry.
-/
import Derived.Test.YtdckmbkgnlmphaaChecked
import GoSem.Claim
import GoSem.ClaimJoined
import GoSem.ClaimMapViews
import Derived.JoinedTies
import Derived.KernelRfl
namespace Go.Proofs.Ytdckmbkgnlmphaa
/- THE CELL 'sum', in the pinned program and in every row, IS THE sha256 OF THE DUMP (.gsa) THAT YtdckmbkgnlmphaaProg.lean LOADS. Nothing in Lean hashes anything: it is a label: what it is worth is what the hold of that sum in a sandbox is worth. -/
noncomputable def Try.pinned : Pinned := { name := "ytdckmbkgnlmphaa", sum := "9dab236bb19b3dbdbbb9c99284850aa28983787bedd6025bb0e4acdec6f30c02", checked := Try.checked }
namespace Rows
def none {H : Type} : Left H := { results := [], args := [] }

/-- 'hermitagelaw06.FramesPlays': WHATEVER THE INPUT: true; the input reads as it did. -/
def framesPlaysSpec : ChangeSpec := { name := "framesPlays", fn := fun _ => fun
  | [d1, d2, d3, d4, d5, d6] => { results := [.lit (.bool true)], args := [d1, d2, d3, d4, d5, d6] }
  | _ => none }
def framesPlaysRow : OpenClaim := { program := "ytdckmbkgnlmphaa", sum := "9dab236bb19b3dbdbbb9c99284850aa28983787bedd6025bb0e4acdec6f30c02", func := "hermitage/hermitagelaw06.FramesPlays", spec := "framesPlays", apart := false }
def FramesPlaysSaid : Prop := framesPlaysRow.holds Try.pinned (OpenSpec.ofChange framesPlaysSpec)

/-- ITS FALSE NEIGHBOUR: 'it returns false'. Refute it at one input. -/
def framesPlaysWrong : ChangeSpec := { name := "framesPlays", fn := fun _ => fun
  | [d1, d2, d3, d4, d5, d6] => { results := [.lit (.bool false)], args := [d1, d2, d3, d4, d5, d6] }
  | _ => none }
def FramesPlaysWrongFalsely : Prop := framesPlaysRow.holds Try.pinned (OpenSpec.ofChange framesPlaysWrong)

/-- 'hermitagelaw06.FramesOne': WHATEVER THE INPUT: true; the input reads as it did. -/
def framesOneSpec : ChangeSpec := { name := "framesOne", fn := fun _ => fun
  | [d1, d2, d3, d4, d5] => { results := [.lit (.bool true)], args := [d1, d2, d3, d4, d5] }
  | _ => none }
def framesOneRow : OpenClaim := { program := "ytdckmbkgnlmphaa", sum := "9dab236bb19b3dbdbbb9c99284850aa28983787bedd6025bb0e4acdec6f30c02", func := "hermitage/hermitagelaw06.FramesOne", spec := "framesOne", apart := false }
def FramesOneSaid : Prop := framesOneRow.holds Try.pinned (OpenSpec.ofChange framesOneSpec)

/-- ITS FALSE NEIGHBOUR: 'it returns false'. Refute it at one input. -/
def framesOneWrong : ChangeSpec := { name := "framesOne", fn := fun _ => fun
  | [d1, d2, d3, d4, d5] => { results := [.lit (.bool false)], args := [d1, d2, d3, d4, d5] }
  | _ => none }
def FramesOneWrongFalsely : Prop := framesOneRow.holds Try.pinned (OpenSpec.ofChange framesOneWrong)

/-- 'hermitagelaw06.FramesClears': WHATEVER THE INPUT: true; the input reads as it did. -/
def framesClearsSpec : ChangeSpec := { name := "framesClears", fn := fun _ => fun
  | [d1, d2, d3, d4] => { results := [.lit (.bool true)], args := [d1, d2, d3, d4] }
  | _ => none }
def framesClearsRow : OpenClaim := { program := "ytdckmbkgnlmphaa", sum := "9dab236bb19b3dbdbbb9c99284850aa28983787bedd6025bb0e4acdec6f30c02", func := "hermitage/hermitagelaw06.FramesClears", spec := "framesClears", apart := false }
def FramesClearsSaid : Prop := framesClearsRow.holds Try.pinned (OpenSpec.ofChange framesClearsSpec)

/-- ITS FALSE NEIGHBOUR: 'it returns false'. Refute it at one input. -/
def framesClearsWrong : ChangeSpec := { name := "framesClears", fn := fun _ => fun
  | [d1, d2, d3, d4] => { results := [.lit (.bool false)], args := [d1, d2, d3, d4] }
  | _ => none }
def FramesClearsWrongFalsely : Prop := framesClearsRow.holds Try.pinned (OpenSpec.ofChange framesClearsWrong)

/-- 'hermitagelaw06.FramesZero': WHATEVER THE INPUT: true; the input reads as it did. -/
def framesZeroSpec : ChangeSpec := { name := "framesZero", fn := fun _ => fun
  | [d1, d2, d3, d4] => { results := [.lit (.bool true)], args := [d1, d2, d3, d4] }
  | _ => none }
def framesZeroRow : OpenClaim := { program := "ytdckmbkgnlmphaa", sum := "9dab236bb19b3dbdbbb9c99284850aa28983787bedd6025bb0e4acdec6f30c02", func := "hermitage/hermitagelaw06.FramesZero", spec := "framesZero", apart := false }
def FramesZeroSaid : Prop := framesZeroRow.holds Try.pinned (OpenSpec.ofChange framesZeroSpec)

/-- ITS FALSE NEIGHBOUR: 'it returns false'. Refute it at one input. -/
def framesZeroWrong : ChangeSpec := { name := "framesZero", fn := fun _ => fun
  | [d1, d2, d3, d4] => { results := [.lit (.bool false)], args := [d1, d2, d3, d4] }
  | _ => none }
def FramesZeroWrongFalsely : Prop := framesZeroRow.holds Try.pinned (OpenSpec.ofChange framesZeroWrong)

/- THE SECOND FORM. 'bulk': how many values and letters a reading holds, each counted each time it is reached (what is shared counts as often as it is met; a slice's spare places count too). A statement '..UptoSaid' is the law's where the arguments, and the package variables that the reading takes, are together of bulk at most 1048576: NARROWER than '..Said'. Prove '..Said' where nothing that the law and all that it calls make is longer than what came in: it says more and counts as full. Else prove '..UptoSaid'. A law counts once. -/
mutual
def uptoBulk {H : Type} : DataW H → Nat
  | .lit (.string bytes) => bytes.length + 1
  | .lit _ => 1
  | .nil => 1
  | .ptr d => uptoBulk d + 1
  | .slice elems spare => uptoBulkAll elems + uptoBulkAll spare + 1
  | .agg parts => uptoBulkAll parts + 1
  | .iface _ d => uptoBulk d + 1
  | .map entries => uptoBulkEntries entries + 1
  | .held _ => 1
def uptoBulkAll {H : Type} : List (DataW H) → Nat
  | [] => 0
  | d :: r => uptoBulk d + uptoBulkAll r
def uptoBulkEntries {H : Type} : List (Lit × DataW H) → Nat
  | [] => 0
  | x :: r => uptoBulkEntry x + uptoBulkEntries r
def uptoBulkEntry {H : Type} : Lit × DataW H → Nat
  | (.string bytes, d) => bytes.length + uptoBulk d + 1
  | (_, d) => uptoBulk d + 1
 end
def uptoSmall : (H : Type) → List (DataW H) → Bool := fun _ ds => decide (uptoBulkAll ds ≤ 1048576)
def OpenSpec.upto (s : _root_.Go.ChangeSpec) : _root_.Go.OpenSpec := { _root_.Go.OpenSpec.ofChange s with cond := some uptoSmall }

/-- 'hermitagelaw06.FramesPlays', WHERE WHAT IT READS IS OF BULK AT MOST 1048576: true; the input reads as it did. -/
def framesPlaysUptoRow : OpenClaim := { program := "ytdckmbkgnlmphaa", sum := "9dab236bb19b3dbdbbb9c99284850aa28983787bedd6025bb0e4acdec6f30c02", func := "hermitage/hermitagelaw06.FramesPlays", spec := "framesPlays", apart := false, narrowed := true }
def FramesPlaysUptoSaid : Prop := framesPlaysUptoRow.holds Try.pinned (OpenSpec.upto framesPlaysSpec)

/-- 'hermitagelaw06.FramesOne', WHERE WHAT IT READS IS OF BULK AT MOST 1048576: true; the input reads as it did. -/
def framesOneUptoRow : OpenClaim := { program := "ytdckmbkgnlmphaa", sum := "9dab236bb19b3dbdbbb9c99284850aa28983787bedd6025bb0e4acdec6f30c02", func := "hermitage/hermitagelaw06.FramesOne", spec := "framesOne", apart := false, narrowed := true }
def FramesOneUptoSaid : Prop := framesOneUptoRow.holds Try.pinned (OpenSpec.upto framesOneSpec)

/-- 'hermitagelaw06.FramesClears', WHERE WHAT IT READS IS OF BULK AT MOST 1048576: true; the input reads as it did. -/
def framesClearsUptoRow : OpenClaim := { program := "ytdckmbkgnlmphaa", sum := "9dab236bb19b3dbdbbb9c99284850aa28983787bedd6025bb0e4acdec6f30c02", func := "hermitage/hermitagelaw06.FramesClears", spec := "framesClears", apart := false, narrowed := true }
def FramesClearsUptoSaid : Prop := framesClearsUptoRow.holds Try.pinned (OpenSpec.upto framesClearsSpec)

/-- 'hermitagelaw06.FramesZero', WHERE WHAT IT READS IS OF BULK AT MOST 1048576: true; the input reads as it did. -/
def framesZeroUptoRow : OpenClaim := { program := "ytdckmbkgnlmphaa", sum := "9dab236bb19b3dbdbbb9c99284850aa28983787bedd6025bb0e4acdec6f30c02", func := "hermitage/hermitagelaw06.FramesZero", spec := "framesZero", apart := false, narrowed := true }
def FramesZeroUptoSaid : Prop := framesZeroUptoRow.holds Try.pinned (OpenSpec.upto framesZeroSpec)

end Rows
end Go.Proofs.Ytdckmbkgnlmphaa
