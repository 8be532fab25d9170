/-
  No cell of these rows narrows 'for every input' (looked for: loops, veiled, ifaces, maps, wideKeys, modest, calm, conditions, laid).
  DERIVED. THE GIVEN ROWS OF THIS SEAT. 5 by the template 'for every input the law returns true; each argument reads behind the call as it read before'; 0 by the template 'total and deterministic' (their statements: YtgcpcffgpokbfaaTotals.lean).
  GIVEN WITH THE SEED: the statements are not yours to turn. If you find one false, say at which input.
  Laid BY PROGRAM, IN A SANDBOX (cutbox-rows.mjs): the forced cells as the released guide's own fill.sh prints them over the translation 7e1375c17eabbcc7… (all of the seat's roots in one cut). By AI agents, Wed Nov 11 2026. No macro, syntax, notation, axiom, sorry.
-/
import Derived.Test.YtgcpcffgpokbfaaChecked
import GoSem.Claim
import GoSem.ClaimJoined
import GoSem.ClaimMapViews
import Derived.JoinedTies
import Derived.KernelRfl
namespace Go.Proofs.Ytgcpcffgpokbfaa
/- THE CELL 'sum', in the pinned program and in every row, IS THE sha256 OF THE DUMP (.gsa) THAT YtgcpcffgpokbfaaProg.lean LOADS. Nothing in Lean hashes anything: it is a label: what it is worth is what the hold of that sum in a sandbox is worth. -/
noncomputable def Try.pinned : Pinned := { name := "ytgcpcffgpokbfaa", sum := "7e1375c17eabbcc78443ccf2febc629fac4028d5a1b81b21df981947a013b905", checked := Try.checked }
namespace Rows
def none {H : Type} : Left H := { results := [], args := [] }

/-- 'hermitagelaw18.StlbPlays': WHATEVER THE INPUT: true; the input reads as it did. -/
def stlbPlaysSpec : ChangeSpec := { name := "stlbPlays", fn := fun _ => fun
  | [d1, d2, d3, d4] => { results := [.lit (.bool true)], args := [d1, d2, d3, d4] }
  | _ => none }
def stlbPlaysRow : OpenClaim := { program := "ytgcpcffgpokbfaa", sum := "7e1375c17eabbcc78443ccf2febc629fac4028d5a1b81b21df981947a013b905", func := "hermitage/hermitagelaw18.StlbPlays", spec := "stlbPlays", unfollowed := true, recurses := true, apart := false }
def StlbPlaysSaid : Prop := stlbPlaysRow.holds Try.pinned (OpenSpec.ofChange stlbPlaysSpec)

/-- ITS FALSE NEIGHBOUR: 'it returns false'. Refute it at one input. -/
def stlbPlaysWrong : ChangeSpec := { name := "stlbPlays", fn := fun _ => fun
  | [d1, d2, d3, d4] => { results := [.lit (.bool false)], args := [d1, d2, d3, d4] }
  | _ => none }
def StlbPlaysWrongFalsely : Prop := stlbPlaysRow.holds Try.pinned (OpenSpec.ofChange stlbPlaysWrong)

/-- 'hermitagelaw18.StlbRoom': WHATEVER THE INPUT: true; the input reads as it did. -/
def stlbRoomSpec : ChangeSpec := { name := "stlbRoom", fn := fun _ => fun
  | [d1, d2, d3] => { results := [.lit (.bool true)], args := [d1, d2, d3] }
  | _ => none }
def stlbRoomRow : OpenClaim := { program := "ytgcpcffgpokbfaa", sum := "7e1375c17eabbcc78443ccf2febc629fac4028d5a1b81b21df981947a013b905", func := "hermitage/hermitagelaw18.StlbRoom", spec := "stlbRoom", unfollowed := true, recurses := true, apart := false }
def StlbRoomSaid : Prop := stlbRoomRow.holds Try.pinned (OpenSpec.ofChange stlbRoomSpec)

/-- ITS FALSE NEIGHBOUR: 'it returns false'. Refute it at one input. -/
def stlbRoomWrong : ChangeSpec := { name := "stlbRoom", fn := fun _ => fun
  | [d1, d2, d3] => { results := [.lit (.bool false)], args := [d1, d2, d3] }
  | _ => none }
def StlbRoomWrongFalsely : Prop := stlbRoomRow.holds Try.pinned (OpenSpec.ofChange stlbRoomWrong)

/-- 'hermitagelaw18.StlbUsed': WHATEVER THE INPUT: true; the input reads as it did. -/
def stlbUsedSpec : ChangeSpec := { name := "stlbUsed", fn := fun _ => fun
  | [d1, d2, d3, d4] => { results := [.lit (.bool true)], args := [d1, d2, d3, d4] }
  | _ => none }
def stlbUsedRow : OpenClaim := { program := "ytgcpcffgpokbfaa", sum := "7e1375c17eabbcc78443ccf2febc629fac4028d5a1b81b21df981947a013b905", func := "hermitage/hermitagelaw18.StlbUsed", spec := "stlbUsed", unfollowed := true, recurses := true, apart := false }
def StlbUsedSaid : Prop := stlbUsedRow.holds Try.pinned (OpenSpec.ofChange stlbUsedSpec)

/-- ITS FALSE NEIGHBOUR: 'it returns false'. Refute it at one input. -/
def stlbUsedWrong : ChangeSpec := { name := "stlbUsed", fn := fun _ => fun
  | [d1, d2, d3, d4] => { results := [.lit (.bool false)], args := [d1, d2, d3, d4] }
  | _ => none }
def StlbUsedWrongFalsely : Prop := stlbUsedRow.holds Try.pinned (OpenSpec.ofChange stlbUsedWrong)

/-- 'hermitagelaw18.StlbNarrow': WHATEVER THE INPUT: true; the input reads as it did. -/
def stlbNarrowSpec : ChangeSpec := { name := "stlbNarrow", fn := fun _ => fun
  | [d1, d2, d3] => { results := [.lit (.bool true)], args := [d1, d2, d3] }
  | _ => none }
def stlbNarrowRow : OpenClaim := { program := "ytgcpcffgpokbfaa", sum := "7e1375c17eabbcc78443ccf2febc629fac4028d5a1b81b21df981947a013b905", func := "hermitage/hermitagelaw18.StlbNarrow", spec := "stlbNarrow", unfollowed := true, recurses := true, apart := false }
def StlbNarrowSaid : Prop := stlbNarrowRow.holds Try.pinned (OpenSpec.ofChange stlbNarrowSpec)

/-- ITS FALSE NEIGHBOUR: 'it returns false'. Refute it at one input. -/
def stlbNarrowWrong : ChangeSpec := { name := "stlbNarrow", fn := fun _ => fun
  | [d1, d2, d3] => { results := [.lit (.bool false)], args := [d1, d2, d3] }
  | _ => none }
def StlbNarrowWrongFalsely : Prop := stlbNarrowRow.holds Try.pinned (OpenSpec.ofChange stlbNarrowWrong)

/-- 'hermitagelaw18.StlbZero': WHATEVER THE INPUT: true; the input reads as it did. -/
def stlbZeroSpec : ChangeSpec := { name := "stlbZero", fn := fun _ => fun
  | [d1, d2] => { results := [.lit (.bool true)], args := [d1, d2] }
  | _ => none }
def stlbZeroRow : OpenClaim := { program := "ytgcpcffgpokbfaa", sum := "7e1375c17eabbcc78443ccf2febc629fac4028d5a1b81b21df981947a013b905", func := "hermitage/hermitagelaw18.StlbZero", spec := "stlbZero", unfollowed := true, recurses := true, apart := false }
def StlbZeroSaid : Prop := stlbZeroRow.holds Try.pinned (OpenSpec.ofChange stlbZeroSpec)

/-- ITS FALSE NEIGHBOUR: 'it returns false'. Refute it at one input. -/
def stlbZeroWrong : ChangeSpec := { name := "stlbZero", fn := fun _ => fun
  | [d1, d2] => { results := [.lit (.bool false)], args := [d1, d2] }
  | _ => none }
def StlbZeroWrongFalsely : Prop := stlbZeroRow.holds Try.pinned (OpenSpec.ofChange stlbZeroWrong)

/- THE SECOND FORM. 'bulk': how many values and letters a reading holds, each counted each time it is reached (what is shared counts as often as it is met; a slice's spare places count too). A statement '..UptoSaid' is the law's where the arguments, and the package variables that the reading takes, are together of bulk at most 1048576: NARROWER than '..Said'. Prove '..Said' where nothing that the law and all that it calls make is longer than what came in: it says more and counts as full. Else prove '..UptoSaid'. A law counts once. -/
mutual
def uptoBulk {H : Type} : DataW H → Nat
  | .lit (.string bytes) => bytes.length + 1
  | .lit _ => 1
  | .nil => 1
  | .ptr d => uptoBulk d + 1
  | .slice elems spare => uptoBulkAll elems + uptoBulkAll spare + 1
  | .agg parts => uptoBulkAll parts + 1
  | .iface _ d => uptoBulk d + 1
  | .map entries => uptoBulkEntries entries + 1
  | .held _ => 1
def uptoBulkAll {H : Type} : List (DataW H) → Nat
  | [] => 0
  | d :: r => uptoBulk d + uptoBulkAll r
def uptoBulkEntries {H : Type} : List (Lit × DataW H) → Nat
  | [] => 0
  | x :: r => uptoBulkEntry x + uptoBulkEntries r
def uptoBulkEntry {H : Type} : Lit × DataW H → Nat
  | (.string bytes, d) => bytes.length + uptoBulk d + 1
  | (_, d) => uptoBulk d + 1
 end
def uptoSmall : (H : Type) → List (DataW H) → Bool := fun _ ds => decide (uptoBulkAll ds ≤ 1048576)
def OpenSpec.upto (s : _root_.Go.ChangeSpec) : _root_.Go.OpenSpec := { _root_.Go.OpenSpec.ofChange s with cond := some uptoSmall }

/-- 'hermitagelaw18.StlbPlays', WHERE WHAT IT READS IS OF BULK AT MOST 1048576: true; the input reads as it did. -/
def stlbPlaysUptoRow : OpenClaim := { program := "ytgcpcffgpokbfaa", sum := "7e1375c17eabbcc78443ccf2febc629fac4028d5a1b81b21df981947a013b905", func := "hermitage/hermitagelaw18.StlbPlays", spec := "stlbPlays", unfollowed := true, recurses := true, apart := false, narrowed := true }
def StlbPlaysUptoSaid : Prop := stlbPlaysUptoRow.holds Try.pinned (OpenSpec.upto stlbPlaysSpec)

/-- 'hermitagelaw18.StlbRoom', WHERE WHAT IT READS IS OF BULK AT MOST 1048576: true; the input reads as it did. -/
def stlbRoomUptoRow : OpenClaim := { program := "ytgcpcffgpokbfaa", sum := "7e1375c17eabbcc78443ccf2febc629fac4028d5a1b81b21df981947a013b905", func := "hermitage/hermitagelaw18.StlbRoom", spec := "stlbRoom", unfollowed := true, recurses := true, apart := false, narrowed := true }
def StlbRoomUptoSaid : Prop := stlbRoomUptoRow.holds Try.pinned (OpenSpec.upto stlbRoomSpec)

/-- 'hermitagelaw18.StlbUsed', WHERE WHAT IT READS IS OF BULK AT MOST 1048576: true; the input reads as it did. -/
def stlbUsedUptoRow : OpenClaim := { program := "ytgcpcffgpokbfaa", sum := "7e1375c17eabbcc78443ccf2febc629fac4028d5a1b81b21df981947a013b905", func := "hermitage/hermitagelaw18.StlbUsed", spec := "stlbUsed", unfollowed := true, recurses := true, apart := false, narrowed := true }
def StlbUsedUptoSaid : Prop := stlbUsedUptoRow.holds Try.pinned (OpenSpec.upto stlbUsedSpec)

/-- 'hermitagelaw18.StlbNarrow', WHERE WHAT IT READS IS OF BULK AT MOST 1048576: true; the input reads as it did. -/
def stlbNarrowUptoRow : OpenClaim := { program := "ytgcpcffgpokbfaa", sum := "7e1375c17eabbcc78443ccf2febc629fac4028d5a1b81b21df981947a013b905", func := "hermitage/hermitagelaw18.StlbNarrow", spec := "stlbNarrow", unfollowed := true, recurses := true, apart := false, narrowed := true }
def StlbNarrowUptoSaid : Prop := stlbNarrowUptoRow.holds Try.pinned (OpenSpec.upto stlbNarrowSpec)

/-- 'hermitagelaw18.StlbZero', WHERE WHAT IT READS IS OF BULK AT MOST 1048576: true; the input reads as it did. -/
def stlbZeroUptoRow : OpenClaim := { program := "ytgcpcffgpokbfaa", sum := "7e1375c17eabbcc78443ccf2febc629fac4028d5a1b81b21df981947a013b905", func := "hermitage/hermitagelaw18.StlbZero", spec := "stlbZero", unfollowed := true, recurses := true, apart := false, narrowed := true }
def StlbZeroUptoSaid : Prop := stlbZeroUptoRow.holds Try.pinned (OpenSpec.upto stlbZeroSpec)

end Rows
end Go.Proofs.Ytgcpcffgpokbfaa
