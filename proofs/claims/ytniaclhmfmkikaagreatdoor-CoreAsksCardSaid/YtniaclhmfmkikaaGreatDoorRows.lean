/-
  NARROWER THAN 'FOR EVERY INPUT', by the rows' own cells (each row's printed sentence says how): CorePlays: laid · CoreOne: laid · CoreKernel: laid · CoreAsks: laid.
  DERIVED. THE GIVEN ROWS OF THIS SEAT. 4 by the template 'for every input the law returns true; each argument reads behind the call as it read before'; 0 by the template 'total and deterministic' (their statements: YtniaclhmfmkikaaGreatDoorTotals.lean).
  GIVEN WITH THE SEED: the statements are not yours to turn. If you find one false, say at which input.
  Laid BY PROGRAM, IN A SANDBOX (cutbox-rows.mjs): the forced cells as the released guide's own fill.sh prints them over the translation 40cf8d91835fa13e… (all of the seat's roots in one cut). By AI agents, Wed Nov 11 2026. No macro, syntax, notation, axiom, sorry.
-/
import Derived.Test.YtniaclhmfmkikaaGreatDoorChecked
import GoSem.Claim
import GoSem.ClaimJoined
import GoSem.ClaimMapViews
import Derived.JoinedTies
import Derived.KernelRfl
namespace Go.Proofs.YtniaclhmfmkikaaGreatDoor
/- THE CELL 'sum', in the pinned program and in every row, IS THE sha256 OF THE DUMP (.gsa) THAT YtniaclhmfmkikaaGreatDoorProg.lean LOADS. Nothing in Lean hashes anything: it is a label: what it is worth is what the hold of that sum in a sandbox is worth. -/
noncomputable def Tryz.pinned : Pinned := { name := "ytniaclhmfmkikaagreatdoor", sum := "40cf8d91835fa13e78098e597094d5e320a5b6d88578828355af330dcf620474", checked := Tryz.checked }
namespace Rows
def none {H : Type} : Left H := { results := [], args := [] }

/- WHAT THE LISTED PACKAGE-LEVEL VARIABLES READ AS WHEN THE CALL BEGINS. Each datum BY PROGRAM (the guide's laid-datum.mjs) off the statement by which the dump's own 'gosem.cut.vars' lays the variable. In a bare row this is a premise. The card (YtniaclhmfmkikaaGreatDoorCards.lean) ties it to the program's text. -/
def laid_hermitage_isa_has {H : Type} : DataW H := .agg [.lit (.int .u8 0), .lit (.int .u8 7), .lit (.int .u8 7), .lit (.int .u8 7), .lit (.int .u8 7), .lit (.int .u8 7), .lit (.int .u8 7), .lit (.int .u8 7), .lit (.int .u8 7), .lit (.int .u8 7), .lit (.int .u8 7), .lit (.int .u8 7), .lit (.int .u8 7), .lit (.int .u8 7), .lit (.int .u8 11), .lit (.int .u8 11), .lit (.int .u8 11), .lit (.int .u8 11), .lit (.int .u8 19), .lit (.int .u8 19), .lit (.int .u8 19), .lit (.int .u8 11), .lit (.int .u8 9), .lit (.int .u8 11), .lit (.int .u8 11), .lit (.int .u8 11), .lit (.int .u8 14), .lit (.int .u8 14), .lit (.int .u8 14), .lit (.int .u8 14), .lit (.int .u8 14), .lit (.int .u8 14), .lit (.int .u8 9), .lit (.int .u8 11), .lit (.int .u8 0), .lit (.int .u8 0), .lit (.int .u8 0), .lit (.int .u8 33), .lit (.int .u8 34), .lit (.int .u8 0), .lit (.int .u8 0), .lit (.int .u8 0)]

/-- 'hermitagelaw13.CorePlays': WHATEVER THE INPUT: true; the input reads as it did. -/
def corePlaysSpec : ChangeSpec := { name := "corePlays", fn := fun _ => fun
  | [d1, d2, d3, d4] => { results := [.lit (.bool true)], args := [d1, d2, d3, d4] }
  | _ => none }
def corePlaysRow : OpenClaim := { program := "ytniaclhmfmkikaagreatdoor", sum := "40cf8d91835fa13e78098e597094d5e320a5b6d88578828355af330dcf620474", func := "hermitage/hermitagelaw13.CorePlays", spec := "corePlays", unfollowed := true, recurses := true, named := ["hermitage/isa.has"], apart := false, laid := [("hermitage/isa.has", laid_hermitage_isa_has)] }
def CorePlaysSaid : Prop := corePlaysRow.holds Tryz.pinned (OpenSpec.ofChange corePlaysSpec)

/-- ITS FALSE NEIGHBOUR: 'it returns false'. Refute it at one input. -/
def corePlaysWrong : ChangeSpec := { name := "corePlays", fn := fun _ => fun
  | [d1, d2, d3, d4] => { results := [.lit (.bool false)], args := [d1, d2, d3, d4] }
  | _ => none }
def CorePlaysWrongFalsely : Prop := corePlaysRow.holds Tryz.pinned (OpenSpec.ofChange corePlaysWrong)

/-- 'hermitagelaw13.CoreOne': WHATEVER THE INPUT: true; the input reads as it did. -/
def coreOneSpec : ChangeSpec := { name := "coreOne", fn := fun _ => fun
  | [d1, d2, d3, d4] => { results := [.lit (.bool true)], args := [d1, d2, d3, d4] }
  | _ => none }
def coreOneRow : OpenClaim := { program := "ytniaclhmfmkikaagreatdoor", sum := "40cf8d91835fa13e78098e597094d5e320a5b6d88578828355af330dcf620474", func := "hermitage/hermitagelaw13.CoreOne", spec := "coreOne", unfollowed := true, recurses := true, named := ["hermitage/isa.has"], apart := false, laid := [("hermitage/isa.has", laid_hermitage_isa_has)] }
def CoreOneSaid : Prop := coreOneRow.holds Tryz.pinned (OpenSpec.ofChange coreOneSpec)

/-- ITS FALSE NEIGHBOUR: 'it returns false'. Refute it at one input. -/
def coreOneWrong : ChangeSpec := { name := "coreOne", fn := fun _ => fun
  | [d1, d2, d3, d4] => { results := [.lit (.bool false)], args := [d1, d2, d3, d4] }
  | _ => none }
def CoreOneWrongFalsely : Prop := coreOneRow.holds Tryz.pinned (OpenSpec.ofChange coreOneWrong)

/-- 'hermitagelaw13.CoreKernel': WHATEVER THE INPUT: true; the input reads as it did. -/
def coreKernelSpec : ChangeSpec := { name := "coreKernel", fn := fun _ => fun
  | [d1, d2, d3] => { results := [.lit (.bool true)], args := [d1, d2, d3] }
  | _ => none }
def coreKernelRow : OpenClaim := { program := "ytniaclhmfmkikaagreatdoor", sum := "40cf8d91835fa13e78098e597094d5e320a5b6d88578828355af330dcf620474", func := "hermitage/hermitagelaw13.CoreKernel", spec := "coreKernel", unfollowed := true, recurses := true, named := ["hermitage/isa.has"], apart := false, laid := [("hermitage/isa.has", laid_hermitage_isa_has)] }
def CoreKernelSaid : Prop := coreKernelRow.holds Tryz.pinned (OpenSpec.ofChange coreKernelSpec)

/-- ITS FALSE NEIGHBOUR: 'it returns false'. Refute it at one input. -/
def coreKernelWrong : ChangeSpec := { name := "coreKernel", fn := fun _ => fun
  | [d1, d2, d3] => { results := [.lit (.bool false)], args := [d1, d2, d3] }
  | _ => none }
def CoreKernelWrongFalsely : Prop := coreKernelRow.holds Tryz.pinned (OpenSpec.ofChange coreKernelWrong)

/-- 'hermitagelaw13.CoreAsks': WHATEVER THE INPUT: true; the input reads as it did. -/
def coreAsksSpec : ChangeSpec := { name := "coreAsks", fn := fun _ => fun
  | [d1, d2, d3] => { results := [.lit (.bool true)], args := [d1, d2, d3] }
  | _ => none }
def coreAsksRow : OpenClaim := { program := "ytniaclhmfmkikaagreatdoor", sum := "40cf8d91835fa13e78098e597094d5e320a5b6d88578828355af330dcf620474", func := "hermitage/hermitagelaw13.CoreAsks", spec := "coreAsks", unfollowed := true, recurses := true, named := ["hermitage/isa.has"], apart := false, laid := [("hermitage/isa.has", laid_hermitage_isa_has)] }
def CoreAsksSaid : Prop := coreAsksRow.holds Tryz.pinned (OpenSpec.ofChange coreAsksSpec)

/-- ITS FALSE NEIGHBOUR: 'it returns false'. Refute it at one input. -/
def coreAsksWrong : ChangeSpec := { name := "coreAsks", fn := fun _ => fun
  | [d1, d2, d3] => { results := [.lit (.bool false)], args := [d1, d2, d3] }
  | _ => none }
def CoreAsksWrongFalsely : Prop := coreAsksRow.holds Tryz.pinned (OpenSpec.ofChange coreAsksWrong)

/- THE SECOND FORM. 'bulk': how many values and letters a reading holds, each counted each time it is reached (what is shared counts as often as it is met; a slice's spare places count too). A statement '..UptoSaid' is the law's where the arguments, and the package variables that the reading takes, are together of bulk at most 1048576: NARROWER than '..Said'. Prove '..Said' where nothing that the law and all that it calls make is longer than what came in: it says more and counts as full. Else prove '..UptoSaid'. A law counts once. -/
mutual
def uptoBulk {H : Type} : DataW H → Nat
  | .lit (.string bytes) => bytes.length + 1
  | .lit _ => 1
  | .nil => 1
  | .ptr d => uptoBulk d + 1
  | .slice elems spare => uptoBulkAll elems + uptoBulkAll spare + 1
  | .agg parts => uptoBulkAll parts + 1
  | .iface _ d => uptoBulk d + 1
  | .map entries => uptoBulkEntries entries + 1
  | .held _ => 1
def uptoBulkAll {H : Type} : List (DataW H) → Nat
  | [] => 0
  | d :: r => uptoBulk d + uptoBulkAll r
def uptoBulkEntries {H : Type} : List (Lit × DataW H) → Nat
  | [] => 0
  | x :: r => uptoBulkEntry x + uptoBulkEntries r
def uptoBulkEntry {H : Type} : Lit × DataW H → Nat
  | (.string bytes, d) => bytes.length + uptoBulk d + 1
  | (_, d) => uptoBulk d + 1
 end
def uptoSmall : (H : Type) → List (DataW H) → Bool := fun _ ds => decide (uptoBulkAll ds ≤ 1048576)
def OpenSpec.upto (s : _root_.Go.ChangeSpec) : _root_.Go.OpenSpec := { _root_.Go.OpenSpec.ofChange s with cond := some uptoSmall }

/-- 'hermitagelaw13.CorePlays', WHERE WHAT IT READS IS OF BULK AT MOST 1048576: true; the input reads as it did. -/
def corePlaysUptoRow : OpenClaim := { program := "ytniaclhmfmkikaagreatdoor", sum := "40cf8d91835fa13e78098e597094d5e320a5b6d88578828355af330dcf620474", func := "hermitage/hermitagelaw13.CorePlays", spec := "corePlays", unfollowed := true, recurses := true, named := ["hermitage/isa.has"], apart := false, laid := [("hermitage/isa.has", laid_hermitage_isa_has)], narrowed := true }
def CorePlaysUptoSaid : Prop := corePlaysUptoRow.holds Tryz.pinned (OpenSpec.upto corePlaysSpec)

/-- 'hermitagelaw13.CoreOne', WHERE WHAT IT READS IS OF BULK AT MOST 1048576: true; the input reads as it did. -/
def coreOneUptoRow : OpenClaim := { program := "ytniaclhmfmkikaagreatdoor", sum := "40cf8d91835fa13e78098e597094d5e320a5b6d88578828355af330dcf620474", func := "hermitage/hermitagelaw13.CoreOne", spec := "coreOne", unfollowed := true, recurses := true, named := ["hermitage/isa.has"], apart := false, laid := [("hermitage/isa.has", laid_hermitage_isa_has)], narrowed := true }
def CoreOneUptoSaid : Prop := coreOneUptoRow.holds Tryz.pinned (OpenSpec.upto coreOneSpec)

/-- 'hermitagelaw13.CoreKernel', WHERE WHAT IT READS IS OF BULK AT MOST 1048576: true; the input reads as it did. -/
def coreKernelUptoRow : OpenClaim := { program := "ytniaclhmfmkikaagreatdoor", sum := "40cf8d91835fa13e78098e597094d5e320a5b6d88578828355af330dcf620474", func := "hermitage/hermitagelaw13.CoreKernel", spec := "coreKernel", unfollowed := true, recurses := true, named := ["hermitage/isa.has"], apart := false, laid := [("hermitage/isa.has", laid_hermitage_isa_has)], narrowed := true }
def CoreKernelUptoSaid : Prop := coreKernelUptoRow.holds Tryz.pinned (OpenSpec.upto coreKernelSpec)

/-- 'hermitagelaw13.CoreAsks', WHERE WHAT IT READS IS OF BULK AT MOST 1048576: true; the input reads as it did. -/
def coreAsksUptoRow : OpenClaim := { program := "ytniaclhmfmkikaagreatdoor", sum := "40cf8d91835fa13e78098e597094d5e320a5b6d88578828355af330dcf620474", func := "hermitage/hermitagelaw13.CoreAsks", spec := "coreAsks", unfollowed := true, recurses := true, named := ["hermitage/isa.has"], apart := false, laid := [("hermitage/isa.has", laid_hermitage_isa_has)], narrowed := true }
def CoreAsksUptoSaid : Prop := coreAsksUptoRow.holds Tryz.pinned (OpenSpec.upto coreAsksSpec)

end Rows
end Go.Proofs.YtniaclhmfmkikaaGreatDoor
