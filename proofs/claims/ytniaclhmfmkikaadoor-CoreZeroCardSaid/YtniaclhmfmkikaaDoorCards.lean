/-
  DERIVED. GIVEN WITH THE SEED: THE CARDS: each row of YtniaclhmfmkikaaDoorRows.lean that lists a variable, with what it lists TIED to the program's text (the seventh form; the later family's looks); each row that meets fmt, with fmt's text TOLD by the authors' own Lean function (tested against real Go, not proved from fmt's source: count such statements apart). THE CARD IS WHAT COUNTS. Prove the row's statement (the work); the ties are given (YtniaclhmfmkikaaDoorTie.lean); close each card by the builder's one call (the guide's Derived/Test/ToyasCard.lean, 'card_holds'). Laid BY PROGRAM, IN A SANDBOX (cutbox-door.mjs). By AI agents, Wed Nov 11 2026. No macro, syntax, notation, axiom, sorry.
-/
import Derived.Test.YtniaclhmfmkikaaDoorRows
import GoSem.ClaimSeven
namespace Go.Proofs.YtniaclhmfmkikaaDoor
namespace Rows

/-- THE TIED CARD OF 'hermitagelaw13.CoreZero'. -/
def coreZeroCard : Claim7 := { stood := { row := coreZeroRow, standIns := [], harness := (true, "e39f31c9d5bbe35a652f391ee20fb4f5763273c0b3030086daa486785f73c8b8"), looks := false }, kinds := [], alts := [], laidByText := true, laidKinds := [.data], laidTests := true, laidLooks := .later }
def CoreZeroCardSaid : Prop := Claim7.holds Tryd.pinned (.plain (OpenSpec.ofChange coreZeroSpec)) coreZeroCard

/-- THE SECOND FORM's CARD OF 'hermitagelaw13.CoreZero'. -/
def coreZeroUptoCard : Claim7 := { stood := { row := coreZeroUptoRow, standIns := [], harness := (true, "e39f31c9d5bbe35a652f391ee20fb4f5763273c0b3030086daa486785f73c8b8"), looks := false }, kinds := [], alts := [], laidByText := true, laidKinds := [.data], laidTests := true, laidLooks := .later }
def CoreZeroUptoCardSaid : Prop := Claim7.holds Tryd.pinned (.plain (OpenSpec.upto coreZeroSpec)) coreZeroUptoCard
end Rows
end Go.Proofs.YtniaclhmfmkikaaDoor
