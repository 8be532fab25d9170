/-
  DERIVED. GIVEN WITH THE SEED: THE CARDS: each row of YtniaclhmfmkikaaGreatDoorRows.lean that lists a variable, with what it lists TIED to the program's text (the seventh form; the later family's looks); each row that meets fmt, with fmt's text TOLD by the authors' own Lean function (tested against real Go, not proved from fmt's source: count such statements apart). THE CARD IS WHAT COUNTS. Prove the row's statement (the work); the ties are given (YtniaclhmfmkikaaGreatDoorTie.lean); close each card by the builder's one call (the guide's Derived/Test/ToyasCard.lean, 'card_holds'). Laid BY PROGRAM, IN A SANDBOX (cutbox-door.mjs). By AI agents, Wed Nov 11 2026. No macro, syntax, notation, axiom, sorry.
-/
import Derived.Test.YtniaclhmfmkikaaGreatDoorRows
import GoSem.ClaimSeven
namespace Go.Proofs.YtniaclhmfmkikaaGreatDoor
namespace Rows

/-- THE TIED CARD OF 'hermitagelaw13.CorePlays'. -/
def corePlaysCard : Claim7 := { stood := { row := corePlaysRow, standIns := [], harness := (true, "e46be0565348d7081ac84f5daf7f373ee7806e0d17427f2cffbc70b022ae5010"), looks := false }, kinds := [], alts := [], laidByText := true, laidKinds := [.data], laidTests := true, laidLooks := .later }
def CorePlaysCardSaid : Prop := Claim7.holds Tryz.pinned (.plain (OpenSpec.ofChange corePlaysSpec)) corePlaysCard

/-- THE TIED CARD OF 'hermitagelaw13.CoreOne'. -/
def coreOneCard : Claim7 := { stood := { row := coreOneRow, standIns := [], harness := (true, "e46be0565348d7081ac84f5daf7f373ee7806e0d17427f2cffbc70b022ae5010"), looks := false }, kinds := [], alts := [], laidByText := true, laidKinds := [.data], laidTests := true, laidLooks := .later }
def CoreOneCardSaid : Prop := Claim7.holds Tryz.pinned (.plain (OpenSpec.ofChange coreOneSpec)) coreOneCard

/-- THE TIED CARD OF 'hermitagelaw13.CoreKernel'. -/
def coreKernelCard : Claim7 := { stood := { row := coreKernelRow, standIns := [], harness := (true, "e46be0565348d7081ac84f5daf7f373ee7806e0d17427f2cffbc70b022ae5010"), looks := false }, kinds := [], alts := [], laidByText := true, laidKinds := [.data], laidTests := true, laidLooks := .later }
def CoreKernelCardSaid : Prop := Claim7.holds Tryz.pinned (.plain (OpenSpec.ofChange coreKernelSpec)) coreKernelCard

/-- THE TIED CARD OF 'hermitagelaw13.CoreAsks'. -/
def coreAsksCard : Claim7 := { stood := { row := coreAsksRow, standIns := [], harness := (true, "e46be0565348d7081ac84f5daf7f373ee7806e0d17427f2cffbc70b022ae5010"), looks := false }, kinds := [], alts := [], laidByText := true, laidKinds := [.data], laidTests := true, laidLooks := .later }
def CoreAsksCardSaid : Prop := Claim7.holds Tryz.pinned (.plain (OpenSpec.ofChange coreAsksSpec)) coreAsksCard

/-- THE SECOND FORM's CARD OF 'hermitagelaw13.CorePlays'. -/
def corePlaysUptoCard : Claim7 := { stood := { row := corePlaysUptoRow, standIns := [], harness := (true, "e46be0565348d7081ac84f5daf7f373ee7806e0d17427f2cffbc70b022ae5010"), looks := false }, kinds := [], alts := [], laidByText := true, laidKinds := [.data], laidTests := true, laidLooks := .later }
def CorePlaysUptoCardSaid : Prop := Claim7.holds Tryz.pinned (.plain (OpenSpec.upto corePlaysSpec)) corePlaysUptoCard

/-- THE SECOND FORM's CARD OF 'hermitagelaw13.CoreOne'. -/
def coreOneUptoCard : Claim7 := { stood := { row := coreOneUptoRow, standIns := [], harness := (true, "e46be0565348d7081ac84f5daf7f373ee7806e0d17427f2cffbc70b022ae5010"), looks := false }, kinds := [], alts := [], laidByText := true, laidKinds := [.data], laidTests := true, laidLooks := .later }
def CoreOneUptoCardSaid : Prop := Claim7.holds Tryz.pinned (.plain (OpenSpec.upto coreOneSpec)) coreOneUptoCard

/-- THE SECOND FORM's CARD OF 'hermitagelaw13.CoreKernel'. -/
def coreKernelUptoCard : Claim7 := { stood := { row := coreKernelUptoRow, standIns := [], harness := (true, "e46be0565348d7081ac84f5daf7f373ee7806e0d17427f2cffbc70b022ae5010"), looks := false }, kinds := [], alts := [], laidByText := true, laidKinds := [.data], laidTests := true, laidLooks := .later }
def CoreKernelUptoCardSaid : Prop := Claim7.holds Tryz.pinned (.plain (OpenSpec.upto coreKernelSpec)) coreKernelUptoCard

/-- THE SECOND FORM's CARD OF 'hermitagelaw13.CoreAsks'. -/
def coreAsksUptoCard : Claim7 := { stood := { row := coreAsksUptoRow, standIns := [], harness := (true, "e46be0565348d7081ac84f5daf7f373ee7806e0d17427f2cffbc70b022ae5010"), looks := false }, kinds := [], alts := [], laidByText := true, laidKinds := [.data], laidTests := true, laidLooks := .later }
def CoreAsksUptoCardSaid : Prop := Claim7.holds Tryz.pinned (.plain (OpenSpec.upto coreAsksSpec)) coreAsksUptoCard
end Rows
end Go.Proofs.YtniaclhmfmkikaaGreatDoor
