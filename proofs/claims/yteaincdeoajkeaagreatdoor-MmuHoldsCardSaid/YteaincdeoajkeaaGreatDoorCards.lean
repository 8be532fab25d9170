/-
  DERIVED. GIVEN WITH THE SEED: THE CARDS: each row of YteaincdeoajkeaaGreatDoorRows.lean that lists a variable, with what it lists TIED to the program's text (the seventh form; the later family's looks); each row that meets fmt, with fmt's text TOLD by the authors' own Lean function (tested against real Go, not proved from fmt's source: count such statements apart). THE CARD IS WHAT COUNTS. Prove the row's statement (the work); the ties are given (YteaincdeoajkeaaGreatDoorTie.lean); close each card by the builder's one call (the guide's Derived/Test/ToyasCard.lean, 'card_holds'). Laid BY PROGRAM, IN A SANDBOX (cutbox-door.mjs). By AI agents, Wed Nov 11 2026. No macro, syntax, notation, axiom, sorry.
-/
import Derived.Test.YteaincdeoajkeaaGreatDoorRows
import GoSem.ClaimSeven
namespace Go.Proofs.YteaincdeoajkeaaGreatDoor
namespace Rows

/-- THE TIED CARD OF 'hermitagelaw20.MmuFinds'. -/
def mmuFindsCard : Claim7 := { stood := { row := mmuFindsRow, standIns := [], harness := (true, "54c373107600bfa9029e4dced7e0795afe45144213519a40d5b85f5e081587c1"), looks := true }, kinds := [], alts := [], laidByText := true, laidKinds := [.data], laidTests := true, laidLooks := .later }
def MmuFindsCardSaid : Prop := Claim7.holds Tryz.pinned (.plain (OpenSpec.ofChange mmuFindsSpec)) mmuFindsCard

/-- THE TIED CARD OF 'hermitagelaw20.MmuHolds'. -/
def mmuHoldsCard : Claim7 := { stood := { row := mmuHoldsRow, standIns := [], harness := (true, "54c373107600bfa9029e4dced7e0795afe45144213519a40d5b85f5e081587c1"), looks := true }, kinds := [], alts := [], laidByText := true, laidKinds := [.data], laidTests := true, laidLooks := .later }
def MmuHoldsCardSaid : Prop := Claim7.holds Tryz.pinned (.plain (OpenSpec.ofChange mmuHoldsSpec)) mmuHoldsCard

/-- THE TIED CARD OF 'hermitagelaw20.MmuSaves'. -/
def mmuSavesCard : Claim7 := { stood := { row := mmuSavesRow, standIns := [], harness := (true, "54c373107600bfa9029e4dced7e0795afe45144213519a40d5b85f5e081587c1"), looks := true }, kinds := [], alts := [], laidByText := true, laidKinds := [.data], laidTests := true, laidLooks := .later }
def MmuSavesCardSaid : Prop := Claim7.holds Tryz.pinned (.plain (OpenSpec.ofChange mmuSavesSpec)) mmuSavesCard

/-- THE TIED CARD OF 'hermitagelaw20.MmuZero'. -/
def mmuZeroCard : Claim7 := { stood := { row := mmuZeroRow, standIns := [], harness := (true, "54c373107600bfa9029e4dced7e0795afe45144213519a40d5b85f5e081587c1"), looks := true }, kinds := [], alts := [], laidByText := true, laidKinds := [.data], laidTests := true, laidLooks := .later }
def MmuZeroCardSaid : Prop := Claim7.holds Tryz.pinned (.plain (OpenSpec.ofChange mmuZeroSpec)) mmuZeroCard

/-- THE SECOND FORM's CARD OF 'hermitagelaw20.MmuFinds'. -/
def mmuFindsUptoCard : Claim7 := { stood := { row := mmuFindsUptoRow, standIns := [], harness := (true, "54c373107600bfa9029e4dced7e0795afe45144213519a40d5b85f5e081587c1"), looks := true }, kinds := [], alts := [], laidByText := true, laidKinds := [.data], laidTests := true, laidLooks := .later }
def MmuFindsUptoCardSaid : Prop := Claim7.holds Tryz.pinned (.plain (OpenSpec.upto mmuFindsSpec)) mmuFindsUptoCard

/-- THE SECOND FORM's CARD OF 'hermitagelaw20.MmuHolds'. -/
def mmuHoldsUptoCard : Claim7 := { stood := { row := mmuHoldsUptoRow, standIns := [], harness := (true, "54c373107600bfa9029e4dced7e0795afe45144213519a40d5b85f5e081587c1"), looks := true }, kinds := [], alts := [], laidByText := true, laidKinds := [.data], laidTests := true, laidLooks := .later }
def MmuHoldsUptoCardSaid : Prop := Claim7.holds Tryz.pinned (.plain (OpenSpec.upto mmuHoldsSpec)) mmuHoldsUptoCard

/-- THE SECOND FORM's CARD OF 'hermitagelaw20.MmuSaves'. -/
def mmuSavesUptoCard : Claim7 := { stood := { row := mmuSavesUptoRow, standIns := [], harness := (true, "54c373107600bfa9029e4dced7e0795afe45144213519a40d5b85f5e081587c1"), looks := true }, kinds := [], alts := [], laidByText := true, laidKinds := [.data], laidTests := true, laidLooks := .later }
def MmuSavesUptoCardSaid : Prop := Claim7.holds Tryz.pinned (.plain (OpenSpec.upto mmuSavesSpec)) mmuSavesUptoCard

/-- THE SECOND FORM's CARD OF 'hermitagelaw20.MmuZero'. -/
def mmuZeroUptoCard : Claim7 := { stood := { row := mmuZeroUptoRow, standIns := [], harness := (true, "54c373107600bfa9029e4dced7e0795afe45144213519a40d5b85f5e081587c1"), looks := true }, kinds := [], alts := [], laidByText := true, laidKinds := [.data], laidTests := true, laidLooks := .later }
def MmuZeroUptoCardSaid : Prop := Claim7.holds Tryz.pinned (.plain (OpenSpec.upto mmuZeroSpec)) mmuZeroUptoCard
end Rows
end Go.Proofs.YteaincdeoajkeaaGreatDoor
