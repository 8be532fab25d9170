/-
  DERIVED. GIVEN WITH THE SEED: THE CARDS: each row of YtikkfapgmbamlaaDoorRows.lean that lists a variable, with what it lists TIED to the program's text (the seventh form; the later family's looks); each row that meets fmt, with fmt's text TOLD by the authors' own Lean function (tested against real Go, not proved from fmt's source: count such statements apart). THE CARD IS WHAT COUNTS. Prove the row's statement (the work); the ties are given (YtikkfapgmbamlaaDoorTie.lean); close each card by the builder's one call (the guide's Derived/Test/ToyasCard.lean, 'card_holds'). Laid BY PROGRAM, IN A SANDBOX (cutbox-door.mjs). By AI agents, Wed Nov 11 2026. No macro, syntax, notation, axiom, sorry.
-/
import Derived.Test.YtikkfapgmbamlaaDoorRows
import GoSem.ClaimSeven
namespace Go.Proofs.YtikkfapgmbamlaaDoor
namespace Rows

/-- THE TIED CARD OF 'hermitagelaw05.PlanWords'. -/
def planWordsCard : Claim7 := { stood := { row := planWordsRow, standIns := [], harness := (true, "dce61ec3f806debea9397031a0ad96b1221898f4423bdae17696d607b736bfec"), looks := false }, kinds := [], alts := [], laidByText := true, laidKinds := [.data], laidTests := true, laidLooks := .later }
def PlanWordsCardSaid : Prop := Claim7.holds Tryd.pinned (.plain (OpenSpec.ofChange planWordsSpec)) planWordsCard

/-- THE TIED CARD OF 'hermitagelaw05.PlanReads'. -/
def planReadsCard : Claim7 := { stood := { row := planReadsRow, standIns := [], harness := (true, "dce61ec3f806debea9397031a0ad96b1221898f4423bdae17696d607b736bfec"), looks := false }, kinds := [], alts := [], laidByText := true, laidKinds := [.data], laidTests := true, laidLooks := .later }
def PlanReadsCardSaid : Prop := Claim7.holds Tryd.pinned (.plain (OpenSpec.ofChange planReadsSpec)) planReadsCard

/-- THE TIED CARD OF 'hermitagelaw05.PlanBack'. -/
def planBackCard : Claim7 := { stood := { row := planBackRow, standIns := [], harness := (true, "dce61ec3f806debea9397031a0ad96b1221898f4423bdae17696d607b736bfec"), looks := false }, kinds := [], alts := [], laidByText := true, laidKinds := [.data, .data, .data, .data], laidTests := true, laidLooks := .later }
def PlanBackCardSaid : Prop := Claim7.holds Tryd.pinned (.plain (OpenSpec.ofChange planBackSpec)) planBackCard

/-- THE SECOND FORM's CARD OF 'hermitagelaw05.PlanWords'. -/
def planWordsUptoCard : Claim7 := { stood := { row := planWordsUptoRow, standIns := [], harness := (true, "dce61ec3f806debea9397031a0ad96b1221898f4423bdae17696d607b736bfec"), looks := false }, kinds := [], alts := [], laidByText := true, laidKinds := [.data], laidTests := true, laidLooks := .later }
def PlanWordsUptoCardSaid : Prop := Claim7.holds Tryd.pinned (.plain (OpenSpec.upto planWordsSpec)) planWordsUptoCard

/-- THE SECOND FORM's CARD OF 'hermitagelaw05.PlanReads'. -/
def planReadsUptoCard : Claim7 := { stood := { row := planReadsUptoRow, standIns := [], harness := (true, "dce61ec3f806debea9397031a0ad96b1221898f4423bdae17696d607b736bfec"), looks := false }, kinds := [], alts := [], laidByText := true, laidKinds := [.data], laidTests := true, laidLooks := .later }
def PlanReadsUptoCardSaid : Prop := Claim7.holds Tryd.pinned (.plain (OpenSpec.upto planReadsSpec)) planReadsUptoCard

/-- THE SECOND FORM's CARD OF 'hermitagelaw05.PlanBack'. -/
def planBackUptoCard : Claim7 := { stood := { row := planBackUptoRow, standIns := [], harness := (true, "dce61ec3f806debea9397031a0ad96b1221898f4423bdae17696d607b736bfec"), looks := false }, kinds := [], alts := [], laidByText := true, laidKinds := [.data, .data, .data, .data], laidTests := true, laidLooks := .later }
def PlanBackUptoCardSaid : Prop := Claim7.holds Tryd.pinned (.plain (OpenSpec.upto planBackSpec)) planBackUptoCard
end Rows
end Go.Proofs.YtikkfapgmbamlaaDoor
