/- Package isa: Writes of both; what is carried on from the world in which a walk began; awake. -/
import Derived.Test.YtniaclhmfmkikaaDoorNg
namespace Go.Proofs.YtniaclhmfmkikaaDoor.Is
open Go.RowKit Ut
set_option linter.unusedVariables false
set_option maxRecDepth 100000
set_option maxHeartbeats 4000000

/-- what Writes answers -/
def wrB (o d a b m : Int) : Bool := validB o d a b m && hD o.toNat
def wrZ (o d a b m : Int) : Int := if wrB o d a b m = true then d else 0

/-- a call, carried on from the world in which the walk began -/
theorem keep {f : Nat} {args : Array Value} {r : Ending} {w0 w : World} (h : Below w0.heap.size w0 w) (H : Calls Tryd.prog f args w fun e w' => e = r ∧ Below w.heap.size w w') :
    Calls Tryd.prog f args w fun e w' => e = r ∧ Below w0.heap.size w0 w' := H.mono fun _ _ ⟨he, hb⟩ => ⟨he, h.trans (hb.mono h.size)⟩

theorem enc_told : encZ 14 1 2 0 (-1) = 4294707278 := by decide +kernel
theorem enc_good : encE 14 1 2 0 (-1) = 0 := by decide +kernel
theorem dec_told : decT 0 = false := by decide +kernel
theorem dec_zero : decV 0 = insV 0 0 0 0 0 := by unfold decV; rw [dec_told]; rfl
end Go.Proofs.YtniaclhmfmkikaaDoor.Is
