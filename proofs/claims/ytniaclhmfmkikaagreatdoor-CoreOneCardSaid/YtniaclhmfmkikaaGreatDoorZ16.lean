/- Several texts in one: Nf Ng -/
import Derived.Test.YtniaclhmfmkikaaGreatDoorZ15
section
/- Package isa: Decode of both. -/
namespace Go.Proofs.YtniaclhmfmkikaaGreatDoor.Is
open Go.RowKit Ut
set_option linter.unusedVariables false
set_option maxRecDepth 100000
set_option maxHeartbeats 4000000

/-- the parts of a word -/
def wO (x : Nat) : Nat := x % 64
def wD (x : Nat) : Nat := x / 64 % 16
def wA (x : Nat) : Nat := x / 1024 % 16
def wB (x : Nat) : Nat := x / 16384 % 16
end Go.Proofs.YtniaclhmfmkikaaGreatDoor.Is
end
section
/- Package isa: the document's Decode. -/
namespace Go.Proofs.YtniaclhmfmkikaaGreatDoor.Is
open Go.RowKit Ut
set_option linter.unusedVariables false
set_option maxRecDepth 100000
set_option maxHeartbeats 4000000

/-- the world behind the number's sign -/
abbrev twoW (o d a b m : Int) (w : World) : World := insW o d a b m (insW 0 0 0 0 0 w)
theorem two_below (o d a b m : Int) (w : World) : Below w.heap.size w (twoW o d a b m w) := (ins_below 0 0 0 0 0 w).trans ((ins_below o d a b m (insW 0 0 0 0 0 w)).mono (ins_below 0 0 0 0 0 w).size)
theorem two_zero (o d a b m : Int) (w : World) : InsAt (twoW o d a b m w) w.heap.size 0 0 0 0 0 := (ins_at 0 0 0 0 0 w).below (ins_below o d a b m _) (by simp)
theorem two_at (o d a b m : Int) (w : World) : InsAt (twoW o d a b m w) (w.heap.size + 1) o d a b m := by
  have h := ins_at o d a b m (insW 0 0 0 0 0 w)
  rwa [show (insW 0 0 0 0 0 w).heap.size = w.heap.size + 1 by simp] at h
/-- what Decode answers -/
def decT (x : Nat) : Bool := validB (wO x) (wD x) (wA x) (wB x) (immZ x)
def decV (x : Nat) : Value := if decT x = true then insV (wO x) (wD x) (wA x) (wB x) (immZ x) else insV 0 0 0 0 0
end Go.Proofs.YtniaclhmfmkikaaGreatDoor.Is
end
