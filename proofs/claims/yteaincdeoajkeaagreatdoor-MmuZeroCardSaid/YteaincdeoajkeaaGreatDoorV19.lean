/- Several texts in one: Xl Xm Xn -/
import Derived.Test.YteaincdeoajkeaaGreatDoorV13
import Derived.Deep.Cut
import Derived.Test.YteaincdeoajkeaaGreatDoorV10
import Derived.Test.YteaincdeoajkeaaGreatDoorV18
section
/- The walk of hermitagelaw15.GmapRights. -/
namespace Go.Proofs.YteaincdeoajkeaaGreatDoor.Gm
open Go.RowKit Ut
set_option maxRecDepth 100000
set_option linter.unusedVariables false
set_option maxHeartbeats 8000000

theorem plN_other (L : List Pl) (k j : Nat) (hne : j ≠ k) (p : Pl) : plN (L.set k p) j = plN L j := by
 simp only [plN, List.getD_eq_getElem?_getD, List.getElem?_set_ne (Ne.symm hne)]
def one (k f r : Nat) : List Pl := noP.set k ((f : Int), (r : Int))
end Go.Proofs.YteaincdeoajkeaaGreatDoor.Gm
end
section
/- A place as an argument; a slice of places. -/
namespace Go.Proofs.YteaincdeoajkeaaGreatDoor.Gm
open Go.ChangeShapes Go.WideShapes Go.Deep Go.RowKit Ut
set_option linter.unusedVariables false
set_option maxRecDepth 100000

/-- the slice at a of n places reads as Z, and lies below block B -/
def PlRow (w : World) (B : Nat) (a : Option Addr) (n : Nat) (Z : Nat → Pl) : Prop := ∀ i, i < n → ∃ x, a = some x ∧ x.block < B ∧ w.cell? (x.add (i * 2)) = some (.int .i64 (Z i).1) ∧ w.cell? (x.add (i * 2 + 1)) = some (.int .i64 (Z i).2)
section
variable {H : Type} {enc : TypeId × Value → H} {W : World}
end
end Go.Proofs.YteaincdeoajkeaaGreatDoor.Gm
end
section
/- Places that came in, read; what stays where others are set and dropped. -/
namespace Go.Proofs.YteaincdeoajkeaaGreatDoor.Gm
open Go.RowKit Ut
set_option maxRecDepth 100000
set_option linter.unusedVariables false

/-- page k lies at p, whatever is done with others -/
theorem stay_drop {L : List Pl} {k : Nat} {p : Pl} (h : plN L k = p) (n : Int) (hne : n ≠ k) : plN (drL L n) k = p := by
 unfold drL
 split
 ·rename_i he
  have hn : 0 ≤ n ∧ n < 12 := by
   unfold drE at he
   split at he
   ·assumption
   ·omega
  rw [plN_other L n.toNat k (by omega)]
  exact h
 ·exact h
theorem stay_set {L : List Pl} {k : Nat} {p : Pl} (h : plN L k = p) (ht : thB p = true) (n : Int) (q : Pl) : plN (setL L n q) k = p := by
 unfold setL
 split
 ·rename_i he
  have hn : 0 ≤ n ∧ n < 12 := by
   unfold setE at he
   split at he
   ·assumption
   ·omega
  by_cases hk : k = n.toNat
  ·subst hk
   unfold setE at he
   rw [if_pos hn, h, if_pos ht] at he
   split at he <;> omega
  ·rw [plN_other L n.toNat k hk]
   exact h
 ·exact h
end Go.Proofs.YteaincdeoajkeaaGreatDoor.Gm
end
