/- Several texts in one: Bj Zg Zk Zp -/
import Derived.Test.YteaincdeoajkeaaGreatDoorV22
import Derived.Test.YteaincdeoajkeaaGreatDoorV23
import Derived.Test.YteaincdeoajkeaaGreatDoorV30
import Derived.Test.YteaincdeoajkeaaGreatDoorV24
import Derived.Test.YteaincdeoajkeaaGreatDoorV28
import Derived.Test.YteaincdeoajkeaaGreatDoorV20
section
/- Package pte: Allows. -/
namespace Go.Proofs.YteaincdeoajkeaaGreatDoor.Pe
open Go.RowKit Ut
set_option linter.unusedVariables false
set_option maxRecDepth 100000
set_option maxHeartbeats 4000000

theorem kind_lt (k : Int) : kindN k < 16 := by unfold kindN; repeat (first | omega | split)
end Go.Proofs.YteaincdeoajkeaaGreatDoor.Pe
end
section
/- Package walk: Find. -/
namespace Go.Proofs.YteaincdeoajkeaaGreatDoor.Wa
open Go.RowKit Go.Shelf Ut Oc Vw
set_option maxRecDepth 100000
set_option linter.unusedVariables false
set_option maxHeartbeats 4000000

section
variable {b s m n : Nat} {S : List Int} {L : List Gm.Pl} {D : List Bool}
end
end Go.Proofs.YteaincdeoajkeaaGreatDoor.Wa
end
section
/- hermitagelaw17: awake. -/
namespace Go.Proofs.YteaincdeoajkeaaGreatDoor.Wa
open Go.RowKit Go.Shelf Ut Oc Vw
set_option maxRecDepth 100000
set_option linter.unusedVariables false
set_option maxHeartbeats 4000000

def awZ (i : Nat) : Int × Int := if i = 0 then (64, 513) else (128, 771)
end Go.Proofs.YteaincdeoajkeaaGreatDoor.Wa
end
section
/- hermitagelaw17: WalkTables. -/
namespace Go.Proofs.YteaincdeoajkeaaGreatDoor.Wa
open Go.RowKit Go.Shelf Ut Oc Vw
set_option maxRecDepth 100000
set_option linter.unusedVariables false
set_option maxHeartbeats 4000000

/-- what a walk's answer says of the tables -/
structure Says (n : Nat) (S : List Int) (L : List Gm.Pl) (p z : Int) (R : Stp) : Prop where
 r8 : R.rt < 8
 l8 : R.lf < 8
 lr : 0 ≤ R.lf → 0 ≤ R.rt
 root : 0 ≤ R.rt → R.rt = p ∧ z < 16384 ∧ hasT n L R.rt = true
 no : R.lf < 0 → R.f ≠ 0 ∧ R.o = false ∧ R.r = 0 ∧ R.g = 0
 leaf : 0 ≤ R.lf → hasT n L R.lf = true ∧ ∃ x y, wordT n S L R.rt (z / 1024).toNat = x ∧ wordT n S L R.lf (z / 64 % 16).toNat = y ∧ Pe.tabF x = 0 ∧ Pe.gF (Pe.tabF x) x = R.lf ∧ Pe.leafF y = R.f ∧ R.o = Pe.oF R.f ∧ R.r = Pe.rF R.f y ∧ R.g = Pe.gF R.f y
theorem none_zero {n : Nat} {L : List Gm.Pl} {p : Int} (h : noneF n L p = 0) : hasT n L p = true := by
 unfold noneF at h
 by_cases ht : hasT n L p = true
 ·exact ht
 ·rw [if_neg ht] at h; exact absurd h (by decide)
theorem walk_says (n : Nat) (S : List Int) (L : List Gm.Pl) (p z : Int) : Says n S L p z (walkF n S L p z) := by
 unfold walkF
 by_cases h0 : 16384 ≤ z
 ·rw [if_pos h0]
  exact ⟨by decide, by decide, by decide, fun h => absurd h (show ¬ (0 : Int) ≤ -1 by decide), fun _ => ⟨show (2 : Int) ≠ 0 by decide, rfl, rfl, rfl⟩, fun h => absurd h (show ¬ (0 : Int) ≤ -1 by decide)⟩
 rw [if_neg h0]
 by_cases h1 : noneF n L p = 0
 ·rw [if_neg (fun e => e h1)]
  have ht := none_zero h1
  have hb := hasT_bd ht
  by_cases h2 : rootF n S L p z = 0
  ·rw [if_neg (fun e => e h2)]
   by_cases h3 : noneF n L (rootT n S L p z) = 0
   ·rw [if_neg (fun e => e h3)]
    have ht3 := none_zero h3
    have hb3 := hasT_bd ht3
    exact ⟨hb.2, hb3.2, fun _ => hb.1, fun _ => ⟨rfl, by omega, ht⟩, fun h => absurd h (show ¬ rootT n S L p z < 0 by omega), fun _ => ⟨ht3, _, _, rfl, rfl, h2, rfl, rfl, rfl, rfl, rfl⟩⟩
   ·rw [if_pos h3]
    exact ⟨hb.2, by show (-1 : Int) < 8; decide, fun _ => hb.1, fun _ => ⟨rfl, by omega, ht⟩, fun _ => ⟨h3, rfl, rfl, rfl⟩, fun h => absurd h (show ¬ (0 : Int) ≤ -1 by decide)⟩
  ·rw [if_pos h2]
   exact ⟨hb.2, by show (-1 : Int) < 8; decide, fun _ => hb.1, fun _ => ⟨rfl, by omega, ht⟩, fun _ => ⟨h2, rfl, rfl, rfl⟩, fun h => absurd h (show ¬ (0 : Int) ≤ -1 by decide)⟩
 ·rw [if_pos h1]
  exact ⟨by show (-1 : Int) < 8; decide, by show (-1 : Int) < 8; decide, fun h => absurd h (show ¬ (0 : Int) ≤ -1 by decide), fun h => absurd h (show ¬ (0 : Int) ≤ -1 by decide), fun _ => ⟨h1, rfl, rfl, rfl⟩, fun h => absurd h (show ¬ (0 : Int) ≤ -1 by decide)⟩

/-- all that is there may be read -/
def OddM (L : List Gm.Pl) : Prop := ∀ j, Gm.thB (Gm.plN L j) = true → (Gm.plN L j).2 % 2 = 1
section
variable {n : Nat} {S : List Int} {L : List Gm.Pl}
end
end Go.Proofs.YteaincdeoajkeaaGreatDoor.Wa
end
