/- Several texts in one: Zi -/
import Derived.Test.YteaincdeoajkeaaGreatDoorV22
section
/- Package walk: where an access lies, plainly; Find's own blocks. -/
namespace Go.Proofs.YteaincdeoajkeaaGreatDoor.Wa
open Go.RowKit Go.Shelf Ut Oc Vw
set_option maxRecDepth 100000
set_option linter.unusedVariables false
set_option maxHeartbeats 4000000

/-- where an access lies, and why it can't be -/
def locF (n : Nat) (S : List Int) (L : List Gm.Pl) (on : Bool) (rt : Int) (us : Bool) (z k : Int) : (Int × Int × Int) × Int :=
 if on = false then (hitF n L z 1 k, findF n L z 1 k)
 else if (walkF n S L rt z).f ≠ 0 then ((0, 0, 0), (walkF n S L rt z).f)
 else if Pe.alwB (walkF n S L rt z).o (walkF n S L rt z).r k us = false then ((0, 0, 0), 6)
 else (hitF n L ((walkF n S L rt z).g * 64 + z % 64) 1 k, findF n L ((walkF n S L rt z).g * 64 + z % 64) 1 k)
theorem walkF_zero {n : Nat} {S : List Int} {L : List Gm.Pl} {p z : Int} (h : (walkF n S L p z).f = 0) : ¬ 16384 ≤ z ∧ noneF n L p = 0 ∧ rootF n S L p z = 0 ∧ noneF n L (rootT n S L p z) = 0 ∧ leafE n S L p z = 0 ∧ walkF n S L p z = st4 n S L p z := by
 unfold walkF at h ⊢
 by_cases h0 : 16384 ≤ z
 ·rw [if_pos h0] at h; exact absurd h (by decide)
 rw [if_neg h0] at h ⊢
 by_cases h1 : noneF n L p = 0
 ·rw [if_neg (fun e => e h1)] at h ⊢
  by_cases h2 : rootF n S L p z = 0
  ·rw [if_neg (fun e => e h2)] at h ⊢
   by_cases h3 : noneF n L (rootT n S L p z) = 0
   ·rw [if_neg (fun e => e h3)] at h ⊢
    exact ⟨h0, h1, h2, h3, h, rfl⟩
   ·rw [if_pos h3] at h; exact absurd h h3
  ·rw [if_pos h2] at h; exact absurd h h2
 ·rw [if_pos h1] at h; exact absurd h h1
theorem walkF_page {n : Nat} {S : List Int} {L : List Gm.Pl} {p z : Int} (h : (walkF n S L p z).f = 0) : 0 ≤ (walkF n S L p z).g ∧ (walkF n S L p z).g < 32 := by
 obtain ⟨_, _, _, _, h4, e⟩ := walkF_zero h
 rw [e]
 show 0 ≤ Pe.gF (leafE n S L p z) _ ∧ Pe.gF (leafE n S L p z) _ < 32
 unfold Pe.gF Pe.gOf
 rw [if_pos h4]
 omega
/-- Find's own blocks -/
structure FS (w W : World) (on : Bool) (rt : Int) (us : Bool) : Prop where
 b : Below w.heap.size w W
 md : Blk W w.heap.size 30 [.bool on, .int .i64 rt, .bool us]
 ht : Blk W (w.heap.size + 1) 36 (hitC (0, 0, 0))
theorem FS.more {w W W' : World} {on us : Bool} {rt : Int} (h : FS w W on rt us) (hb : Below W.heap.size W W') : FS w W' on rt us := ⟨h.b.trans (hb.mono h.b.size), h.md.more hb, h.ht.more hb⟩
end Go.Proofs.YteaincdeoajkeaaGreatDoor.Wa
end
