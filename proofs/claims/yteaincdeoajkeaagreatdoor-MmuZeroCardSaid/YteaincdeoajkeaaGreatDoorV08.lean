/- Several texts in one: Ig Ik -/
import Derived.Test.YteaincdeoajkeaaGreatDoorV06
import Derived.Test.YteaincdeoajkeaaGreatDoorV07
section
/- The statements' own helpers on frames: awake, all; what all tells of two stores. -/
namespace Go.Proofs.YteaincdeoajkeaaGreatDoor.Fr
open Go.RowKit Ut Oc
set_option linter.unusedVariables false

theorem put1 : (putZ zer 60 4 1 == zer) = false := by decide +kernel

end Go.Proofs.YteaincdeoajkeaaGreatDoor.Fr
end
section
/- Both stores of frames side by side: each act answers alike, and leaves like frames. -/
namespace Go.Proofs.YteaincdeoajkeaaGreatDoor.Fr
open Go.RowKit Ut Oc
set_option linter.unusedVariables false

/-- the frames that flat bytes say -/
def fr (n : Nat) (L : List Int) : List (List Int) := (List.range n).map (frameL L)
/-- the document's store, wherever its slices lie -/
def RF (w : World) (bt B n : Nat) (L : List Int) : Prop := ∃ v vs, RT w bt B n (fr n L) v vs
theorem RF.kept {w w' : World} {bt B n : Nat} {L : List Int} {row : Option Nat} (h : RF w bt B n L) (hg : w.grownBy w' row) (hr : ∀ k, row = some k → k < B) : RF w' bt B n L := by
 obtain ⟨v, vs, h⟩ := h
 exact ⟨v, vs, h.kept hg hr⟩
theorem RF.below {w w' : World} {bt B n : Nat} {L : List Int} (h : RF w bt B n L) (hb : Below w.heap.size w w') : RF w' bt B n L := by
 obtain ⟨v, vs, h⟩ := h
 exact ⟨v, vs, h.below hb⟩

/-- an act on the program's store: code z, bytes L' -/
def PAct (fn : FuncId) (args : List Value) (b n : Nat) (L : List Int) (z : Int) (L' : List Int) : Prop :=
 ∀ W, St W b n L → Calls Tryz.prog fn (.pointer (some ⟨b, 0, none⟩) :: args).toArray W fun e W' => e = .returned (.int .i64 z) ∧ St W' b n L' ∧ W.grownBy W' (some b)
/-- .. on the document's -/
def RAct (fn : FuncId) (args : List Value) (bt B n : Nat) (L : List Int) (z : Int) (L' : List Int) : Prop :=
 ∀ W, RF W bt B n L → B ≤ W.heap.size → Calls Tryz.prog fn (.pointer (some ⟨bt, 0, none⟩) :: args).toArray W fun e W' => e = .returned (.int .i64 z) ∧ RF W' bt B n L' ∧ Below B W W'

end Go.Proofs.YteaincdeoajkeaaGreatDoor.Fr
end
