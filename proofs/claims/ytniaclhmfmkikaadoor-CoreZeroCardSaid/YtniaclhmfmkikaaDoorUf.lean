/- The document's registers of the kernel's mode (hermitageref12). -/
import Derived.Test.YtniaclhmfmkikaaDoorUe
namespace Go.Proofs.YtniaclhmfmkikaaDoor.Cs
open Go.RowKit Ut
set_option maxRecDepth 100000
set_option linter.unusedVariables false

/-- the document's file: its registers, its guest's number -/
def rCells (i : Nat) (R : List Nat) : List Value := wordsV R ++ [.int .i64 (i : Int)]
section
variable {w w' : World} {b i : Nat} {R : List Nat}
theorem rCells_words (i : Nat) (R : List Nat) : ∀ j v, (wordsV R)[j]? = some v → (rCells i R)[0 + j]? = some v := fun j v h => by
  have hj := (List.getElem?_eq_some_iff.1 h).1
  rw [Nat.zero_add]
  unfold rCells
  rw [List.getElem?_append_left hj]
  exact h
theorem rCells_set (i : Nat) (R : List Nat) (k v : Nat) (hl : k < R.length) : (rCells i R).set k (.int .u32 (v : Int)) = rCells i (R.set k v) := by
  unfold rCells wordsV
  rw [List.set_append_left _ _ (by simp [hl]), List.map_set]
  rfl
end
theorem splice_rwords (i : Nat) (R Q : List Nat) (hR : R.length = 7) (hQ : Q.length = 7) : splice (rCells i R) 0 (wordsV Q) = rCells i Q := by
  unfold splice rCells
  have e : (wordsV Q).length = (wordsV R).length := by simp [wordsV, hR, hQ]
  simp [e]

theorem beq_cast (x y : Nat) : (((x : Nat) : Int) == ((y : Nat) : Int)) = (x == y) := by
  rw [Bool.eq_iff_iff, beq_iff_eq, beq_iff_eq]
  omega
end Go.Proofs.YtniaclhmfmkikaaDoor.Cs
