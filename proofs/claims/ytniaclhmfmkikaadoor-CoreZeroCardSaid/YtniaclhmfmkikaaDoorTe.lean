/- The document's registers (hermitageref11): Get, Set; awake of the law. -/
import Derived.Test.YtniaclhmfmkikaaDoorTd
import Derived.Test.YtniaclhmfmkikaaDoorRa
namespace Go.Proofs.YtniaclhmfmkikaaDoor.Rg
open Go.RowKit Ut
set_option maxRecDepth 100000
set_option linter.unusedVariables false

/-- the document's file: its registers, where it goes on -/
def rCells (p : Int) (R : List Int) : List Value := wordsV R ++ [.int .u32 p]
section
variable {w w' : World} {b : Nat} {p : Int} {R : List Int}
theorem rCells_words (p : Int) (R : List Int) : ∀ j v, (wordsV R)[j]? = some v → (rCells p R)[0 + j]? = some v := fun j v h => by
  have hj := (List.getElem?_eq_some_iff.1 h).1
  rw [Nat.zero_add]
  unfold rCells
  rw [List.getElem?_append_left hj]
  exact h
end

/-- two arrays of registers compared inside a walk -/
theorem eql_words (R Q : List Int) (hR : R.length = 16) (hQ : Q.length = 16) (w : World) : (Op.equalIn 10000 31 (arrV R) (arrV Q)).run Tryd.prog w = .ok (R == Q) w :=
  run_equalIn_ints w 9998 31 30 16 .u32 Tryd.underlying31 Tryd.underlying30 (fun W => by kernel_rfl) R Q hR hQ
theorem guard_words (op : BinOp) (x y : Operand) (R Q : List Int) (w : World) : (eqGuard op 31 x y (arrV R) (arrV Q)).run Tryd.prog w = .ok () w := run_eqGuard_agg w op 31 x y _ _ (by kernel_rfl)
theorem bin_eql (R Q : List Int) (hR : R.length = 16) (hQ : Q.length = 16) (w : World) : (binOp .eql 31 (arrV R) (arrV Q)).run Tryd.prog w = .ok (.bool (R == Q)) w := by
  have h := eql_words R Q hR hQ w
  unfold arrV at h ⊢
  rw [run_eql_struct, h]
  rfl
theorem bin_neq (R Q : List Int) (hR : R.length = 16) (hQ : Q.length = 16) (w : World) : (binOp .neq 31 (arrV R) (arrV Q)).run Tryd.prog w = .ok (.bool (!(R == Q))) w := by
  have h := eql_words R Q hR hQ w
  unfold arrV at h ⊢
  rw [run_neq_struct, h]
  rfl
def five : List Int := setR (setR zer 3 5) 0 5
theorem five_len : five.length = 16 := rfl

end Go.Proofs.YtniaclhmfmkikaaDoor.Rg
