/- Plain facts on words and their bytes; nothing of the program. -/
import Derived.Test.YtkkolbdapoejkaaOm
namespace Go.Proofs.Ytkkolbdapoejkaa.Oc
open Go.RowKit

/-- the numbers of each four bytes -/
def wordsZ (zs : List Int) : List Int := (List.range (zs.length / 4)).map fun i => num ((zs.drop (4 * i)).take 4)
theorem length_wordsZ (zs : List Int) : (wordsZ zs).length = zs.length / 4 := by simp [wordsZ]
theorem getD_wordsZ (zs : List Int) (i : Nat) (h : i < zs.length / 4) : (wordsZ zs).getD i 0 = num ((zs.drop (4 * i)).take 4) := by
  simp [wordsZ, List.getD, h]
theorem wordsZ_take (zs : List Int) (i : Nat) (h : i < zs.length / 4) : (wordsZ zs).take (i + 1) = (wordsZ zs).take i ++ [num ((zs.drop (4 * i)).take 4)] := by
  rw [take_snoc_getD _ _ (by rw [length_wordsZ]; exact h), getD_wordsZ _ _ h]

/-- four bytes of each number -/
def bytesZ (l : List Int) : List Int := (List.range (4 * l.length)).map fun j => byteN (l.getD (j / 4) 0) (j % 4)
theorem length_bytesZ (l : List Int) : (bytesZ l).length = 4 * l.length := by simp [bytesZ]
theorem getD_bytesZ (l : List Int) (j : Nat) (h : j < 4 * l.length) : (bytesZ l).getD j 0 = byteN (l.getD (j / 4) 0) (j % 4) := by
  simp [bytesZ, List.getD, h]
theorem bytesZ_bytes (l : List Int) : AreBytes (bytesZ l) := fun z hz => by
  obtain ⟨k, _, rfl⟩ := List.mem_map.1 hz
  exact byteN_bd _ _
theorem bytesZ_take (l : List Int) (i k : Nat) (h : i < l.length) (hk : k < 4) : (bytesZ l).take (4 * i + (k + 1)) = (bytesZ l).take (4 * i + k) ++ [byteN (l.getD i 0) k] := by
  rw [← Nat.add_assoc, take_snoc_getD _ _ (by rw [length_bytesZ]; omega), getD_bytesZ _ _ (by omega), show (4 * i + k) / 4 = i by omega, show (4 * i + k) % 4 = k by omega]

theorem getD_append_left (a b : List Int) (j : Nat) (h : j < a.length) : (a ++ b).getD j 0 = a.getD j 0 := by
  simp [List.getD, List.getElem?_append, h]
theorem getD_drop_take (zs : List Int) (i m j : Nat) (h : j < m) : ((zs.drop i).take m).getD j 0 = zs.getD (i + j) 0 := by
  simp [List.getD, h]

/-- words become four bytes each, which become these words again, whatever stands behind that is no word -/
theorem words_back (l few : List Int) (h : ∀ z ∈ l, 0 ≤ z ∧ z < 4294967296) (hf : few.length < 4) : wordsZ (bytesZ l ++ few) = l := by
  have hl : (bytesZ l ++ few).length / 4 = l.length := by rw [List.length_append, length_bytesZ]; omega
  refine ext_getD (by rw [length_wordsZ, hl]) fun j hj => ?_
  rw [length_wordsZ, hl] at hj
  rw [getD_wordsZ _ _ (by rw [hl]; exact hj)]
  have hb : ((bytesZ l ++ few).drop (4 * j)).take 4 = bytesN (l.getD j 0) 4 := by
    refine ext_getD (by simp [length_bytesN, length_bytesZ]; omega) fun r hr => ?_
    have hr4 : r < 4 := by simp at hr; omega
    rw [getD_drop_take _ _ _ _ hr4, getD_append_left _ _ _ (by rw [length_bytesZ]; omega), getD_bytesZ _ _ (by omega), getD_bytesN _ _ _ hr4, show (4 * j + r) / 4 = j by omega, show (4 * j + r) % 4 = r by omega]
  rw [hb]
  have := h (l.getD j 0) (by rw [getD_at l j hj]; exact List.getElem_mem hj)
  exact num_bytes4 _ this.1 this.2
theorem words_back0 (l : List Int) (h : ∀ z ∈ l, 0 ≤ z ∧ z < 4294967296) : wordsZ (bytesZ l) = l := by
  have := words_back l [] h (by simp)
  rwa [List.append_nil] at this
end Go.Proofs.Ytkkolbdapoejkaa.Oc
