/- Plain facts on heaps: what Fix and Remove leave. Serves all packages. -/
import Derived.Test.YtgcpcffgpokbfaaHx
namespace Go.Proofs.Ytgcpcffgpokbfaa.Hg
set_option linter.unusedVariables false

section
variable {α : Type} [Inhabited α] {ky : α → Int}
theorem upL_above (l : List α) (j : Nat) (hj : j < l.length) : ∀ k, j < k → (upL ky l j).getD k default = l.getD k default := by
  induction j using Nat.strongRecOn generalizing l with
  | _ j ih =>
    intro k hk
    unfold upL
    split
    · rfl
    · rename_i h0
      split
      · rw [ih _ (by omega) _ (by rw [length_swapL]; omega) k (by omega), el_swapL _ _ _ _ (by omega) hj, if_neg (by omega), if_neg (by omega)]
      · rfl
theorem fix_above {l : List α} {i n : Nat} (hi : i < n) (hn : n ≤ l.length) : ∀ k, n ≤ k → (fixL ky l i n).getD k default = l.getD k default := fun k hk => by
  unfold fixL
  split
  · exact downL_above _ _ _ _ rfl hn k hk
  · exact upL_above l i (by omega) k (by omega)
theorem length_fixL {l : List α} {i n : Nat} : (fixL ky l i n).length = l.length := by
  unfold fixL
  split
  · exact length_downL _ _ _ _ rfl
  · exact length_upL _ _
/-- one in its place has turned -/
theorem fix_parts {l : List α} {i : Nat} (x : α) (hi : i < l.length) (h : HeapL ky l l.length) : HeapL ky (fixL ky (l.set i x) i l.length) l.length ∧ (fixL ky (l.set i x) i l.length).Perm (l.set i x) ∧ (fixL ky (l.set i x) i l.length).length = l.length := by
  have e : ∀ k, k ≠ i → vl ky (l.set i x) k = vl ky l k := fun k hk => by
    unfold vl
    simp only [List.getD, List.getElem?_set_ne (fun q => hk q.symm)]
  have hs : (l.set i x).length = l.length := List.length_set
  refine ⟨fix_heap hi (by omega) ⟨fun k hk hkn h1 h2 => ?_, fun h0 k hk hkn hp => ?_⟩, fix_perm hi (by omega), by rw [length_fixL, hs]⟩
  · rw [e _ h1, e _ h2]
    exact h k hk hkn
  · rw [e _ (by omega), e _ (by omega)]
    have a := h i h0 (by omega)
    have b := h k hk hkn
    rw [hp] at b
    omega
/-- one is taken out: what is left is a heap of all others -/
theorem rem_parts {l : List α} {i : Nat} (hi : i < l.length) (h : HeapL ky l l.length) : ∃ r, remL ky l i = r ++ [l.getD i default] ∧ r.length + 1 = l.length ∧ HeapL ky r r.length ∧ (l.getD i default :: r).Perm l := by
  unfold remL
  by_cases e : i = l.length - 1
  · rw [if_pos e]
    exact cut_parts (by omega) rfl (by rw [← e]) (fun k hk hkn => h k hk (by omega)) (List.Perm.refl _)
  · rw [if_neg e]
    have hq : i < l.length - 1 := by omega
    have hsw := length_swapL l i (l.length - 1)
    have hv : ∀ k, k < l.length - 1 → k ≠ i → vl ky (swapL l i (l.length - 1)) k = vl ky l k := fun k hk hne => by
      rw [getD_swapL _ _ _ _ (by omega) (by omega), if_neg (by omega), if_neg hne]
    refine cut_parts (by omega) (by rw [length_fixL, hsw]) ?_ (fix_heap hq (by omega) ⟨fun k hk hkn h1 h2 => ?_, fun h0 k hk hkn hp => ?_⟩) ((fix_perm hq (by omega)).trans (swapL_perm l _ _ (by omega) (by omega)))
    · rw [fix_above hq (by omega) _ (Nat.le_refl _), el_swapL _ _ _ _ (by omega) (by omega), if_pos rfl]
    · rw [hv _ (by omega) h2, hv _ hkn h1]
      exact h k hk (by omega)
    · rw [hv _ (by omega) (by omega), hv _ hkn (by omega)]
      have a := h i h0 (by omega)
      have b := h k hk (by omega)
      rw [hp] at b
      omega
end
end Go.Proofs.Ytgcpcffgpokbfaa.Hg
