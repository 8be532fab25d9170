/- Plain facts on heaps as the library keeps them (container/heap's up and down), over lists of integers; nothing of the program. -/
import Derived.WalkKit
namespace Go.Proofs.Ythabilokbfieiaa.Hp
set_option linter.unusedVariables false

/-- the elements at i and j exchanged -/
def swapL (l : List Int) (i j : Nat) : List Int := (l.set i (l.getD j 0)).set j (l.getD i 0)
theorem length_swapL (l : List Int) (i j : Nat) : (swapL l i j).length = l.length := by simp [swapL]
theorem getD_swapL (l : List Int) (i j k : Nat) (hi : i < l.length) (hj : j < l.length) : (swapL l i j).getD k 0 = if k = j then l.getD i 0 else if k = i then l.getD j 0 else l.getD k 0 := by
  unfold swapL
  simp only [List.getD]
  by_cases e1 : k = j
  · subst e1
    rw [if_pos rfl, List.getElem?_set_self (by simpa using hj)]
    rfl
  · rw [if_neg e1, List.getElem?_set_ne (fun e => e1 e.symm)]
    by_cases e2 : k = i
    · subst e2
      rw [if_pos rfl, List.getElem?_set_self hi]
      rfl
    · rw [if_neg e2, List.getElem?_set_ne (fun e => e2 e.symm)]
theorem swapL_perm (l : List Int) (i j : Nat) (hi : i < l.length) (hj : j < l.length) : (swapL l i j).Perm l := by
  unfold swapL
  have e1 : l.getD j 0 = l[j] := by simp [List.getD, hj]
  have e2 : l.getD i 0 = l[i] := by simp [List.getD, hi]
  rw [e1, e2]
  exact List.set_set_perm hi hj

/-- the first n are a heap: none is less than the one above it -/
def HeapL (l : List Int) (n : Nat) : Prop := ∀ k, 0 < k → k < n → l.getD ((k - 1) / 2) 0 ≤ l.getD k 0

/-- container/heap's up -/
def upL (l : List Int) (j : Nat) : List Int :=
  if h : j = 0 then l
  else if l.getD j 0 < l.getD ((j - 1) / 2) 0 then upL (swapL l ((j - 1) / 2) j) ((j - 1) / 2) else l
termination_by j
decreasing_by omega

/-- the lesser of the two below i, among the first n -/
def childL (l : List Int) (i n : Nat) : Nat := if 2 * i + 2 < n ∧ l.getD (2 * i + 2) 0 < l.getD (2 * i + 1) 0 then 2 * i + 2 else 2 * i + 1
theorem child_cases (l : List Int) (i n : Nat) : childL l i n = 2 * i + 1 ∨ childL l i n = 2 * i + 2 ∧ 2 * i + 2 < n := by
  unfold childL
  split
  · rename_i h; exact .inr ⟨rfl, h.1⟩
  · exact .inl rfl
theorem child_gt (l : List Int) (i n : Nat) : i < childL l i n := by rcases child_cases l i n with h | ⟨h, _⟩ <;> omega
theorem child_lt (l : List Int) (i n : Nat) (h : 2 * i + 1 < n) : childL l i n < n := by rcases child_cases l i n with h | ⟨h, _⟩ <;> omega

/-- container/heap's down, among the first n -/
def downL (l : List Int) (i n : Nat) : List Int :=
  if h : 2 * i + 1 < n then
    if l.getD (childL l i n) 0 < l.getD i 0 then downL (swapL l i (childL l i n)) (childL l i n) n else l
  else l
termination_by n - i
decreasing_by
  have := child_gt l i n
  omega

theorem length_upL (l : List Int) (j : Nat) : (upL l j).length = l.length := by
  induction j using Nat.strongRecOn generalizing l with
  | _ j ih =>
    unfold upL
    split
    · rfl
    · split
      · rw [ih _ (by omega), length_swapL]
      · rfl
theorem upL_perm (l : List Int) (j : Nat) (hj : j < l.length) : (upL l j).Perm l := by
  induction j using Nat.strongRecOn generalizing l with
  | _ j ih =>
    unfold upL
    split
    · exact List.Perm.refl _
    · split
      · exact (ih _ (by omega) _ (by rw [length_swapL]; omega)).trans (swapL_perm l _ _ (by omega) hj)
      · exact List.Perm.refl _
theorem length_downL (m : Nat) : ∀ (l : List Int) (i n : Nat), n - i = m → (downL l i n).length = l.length := by
  induction m using Nat.strongRecOn with
  | _ m ih =>
    intro l i n hm
    have hc := child_gt l i n
    unfold downL
    split
    · split
      · rw [ih (n - childL l i n) (by omega) _ _ _ rfl, length_swapL]
      · rfl
    · rfl
theorem downL_perm (m : Nat) : ∀ (l : List Int) (i n : Nat), n - i = m → n ≤ l.length → (downL l i n).Perm l := by
  induction m using Nat.strongRecOn with
  | _ m ih =>
    intro l i n hm hn
    have hc := child_gt l i n
    unfold downL
    split
    · rename_i h1
      have hc2 := child_lt l i n h1
      split
      · exact (ih (n - childL l i n) (by omega) _ _ _ rfl (by rw [length_swapL]; exact hn)).trans (swapL_perm l _ _ (by omega) (by omega))
      · exact List.Perm.refl _
    · exact List.Perm.refl _

/-- in order but for place j, which may be less than the one above it -/
def UpInv (l : List Int) (j n : Nat) : Prop :=
  (∀ k, 0 < k → k < n → k ≠ j → l.getD ((k - 1) / 2) 0 ≤ l.getD k 0) ∧ (0 < j → ∀ k, 0 < k → k < n → (k - 1) / 2 = j → l.getD ((j - 1) / 2) 0 ≤ l.getD k 0)
theorem upL_heap (l : List Int) (j n : Nat) (hj : j < n) (hn : n ≤ l.length) (h : UpInv l j n) : HeapL (upL l j) n := by
  induction j using Nat.strongRecOn generalizing l with
  | _ j ih =>
    unfold upL
    split
    · rename_i h0
      subst h0
      intro k hk hkn
      exact h.1 k hk hkn (by omega)
    · rename_i h0
      split
      · rename_i hlt
        have hp : (j - 1) / 2 < j := by omega
        refine ih _ hp _ (by omega) (by rw [length_swapL]; exact hn) ⟨fun k hk hkn hne => ?_, fun hpp k hk hkn hkp => ?_⟩
        · rw [getD_swapL _ _ _ _ (by omega) (by omega), getD_swapL _ _ _ _ (by omega) (by omega)]
          by_cases e1 : k = j
          · subst e1
            rw [if_neg (by omega), if_pos rfl, if_pos rfl]
            omega
          · rw [if_neg e1, if_neg hne]
            by_cases e2 : (k - 1) / 2 = j
            · rw [if_pos e2]
              exact h.2 (by omega) k hk hkn e2
            · rw [if_neg e2]
              by_cases e3 : (k - 1) / 2 = (j - 1) / 2
              · rw [if_pos e3]
                have := h.1 k hk hkn e1
                rw [e3] at this
                omega
              · rw [if_neg e3]
                exact h.1 k hk hkn e1
        · rw [getD_swapL _ _ _ _ (by omega) (by omega), getD_swapL _ _ _ _ (by omega) (by omega)]
          rw [if_neg (by omega), if_neg (by omega)]
          have hpar := h.1 ((j - 1) / 2) hpp (by omega) (by omega)
          by_cases e1 : k = j
          · rw [if_pos e1]
            exact hpar
          · rw [if_neg e1, if_neg (by omega)]
            have := h.1 k hk hkn e1
            rw [hkp] at this
            omega
      · rename_i hge
        intro k hk hkn
        by_cases e : k = j
        · subst e; omega
        · exact h.1 k hk hkn e

/-- in order but for place i, which may be more than those below it -/
def DownInv (l : List Int) (i n : Nat) : Prop :=
  (∀ k, 0 < k → k < n → (k - 1) / 2 ≠ i → l.getD ((k - 1) / 2) 0 ≤ l.getD k 0) ∧ (0 < i → ∀ k, 0 < k → k < n → (k - 1) / 2 = i → l.getD ((i - 1) / 2) 0 ≤ l.getD k 0)
theorem downL_heap (m : Nat) : ∀ (l : List Int) (i n : Nat), n - i = m → n ≤ l.length → DownInv l i n → HeapL (downL l i n) n := by
  induction m using Nat.strongRecOn with
  | _ m ih =>
    intro l i n hm hn h
    unfold downL
    split
    · rename_i hj1
      generalize hj : childL l i n = j
      unfold childL at hj
      have hjc : (j = 2 * i + 1 ∨ j = 2 * i + 2) ∧ j < n ∧ ∀ k, 0 < k → k < n → (k - 1) / 2 = i → l.getD j 0 ≤ l.getD k 0 := by
        split at hj
        · rename_i hc
          subst hj
          refine ⟨.inr rfl, hc.1, fun k hk hkn hp => ?_⟩
          have : k = 2 * i + 1 ∨ k = 2 * i + 2 := by omega
          rcases this with rfl | rfl
          · omega
          · omega
        · rename_i hc
          subst hj
          refine ⟨.inl rfl, hj1, fun k hk hkn hp => ?_⟩
          have : k = 2 * i + 1 ∨ k = 2 * i + 2 := by omega
          rcases this with rfl | rfl
          · omega
          · have hc2 : ¬ l.getD (2 * i + 2) 0 < l.getD (2 * i + 1) 0 := fun e => hc ⟨hkn, e⟩
            omega
      obtain ⟨hj2, hjn, hmin⟩ := hjc
      split
      · rename_i hlt
        refine ih (n - j) (by omega) _ _ _ rfl (by rw [length_swapL]; exact hn) ⟨fun k hk hkn hne => ?_, fun _ k hk hkn hkp => ?_⟩
        · rw [getD_swapL _ _ _ _ (by omega) (by omega), getD_swapL _ _ _ _ (by omega) (by omega)]
          rw [if_neg hne]
          by_cases e2 : (k - 1) / 2 = i
          · rw [if_pos e2]
            by_cases e1 : k = j
            · rw [if_pos e1]; omega
            · rw [if_neg e1, if_neg (by omega)]
              exact hmin k hk hkn e2
          · rw [if_neg e2]
            by_cases e1 : k = j
            · omega
            · rw [if_neg e1]
              by_cases e3 : k = i
              · subst e3
                rw [if_pos rfl]
                exact h.2 (by omega) j (by omega) hjn (by omega)
              · rw [if_neg e3]
                exact h.1 k hk hkn e2
        · rw [getD_swapL _ _ _ _ (by omega) (by omega), getD_swapL _ _ _ _ (by omega) (by omega)]
          rw [if_neg (by omega), if_pos (by omega), if_neg (by omega), if_neg (by omega)]
          have := h.1 k hk hkn (by omega)
          rw [hkp] at this
          exact this
      · rename_i hge
        intro k hk hkn
        by_cases e : (k - 1) / 2 = i
        · have := hmin k hk hkn e
          rw [e]
          omega
        · exact h.1 k hk hkn e
    · rename_i hj1
      intro k hk hkn
      exact h.1 k hk hkn (by omega)

/-- the first of a heap is the least -/
theorem heap_least {l : List Int} {n : Nat} (h : HeapL l n) : ∀ k, k < n → l.getD 0 0 ≤ l.getD k 0 := by
  intro k
  induction k using Nat.strongRecOn with
  | _ k ih =>
    intro hk
    by_cases h0 : k = 0
    · subst h0; exact Int.le_refl _
    · exact Int.le_trans (ih ((k - 1) / 2) (by omega) (by omega)) (h k (by omega) hk)

/-- one more goes in -/
theorem push_heap {l : List Int} (x : Int) (h : HeapL l l.length) : HeapL (upL (l ++ [x]) l.length) (l.length + 1) ∧ (upL (l ++ [x]) l.length).Perm (l ++ [x]) := by
  refine ⟨upL_heap _ _ _ (by omega) (by simp) ⟨fun k hk hkn hne => ?_, fun _ k hk hkn hp => by omega⟩, upL_perm _ _ (by simp)⟩
  have e : ∀ q, q < l.length → (l ++ [x]).getD q 0 = l.getD q 0 := fun q hq => by
    simp only [List.getD]
    rw [List.getElem?_append_left hq]
  rw [e _ (by omega), e _ (by omega)]
  exact h k hk (by omega)
/-- the first comes out: what is left, its last cut off -/
def popL (l : List Int) : List Int := downL (swapL l 0 (l.length - 1)) 0 (l.length - 1)
theorem pop_heap {l : List Int} (hl : 0 < l.length) (h : HeapL l l.length) :
    (popL l).length = l.length ∧ HeapL (popL l) (l.length - 1) ∧ (popL l).Perm l := by
  unfold popL
  have hsw := length_swapL l 0 (l.length - 1)
  refine ⟨by rw [length_downL _ _ _ _ rfl, hsw], downL_heap _ _ _ _ rfl (by rw [hsw]; omega) ⟨fun k hk hkn hne => ?_, fun h0 => absurd h0 (by omega)⟩, (downL_perm _ _ _ _ rfl (by rw [hsw]; omega)).trans (swapL_perm l _ _ hl (by omega))⟩
  rw [getD_swapL _ _ _ _ hl (by omega), getD_swapL _ _ _ _ hl (by omega), if_neg (by omega), if_neg hne, if_neg (by omega), if_neg (by omega)]
  exact h k hk (by omega)

/-- down leaves alone what lies behind the first n -/
theorem downL_above (m : Nat) : ∀ (l : List Int) (i n : Nat), n - i = m → n ≤ l.length → ∀ k, n ≤ k → (downL l i n).getD k 0 = l.getD k 0 := by
  induction m using Nat.strongRecOn with
  | _ m ih =>
    intro l i n hm hn k hk
    have hc := child_gt l i n
    unfold downL
    split
    · rename_i h1
      have hc2 := child_lt l i n h1
      split
      · rw [ih (n - childL l i n) (by omega) _ _ _ rfl (by rw [length_swapL]; exact hn) k hk, getD_swapL _ _ _ _ (by omega) (by omega), if_neg (by omega), if_neg (by omega)]
      · rfl
    · rfl

/-- the first comes out: it is the least; what is left is a heap of all others -/
theorem pop_parts {l : List Int} (hl : 0 < l.length) (h : HeapL l l.length) :
    ∃ r, popL l = r ++ [l.getD 0 0] ∧ r.length + 1 = l.length ∧ HeapL r r.length ∧ (l.getD 0 0 :: r).Perm l ∧ ∀ y ∈ l, l.getD 0 0 ≤ y := by
  obtain ⟨h1, h2, h3⟩ := pop_heap hl h
  have hlast : (popL l).getD (l.length - 1) 0 = l.getD 0 0 := by
    unfold popL
    rw [downL_above _ _ _ _ rfl (by rw [length_swapL]; omega) _ (Nat.le_refl _), getD_swapL _ _ _ _ hl (by omega), if_pos rfl]
  have hsp : popL l = (popL l).take (l.length - 1) ++ [l.getD 0 0] := by
    rw [← hlast]
    have e : (popL l).getD (l.length - 1) 0 = (popL l)[l.length - 1]'(by omega) := by simp [List.getD, show l.length - 1 < (popL l).length by omega]
    rw [e, List.take_append_getElem (by omega), List.take_of_length_le (by omega)]
  refine ⟨(popL l).take (l.length - 1), hsp, by rw [List.length_take]; omega, ?_, ?_, ?_⟩
  · intro k hk hkn
    rw [List.length_take, Nat.min_eq_left (by omega)] at hkn
    have e : ∀ q, q < l.length - 1 → ((popL l).take (l.length - 1)).getD q 0 = (popL l).getD q 0 := fun q hq => by simp only [List.getD, List.getElem?_take, if_pos hq]
    rw [e _ (by omega), e _ hkn]
    exact h2 k hk hkn
  · have hp := h3
    rw [hsp] at hp
    exact (List.perm_append_comm (l₁ := [l.getD 0 0])).trans hp
  · intro y hy
    obtain ⟨k, hk, rfl⟩ := List.mem_iff_getElem.1 hy
    have := heap_least h k hk
    simpa [List.getD, hk] using this

/-- one more goes in -/
def pushL (l : List Int) (x : Int) : List Int := upL (l ++ [x]) l.length
theorem push_parts {l : List Int} (x : Int) (h : HeapL l l.length) : (pushL l x).length = l.length + 1 ∧ HeapL (pushL l x) (pushL l x).length ∧ (pushL l x).Perm (x :: l) := by
  obtain ⟨h1, h2⟩ := push_heap x h
  have hl : (pushL l x).length = l.length + 1 := by unfold pushL; rw [length_upL]; simp
  refine ⟨hl, by rw [hl]; exact h1, h2.trans ?_⟩
  exact List.perm_append_comm (l₂ := [x])
theorem nil_heap : HeapL [] 0 := fun k _ h => absurd h (Nat.not_lt_zero k)

/-- the least of those that meet p, where they are just l's -/
theorem least_of {l : List Int} {p : Nat → Bool} {n : Nat} {x : Int} (hl : ∀ y : Int, y ∈ l ↔ ∃ k : Nat, y = k ∧ k < n ∧ p k = true) (hx : x ∈ l) (hmin : ∀ y ∈ l, x ≤ y) :
    ∃ f : Nat, x = f ∧ f < n ∧ p f = true ∧ ∀ k, k < f → p k = false := by
  obtain ⟨f, hf, hfn, hp⟩ := (hl x).1 hx
  refine ⟨f, hf, hfn, hp, fun k hk => ?_⟩
  cases hpk : p k with
  | false => rfl
  | true =>
    have := hmin k ((hl k).2 ⟨k, rfl, by omega, hpk⟩)
    omega
end Go.Proofs.Ythabilokbfieiaa.Hp
