/- Plain facts on heaps as the library keeps them (container/heap's up, down, Push, Pop, Fix, Remove), over lists of anything that has an integer key; nothing of the program. Serves all packages. -/
import Derived.WalkKit
namespace Go.Proofs.Ytgcpcffgpokbfaa.Hg
set_option linter.unusedVariables false

section
variable {α : Type} [Inhabited α] {ky : α → Int}
/-- the key at place i -/
def vl (ky : α → Int) (l : List α) (i : Nat) : Int := ky (l.getD i default)
/-- the elements at i and j exchanged -/
def swapL (l : List α) (i j : Nat) : List α := (l.set i (l.getD j default)).set j (l.getD i default)
theorem length_swapL (l : List α) (i j : Nat) : (swapL l i j).length = l.length := by simp [swapL]
theorem el_swapL (l : List α) (i j k : Nat) (hi : i < l.length) (hj : j < l.length) : (swapL l i j).getD k default = if k = j then l.getD i default else if k = i then l.getD j default else l.getD k default := by
  unfold swapL
  simp only [List.getD]
  by_cases e1 : k = j
  · subst e1
    rw [if_pos rfl, List.getElem?_set_self (by simpa using hj)]
    rfl
  · rw [if_neg e1, List.getElem?_set_ne (fun e => e1 e.symm)]
    by_cases e2 : k = i
    · subst e2
      rw [if_pos rfl, List.getElem?_set_self hi]
      rfl
    · rw [if_neg e2, List.getElem?_set_ne (fun e => e2 e.symm)]
theorem getD_swapL (l : List α) (i j k : Nat) (hi : i < l.length) (hj : j < l.length) : vl ky (swapL l i j) k = if k = j then vl ky l i else if k = i then vl ky l j else vl ky l k := by
  unfold vl
  rw [el_swapL l i j k hi hj]
  by_cases e1 : k = j
  · rw [if_pos e1, if_pos e1]
  · rw [if_neg e1, if_neg e1]
    by_cases e2 : k = i
    · rw [if_pos e2, if_pos e2]
    · rw [if_neg e2, if_neg e2]
theorem swapL_perm (l : List α) (i j : Nat) (hi : i < l.length) (hj : j < l.length) : (swapL l i j).Perm l := by
  unfold swapL
  have e1 : l.getD j default = l[j] := by simp [List.getD, hj]
  have e2 : l.getD i default = l[i] := by simp [List.getD, hi]
  rw [e1, e2]
  exact List.set_set_perm hi hj

/-- the first n are a heap: none is less than the one above it -/
def HeapL (ky : α → Int) (l : List α) (n : Nat) : Prop := ∀ k, 0 < k → k < n → vl ky l ((k - 1) / 2) ≤ vl ky l k

/-- container/heap's up -/
def upL (ky : α → Int) (l : List α) (j : Nat) : List α :=
  if h : j = 0 then l
  else if vl ky l j < vl ky l ((j - 1) / 2) then upL ky (swapL l ((j - 1) / 2) j) ((j - 1) / 2) else l
termination_by j
decreasing_by omega

/-- the lesser of the two below i, among the first n -/
def childL (ky : α → Int) (l : List α) (i n : Nat) : Nat := if 2 * i + 2 < n ∧ vl ky l (2 * i + 2) < vl ky l (2 * i + 1) then 2 * i + 2 else 2 * i + 1
theorem child_cases (l : List α) (i n : Nat) : childL ky l i n = 2 * i + 1 ∨ childL ky l i n = 2 * i + 2 ∧ 2 * i + 2 < n := by
  unfold childL
  split
  · rename_i h; exact .inr ⟨rfl, h.1⟩
  · exact .inl rfl
theorem child_gt (l : List α) (i n : Nat) : i < childL ky l i n := by rcases child_cases (ky := ky) l i n with h | ⟨h, _⟩ <;> omega
theorem child_lt (l : List α) (i n : Nat) (h : 2 * i + 1 < n) : childL ky l i n < n := by rcases child_cases (ky := ky) l i n with h | ⟨h, _⟩ <;> omega

/-- container/heap's down, among the first n -/
def downL (ky : α → Int) (l : List α) (i n : Nat) : List α :=
  if h : 2 * i + 1 < n then
    if vl ky l (childL ky l i n) < vl ky l i then downL ky (swapL l i (childL ky l i n)) (childL ky l i n) n else l
  else l
termination_by n - i
decreasing_by
  have := child_gt (ky := ky) l i n
  omega

theorem length_upL (l : List α) (j : Nat) : (upL ky l j).length = l.length := by
  induction j using Nat.strongRecOn generalizing l with
  | _ j ih =>
    unfold upL
    split
    · rfl
    · split
      · rw [ih _ (by omega), length_swapL]
      · rfl
theorem upL_perm (l : List α) (j : Nat) (hj : j < l.length) : (upL ky l j).Perm l := by
  induction j using Nat.strongRecOn generalizing l with
  | _ j ih =>
    unfold upL
    split
    · exact List.Perm.refl _
    · split
      · exact (ih _ (by omega) _ (by rw [length_swapL]; omega)).trans (swapL_perm l _ _ (by omega) hj)
      · exact List.Perm.refl _
theorem length_downL (m : Nat) : ∀ (l : List α) (i n : Nat), n - i = m → (downL ky l i n).length = l.length := by
  induction m using Nat.strongRecOn with
  | _ m ih =>
    intro l i n hm
    have hc := child_gt (ky := ky) l i n
    unfold downL
    split
    · split
      · rw [ih (n - childL ky l i n) (by omega) _ _ _ rfl, length_swapL]
      · rfl
    · rfl
theorem downL_perm (m : Nat) : ∀ (l : List α) (i n : Nat), n - i = m → n ≤ l.length → (downL ky l i n).Perm l := by
  induction m using Nat.strongRecOn with
  | _ m ih =>
    intro l i n hm hn
    have hc := child_gt (ky := ky) l i n
    unfold downL
    split
    · rename_i h1
      have hc2 := child_lt (ky := ky) l i n h1
      split
      · exact (ih (n - childL ky l i n) (by omega) _ _ _ rfl (by rw [length_swapL]; exact hn)).trans (swapL_perm l _ _ (by omega) (by omega))
      · exact List.Perm.refl _
    · exact List.Perm.refl _

/-- in order but for place j, which may be less than the one above it -/
def UpInv (ky : α → Int) (l : List α) (j n : Nat) : Prop :=
  (∀ k, 0 < k → k < n → k ≠ j → vl ky l ((k - 1) / 2) ≤ vl ky l k) ∧ (0 < j → ∀ k, 0 < k → k < n → (k - 1) / 2 = j → vl ky l ((j - 1) / 2) ≤ vl ky l k)
theorem upL_heap (l : List α) (j n : Nat) (hj : j < n) (hn : n ≤ l.length) (h : UpInv ky l j n) : HeapL ky (upL ky l j) n := by
  induction j using Nat.strongRecOn generalizing l with
  | _ j ih =>
    unfold upL
    split
    · rename_i h0
      subst h0
      intro k hk hkn
      exact h.1 k hk hkn (by omega)
    · rename_i h0
      split
      · rename_i hlt
        have hp : (j - 1) / 2 < j := by omega
        refine ih _ hp _ (by omega) (by rw [length_swapL]; exact hn) ⟨fun k hk hkn hne => ?_, fun hpp k hk hkn hkp => ?_⟩
        · rw [getD_swapL _ _ _ _ (by omega) (by omega), getD_swapL _ _ _ _ (by omega) (by omega)]
          by_cases e1 : k = j
          · subst e1
            rw [if_neg (by omega), if_pos rfl, if_pos rfl]
            omega
          · rw [if_neg e1, if_neg hne]
            by_cases e2 : (k - 1) / 2 = j
            · rw [if_pos e2]
              exact h.2 (by omega) k hk hkn e2
            · rw [if_neg e2]
              by_cases e3 : (k - 1) / 2 = (j - 1) / 2
              · rw [if_pos e3]
                have := h.1 k hk hkn e1
                rw [e3] at this
                omega
              · rw [if_neg e3]
                exact h.1 k hk hkn e1
        · rw [getD_swapL _ _ _ _ (by omega) (by omega), getD_swapL _ _ _ _ (by omega) (by omega)]
          rw [if_neg (by omega), if_neg (by omega)]
          have hpar := h.1 ((j - 1) / 2) hpp (by omega) (by omega)
          by_cases e1 : k = j
          · rw [if_pos e1]
            exact hpar
          · rw [if_neg e1, if_neg (by omega)]
            have := h.1 k hk hkn e1
            rw [hkp] at this
            omega
      · rename_i hge
        intro k hk hkn
        by_cases e : k = j
        · subst e; omega
        · exact h.1 k hk hkn e

/-- in order but for place i, which may be more than those below it -/
def DownInv (ky : α → Int) (l : List α) (i n : Nat) : Prop :=
  (∀ k, 0 < k → k < n → (k - 1) / 2 ≠ i → vl ky l ((k - 1) / 2) ≤ vl ky l k) ∧ (0 < i → ∀ k, 0 < k → k < n → (k - 1) / 2 = i → vl ky l ((i - 1) / 2) ≤ vl ky l k)
theorem downL_heap (m : Nat) : ∀ (l : List α) (i n : Nat), n - i = m → n ≤ l.length → DownInv ky l i n → HeapL ky (downL ky l i n) n := by
  induction m using Nat.strongRecOn with
  | _ m ih =>
    intro l i n hm hn h
    unfold downL
    split
    · rename_i hj1
      generalize hj : childL ky l i n = j
      unfold childL at hj
      have hjc : (j = 2 * i + 1 ∨ j = 2 * i + 2) ∧ j < n ∧ ∀ k, 0 < k → k < n → (k - 1) / 2 = i → vl ky l j ≤ vl ky l k := by
        split at hj
        · rename_i hc
          subst hj
          refine ⟨.inr rfl, hc.1, fun k hk hkn hp => ?_⟩
          have : k = 2 * i + 1 ∨ k = 2 * i + 2 := by omega
          rcases this with rfl | rfl
          · omega
          · omega
        · rename_i hc
          subst hj
          refine ⟨.inl rfl, hj1, fun k hk hkn hp => ?_⟩
          have : k = 2 * i + 1 ∨ k = 2 * i + 2 := by omega
          rcases this with rfl | rfl
          · omega
          · have hc2 : ¬ vl ky l (2 * i + 2) < vl ky l (2 * i + 1) := fun e => hc ⟨hkn, e⟩
            omega
      obtain ⟨hj2, hjn, hmin⟩ := hjc
      split
      · rename_i hlt
        refine ih (n - j) (by omega) _ _ _ rfl (by rw [length_swapL]; exact hn) ⟨fun k hk hkn hne => ?_, fun _ k hk hkn hkp => ?_⟩
        · rw [getD_swapL _ _ _ _ (by omega) (by omega), getD_swapL _ _ _ _ (by omega) (by omega)]
          rw [if_neg hne]
          by_cases e2 : (k - 1) / 2 = i
          · rw [if_pos e2]
            by_cases e1 : k = j
            · rw [if_pos e1]; omega
            · rw [if_neg e1, if_neg (by omega)]
              exact hmin k hk hkn e2
          · rw [if_neg e2]
            by_cases e1 : k = j
            · omega
            · rw [if_neg e1]
              by_cases e3 : k = i
              · subst e3
                rw [if_pos rfl]
                exact h.2 (by omega) j (by omega) hjn (by omega)
              · rw [if_neg e3]
                exact h.1 k hk hkn e2
        · rw [getD_swapL _ _ _ _ (by omega) (by omega), getD_swapL _ _ _ _ (by omega) (by omega)]
          rw [if_neg (by omega), if_pos (by omega), if_neg (by omega), if_neg (by omega)]
          have := h.1 k hk hkn (by omega)
          rw [hkp] at this
          exact this
      · rename_i hge
        intro k hk hkn
        by_cases e : (k - 1) / 2 = i
        · have := hmin k hk hkn e
          rw [e]
          omega
        · exact h.1 k hk hkn e
    · rename_i hj1
      intro k hk hkn
      exact h.1 k hk hkn (by omega)

/-- the first of a heap is the least -/
theorem heap_least {l : List α} {n : Nat} (h : HeapL ky l n) : ∀ k, k < n → vl ky l 0 ≤ vl ky l k := by
  intro k
  induction k using Nat.strongRecOn with
  | _ k ih =>
    intro hk
    by_cases h0 : k = 0
    · subst h0; exact Int.le_refl _
    · exact Int.le_trans (ih ((k - 1) / 2) (by omega) (by omega)) (h k (by omega) hk)

/-- one more goes in -/
def pushL (ky : α → Int) (l : List α) (x : α) : List α := upL ky (l ++ [x]) l.length
theorem push_parts {l : List α} (x : α) (h : HeapL ky l l.length) : (pushL ky l x).length = l.length + 1 ∧ HeapL ky (pushL ky l x) (pushL ky l x).length ∧ (pushL ky l x).Perm (x :: l) := by
  have hl : (pushL ky l x).length = l.length + 1 := by unfold pushL; rw [length_upL]; simp
  have e : ∀ q, q < l.length → vl ky (l ++ [x]) q = vl ky l q := fun q hq => by
    unfold vl
    simp only [List.getD]
    rw [List.getElem?_append_left hq]
  refine ⟨hl, ?_, (upL_perm _ _ (by simp)).trans (List.perm_append_comm (l₂ := [x]))⟩
  rw [hl]
  refine upL_heap _ _ _ (by omega) (by simp) ⟨fun k hk hkn hne => ?_, fun _ k hk hkn hp => by omega⟩
  rw [e _ (by omega), e _ (by omega)]
  exact h k hk (by omega)
/-- the first comes out: what is left, its last cut off -/
def popL (ky : α → Int) (l : List α) : List α := downL ky (swapL l 0 (l.length - 1)) 0 (l.length - 1)
/-- down leaves alone what lies behind the first n -/
theorem downL_above (m : Nat) : ∀ (l : List α) (i n : Nat), n - i = m → n ≤ l.length → ∀ k, n ≤ k → (downL ky l i n).getD k default = l.getD k default := by
  induction m using Nat.strongRecOn with
  | _ m ih =>
    intro l i n hm hn k hk
    have hc := child_gt (ky := ky) l i n
    unfold downL
    split
    · rename_i h1
      have hc2 := child_lt (ky := ky) l i n h1
      split
      · rw [ih (n - childL ky l i n) (by omega) _ _ _ rfl (by rw [length_swapL]; exact hn) k hk, el_swapL _ _ _ _ (by omega) (by omega), if_neg (by omega), if_neg (by omega)]
      · rfl
    · rfl
/-- what is left of a row whose last was the one at i, the others a heap but for i -/
theorem cut_parts {l r : List α} {c : α} (hl : 0 < l.length) (hr : r.length = l.length) (hc : r.getD (l.length - 1) default = c) (hh : HeapL ky r (l.length - 1)) (hp : r.Perm l) : ∃ t, r = t ++ [c] ∧ t.length + 1 = l.length ∧ HeapL ky t t.length ∧ (c :: t).Perm l := by
  have hsp : r = r.take (l.length - 1) ++ [c] := by
    rw [← hc]
    have e : r.getD (l.length - 1) default = r[l.length - 1]'(by omega) := by simp [List.getD, show l.length - 1 < r.length by omega]
    rw [e, List.take_append_getElem (by omega), List.take_of_length_le (by omega)]
  refine ⟨r.take (l.length - 1), hsp, by rw [List.length_take]; omega, ?_, ?_⟩
  · intro k hk hkn
    rw [List.length_take, Nat.min_eq_left (by omega)] at hkn
    have e : ∀ q, q < l.length - 1 → vl ky (r.take (l.length - 1)) q = vl ky r q := fun q hq => by unfold vl; simp only [List.getD, List.getElem?_take, if_pos hq]
    rw [e _ (by omega), e _ hkn]
    exact hh k hk hkn
  · rw [hsp] at hp
    exact (List.perm_append_comm (l₁ := [c])).trans hp
/-- the first comes out: it is the least; what is left is a heap of all others -/
theorem pop_parts {l : List α} (hl : 0 < l.length) (h : HeapL ky l l.length) :
    ∃ r, popL ky l = r ++ [l.getD 0 default] ∧ r.length + 1 = l.length ∧ HeapL ky r r.length ∧ (l.getD 0 default :: r).Perm l ∧ ∀ y ∈ l, ky (l.getD 0 default) ≤ ky y := by
  have hsw := length_swapL l 0 (l.length - 1)
  have h1 : (popL ky l).length = l.length := by unfold popL; rw [length_downL _ _ _ _ rfl, hsw]
  have h2 : HeapL ky (popL ky l) (l.length - 1) := by
    unfold popL
    refine downL_heap _ _ _ _ rfl (by rw [hsw]; omega) ⟨fun k hk hkn hne => ?_, fun h0 => absurd h0 (by omega)⟩
    rw [getD_swapL _ _ _ _ hl (by omega), getD_swapL _ _ _ _ hl (by omega), if_neg (by omega), if_neg hne, if_neg (by omega), if_neg (by omega)]
    exact h k hk (by omega)
  have h3 : (popL ky l).Perm l := by unfold popL; exact (downL_perm _ _ _ _ rfl (by rw [hsw]; omega)).trans (swapL_perm l _ _ hl (by omega))
  have hlast : (popL ky l).getD (l.length - 1) default = l.getD 0 default := by
    unfold popL
    rw [downL_above _ _ _ _ rfl (by rw [length_swapL]; omega) _ (Nat.le_refl _), el_swapL _ _ _ _ hl (by omega), if_pos rfl]
  obtain ⟨t, e1, e2, e3, e4⟩ := cut_parts hl h1 hlast h2 h3
  refine ⟨t, e1, e2, e3, e4, fun y hy => ?_⟩
  obtain ⟨k, hk, rfl⟩ := List.mem_iff_getElem.1 hy
  have := heap_least h k hk
  unfold vl at this
  simpa [List.getD, hk] using this
theorem nil_heap : HeapL ky [] 0 := fun k _ h => absurd h (Nat.not_lt_zero k)

/-- container/heap's down says whether anything moved -/
def movesL (ky : α → Int) (l : List α) (i n : Nat) : Bool := decide (2 * i + 1 < n) && decide (vl ky l (childL ky l i n) < vl ky l i)
theorem down_still {l : List α} {i n : Nat} (h : movesL ky l i n = false) : downL ky l i n = l := by
  unfold downL
  unfold movesL at h
  by_cases h1 : 2 * i + 1 < n
  · rw [dif_pos h1]
    by_cases h2 : vl ky l (childL ky l i n) < vl ky l i
    · simp [h1, h2] at h
    · rw [if_neg h2]
  · rw [dif_neg h1]
/-- one at i has turned: it goes down, or up (container/heap's Fix) -/
def fixL (ky : α → Int) (l : List α) (i n : Nat) : List α := if movesL ky l i n = true then downL ky l i n else upL ky l i
theorem fix_perm {l : List α} {i n : Nat} (hi : i < n) (hn : n ≤ l.length) : (fixL ky l i n).Perm l := by
  unfold fixL
  split
  · exact downL_perm _ _ _ _ rfl hn
  · exact upL_perm _ _ (by omega)
/-- a row that is in order but for place i -/
def FixInv (ky : α → Int) (l : List α) (i n : Nat) : Prop :=
  (∀ k, 0 < k → k < n → k ≠ i → (k - 1) / 2 ≠ i → vl ky l ((k - 1) / 2) ≤ vl ky l k) ∧ (0 < i → ∀ k, 0 < k → k < n → (k - 1) / 2 = i → vl ky l ((i - 1) / 2) ≤ vl ky l k)
theorem fix_heap {l : List α} {i n : Nat} (hi : i < n) (hn : n ≤ l.length) (h : FixInv ky l i n) : HeapL ky (fixL ky l i n) n := by
  unfold fixL
  by_cases hm : movesL ky l i n = true
  · rw [if_pos hm]
    unfold movesL at hm
    simp at hm
    obtain ⟨h1, h2⟩ := hm
    have hcc := child_cases (ky := ky) l i n
    have hcl := child_lt (ky := ky) l i n h1
    have hpar : (childL ky l i n - 1) / 2 = i := by rcases hcc with e | ⟨e, _⟩ <;> omega
    refine downL_heap _ _ _ _ rfl hn ⟨fun k hk hkn hne => ?_, h.2⟩
    by_cases e : k = i
    · subst e
      have := h.2 hk (childL ky l k n) (by omega) hcl hpar
      omega
    · exact h.1 k hk hkn e hne
  · rw [if_neg hm]
    have hno : ∀ k, 0 < k → k < n → (k - 1) / 2 = i → vl ky l i ≤ vl ky l k := fun k hk hkn hp => by
      unfold movesL childL at hm
      simp at hm
      have h1 : 2 * i + 1 < n := by omega
      have h2 := hm h1
      have hkk : k = 2 * i + 1 ∨ k = 2 * i + 2 := by omega
      split at h2
      · rename_i hc
        rcases hkk with rfl | rfl <;> omega
      · rename_i hc
        rcases hkk with rfl | rfl
        · omega
        · have : ¬ vl ky l (2 * i + 2) < vl ky l (2 * i + 1) := fun e => hc ⟨hkn, e⟩
          omega
    refine upL_heap _ _ _ hi hn ⟨fun k hk hkn hne => ?_, h.2⟩
    by_cases e : (k - 1) / 2 = i
    · rw [e]; exact hno k hk hkn e
    · exact h.1 k hk hkn hne e
end
end Go.Proofs.Ytgcpcffgpokbfaa.Hg
