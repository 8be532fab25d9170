/- Several texts in one: Hu Hv Hw Hx Hy -/
import Derived.WalkKit
import Derived.Test.YteaincdeoajkeaaGreatDoorZ01
section
/- Plain facts on heaps as the library keeps them (container/heap's up, down, Push, Pop, Fix, Remove), over lists of anything that has an integer key; nothing of the program. Serves all packages. -/
namespace Go.Proofs.YteaincdeoajkeaaGreatDoor.Hg
set_option linter.unusedVariables false

section
variable {α : Type} [Inhabited α] {ky : α → Int}
/-- the key at place i -/
def vl (ky : α → Int) (l : List α) (i : Nat) : Int := ky (l.getD i default)
/-- the elements at i and j exchanged -/
def swapL (l : List α) (i j : Nat) : List α := (l.set i (l.getD j default)).set j (l.getD i default)
theorem length_swapL (l : List α) (i j : Nat) : (swapL l i j).length = l.length := by simp [swapL]
theorem el_swapL (l : List α) (i j k : Nat) (hi : i < l.length) (hj : j < l.length) : (swapL l i j).getD k default = if k = j then l.getD i default else if k = i then l.getD j default else l.getD k default := by
 unfold swapL
 simp only [List.getD]
 by_cases e1 : k = j
 ·subst e1
  rw [if_pos rfl, List.getElem?_set_self (by simpa using hj)]
  rfl
 ·rw [if_neg e1, List.getElem?_set_ne (fun e => e1 e.symm)]
  by_cases e2 : k = i
  ·subst e2
   rw [if_pos rfl, List.getElem?_set_self hi]
   rfl
  ·rw [if_neg e2, List.getElem?_set_ne (fun e => e2 e.symm)]
theorem getD_swapL (l : List α) (i j k : Nat) (hi : i < l.length) (hj : j < l.length) : vl ky (swapL l i j) k = if k = j then vl ky l i else if k = i then vl ky l j else vl ky l k := by
 unfold vl
 rw [el_swapL l i j k hi hj]
 by_cases e1 : k = j
 ·rw [if_pos e1, if_pos e1]
 ·rw [if_neg e1, if_neg e1]
  by_cases e2 : k = i
  ·rw [if_pos e2, if_pos e2]
  ·rw [if_neg e2, if_neg e2]
theorem swapL_perm (l : List α) (i j : Nat) (hi : i < l.length) (hj : j < l.length) : (swapL l i j).Perm l := by
 unfold swapL
 have e1 : l.getD j default = l[j] := by simp [List.getD, hj]
 have e2 : l.getD i default = l[i] := by simp [List.getD, hi]
 rw [e1, e2]
 exact List.set_set_perm hi hj

/-- the first n are a heap: none is less than the one above it -/
def HeapL (ky : α → Int) (l : List α) (n : Nat) : Prop := ∀ k, 0 < k → k < n → vl ky l ((k - 1) / 2) ≤ vl ky l k

/-- container/heap's up -/
def upL (ky : α → Int) (l : List α) (j : Nat) : List α :=
 if h : j = 0 then l
 else if vl ky l j < vl ky l ((j - 1) / 2) then upL ky (swapL l ((j - 1) / 2) j) ((j - 1) / 2) else l
termination_by j
decreasing_by omega

/-- the lesser of the two below i, among the first n -/
def childL (ky : α → Int) (l : List α) (i n : Nat) : Nat := if 2 * i + 2 < n ∧ vl ky l (2 * i + 2) < vl ky l (2 * i + 1) then 2 * i + 2 else 2 * i + 1
theorem child_cases (l : List α) (i n : Nat) : childL ky l i n = 2 * i + 1 ∨ childL ky l i n = 2 * i + 2 ∧ 2 * i + 2 < n := by
 unfold childL
 split
 ·rename_i h; exact .inr ⟨rfl, h.1⟩
 ·exact .inl rfl
theorem child_gt (l : List α) (i n : Nat) : i < childL ky l i n := by rcases child_cases (ky := ky) l i n with h | ⟨h, _⟩ <;> omega
theorem child_lt (l : List α) (i n : Nat) (h : 2 * i + 1 < n) : childL ky l i n < n := by rcases child_cases (ky := ky) l i n with h | ⟨h, _⟩ <;> omega

/-- container/heap's down, among the first n -/
def downL (ky : α → Int) (l : List α) (i n : Nat) : List α :=
 if h : 2 * i + 1 < n then
  if vl ky l (childL ky l i n) < vl ky l i then downL ky (swapL l i (childL ky l i n)) (childL ky l i n) n else l
 else l
termination_by n - i
decreasing_by
 have := child_gt (ky := ky) l i n
 omega

theorem length_upL (l : List α) (j : Nat) : (upL ky l j).length = l.length := by
 induction j using Nat.strongRecOn generalizing l with
 | _ j ih =>
  unfold upL
  split
  ·rfl
  ·split
   ·rw [ih _ (by omega), length_swapL]
   ·rfl
theorem upL_perm (l : List α) (j : Nat) (hj : j < l.length) : (upL ky l j).Perm l := by
 induction j using Nat.strongRecOn generalizing l with
 | _ j ih =>
  unfold upL
  split
  ·exact List.Perm.refl _
  ·split
   ·exact (ih _ (by omega) _ (by rw [length_swapL]; omega)).trans (swapL_perm l _ _ (by omega) hj)
   ·exact List.Perm.refl _
theorem length_downL (m : Nat) : ∀ (l : List α) (i n : Nat), n - i = m → (downL ky l i n).length = l.length := by
 induction m using Nat.strongRecOn with
 | _ m ih =>
  intro l i n hm
  have hc := child_gt (ky := ky) l i n
  unfold downL
  split
  ·split
   ·rw [ih (n - childL ky l i n) (by omega) _ _ _ rfl, length_swapL]
   ·rfl
  ·rfl
theorem downL_perm (m : Nat) : ∀ (l : List α) (i n : Nat), n - i = m → n ≤ l.length → (downL ky l i n).Perm l := by
 induction m using Nat.strongRecOn with
 | _ m ih =>
  intro l i n hm hn
  have hc := child_gt (ky := ky) l i n
  unfold downL
  split
  ·rename_i h1
   have hc2 := child_lt (ky := ky) l i n h1
   split
   ·exact (ih (n - childL ky l i n) (by omega) _ _ _ rfl (by rw [length_swapL]; exact hn)).trans (swapL_perm l _ _ (by omega) (by omega))
   ·exact List.Perm.refl _
  ·exact List.Perm.refl _

/-- in order but for place j, which may be less than the one above it -/
def UpInv (ky : α → Int) (l : List α) (j n : Nat) : Prop :=
 (∀ k, 0 < k → k < n → k ≠ j → vl ky l ((k - 1) / 2) ≤ vl ky l k) ∧ (0 < j → ∀ k, 0 < k → k < n → (k - 1) / 2 = j → vl ky l ((j - 1) / 2) ≤ vl ky l k)
theorem upL_heap (l : List α) (j n : Nat) (hj : j < n) (hn : n ≤ l.length) (h : UpInv ky l j n) : HeapL ky (upL ky l j) n := by
 induction j using Nat.strongRecOn generalizing l with
 | _ j ih =>
  unfold upL
  split
  ·rename_i h0
   subst h0
   intro k hk hkn
   exact h.1 k hk hkn (by omega)
  ·rename_i h0
   split
   ·rename_i hlt
    have hp : (j - 1) / 2 < j := by omega
    refine ih _ hp _ (by omega) (by rw [length_swapL]; exact hn) ⟨fun k hk hkn hne => ?_, fun hpp k hk hkn hkp => ?_⟩
    ·rw [getD_swapL _ _ _ _ (by omega) (by omega), getD_swapL _ _ _ _ (by omega) (by omega)]
     by_cases e1 : k = j
     ·subst e1
      rw [if_neg (by omega), if_pos rfl, if_pos rfl]
      omega
     ·rw [if_neg e1, if_neg hne]
      by_cases e2 : (k - 1) / 2 = j
      ·rw [if_pos e2]
       exact h.2 (by omega) k hk hkn e2
      ·rw [if_neg e2]
       by_cases e3 : (k - 1) / 2 = (j - 1) / 2
       ·rw [if_pos e3]
        have := h.1 k hk hkn e1
        rw [e3] at this
        omega
       ·rw [if_neg e3]
        exact h.1 k hk hkn e1
    ·rw [getD_swapL _ _ _ _ (by omega) (by omega), getD_swapL _ _ _ _ (by omega) (by omega)]
     rw [if_neg (by omega), if_neg (by omega)]
     have hpar := h.1 ((j - 1) / 2) hpp (by omega) (by omega)
     by_cases e1 : k = j
     ·rw [if_pos e1]
      exact hpar
     ·rw [if_neg e1, if_neg (by omega)]
      have := h.1 k hk hkn e1
      rw [hkp] at this
      omega
   ·rename_i hge
    intro k hk hkn
    by_cases e : k = j
    ·subst e; omega
    ·exact h.1 k hk hkn e

/-- in order but for place i, which may be more than those below it -/
def DownInv (ky : α → Int) (l : List α) (i n : Nat) : Prop :=
 (∀ k, 0 < k → k < n → (k - 1) / 2 ≠ i → vl ky l ((k - 1) / 2) ≤ vl ky l k) ∧ (0 < i → ∀ k, 0 < k → k < n → (k - 1) / 2 = i → vl ky l ((i - 1) / 2) ≤ vl ky l k)
theorem downL_heap (m : Nat) : ∀ (l : List α) (i n : Nat), n - i = m → n ≤ l.length → DownInv ky l i n → HeapL ky (downL ky l i n) n := by
 induction m using Nat.strongRecOn with
 | _ m ih =>
  intro l i n hm hn h
  unfold downL
  split
  ·rename_i hj1
   generalize hj : childL ky l i n = j
   unfold childL at hj
   have hjc : (j = 2 * i + 1 ∨ j = 2 * i + 2) ∧ j < n ∧ ∀ k, 0 < k → k < n → (k - 1) / 2 = i → vl ky l j ≤ vl ky l k := by
    split at hj
    ·rename_i hc
     subst hj
     refine ⟨.inr rfl, hc.1, fun k hk hkn hp => ?_⟩
     have : k = 2 * i + 1 ∨ k = 2 * i + 2 := by omega
     rcases this with rfl | rfl
     ·omega
     ·omega
    ·rename_i hc
     subst hj
     refine ⟨.inl rfl, hj1, fun k hk hkn hp => ?_⟩
     have : k = 2 * i + 1 ∨ k = 2 * i + 2 := by omega
     rcases this with rfl | rfl
     ·omega
     ·have hc2 : ¬ vl ky l (2 * i + 2) < vl ky l (2 * i + 1) := fun e => hc ⟨hkn, e⟩
      omega
   obtain ⟨hj2, hjn, hmin⟩ := hjc
   split
   ·rename_i hlt
    refine ih (n - j) (by omega) _ _ _ rfl (by rw [length_swapL]; exact hn) ⟨fun k hk hkn hne => ?_, fun _ k hk hkn hkp => ?_⟩
    ·rw [getD_swapL _ _ _ _ (by omega) (by omega), getD_swapL _ _ _ _ (by omega) (by omega)]
     rw [if_neg hne]
     by_cases e2 : (k - 1) / 2 = i
     ·rw [if_pos e2]
      by_cases e1 : k = j
      ·rw [if_pos e1]; omega
      ·rw [if_neg e1, if_neg (by omega)]
       exact hmin k hk hkn e2
     ·rw [if_neg e2]
      by_cases e1 : k = j
      ·omega
      ·rw [if_neg e1]
       by_cases e3 : k = i
       ·subst e3
        rw [if_pos rfl]
        exact h.2 (by omega) j (by omega) hjn (by omega)
       ·rw [if_neg e3]
        exact h.1 k hk hkn e2
    ·rw [getD_swapL _ _ _ _ (by omega) (by omega), getD_swapL _ _ _ _ (by omega) (by omega)]
     rw [if_neg (by omega), if_pos (by omega), if_neg (by omega), if_neg (by omega)]
     have := h.1 k hk hkn (by omega)
     rw [hkp] at this
     exact this
   ·rename_i hge
    intro k hk hkn
    by_cases e : (k - 1) / 2 = i
    ·have := hmin k hk hkn e
     rw [e]
     omega
    ·exact h.1 k hk hkn e
  ·rename_i hj1
   intro k hk hkn
   exact h.1 k hk hkn (by omega)

/-- the first of a heap is the least -/
theorem heap_least {l : List α} {n : Nat} (h : HeapL ky l n) : ∀ k, k < n → vl ky l 0 ≤ vl ky l k := by
 intro k
 induction k using Nat.strongRecOn with
 | _ k ih =>
  intro hk
  by_cases h0 : k = 0
  ·subst h0; exact Int.le_refl _
  ·exact Int.le_trans (ih ((k - 1) / 2) (by omega) (by omega)) (h k (by omega) hk)

/-- one more goes in -/
def pushL (ky : α → Int) (l : List α) (x : α) : List α := upL ky (l ++ [x]) l.length
theorem push_parts {l : List α} (x : α) (h : HeapL ky l l.length) : (pushL ky l x).length = l.length + 1 ∧ HeapL ky (pushL ky l x) (pushL ky l x).length ∧ (pushL ky l x).Perm (x :: l) := by
 have hl : (pushL ky l x).length = l.length + 1 := by unfold pushL; rw [length_upL]; simp
 have e : ∀ q, q < l.length → vl ky (l ++ [x]) q = vl ky l q := fun q hq => by
  unfold vl
  simp only [List.getD]
  rw [List.getElem?_append_left hq]
 refine ⟨hl, ?_, (upL_perm _ _ (by simp)).trans (List.perm_append_comm (l₂ := [x]))⟩
 rw [hl]
 refine upL_heap _ _ _ (by omega) (by simp) ⟨fun k hk hkn hne => ?_, fun _ k hk hkn hp => by omega⟩
 rw [e _ (by omega), e _ (by omega)]
 exact h k hk (by omega)
/-- the first comes out: what is left, its last cut off -/
def popL (ky : α → Int) (l : List α) : List α := downL ky (swapL l 0 (l.length - 1)) 0 (l.length - 1)
/-- down leaves alone what lies behind the first n -/
theorem downL_above (m : Nat) : ∀ (l : List α) (i n : Nat), n - i = m → n ≤ l.length → ∀ k, n ≤ k → (downL ky l i n).getD k default = l.getD k default := by
 induction m using Nat.strongRecOn with
 | _ m ih =>
  intro l i n hm hn k hk
  have hc := child_gt (ky := ky) l i n
  unfold downL
  split
  ·rename_i h1
   have hc2 := child_lt (ky := ky) l i n h1
   split
   ·rw [ih (n - childL ky l i n) (by omega) _ _ _ rfl (by rw [length_swapL]; exact hn) k hk, el_swapL _ _ _ _ (by omega) (by omega), if_neg (by omega), if_neg (by omega)]
   ·rfl
  ·rfl
/-- what is left of a row whose last was the one at i, the others a heap but for i -/
theorem cut_parts {l r : List α} {c : α} (hl : 0 < l.length) (hr : r.length = l.length) (hc : r.getD (l.length - 1) default = c) (hh : HeapL ky r (l.length - 1)) (hp : r.Perm l) : ∃ t, r = t ++ [c] ∧ t.length + 1 = l.length ∧ HeapL ky t t.length ∧ (c :: t).Perm l := by
 have hsp : r = r.take (l.length - 1) ++ [c] := by
  rw [← hc]
  have e : r.getD (l.length - 1) default = r[l.length - 1]'(by omega) := by simp [List.getD, show l.length - 1 < r.length by omega]
  rw [e, List.take_append_getElem (by omega), List.take_of_length_le (by omega)]
 refine ⟨r.take (l.length - 1), hsp, by rw [List.length_take]; omega, ?_, ?_⟩
 ·intro k hk hkn
  rw [List.length_take, Nat.min_eq_left (by omega)] at hkn
  have e : ∀ q, q < l.length - 1 → vl ky (r.take (l.length - 1)) q = vl ky r q := fun q hq => by unfold vl; simp only [List.getD, List.getElem?_take, if_pos hq]
  rw [e _ (by omega), e _ hkn]
  exact hh k hk hkn
 ·rw [hsp] at hp
  exact (List.perm_append_comm (l₁ := [c])).trans hp
/-- the first comes out: it is the least; what is left is a heap of all others -/
theorem pop_parts {l : List α} (hl : 0 < l.length) (h : HeapL ky l l.length) :
  ∃ r, popL ky l = r ++ [l.getD 0 default] ∧ r.length + 1 = l.length ∧ HeapL ky r r.length ∧ (l.getD 0 default :: r).Perm l ∧ ∀ y ∈ l, ky (l.getD 0 default) ≤ ky y := by
 have hsw := length_swapL l 0 (l.length - 1)
 have h1 : (popL ky l).length = l.length := by unfold popL; rw [length_downL _ _ _ _ rfl, hsw]
 have h2 : HeapL ky (popL ky l) (l.length - 1) := by
  unfold popL
  refine downL_heap _ _ _ _ rfl (by rw [hsw]; omega) ⟨fun k hk hkn hne => ?_, fun h0 => absurd h0 (by omega)⟩
  rw [getD_swapL _ _ _ _ hl (by omega), getD_swapL _ _ _ _ hl (by omega), if_neg (by omega), if_neg hne, if_neg (by omega), if_neg (by omega)]
  exact h k hk (by omega)
 have h3 : (popL ky l).Perm l := by unfold popL; exact (downL_perm _ _ _ _ rfl (by rw [hsw]; omega)).trans (swapL_perm l _ _ hl (by omega))
 have hlast : (popL ky l).getD (l.length - 1) default = l.getD 0 default := by
  unfold popL
  rw [downL_above _ _ _ _ rfl (by rw [length_swapL]; omega) _ (Nat.le_refl _), el_swapL _ _ _ _ hl (by omega), if_pos rfl]
 obtain ⟨t, e1, e2, e3, e4⟩ := cut_parts hl h1 hlast h2 h3
 refine ⟨t, e1, e2, e3, e4, fun y hy => ?_⟩
 obtain ⟨k, hk, rfl⟩ := List.mem_iff_getElem.1 hy
 have := heap_least h k hk
 unfold vl at this
 simpa [List.getD, hk] using this
theorem nil_heap : HeapL ky [] 0 := fun k _ h => absurd h (Nat.not_lt_zero k)

/-- container/heap's down says whether anything moved -/
def movesL (ky : α → Int) (l : List α) (i n : Nat) : Bool := decide (2 * i + 1 < n) && decide (vl ky l (childL ky l i n) < vl ky l i)
theorem down_still {l : List α} {i n : Nat} (h : movesL ky l i n = false) : downL ky l i n = l := by
 unfold downL
 unfold movesL at h
 by_cases h1 : 2 * i + 1 < n
 ·rw [dif_pos h1]
  by_cases h2 : vl ky l (childL ky l i n) < vl ky l i
  ·simp [h1, h2] at h
  ·rw [if_neg h2]
 ·rw [dif_neg h1]
/-- one at i has turned: it goes down, or up (container/heap's Fix) -/
def fixL (ky : α → Int) (l : List α) (i n : Nat) : List α := if movesL ky l i n = true then downL ky l i n else upL ky l i
theorem fix_perm {l : List α} {i n : Nat} (hi : i < n) (hn : n ≤ l.length) : (fixL ky l i n).Perm l := by
 unfold fixL
 split
 ·exact downL_perm _ _ _ _ rfl hn
 ·exact upL_perm _ _ (by omega)
/-- a row that is in order but for place i -/
def FixInv (ky : α → Int) (l : List α) (i n : Nat) : Prop :=
 (∀ k, 0 < k → k < n → k ≠ i → (k - 1) / 2 ≠ i → vl ky l ((k - 1) / 2) ≤ vl ky l k) ∧ (0 < i → ∀ k, 0 < k → k < n → (k - 1) / 2 = i → vl ky l ((i - 1) / 2) ≤ vl ky l k)
theorem fix_heap {l : List α} {i n : Nat} (hi : i < n) (hn : n ≤ l.length) (h : FixInv ky l i n) : HeapL ky (fixL ky l i n) n := by
 unfold fixL
 by_cases hm : movesL ky l i n = true
 ·rw [if_pos hm]
  unfold movesL at hm
  simp at hm
  obtain ⟨h1, h2⟩ := hm
  have hcc := child_cases (ky := ky) l i n
  have hcl := child_lt (ky := ky) l i n h1
  have hpar : (childL ky l i n - 1) / 2 = i := by rcases hcc with e | ⟨e, _⟩ <;> omega
  refine downL_heap _ _ _ _ rfl hn ⟨fun k hk hkn hne => ?_, h.2⟩
  by_cases e : k = i
  ·subst e
   have := h.2 hk (childL ky l k n) (by omega) hcl hpar
   omega
  ·exact h.1 k hk hkn e hne
 ·rw [if_neg hm]
  have hno : ∀ k, 0 < k → k < n → (k - 1) / 2 = i → vl ky l i ≤ vl ky l k := fun k hk hkn hp => by
   unfold movesL childL at hm
   simp at hm
   have h1 : 2 * i + 1 < n := by omega
   have h2 := hm h1
   have hkk : k = 2 * i + 1 ∨ k = 2 * i + 2 := by omega
   split at h2
   ·rename_i hc
    rcases hkk with rfl | rfl <;> omega
   ·rename_i hc
    rcases hkk with rfl | rfl
    ·omega
    ·have : ¬ vl ky l (2 * i + 2) < vl ky l (2 * i + 1) := fun e => hc ⟨hkn, e⟩
     omega
  refine upL_heap _ _ _ hi hn ⟨fun k hk hkn hne => ?_, h.2⟩
  by_cases e : (k - 1) / 2 = i
  ·rw [e]; exact hno k hk hkn e
  ·exact h.1 k hk hkn hne e
end
end Go.Proofs.YteaincdeoajkeaaGreatDoor.Hg
end
section
/- The library's heaps (container/heap), walked once for whatever is kept: a heap's methods are told by a structure of contracts; up. Serves all packages. -/
namespace Go.Proofs.YteaincdeoajkeaaGreatDoor.Hg
open Go.RowKit Ut
set_option maxRecDepth 100000
set_option linter.unusedVariables false
set_option maxHeartbeats 4000000

/-- what a method of the heap p (of type T) does, asked by its name -/
def Asks (T : TypeId) (p : Value) (name : String) (W : World) (D : Nat → Value → Prop) : Prop :=
 ∃ f rv, (∀ m, (method (m + 1) T p name).run Tryz.prog W = .ok (f, rv) W) ∧ (∀ (args : Array Value) (w : World), (callFunc f args).run Tryz.prog w = .ok (.enter f args) w) ∧ D f rv
/-- a heap p of type T, whose elements are told by a list (St), in keys' order; K says what stays -/
structure Heaps {α : Type} [Inhabited α] (T : TypeId) (p : Value) (ky : α → Int) (St : World → List α → Prop) (K : World → World → Prop) : Prop where
 refl : ∀ w, K w w
 trans : ∀ a b c, K a b → K b c → K a c
 bd : ∀ W l, St W l → l.length ≤ 1000000
 len : ∀ W l, St W l → Asks T p "Len" W fun f rv => Calls Tryz.prog f #[rv] W fun e w' => e = .returned (.int .i64 (l.length : Nat)) ∧ St w' l ∧ K W w'
 less : ∀ W l (i j : Nat) (t : Bool), St W l → i < l.length → j < l.length → decide (vl ky l i < vl ky l j) = t → Asks T p "Less" W fun f rv => Calls Tryz.prog f #[rv, .int .i64 i, .int .i64 j] W fun e w' => e = .returned (.bool t) ∧ St w' l ∧ K W w'
 swap : ∀ W l (i j : Nat), St W l → i < l.length → j < l.length → Asks T p "Swap" W fun f rv => Calls Tryz.prog f #[rv, .int .i64 i, .int .i64 j] W fun e w' => e = .returned (.tuple #[]) ∧ St w' (swapL l i j) ∧ K W w'

section
variable {α : Type} [Inhabited α] {T : TypeId} {p : Value} {ky : α → Int} {St : World → List α → Prop} {K : World → World → Prop}
theorem upL_zero (l : List α) : upL ky l 0 = l := by unfold upL; simp
theorem upL_no {l : List α} {k : Nat} (h : ¬ vl ky l k < vl ky l ((k - 1) / 2)) : upL ky l k = l := by
 unfold upL
 split
 ·rfl
 ·first | rfl | rw [if_neg h]
theorem upL_yes {l : List α} {k : Nat} (hk : ¬ k = 0) (h : vl ky l k < vl ky l ((k - 1) / 2)) : upL ky l k = upL ky (swapL l ((k - 1) / 2) k) ((k - 1) / 2) := by
 conv => lhs; unfold upL
 rw [dif_neg hk, if_pos h]
theorem up_facts (k n : Nat) (hk0 : ¬ k = 0) (hk : k < n) : ∃ q : Nat, q = (k - 1) / 2 ∧ ((k : Int) - 1) / 2 = (q : Int) ∧ ((q : Int) == (k : Int)) = false ∧ (q == k) = false ∧ q < n ∧ q < k := by
 exact ⟨(k - 1) / 2, rfl, by omega, by simp; omega, by simp; omega, by omega, by omega⟩

theorem up_by (M : Heaps T p ky St K) (j n : Nat) (l : List α) (W : World) (h : St W l) (hn : l.length = n) (hj : j < n) :
  Calls Tryz.prog 140 #[.iface T p, .int .i64 j] W fun e W' => e = .returned (.tuple #[]) ∧ St W' (upL ky l j) ∧ K W W' := by
 have HH := Lib.hid h
 have HM := Lib.hid M
 have hc : n ≤ 1000000 := by have := M.bd W l h; omega
 have HR0 := Lib.hid (M.refl W)
 clear h M
 go_enter Tryz.func140, Tryz.ntmps140
 go_wp2
 go_loopw [1] (fun jj wr => ∃ (k : Nat) (l2 : List α), jj = .int .i64 k ∧ k < n ∧ l2.length = n ∧ Hid (St wr l2) ∧ Hid (upL ky l2 k = upL ky l j) ∧ Hid (K W wr)) (fun jj _ => (intOf jj).toNat)
 case atStart => exact ⟨j, l, rfl, hj, hn, HH, rfl, HR0⟩
 case round =>
  obtain ⟨k, l2, rfl, hk, hl2, H2, HU, HG⟩ := hrel
  by_cases hk0 : k = 0
  ·subst hk0
   have HE := Lib.hid (show upL ky l j = l2 by rw [← HU.out, upL_zero])
   go_wp2
   go_end0
   exact ⟨rfl, by rw [HE.out]; exact H2.out, HG.out⟩
  ·obtain ⟨q, hq, d0, d3, d4, hqn, hqk⟩ := up_facts k n hk0 hk
   have hkl : k < l2.length := by omega
   have hql : q < l2.length := by omega
   obtain ⟨t, ht⟩ : ∃ t, decide (vl ky l2 k < vl ky l2 q) = t := ⟨_, rfl⟩
   obtain ⟨fl, rl, hmL, henL, hcL⟩ := HM.out.less wr l2 k q t H2.out hkl hql ht
   have HCL := Lib.hid hcL
   cases t
   ·have HE := Lib.hid (show upL ky l j = l2 by rw [← HU.out, upL_no (by rw [← hq]; simpa using ht)])
    clear ht hq HU hcL hkl hql
    go_wp2_with fail
    refine HCL.out.mono ?_
    rintro e w3 ⟨rfl, h3, hk3⟩
    have H3 := Lib.hid h3
    have HG3 := Lib.hid (HM.out.trans _ _ _ HG.out hk3)
    clear h3 hk3 hmL henL
    go_wp2
    go_end0
    exact ⟨rfl, by rw [HE.out]; exact H3.out, HG3.out⟩
   ·have HU2 := Lib.hid (show upL ky (swapL l2 q k) q = upL ky l j by rw [← HU.out, upL_yes hk0 (by rw [← hq]; simpa using ht), ← hq])
    have HKL := Lib.hid (And.intro hkl hql)
    clear ht hq HU hcL hkl hql
    go_wp2_with fail
    refine HCL.out.mono ?_
    rintro e w3 ⟨rfl, h3, hk3⟩
    have H3 := Lib.hid h3
    have HG3 := Lib.hid (HM.out.trans _ _ _ HG.out hk3)
    obtain ⟨fs, rs, hmS, henS, hcS⟩ := HM.out.swap w3 l2 q k h3 HKL.out.2 HKL.out.1
    have HCS := Lib.hid hcS
    clear h3 hk3 hmL henL hcS
    go_wp2_with fail
    refine HCS.out.mono ?_
    rintro e w4 ⟨rfl, h4, hk4⟩
    have H4 := Lib.hid h4
    have HG4 := Lib.hid (HM.out.trans _ _ _ HG3.out hk4)
    clear h4 hk4 hmS henS
    go_wp2
    go_roundw
    case rel => exact ⟨q, swapL l2 q k, rfl, hqn, (length_swapL _ _ _).trans hl2, H4, HU2, HG4⟩
    case measure => simp [intOf]; exact hqk
end
end Go.Proofs.YteaincdeoajkeaaGreatDoor.Hg
end
section
/- The library's heaps, walked once for whatever is kept: down. Serves all packages. -/
namespace Go.Proofs.YteaincdeoajkeaaGreatDoor.Hg
open Go.RowKit Ut
set_option maxRecDepth 100000
set_option linter.unusedVariables false
set_option maxHeartbeats 4000000

section
variable {α : Type} [Inhabited α] {T : TypeId} {p : Value} {ky : α → Int} {St : World → List α → Prop} {K : World → World → Prop}
theorem downL_end {l : List α} {i n : Nat} (h : ¬ 2 * i + 1 < n) : downL ky l i n = l := by
 unfold downL
 rw [dif_neg h]
theorem downL_no {l : List α} {i n : Nat} (h : ¬ vl ky l (childL ky l i n) < vl ky l i) : downL ky l i n = l := by
 unfold downL
 split
 ·first | rfl | rw [if_neg h]
 ·rfl
theorem downL_yes {l : List α} {i n : Nat} (h1 : 2 * i + 1 < n) (h : vl ky l (childL ky l i n) < vl ky l i) : downL ky l i n = downL ky (swapL l i (childL ky l i n)) (childL ky l i n) n := by
 conv => lhs; unfold downL
 rw [dif_pos h1, if_pos h]
theorem child_two {l : List α} {i n : Nat} (h : 2 * i + 2 < n) (hl : vl ky l (2 * i + 2) < vl ky l (2 * i + 1)) : childL ky l i n = 2 * i + 2 := if_pos ⟨h, hl⟩
theorem child_one {l : List α} {i n : Nat} (h : ¬ (2 * i + 2 < n ∧ vl ky l (2 * i + 2) < vl ky l (2 * i + 1))) : childL ky l i n = 2 * i + 1 := if_neg h
theorem down_facts (k m : Nat) (hk : k ≤ m) (hm : m ≤ 1000000) (h1 : 2 * k + 1 < m) : ∃ j1 j2 : Nat, j1 = 2 * k + 1 ∧ j2 = 2 * k + 2 ∧ 2 * (k : Int) + 1 = (j1 : Int) ∧ (j1 : Int) + 1 = (j2 : Int) ∧ j1 < m ∧ (0 : Int) ≤ (j1 : Int) ∧ (j1 : Int) < (m : Int) ∧ (k : Int) ≤ 1000000 ∧ k < j1 ∧ k < m :=
 ⟨2 * k + 1, 2 * k + 2, rfl, rfl, by omega, by omega, by omega, by omega, by omega, by omega, by omega, by omega⟩

theorem down_by (M : Heaps T p ky St K) (i m n : Nat) (l : List α) (W : World) (h : St W l) (hn : l.length = n) (hmn : m ≤ n) (hi : i ≤ m) :
  Calls Tryz.prog 139 #[.iface T p, .int .i64 i, .int .i64 m] W fun e W' => e = .returned (.bool (movesL ky l i m)) ∧ St W' (downL ky l i m) ∧ K W W' := by
 have HH := Lib.hid h
 have HM := Lib.hid M
 have HMN := Lib.hid hmn
 have hm : m ≤ 1000000 := by have := M.bd W l h; omega
 have HR0 := Lib.hid (M.refl W)
 clear h M hmn
 go_enter Tryz.func139, Tryz.ntmps139
 go_wp2
 go_loopw [7] (fun jj wr => ∃ (k : Nat) (l2 : List α), jj = .int .i64 k ∧ k ≤ m ∧ i ≤ k ∧ l2.length = n ∧ Hid (St wr l2) ∧ Hid (downL ky l2 k m = downL ky l i m) ∧ Hid ((k = i ∧ l2 = l) ∨ (i < k ∧ movesL ky l i m = true)) ∧ Hid (K W wr)) (fun jj _ => m - (intOf jj).toNat)
 case atStart => exact ⟨i, l, rfl, hi, Nat.le_refl _, hn, HH, rfl, Lib.hid (.inl ⟨rfl, rfl⟩), HR0⟩
 case round =>
  clear HH HR0
  obtain ⟨k, l2, rfl, hk, hki, hl2, H2, HU, HMV, HG⟩ := hrel
  have HKI := Lib.hid hki
  by_cases h1 : 2 * k + 1 < m
  ·obtain ⟨j1, j2, ej1, ej2, d1, d2, hj1, d3, d4, d5, hkj, hkm⟩ := down_facts k m hk hm h1
   have HL2 := Lib.hid hl2
   have Hk := Lib.hid (show k < n by have := HMN.out; omega)
   have Hj1 := Lib.hid (show j1 < n by have := HMN.out; omega)
   have HKM := Lib.hid (And.intro hkj hj1)
   have H1 := Lib.hid h1
   by_cases h2 : 2 * k + 2 < m
   ·have Hj2 := Lib.hid (show j2 < n by have := HMN.out; omega)
    have d6 : (j2 : Int) < (m : Int) := by omega
    have HJM := Lib.hid (show j2 < m by omega)
    have HKJ := Lib.hid (show k < j2 by omega)
    obtain ⟨t1, ht1⟩ : ∃ t, decide (vl ky l2 j2 < vl ky l2 j1) = t := ⟨_, rfl⟩
    have HT1 := Lib.hid ht1
    cases t1
    ·have HC := Lib.hid (show childL ky l2 k m = j1 by rw [child_one (by rw [← ej1, ← ej2]; exact fun q => by simp [q.2] at ht1), ej1])
     have HCG := Lib.hid hkj
     have HCM := Lib.hid hj1
     obtain ⟨t2, ht2⟩ : ∃ t, decide (vl ky l2 j1 < vl ky l2 k) = t := ⟨_, rfl⟩
     have HT2 := Lib.hid ht2
     as_aux_lemma =>
      clear ht1 ht2 h1 h2 ej1 ej2 hki hl2 hk hkj hj1 hkm
      obtain ⟨fla, rla, hmLa, henLa, hcLa⟩ := HM.out.less wr l2 j2 j1 _ H2.out (by rw [HL2.out]; exact Hj2.out) (by rw [HL2.out]; exact Hj1.out) HT1.out
      have HCLa := Lib.hid hcLa
      clear hcLa
      go_wp2_with fail
      refine HCLa.out.mono ?_
      rintro e w3 ⟨rfl, h3, hk3⟩
      have H3w3 := Lib.hid h3
      have G3w3 := Lib.hid (HM.out.trans _ _ _ HG.out hk3)
      clear h3 hk3 hmLa henLa HCLa
      cases t2
      ·have HE := Lib.hid (show downL ky l i m = l2 by rw [← HU.out, downL_no (by rw [HC.out]; simpa using HT2.out)])
       have HMF : Hid (k = i → movesL ky l i m = false) := Lib.hid (fun e => by
        have e2 := HMV.out.resolve_right (fun q => by omega)
        obtain ⟨rfl, rfl⟩ := e2
        unfold movesL; rw [HC.out]; simp [HT2.out])
       obtain ⟨flb, rlb, hmLb, henLb, hcLb⟩ := HM.out.less w3 l2 j1 k _ H3w3.out (by rw [HL2.out]; exact Hj1.out) (by rw [HL2.out]; exact Hk.out) HT2.out
       have HCLb := Lib.hid hcLb
       clear hcLb
       go_wp2_with fail
       refine HCLb.out.mono ?_
       rintro e w5 ⟨rfl, h3, hk3⟩
       have H3w5 := Lib.hid h3
       have G3w5 := Lib.hid (HM.out.trans _ _ _ G3w3.out hk3)
       clear h3 hk3 hmLb henLb HCLb
       have HMZ : Hid (movesL ky l i m = decide (i < k)) := Lib.hid (by
        rcases HMV.out with ⟨hki, hll⟩ | ⟨hik, hmv⟩
        ·rw [HMF.out hki]; simp [hki]
        ·rw [hmv]; simp [hik])
       go_wp2
       go_ret
       exact ⟨by rw [HMZ.out]; rfl, by rw [HE.out]; exact H3w5.out, G3w5.out⟩
      ·have HU2 := Lib.hid (show downL ky (swapL l2 k j1) j1 m = downL ky l i m by have e := downL_yes (ky := ky) (l := l2) (i := k) (n := m) H1.out (by rw [HC.out]; simpa using HT2.out); rw [HC.out] at e; exact e.symm.trans HU.out)
       have HMV2 : Hid ((j1 = i ∧ swapL l2 k j1 = l) ∨ (i < j1 ∧ movesL ky l i m = true)) := Lib.hid (.inr ⟨by have := HKI.out; have := HCG.out; omega, by
        rcases HMV.out with ⟨e1, e2⟩ | ⟨_, e2⟩
        ·subst e1 e2
         unfold movesL; rw [HC.out]; simp [H1.out]; simpa using HT2.out
        ·exact e2⟩)
       obtain ⟨flb, rlb, hmLb, henLb, hcLb⟩ := HM.out.less w3 l2 j1 k _ H3w3.out (by rw [HL2.out]; exact Hj1.out) (by rw [HL2.out]; exact Hk.out) HT2.out
       have HCLb := Lib.hid hcLb
       clear hcLb
       go_wp2_with fail
       refine HCLb.out.mono ?_
       rintro e w5 ⟨rfl, h3, hk3⟩
       have H3w5 := Lib.hid h3
       have G3w5 := Lib.hid (HM.out.trans _ _ _ G3w3.out hk3)
       clear h3 hk3 hmLb henLb HCLb
       obtain ⟨fs, rs, hmS, henS, hcS⟩ := HM.out.swap w5 l2 k j1 H3w5.out (by rw [HL2.out]; exact Hk.out) (by rw [HL2.out]; exact Hj1.out)
       have HCS := Lib.hid hcS
       clear hcS
       go_wp2_with fail
       refine HCS.out.mono ?_
       rintro e w6 ⟨rfl, h6, hk6⟩
       have H6 := Lib.hid h6
       have G6 := Lib.hid (HM.out.trans _ _ _ G3w5.out hk6)
       clear h6 hk6 hmS henS HCS
       go_wp2
       go_roundw
       case rel => exact ⟨j1, swapL l2 k j1, rfl, Nat.le_of_lt HCM.out, Nat.le_trans HKI.out (Nat.le_of_lt HCG.out), (length_swapL _ _ _).trans HL2.out, H6, HU2, HMV2, G6⟩
       case measure => have h7 := HCG.out; have h8 := HCM.out; simp [intOf]; omega
    ·have HC := Lib.hid (show childL ky l2 k m = j2 by rw [child_two h2 (by rw [← ej1, ← ej2]; simpa using ht1), ej2])
     have HCG := HKJ
     have HCM := HJM
     obtain ⟨t2, ht2⟩ : ∃ t, decide (vl ky l2 j2 < vl ky l2 k) = t := ⟨_, rfl⟩
     have HT2 := Lib.hid ht2
     as_aux_lemma =>
      clear ht1 ht2 h1 h2 ej1 ej2 hki hl2 hk hkj hj1 hkm
      obtain ⟨fla, rla, hmLa, henLa, hcLa⟩ := HM.out.less wr l2 j2 j1 _ H2.out (by rw [HL2.out]; exact Hj2.out) (by rw [HL2.out]; exact Hj1.out) HT1.out
      have HCLa := Lib.hid hcLa
      clear hcLa
      go_wp2_with fail
      refine HCLa.out.mono ?_
      rintro e w3 ⟨rfl, h3, hk3⟩
      have H3w3 := Lib.hid h3
      have G3w3 := Lib.hid (HM.out.trans _ _ _ HG.out hk3)
      clear h3 hk3 hmLa henLa HCLa
      cases t2
      ·have HE := Lib.hid (show downL ky l i m = l2 by rw [← HU.out, downL_no (by rw [HC.out]; simpa using HT2.out)])
       have HMF : Hid (k = i → movesL ky l i m = false) := Lib.hid (fun e => by
        have e2 := HMV.out.resolve_right (fun q => by omega)
        obtain ⟨rfl, rfl⟩ := e2
        unfold movesL; rw [HC.out]; simp [HT2.out])
       obtain ⟨flb, rlb, hmLb, henLb, hcLb⟩ := HM.out.less w3 l2 j2 k _ H3w3.out (by rw [HL2.out]; exact Hj2.out) (by rw [HL2.out]; exact Hk.out) HT2.out
       have HCLb := Lib.hid hcLb
       clear hcLb
       go_wp2_with fail
       refine HCLb.out.mono ?_
       rintro e w5 ⟨rfl, h3, hk3⟩
       have H3w5 := Lib.hid h3
       have G3w5 := Lib.hid (HM.out.trans _ _ _ G3w3.out hk3)
       clear h3 hk3 hmLb henLb HCLb
       have HMZ : Hid (movesL ky l i m = decide (i < k)) := Lib.hid (by
        rcases HMV.out with ⟨hki, hll⟩ | ⟨hik, hmv⟩
        ·rw [HMF.out hki]; simp [hki]
        ·rw [hmv]; simp [hik])
       go_wp2
       go_ret
       exact ⟨by rw [HMZ.out]; rfl, by rw [HE.out]; exact H3w5.out, G3w5.out⟩
      ·have HU2 := Lib.hid (show downL ky (swapL l2 k j2) j2 m = downL ky l i m by have e := downL_yes (ky := ky) (l := l2) (i := k) (n := m) H1.out (by rw [HC.out]; simpa using HT2.out); rw [HC.out] at e; exact e.symm.trans HU.out)
       have HMV2 : Hid ((j2 = i ∧ swapL l2 k j2 = l) ∨ (i < j2 ∧ movesL ky l i m = true)) := Lib.hid (.inr ⟨by have := HKI.out; have := HCG.out; omega, by
        rcases HMV.out with ⟨e1, e2⟩ | ⟨_, e2⟩
        ·subst e1 e2
         unfold movesL; rw [HC.out]; simp [H1.out]; simpa using HT2.out
        ·exact e2⟩)
       obtain ⟨flb, rlb, hmLb, henLb, hcLb⟩ := HM.out.less w3 l2 j2 k _ H3w3.out (by rw [HL2.out]; exact Hj2.out) (by rw [HL2.out]; exact Hk.out) HT2.out
       have HCLb := Lib.hid hcLb
       clear hcLb
       go_wp2_with fail
       refine HCLb.out.mono ?_
       rintro e w5 ⟨rfl, h3, hk3⟩
       have H3w5 := Lib.hid h3
       have G3w5 := Lib.hid (HM.out.trans _ _ _ G3w3.out hk3)
       clear h3 hk3 hmLb henLb HCLb
       obtain ⟨fs, rs, hmS, henS, hcS⟩ := HM.out.swap w5 l2 k j2 H3w5.out (by rw [HL2.out]; exact Hk.out) (by rw [HL2.out]; exact Hj2.out)
       have HCS := Lib.hid hcS
       clear hcS
       go_wp2_with fail
       refine HCS.out.mono ?_
       rintro e w6 ⟨rfl, h6, hk6⟩
       have H6 := Lib.hid h6
       have G6 := Lib.hid (HM.out.trans _ _ _ G3w5.out hk6)
       clear h6 hk6 hmS henS HCS
       go_wp2
       go_roundw
       case rel => exact ⟨j2, swapL l2 k j2, rfl, Nat.le_of_lt HCM.out, Nat.le_trans HKI.out (Nat.le_of_lt HCG.out), (length_swapL _ _ _).trans HL2.out, H6, HU2, HMV2, G6⟩
       case measure => have h7 := HCG.out; have h8 := HCM.out; simp [intOf]; omega
   ·have d6 : ¬ (j2 : Int) < (m : Int) := by omega
    have HC := Lib.hid (show childL ky l2 k m = j1 by rw [child_one (by exact fun q => h2 q.1), ej1])
    have HCG := Lib.hid hkj
    have HCM := Lib.hid hj1
    obtain ⟨t2, ht2⟩ : ∃ t, decide (vl ky l2 j1 < vl ky l2 k) = t := ⟨_, rfl⟩
    have HT2 := Lib.hid ht2
    as_aux_lemma =>
     clear ht2 h1 h2 ej1 ej2 hki hl2 hk hkj hj1 hkm
     cases t2
     ·have HE := Lib.hid (show downL ky l i m = l2 by rw [← HU.out, downL_no (by rw [HC.out]; simpa using HT2.out)])
      have HMF : Hid (k = i → movesL ky l i m = false) := Lib.hid (fun e => by
       have e2 := HMV.out.resolve_right (fun q => by omega)
       obtain ⟨rfl, rfl⟩ := e2
       unfold movesL; rw [HC.out]; simp [HT2.out])
      obtain ⟨flb, rlb, hmLb, henLb, hcLb⟩ := HM.out.less wr l2 j1 k _ H2.out (by rw [HL2.out]; exact Hj1.out) (by rw [HL2.out]; exact Hk.out) HT2.out
      have HCLb := Lib.hid hcLb
      clear hcLb
      go_wp2_with fail
      refine HCLb.out.mono ?_
      rintro e w5 ⟨rfl, h3, hk3⟩
      have H3w5 := Lib.hid h3
      have G3w5 := Lib.hid (HM.out.trans _ _ _ HG.out hk3)
      clear h3 hk3 hmLb henLb HCLb
      have HMZ : Hid (movesL ky l i m = decide (i < k)) := Lib.hid (by
       rcases HMV.out with ⟨hki, hll⟩ | ⟨hik, hmv⟩
       ·rw [HMF.out hki]; simp [hki]
       ·rw [hmv]; simp [hik])
      go_wp2
      go_ret
      exact ⟨by rw [HMZ.out]; rfl, by rw [HE.out]; exact H3w5.out, G3w5.out⟩
     ·have HU2 := Lib.hid (show downL ky (swapL l2 k j1) j1 m = downL ky l i m by have e := downL_yes (ky := ky) (l := l2) (i := k) (n := m) H1.out (by rw [HC.out]; simpa using HT2.out); rw [HC.out] at e; exact e.symm.trans HU.out)
      have HMV2 : Hid ((j1 = i ∧ swapL l2 k j1 = l) ∨ (i < j1 ∧ movesL ky l i m = true)) := Lib.hid (.inr ⟨by have := HKI.out; have := HCG.out; omega, by
       rcases HMV.out with ⟨e1, e2⟩ | ⟨_, e2⟩
       ·subst e1 e2
        unfold movesL; rw [HC.out]; simp [H1.out]; simpa using HT2.out
       ·exact e2⟩)
      obtain ⟨flb, rlb, hmLb, henLb, hcLb⟩ := HM.out.less wr l2 j1 k _ H2.out (by rw [HL2.out]; exact Hj1.out) (by rw [HL2.out]; exact Hk.out) HT2.out
      have HCLb := Lib.hid hcLb
      clear hcLb
      go_wp2_with fail
      refine HCLb.out.mono ?_
      rintro e w5 ⟨rfl, h3, hk3⟩
      have H3w5 := Lib.hid h3
      have G3w5 := Lib.hid (HM.out.trans _ _ _ HG.out hk3)
      clear h3 hk3 hmLb henLb HCLb
      obtain ⟨fs, rs, hmS, henS, hcS⟩ := HM.out.swap w5 l2 k j1 H3w5.out (by rw [HL2.out]; exact Hk.out) (by rw [HL2.out]; exact Hj1.out)
      have HCS := Lib.hid hcS
      clear hcS
      go_wp2_with fail
      refine HCS.out.mono ?_
      rintro e w6 ⟨rfl, h6, hk6⟩
      have H6 := Lib.hid h6
      have G6 := Lib.hid (HM.out.trans _ _ _ G3w5.out hk6)
      clear h6 hk6 hmS henS HCS
      go_wp2
      go_roundw
      case rel => exact ⟨j1, swapL l2 k j1, rfl, Nat.le_of_lt HCM.out, Nat.le_trans HKI.out (Nat.le_of_lt HCG.out), (length_swapL _ _ _).trans HL2.out, H6, HU2, HMV2, G6⟩
      case measure => have h7 := HCG.out; have h8 := HCM.out; simp [intOf]; omega
  ·have HE := Lib.hid (show downL ky l i m = l2 by rw [← HU.out, downL_end h1])
   have d1 : (m : Int) ≤ 2 * (k : Int) + 1 := by omega
   have d5 : (k : Int) ≤ 1000000 := by omega
   have HMZ : Hid (movesL ky l i m = decide (i < k)) := Lib.hid (by
    rcases HMV.out with ⟨hki2, hll⟩ | ⟨hik, hmv⟩
    ·unfold movesL; rw [← hki2]; simp [h1]
    ·rw [hmv]; simp [hik])
   clear h1 hki
   go_wp2
   go_ret
   exact ⟨by rw [HMZ.out]; rfl, by rw [HE.out]; exact H2.out, HG.out⟩
end
end Go.Proofs.YteaincdeoajkeaaGreatDoor.Hg
end
section
/- The library's heaps, walked once for whatever is kept: Push, Pop, Fix, Remove. Serves all packages. -/
namespace Go.Proofs.YteaincdeoajkeaaGreatDoor.Hg
open Go.RowKit Ut
set_option maxRecDepth 100000
set_option linter.unusedVariables false
set_option maxHeartbeats 4000000

section
variable {α : Type} [Inhabited α] {T : TypeId} {p : Value} {ky : α → Int} {St : World → List α → Prop} {K : World → World → Prop}
theorem push_by (M : Heaps T p ky St K) (x : Value) (a : α) (n : Nat) (l : List α) (W : World) (h : St W l) (hn : l.length = n)
  (hp : Asks T p "Push" W fun f rv => Calls Tryz.prog f #[rv, x] W fun e w' => e = .returned (.tuple #[]) ∧ St w' (l ++ [a]) ∧ K W w') :
  Calls Tryz.prog 118 #[.iface T p, x] W fun e W' => e = .returned (.tuple #[]) ∧ St W' (pushL ky l a) ∧ K W W' := by
 have HM := Lib.hid M
 have HN := Lib.hid hn
 have hl1 : (l ++ [a]).length = n + 1 := by simp [hn]
 have HL1 := Lib.hid hl1
 obtain ⟨fp, rp, hmP, henP, hcP⟩ := hp
 have HCP := Lib.hid hcP
 clear h M hn hcP hl1
 go_enter Tryz.func118, Tryz.ntmps118
 go_wp2_with fail
 refine HCP.out.mono ?_
 rintro e w1 ⟨rfl, h1, hk1⟩
 have hb := HM.out.bd _ _ h1
 rw [HL1.out] at hb
 have hb2 : (n : Int) + 1 ≤ 1000000 := by omega
 obtain ⟨fl, rl, hmL, henL, hcL⟩ := HM.out.len w1 _ h1
 rw [HL1.out] at hcL
 have HCL := Lib.hid hcL
 have HK1 := Lib.hid hk1
 clear h1 hk1 hmP henP HCP hcL hb
 go_wp2_with fail
 refine HCL.out.mono ?_
 rintro e w2 ⟨rfl, h2, hk2⟩
 have HU := Lib.hid (up_by HM.out n (n + 1) _ w2 h2 HL1.out (Nat.lt_succ_self n))
 have HK2 := Lib.hid (HM.out.trans _ _ _ HK1.out hk2)
 clear h2 hk2 hmL henL HCL
 go_wp2_with fail
 refine HU.out.mono ?_
 rintro e w3 ⟨rfl, h3, hk3⟩
 have H3 : Hid (St w3 (pushL ky l a)) := Lib.hid (by unfold pushL; rw [HN.out]; exact h3)
 have HK3 := Lib.hid (HM.out.trans _ _ _ HK2.out hk3)
 clear h3 hk3
 go_wp2
 go_end0
 exact ⟨rfl, H3.out, HK3.out⟩

theorem pop_by (M : Heaps T p ky St K) (R : α → Value) (n : Nat) (l r : List α) (c : α) (W : World) (h : St W l) (hn : l.length = n) (h0 : 0 < n) (hr : popL ky l = r ++ [c])
  (hp : ∀ w, St w (r ++ [c]) → Asks T p "Pop" w fun f rv => Calls Tryz.prog f #[rv] w fun e w' => e = .returned (R c) ∧ St w' r ∧ K w w') :
  Calls Tryz.prog 128 #[.iface T p] W fun e W' => e = .returned (R c) ∧ St W' r ∧ K W W' := by
 have HM := Lib.hid M
 have HN := Lib.hid hn
 have HR := Lib.hid hr
 have HP := Lib.hid hp
 have H0 := Lib.hid h0
 have hb := M.bd _ _ h
 rw [hn] at hb
 have hb2 : (n : Int) ≤ 1000000 := by omega
 obtain ⟨q, hq⟩ : ∃ q : Nat, n - 1 = q := ⟨_, rfl⟩
 have hq2 : (n : Int) - 1 = (q : Int) := by omega
 have HQ := Lib.hid hq
 obtain ⟨fl, rl, hmL, henL, hcL⟩ := M.len W _ h
 rw [hn] at hcL
 have HCL := Lib.hid hcL
 clear h M hn hr hp hcL h0 hb hq
 go_enter Tryz.func128, Tryz.ntmps128
 go_wp2_with fail
 refine HCL.out.mono ?_
 rintro e w1 ⟨rfl, h1, hk1⟩
 obtain ⟨fs, rs, hmS, henS, hcS⟩ := HM.out.swap w1 l 0 q h1 (by have := HN.out; have := H0.out; omega) (by have := HN.out; have := H0.out; have := HQ.out; omega)
 have HCS : Hid (Calls Tryz.prog fs #[rs, .int .i64 0, .int .i64 q] w1 fun e w' => e = .returned (.tuple #[]) ∧ St w' (swapL l 0 q) ∧ K w1 w') := Lib.hid hcS
 have HK1 := Lib.hid hk1
 clear h1 hk1 hmL henL HCL hcS
 go_wp2_with fail
 refine HCS.out.mono ?_
 rintro e w2 ⟨rfl, h2, hk2⟩
 have HD : Hid (Calls Tryz.prog 139 #[.iface T p, .int .i64 0, .int .i64 q] w2 fun e W' => e = .returned (.bool (movesL ky (swapL l 0 q) 0 q)) ∧ St W' (downL ky (swapL l 0 q) 0 q) ∧ K w2 W') := Lib.hid (down_by HM.out 0 q n _ w2 h2 ((length_swapL _ _ _).trans HN.out) (by have := HQ.out; omega) (Nat.zero_le _))
 have HK2 := Lib.hid (HM.out.trans _ _ _ HK1.out hk2)
 clear h2 hk2 hmS henS HCS
 go_wp2_with fail
 refine HD.out.mono ?_
 rintro e w3 ⟨rfl, h3, hk3⟩
 have h3' : St w3 (r ++ [c]) := by
  rw [← HR.out]
  unfold popL
  rw [HN.out, HQ.out]
  exact h3
 obtain ⟨fp, rp, hmP, henP, hcP⟩ := HP.out w3 h3'
 have HCP := Lib.hid hcP
 have HK3 := Lib.hid (HM.out.trans _ _ _ HK2.out hk3)
 clear h3 hk3 h3' hcP
 go_wp2_with fail
 refine HCP.out.mono ?_
 rintro e w4 ⟨rfl, h4, hk4⟩
 have H4 := Lib.hid h4
 have HK4 := Lib.hid (HM.out.trans _ _ _ HK3.out hk4)
 clear h4 hk4 hmP henP HCP
 go_wp2
 go_ret
 exact ⟨rfl, H4.out, HK4.out⟩

theorem fix_by (M : Heaps T p ky St K) (i n : Nat) (l : List α) (W : World) (h : St W l) (hn : l.length = n) (hi : i < n) :
  Calls Tryz.prog 115 #[.iface T p, .int .i64 i] W fun e W' => e = .returned (.tuple #[]) ∧ St W' (fixL ky l i n) ∧ K W W' := by
 have HM := Lib.hid M
 have HN := Lib.hid hn
 have HI := Lib.hid hi
 obtain ⟨fl, rl, hmL, henL, hcL⟩ := M.len W _ h
 rw [hn] at hcL
 have HCL := Lib.hid hcL
 clear h M hn hcL hi
 obtain ⟨t, ht⟩ : ∃ t, movesL ky l i n = t := ⟨_, rfl⟩
 have HT := Lib.hid ht
 clear ht
 go_enter Tryz.func115, Tryz.ntmps115
 go_wp2_with fail
 refine HCL.out.mono ?_
 rintro e w1 ⟨rfl, h1, hk1⟩
 have HK1 := Lib.hid hk1
 have HD := Lib.hid (down_by HM.out i n n l w1 h1 HN.out (Nat.le_refl _) (Nat.le_of_lt HI.out))
 rw [HT.out] at HD
 clear h1 hk1 hmL henL HCL
 cases t
 ·go_wp2_with fail
  refine HD.out.mono ?_
  rintro e w2 ⟨rfl, h2, hk2⟩
  rw [down_still HT.out] at h2
  have HU := Lib.hid (up_by HM.out i n l w2 h2 HN.out HI.out)
  have HK2 := Lib.hid (HM.out.trans _ _ _ HK1.out hk2)
  clear h2 hk2
  go_wp2_with fail
  refine HU.out.mono ?_
  rintro e w3 ⟨rfl, h3, hk3⟩
  have H3 : Hid (St w3 (fixL ky l i n)) := Lib.hid (by unfold fixL; rw [HT.out, if_neg (by decide)]; exact h3)
  have HK3 := Lib.hid (HM.out.trans _ _ _ HK2.out hk3)
  clear h3 hk3
  go_wp2
  go_end0
  exact ⟨rfl, H3.out, HK3.out⟩
 ·go_wp2_with fail
  refine HD.out.mono ?_
  rintro e w2 ⟨rfl, h2, hk2⟩
  have H3 : Hid (St w2 (fixL ky l i n)) := Lib.hid (by unfold fixL; rw [HT.out, if_pos rfl]; exact h2)
  have HK3 := Lib.hid (HM.out.trans _ _ _ HK1.out hk2)
  clear h2 hk2
  go_wp2
  go_end0
  exact ⟨rfl, H3.out, HK3.out⟩

/-- what is left when the one at i is taken out, its row's last being it -/
def remL (ky : α → Int) (l : List α) (i : Nat) : List α := if i = l.length - 1 then l else fixL ky (swapL l i (l.length - 1)) i (l.length - 1)
theorem remove_by (M : Heaps T p ky St K) (R : α → Value) (i n : Nat) (l r : List α) (c : α) (W : World) (h : St W l) (hn : l.length = n) (hi : i < n) (hr : remL ky l i = r ++ [c])
  (hp : ∀ w, St w (r ++ [c]) → Asks T p "Pop" w fun f rv => Calls Tryz.prog f #[rv] w fun e w' => e = .returned (R c) ∧ St w' r ∧ K w w') :
  Calls Tryz.prog 132 #[.iface T p, .int .i64 i] W fun e W' => e = .returned (R c) ∧ St W' r ∧ K W W' := by
 have HM := Lib.hid M
 have HN := Lib.hid hn
 have HR := Lib.hid hr
 have HP := Lib.hid hp
 have HI := Lib.hid hi
 have hb := M.bd _ _ h
 rw [hn] at hb
 have hb2 : (n : Int) ≤ 1000000 := by omega
 obtain ⟨q, hq⟩ : ∃ q : Nat, n - 1 = q := ⟨_, rfl⟩
 have hq2 : (n : Int) - 1 = (q : Int) := by omega
 have HQ := Lib.hid hq
 obtain ⟨fl, rl, hmL, henL, hcL⟩ := M.len W _ h
 rw [hn] at hcL
 have HCL := Lib.hid hcL
 clear h M hn hr hp hcL hi hb hq
 by_cases hiq : i = q
 ·have HRR : Hid (l = r ++ [c]) := Lib.hid (by have := HR.out; unfold remL at this; rw [HN.out, HQ.out, if_pos hiq] at this; exact this)
  subst hiq
  go_enter Tryz.func132, Tryz.ntmps132
  go_wp2_with fail
  refine HCL.out.mono ?_
  rintro e w1 ⟨rfl, h1, hk1⟩
  obtain ⟨fp, rp, hmP, henP, hcP⟩ := HP.out w1 (HRR.out ▸ h1)
  have HCP := Lib.hid hcP
  have HK1 := Lib.hid hk1
  clear h1 hk1 hmL henL HCL hcP
  go_wp2_with fail
  refine HCP.out.mono ?_
  rintro e w4 ⟨rfl, h4, hk4⟩
  have H4 := Lib.hid h4
  have HK4 := Lib.hid (HM.out.trans _ _ _ HK1.out hk4)
  clear h4 hk4 hmP henP HCP
  go_wp2
  go_ret
  exact ⟨rfl, H4.out, HK4.out⟩
 ·have HRR : Hid (fixL ky (swapL l i q) i q = r ++ [c]) := Lib.hid (by have := HR.out; unfold remL at this; rw [HN.out, HQ.out, if_neg hiq] at this; exact this)
  have hne : ((q : Int) != (i : Int)) = true := by simp; omega
  have hne2 : ¬ q = i := fun e => hiq e.symm
  have HIQ := Lib.hid (show i < q by have := HI.out; have := HQ.out; omega)
  obtain ⟨t, ht⟩ : ∃ t, movesL ky (swapL l i q) i q = t := ⟨_, rfl⟩
  have HT := Lib.hid ht
  clear ht hiq
  go_enter Tryz.func132, Tryz.ntmps132
  go_wp2_with fail
  refine HCL.out.mono ?_
  rintro e w1 ⟨rfl, h1, hk1⟩
  obtain ⟨fs, rs, hmS, henS, hcS⟩ := HM.out.swap w1 l i q h1 (by have := HN.out; have := HI.out; omega) (by have := HN.out; have := HI.out; have := HQ.out; omega)
  have HCS := Lib.hid hcS
  have HK1 := Lib.hid hk1
  clear h1 hk1 hmL henL HCL hcS
  go_wp2_with fail
  refine HCS.out.mono ?_
  rintro e w2 ⟨rfl, h2, hk2⟩
  have HD := Lib.hid (down_by HM.out i q n _ w2 h2 ((length_swapL _ _ _).trans HN.out) (by have := HQ.out; omega) (Nat.le_of_lt HIQ.out))
  rw [HT.out] at HD
  have HK2 := Lib.hid (HM.out.trans _ _ _ HK1.out hk2)
  clear h2 hk2 hmS henS HCS
  cases t
  ·go_wp2_with fail
   refine HD.out.mono ?_
   rintro e w3 ⟨rfl, h3, hk3⟩
   rw [down_still HT.out] at h3
   have HU := Lib.hid (up_by HM.out i n _ w3 h3 ((length_swapL _ _ _).trans HN.out) HI.out)
   have HK3 := Lib.hid (HM.out.trans _ _ _ HK2.out hk3)
   clear h3 hk3
   go_wp2_with fail
   refine HU.out.mono ?_
   rintro e w4 ⟨rfl, h4, hk4⟩
   have h4' : St w4 (r ++ [c]) := by
    rw [← HRR.out]
    unfold fixL
    rw [HT.out, if_neg (by decide)]
    exact h4
   obtain ⟨fp, rp, hmP, henP, hcP⟩ := HP.out w4 h4'
   have HCP := Lib.hid hcP
   have HK4 := Lib.hid (HM.out.trans _ _ _ HK3.out hk4)
   clear h4 hk4 h4' hcP
   go_wp2_with fail
   refine HCP.out.mono ?_
   rintro e w5 ⟨rfl, h5, hk5⟩
   have H5 := Lib.hid h5
   have HK5 := Lib.hid (HM.out.trans _ _ _ HK4.out hk5)
   clear h5 hk5 hmP henP HCP
   go_wp2
   go_ret
   exact ⟨rfl, H5.out, HK5.out⟩
  ·go_wp2_with fail
   refine HD.out.mono ?_
   rintro e w3 ⟨rfl, h3, hk3⟩
   have h3' : St w3 (r ++ [c]) := by
    rw [← HRR.out]
    unfold fixL
    rw [HT.out, if_pos rfl]
    exact h3
   obtain ⟨fp, rp, hmP, henP, hcP⟩ := HP.out w3 h3'
   have HCP := Lib.hid hcP
   have HK3 := Lib.hid (HM.out.trans _ _ _ HK2.out hk3)
   clear h3 hk3 h3' hcP
   go_wp2_with fail
   refine HCP.out.mono ?_
   rintro e w5 ⟨rfl, h5, hk5⟩
   have H5 := Lib.hid h5
   have HK5 := Lib.hid (HM.out.trans _ _ _ HK3.out hk5)
   clear h5 hk5 hmP henP HCP
   go_wp2
   go_ret
   exact ⟨rfl, H5.out, HK5.out⟩
end
end Go.Proofs.YteaincdeoajkeaaGreatDoor.Hg
end
section
/- Plain facts on heaps: what Fix and Remove leave. Serves all packages. -/
namespace Go.Proofs.YteaincdeoajkeaaGreatDoor.Hg
set_option linter.unusedVariables false

section
variable {α : Type} [Inhabited α] {ky : α → Int}
theorem upL_above (l : List α) (j : Nat) (hj : j < l.length) : ∀ k, j < k → (upL ky l j).getD k default = l.getD k default := by
 induction j using Nat.strongRecOn generalizing l with
 | _ j ih =>
  intro k hk
  unfold upL
  split
  ·rfl
  ·rename_i h0
   split
   ·rw [ih _ (by omega) _ (by rw [length_swapL]; omega) k (by omega), el_swapL _ _ _ _ (by omega) hj, if_neg (by omega), if_neg (by omega)]
   ·rfl
theorem fix_above {l : List α} {i n : Nat} (hi : i < n) (hn : n ≤ l.length) : ∀ k, n ≤ k → (fixL ky l i n).getD k default = l.getD k default := fun k hk => by
 unfold fixL
 split
 ·exact downL_above _ _ _ _ rfl hn k hk
 ·exact upL_above l i (by omega) k (by omega)
theorem length_fixL {l : List α} {i n : Nat} : (fixL ky l i n).length = l.length := by
 unfold fixL
 split
 ·exact length_downL _ _ _ _ rfl
 ·exact length_upL _ _
/-- one in its place has turned -/
theorem fix_parts {l : List α} {i : Nat} (x : α) (hi : i < l.length) (h : HeapL ky l l.length) : HeapL ky (fixL ky (l.set i x) i l.length) l.length ∧ (fixL ky (l.set i x) i l.length).Perm (l.set i x) ∧ (fixL ky (l.set i x) i l.length).length = l.length := by
 have e : ∀ k, k ≠ i → vl ky (l.set i x) k = vl ky l k := fun k hk => by
  unfold vl
  simp only [List.getD, List.getElem?_set_ne (fun q => hk q.symm)]
 have hs : (l.set i x).length = l.length := List.length_set
 refine ⟨fix_heap hi (by omega) ⟨fun k hk hkn h1 h2 => ?_, fun h0 k hk hkn hp => ?_⟩, fix_perm hi (by omega), by rw [length_fixL, hs]⟩
 ·rw [e _ h1, e _ h2]
  exact h k hk hkn
 ·rw [e _ (by omega), e _ (by omega)]
  have a := h i h0 (by omega)
  have b := h k hk hkn
  rw [hp] at b
  omega
/-- one is taken out: what is left is a heap of all others -/
theorem rem_parts {l : List α} {i : Nat} (hi : i < l.length) (h : HeapL ky l l.length) : ∃ r, remL ky l i = r ++ [l.getD i default] ∧ r.length + 1 = l.length ∧ HeapL ky r r.length ∧ (l.getD i default :: r).Perm l := by
 unfold remL
 by_cases e : i = l.length - 1
 ·rw [if_pos e]
  exact cut_parts (by omega) rfl (by rw [← e]) (fun k hk hkn => h k hk (by omega)) (List.Perm.refl _)
 ·rw [if_neg e]
  have hq : i < l.length - 1 := by omega
  have hsw := length_swapL l i (l.length - 1)
  have hv : ∀ k, k < l.length - 1 → k ≠ i → vl ky (swapL l i (l.length - 1)) k = vl ky l k := fun k hk hne => by
   rw [getD_swapL _ _ _ _ (by omega) (by omega), if_neg (by omega), if_neg hne]
  refine cut_parts (by omega) (by rw [length_fixL, hsw]) ?_ (fix_heap hq (by omega) ⟨fun k hk hkn h1 h2 => ?_, fun h0 k hk hkn hp => ?_⟩) ((fix_perm hq (by omega)).trans (swapL_perm l _ _ (by omega) (by omega)))
  ·rw [fix_above hq (by omega) _ (Nat.le_refl _), el_swapL _ _ _ _ (by omega) (by omega), if_pos rfl]
  ·rw [hv _ (by omega) h2, hv _ hkn h1]
   exact h k hk (by omega)
  ·rw [hv _ (by omega) (by omega), hv _ hkn (by omega)]
   have a := h i h0 (by omega)
   have b := h k hk (by omega)
   rw [hp] at b
   omega
end
end Go.Proofs.YteaincdeoajkeaaGreatDoor.Hg
end
