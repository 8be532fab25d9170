/- Plain facts: what a table's calls answer, said of whose each place is. -/
import Derived.Test.YtmekoanobicddaaPm
namespace Go.Proofs.Ytmekoanobicddaa.Pt
open Go.RowKit
set_option linter.unusedVariables false

abbrev vals (xs : List BR) : List R3 := xs.map (·.1)

theorem fw_cons {x : BR} {xs : List BR} {k : Nat} {prev : Option Int} {L : List Int} (h : Fw k prev (vals (x :: xs)) L) : x.1.f = (k : Int) ∧ 1 ≤ x.1.n ∧ prev ≠ some x.1.w ∧ ∃ L', L = List.replicate x.1.n.toNat x.1.w ++ L' ∧ Fw (k + x.1.n.toNat) (some x.1.w) (vals xs) L' := h

theorem getD_rep (n : Nat) (w : Int) (L : List Int) (q : Nat) : (List.replicate n w ++ L).getD q 0 = if q < n then w else L.getD (q - n) 0 := by
  simp only [List.getD_eq_getElem?_getD, List.getElem?_append, List.length_replicate, List.getElem?_replicate]
  by_cases h : q < n
  · rw [if_pos h, if_pos h, if_pos h]; rfl
  · rw [if_neg h, if_neg h]

theorem sumN_fw : ∀ {xs : List BR} {k : Nat} {prev : Option Int} {L : List Int}, Fw k prev (vals xs) L → sumN xs = (L.length : Int)
  | [], _, _, L, h => by obtain rfl : L = [] := h; rfl
  | x :: xs, k, prev, L, h => by
    obtain ⟨_, h2, _, L', hL, h4⟩ := fw_cons h
    have ih := sumN_fw (xs := xs) h4
    subst hL
    simp only [sumN, List.map_cons, List.sum_cons] at ih ⊢
    rw [ih]; simp; omega

theorem sumF_fw : ∀ {xs : List BR} {k : Nat} {prev : Option Int} {L : List Int}, Fw k prev (vals xs) L → sumF xs = (L.count (-1) : Int)
  | [], _, _, L, h => by obtain rfl : L = [] := h; rfl
  | x :: xs, k, prev, L, h => by
    obtain ⟨_, h2, _, L', hL, h4⟩ := fw_cons h
    have ih := sumF_fw (xs := xs) h4
    subst hL
    simp only [sumF, List.map_cons, List.sum_cons] at ih ⊢
    rw [ih, List.count_append, List.count_replicate]
    by_cases hw : x.1.w = -1
    · rw [if_pos hw]; simp [hw]; omega
    · rw [if_neg hw, if_neg (by simpa using hw)]; simp

/-- the places of who, from place k on -/
def placesFrom (who : Int) : Nat → List Int → List Int
  | _, [] => []
  | k, o :: L => (if o = who then [(k : Int)] else []) ++ placesFrom who (k + 1) L
theorem placesFrom_append (who : Int) : ∀ (A B : List Int) (k : Nat), placesFrom who k (A ++ B) = placesFrom who k A ++ placesFrom who (k + A.length) B
  | [], B, k => by simp [placesFrom]
  | o :: A, B, k => by
    simp only [List.cons_append, placesFrom]
    rw [placesFrom_append who A B (k + 1), List.append_assoc, List.length_cons]
    congr 3
    omega
theorem placesFrom_rep (who w : Int) : ∀ (n k : Nat), placesFrom who k (List.replicate n w) = if w = who then (List.range n).map (fun (j : Nat) => (k : Int) + (j : Int)) else []
  | 0, k => by simp [placesFrom]
  | n + 1, k => by
    rw [List.replicate_succ, placesFrom, placesFrom_rep who w n (k + 1)]
    by_cases h : w = who
    · rw [if_pos h, if_pos h, if_pos h, List.range_succ_eq_map]
      simp only [List.map_cons, List.map_map, List.singleton_append]
      congr 1
      apply List.map_congr_left
      intro j _
      simp
      omega
    · rw [if_neg h, if_neg h, if_neg h]; rfl
theorem ofL_fw (who : Int) : ∀ {xs : List BR} {k : Nat} {prev : Option Int} {L : List Int}, Fw k prev (vals xs) L → ofL who xs = placesFrom who k L
  | [], _, _, L, h => by obtain rfl : L = [] := h; rfl
  | x :: xs, k, prev, L, h => by
    obtain ⟨h1, h2, _, L', hL, h4⟩ := fw_cons h
    have ih := ofL_fw who (xs := xs) h4
    subst hL
    rw [placesFrom_append, placesFrom_rep, List.length_replicate, ← ih]
    simp only [ofL, List.flatMap_cons]
    congr 1
    by_cases hw : x.1.w = who
    · rw [if_pos hw, if_pos hw]
      unfold someOf
      rw [h1]
    · rw [if_neg hw, if_neg hw]

/-- the run of a place, from its beginning to its end -/
theorem seek_fw : ∀ {xs : List BR} {k : Nat} {prev : Option Int} {L : List Int}, Fw k prev (vals xs) L → ∀ i : Int,
    (i < k ∨ (k : Int) + L.length ≤ i → seek i xs = none) ∧
    (∀ p : Nat, i = k + p → p < L.length → ∃ (h : BR) (a m : Nat), seek i xs = some h ∧ h.1.f = (k : Int) + a ∧ h.1.n = m ∧ a ≤ p ∧ p < a + m ∧ a + m ≤ L.length ∧ (∀ q, a ≤ q → q < a + m → L.getD q 0 = h.1.w) ∧ (a + m < L.length → L.getD (a + m) 0 ≠ h.1.w))
  | [], k, _, L, h, i => by
    obtain rfl : L = [] := h
    exact ⟨fun _ => rfl, fun p _ hp => by simp at hp⟩
  | x :: xs, k, prev, L, h, i => by
    obtain ⟨h1, h2, _, L', hL, h4⟩ := fw_cons h
    have ih := seek_fw (xs := xs) h4 i
    subst hL
    have hx : ((x.1.n.toNat : Nat) : Int) = x.1.n := by omega
    refine ⟨fun ho => ?_, fun p hp hpl => ?_⟩
    · unfold seek
      by_cases c1 : i < x.1.f
      · rw [if_pos c1]
      · rw [if_neg c1]
        by_cases c2 : i < x.1.f + x.1.n
        · exfalso
          simp at ho
          omega
        · rw [if_neg c2]
          refine ih.1 (.inr ?_)
          simp at ho
          omega
    · by_cases hpn : p < x.1.n.toNat
      · refine ⟨x, 0, x.1.n.toNat, ?_, by omega, hx.symm, by omega, by omega, by simp, fun q _ hq => ?_, fun hlt => ?_⟩
        · unfold seek
          rw [if_neg (by omega), if_pos (by omega)]
        · rw [getD_rep, if_pos (by omega)]
        · rw [getD_rep, if_neg (by omega)]
          have hL' : 0 < L'.length := by simp at hlt; omega
          cases xs with
          | nil => have : L' = [] := h4; rw [this] at hL'; simp at hL'
          | cons y ys =>
            obtain ⟨_, hy, hne, L2, hL2, _⟩ := fw_cons h4
            rw [hL2, show 0 + x.1.n.toNat - x.1.n.toNat = 0 by omega, getD_rep, if_pos (by omega)]
            intro e
            exact hne (by rw [e])
      · obtain ⟨h, a, m, e1, e2, e3, e4, e5, e6, e7, e8⟩ := ih.2 (p - x.1.n.toNat) (by omega) (by simp at hpl; omega)
        refine ⟨h, x.1.n.toNat + a, m, ?_, by rw [e2]; omega, e3, by omega, by omega, by simp; omega, fun q hq1 hq2 => ?_, fun hlt => ?_⟩
        · unfold seek
          rw [if_neg (by omega), if_neg (by omega)]
          exact e1
        · rw [getD_rep, if_neg (by omega)]
          exact e7 _ (by omega) (by omega)
        · rw [getD_rep, if_neg (by omega), show x.1.n.toNat + a + m - x.1.n.toNat = a + m by omega]
          exact e8 (by simp at hlt; omega)

/-- places k, k + 1, .. with those of g made g's -/
def overK (g : R3) : Nat → List Int → List Int
  | _, [] => []
  | k, o :: L => (if g.f ≤ (k : Int) ∧ (k : Int) < g.f + g.n then g.w else o) :: overK g (k + 1) L
theorem overK_append (g : R3) : ∀ (A B : List Int) (k : Nat), overK g k (A ++ B) = overK g k A ++ overK g (k + A.length) B
  | [], B, k => by simp [overK]
  | o :: A, B, k => by
    simp only [List.cons_append, overK]
    rw [overK_append g A B (k + 1), List.length_cons]
    congr 3
    omega
theorem overK_out (g : R3) : ∀ (A : List Int) (k : Nat), ((k : Int) + A.length ≤ g.f ∨ g.f + g.n ≤ k) → overK g k A = A
  | [], k, _ => rfl
  | o :: A, k, h => by
    simp only [List.length_cons] at h
    rw [overK, if_neg (by omega), overK_out g A (k + 1) (by omega)]
theorem overK_in (g : R3) : ∀ (A : List Int) (k : Nat), g.f ≤ (k : Int) → (k : Int) + A.length ≤ g.f + g.n → overK g k A = List.replicate A.length g.w
  | [], k, _, _ => rfl
  | o :: A, k, h1, h2 => by
    simp only [List.length_cons] at h2
    rw [overK, if_pos (by omega), overK_in g A (k + 1) (by omega) (by omega), List.length_cons, List.replicate_succ]
theorem overK_length (g : R3) : ∀ (A : List Int) (k : Nat), (overK g k A).length = A.length
  | [], _ => rfl
  | o :: A, k => by rw [overK, List.length_cons, overK_length g A, List.length_cons]

theorem with_fw (g : BR) : ∀ {xs : List BR} {k : Nat} {prev : Option Int} {L : List Int}, Fw k prev (vals xs) L → ∀ {rs : List R3} {L0 : List Int}, Nm rs L0 → L0.length = k → k + L.length ≤ 64 → 1 ≤ g.1.n →
    (∀ p, p < L.length → g.1.f ≤ (k : Int) + p → (k : Int) + p < g.1.f + g.1.n → L.getD p 0 = -1) → (g.1.f + g.1.n ≤ (k : Int) + L.length ∨ g.1.f + g.1.n ≤ k) → ((k : Int) ≤ g.1.f ∨ g.1.f + g.1.n ≤ k) →
    Nm (xs.foldl (withStep g) rs) (L0 ++ overK g.1 k L)
  | [], k, _, L, h, rs, L0, hr, _, _, _, _, _, _ => by
    obtain rfl : L = [] := h
    simpa [overK] using hr
  | x :: xs, k, prev, L, h, rs, L0, hr, hk, h64, hgn, hfree, hend, hst => by
    obtain ⟨h1, h2, h3, L', hL, h4⟩ := fw_cons h
    subst hL
    have hx : ((x.1.n.toNat : Nat) : Int) = x.1.n := by omega
    have hlen : (List.replicate x.1.n.toNat x.1.w ++ L').length = x.1.n.toNat + L'.length := by simp
    rw [hlen] at h64 hend
    simp only [List.foldl_cons]
    rw [overK_append, List.length_replicate, ← List.append_assoc]
    have hfree' : ∀ p, p < L'.length → g.1.f ≤ ((k + x.1.n.toNat : Nat) : Int) + p → ((k + x.1.n.toNat : Nat) : Int) + p < g.1.f + g.1.n → L'.getD p 0 = -1 := fun p hp c1 c2 => by
      have := hfree (x.1.n.toNat + p) (by rw [hlen]; omega) (by omega) (by omega)
      rw [getD_rep, if_neg (by omega), show x.1.n.toNat + p - x.1.n.toNat = p by omega] at this
      exact this
    by_cases c : g.1.f < x.1.f ∨ x.1.f + x.1.n ≤ g.1.f
    · have hstep : withStep g rs x = putL rs x.1 := by unfold withStep; rw [if_pos c]
      rw [hstep, overK_out g.1 (List.replicate x.1.n.toNat x.1.w) k (by simp; omega)]
      refine with_fw g h4 (putL_nm hr (by rw [hk]; exact h1) (by omega) (by omega) (by omega)) (by simp [hk]) (by omega) hgn hfree' (by omega) (by omega)
    · have hxw : x.1.w = -1 := by
        have := hfree (g.1.f - k).toNat (by rw [hlen]; omega) (by omega) (by omega)
        rwa [getD_rep, if_pos (by omega)] at this
      have hge : g.1.f + g.1.n ≤ x.1.f + x.1.n := by
        rcases Int.lt_or_le (x.1.f + x.1.n) (g.1.f + g.1.n) with hlt | hle
        · exfalso
          have hL' : 0 < L'.length := by omega
          have h0 := hfree' 0 hL' (by omega) (by omega)
          cases xs with
          | nil => have : L' = [] := h4; rw [this] at hL'; simp at hL'
          | cons y ys =>
            obtain ⟨_, hy, hne, L2, hL2, _⟩ := fw_cons h4
            rw [hL2, getD_rep, if_pos (by omega)] at h0
            exact hne (by rw [hxw, h0])
        · exact hle
      have hstep : withStep g rs x = putL (putL (putL rs ⟨x.1.f, g.1.f - x.1.f, -1⟩) g.1) ⟨g.1.f + g.1.n, x.1.f + x.1.n - (g.1.f + g.1.n), -1⟩ := by unfold withStep; rw [if_neg (by omega)]
      have hrep : List.replicate x.1.n.toNat x.1.w = List.replicate (g.1.f - x.1.f).toNat (-1) ++ (List.replicate g.1.n.toNat (-1) ++ List.replicate (x.1.f + x.1.n - (g.1.f + g.1.n)).toNat (-1)) := by
        rw [hxw, List.replicate_append_replicate, List.replicate_append_replicate]
        congr 1
        omega
      have hov : overK g.1 k (List.replicate x.1.n.toNat x.1.w) = List.replicate (g.1.f - x.1.f).toNat (-1) ++ (List.replicate g.1.n.toNat g.1.w ++ List.replicate (x.1.f + x.1.n - (g.1.f + g.1.n)).toNat (-1)) := by
        rw [hrep, overK_append, overK_append, overK_out g.1 _ k (by simp; omega), overK_in g.1 _ _ (by simp; omega) (by simp; omega), overK_out g.1 _ _ (by simp; omega)]
        simp
      have p1 := putL_nm (r := ⟨x.1.f, g.1.f - x.1.f, -1⟩) hr (by rw [hk]; exact h1) (by simp only; omega) (by simp only; omega) (by omega)
      have p2 := putL_nm (r := g.1) p1 (by simp; omega) (by omega) (by omega) (by simp; omega)
      have p3 := putL_nm (r := ⟨g.1.f + g.1.n, x.1.f + x.1.n - (g.1.f + g.1.n), -1⟩) p2 (by simp; omega) (by simp only; omega) (by simp only; omega) (by simp; omega)
      rw [hstep, hov]
      simp only [List.append_assoc] at p3 ⊢
      have := with_fw g h4 p3 (by simp; omega) (by omega) hgn hfree' (by omega) (by omega)
      simpa [List.append_assoc] using this
end Go.Proofs.Ytmekoanobicddaa.Pt
