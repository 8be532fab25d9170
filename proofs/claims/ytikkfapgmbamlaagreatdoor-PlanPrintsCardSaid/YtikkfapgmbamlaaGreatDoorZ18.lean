/- Several texts in one: Pm Pn Pk Po Pq -/
import Derived.Test.YtikkfapgmbamlaaGreatDoorZ17
import Derived.RangeFuncBox
section
/- Plain facts: runs that say whose each place is. -/
namespace Go.Proofs.YtikkfapgmbamlaaGreatDoor.Pt
open Go.RowKit
set_option linter.unusedVariables false

/-- the runs rs, the first from place k on, behind one of prev's, say L -/
def Fw (k : Nat) (prev : Option Int) : List R3 → List Int → Prop
  | [], L => L = []
  | r :: rs, L => r.f = (k : Int) ∧ 1 ≤ r.n ∧ prev ≠ some r.w ∧ ∃ L', L = List.replicate r.n.toNat r.w ++ L' ∧ Fw (k + r.n.toNat) (some r.w) rs L'
def Nm (rs : List R3) (L : List Int) : Prop := Fw 0 none rs L
def lastW (prev : Option Int) (rs : List R3) : Option Int := match rs.getLast? with | some l => some l.w | none => prev

theorem lastW_cons (prev : Option Int) (r : R3) (rs : List R3) : lastW prev (r :: rs) = lastW (some r.w) rs := by
  cases rs with
  | nil => rfl
  | cons s ss => simp [lastW, List.getLast?_cons]

theorem Fw.snoc {r : R3} : ∀ {rs : List R3} {k : Nat} {prev : Option Int} {L : List Int}, Fw k prev rs L → r.f = ((k + L.length : Nat) : Int) → 1 ≤ r.n → lastW prev rs ≠ some r.w → Fw k prev (rs ++ [r]) (L ++ List.replicate r.n.toNat r.w)
  | [], k, prev, L, h, hf, hn, hl => by
    obtain rfl : L = [] := h
    exact ⟨by simpa using hf, hn, hl, [], by simp, rfl⟩
  | s :: rs, k, prev, L, ⟨h1, h2, h3, L', hL, h4⟩, hf, hn, hl => by
    subst hL
    rw [lastW_cons] at hl
    refine ⟨h1, h2, h3, L' ++ List.replicate r.n.toNat r.w, by rw [List.append_assoc], Fw.snoc h4 ?_ hn hl⟩
    rw [hf]; simp; omega

theorem Fw.unsnoc {l : R3} : ∀ {rs : List R3} {k : Nat} {prev : Option Int} {L : List Int}, Fw k prev (rs ++ [l]) L → ∃ L0, L = L0 ++ List.replicate l.n.toNat l.w ∧ Fw k prev rs L0 ∧ l.f = ((k + L0.length : Nat) : Int) ∧ 1 ≤ l.n ∧ lastW prev rs ≠ some l.w
  | [], k, prev, L, ⟨h1, h2, h3, L', hL, h4⟩ => by
    obtain rfl : L' = [] := h4
    exact ⟨[], by simpa using hL, rfl, by simpa using h1, h2, h3⟩
  | s :: rs, k, prev, L, ⟨h1, h2, h3, L', hL, h4⟩ => by
    obtain ⟨L0, e, hf, hff, hn, hl⟩ := Fw.unsnoc h4
    subst e
    subst hL
    refine ⟨List.replicate s.n.toNat s.w ++ L0, by rw [List.append_assoc], ⟨h1, h2, h3, L0, rfl, hf⟩, ?_, hn, by rw [lastW_cons]; exact hl⟩
    rw [hff]; simp; omega

theorem Fw.unique : ∀ {rs rs' : List R3} {k : Nat} {prev : Option Int} {L : List Int}, Fw k prev rs L → Fw k prev rs' L → rs = rs'
  | [], [], _, _, _, _, _ => rfl
  | [], r :: rs, k, prev, L, h, ⟨_, h2, _, L', hL, _⟩ => by
    obtain rfl : L = [] := h
    have := congrArg List.length hL
    simp at this; omega
  | r :: rs, [], k, prev, L, ⟨_, h2, _, L', hL, _⟩, h => by
    obtain rfl : L = [] := h
    have := congrArg List.length hL
    simp at this; omega
  | r :: rs, r' :: rs', k, prev, L, ⟨h1, h2, h3, L1, hL1, h4⟩, ⟨h1', h2', h3', L1', hL1', h4'⟩ => by
    have key : ∀ (a b : R3) (sa sb : List R3) (La Lb : List Int), 1 ≤ a.n → 1 ≤ b.n → List.replicate a.n.toNat a.w ++ La = List.replicate b.n.toNat b.w ++ Lb → Fw (k + a.n.toNat) (some a.w) sa La → ¬ a.n.toNat < b.n.toNat := by
      intro a b sa sb La Lb ha hb he hF hlt
      have hw : a.w = b.w := by
        have h0 := congrArg (fun l => l[0]?) he
        simp only [List.getElem?_append, List.length_replicate, List.getElem?_replicate] at h0
        rw [if_pos (by omega), if_pos (by omega), if_pos (by omega), if_pos (by omega)] at h0
        simpa using h0
      have hL : La = List.replicate (b.n.toNat - a.n.toNat) b.w ++ Lb := by
        have e : List.replicate b.n.toNat b.w = List.replicate a.n.toNat b.w ++ List.replicate (b.n.toNat - a.n.toNat) b.w := by rw [List.replicate_append_replicate]; congr 1; omega
        rw [e, hw, List.append_assoc] at he
        exact List.append_cancel_left he
      cases sa with
      | nil =>
        have : La = [] := hF
        rw [this] at hL
        have := congrArg List.length hL
        simp at this; omega
      | cons s ss =>
        obtain ⟨_, hs, hne, L2, hL2, _⟩ := hF
        apply hne
        have h0 := congrArg (fun l => l[0]?) (hL2.symm.trans hL)
        simp only [List.getElem?_append, List.length_replicate, List.getElem?_replicate] at h0
        rw [if_pos (by omega), if_pos (by omega), if_pos (by omega), if_pos (by omega)] at h0
        rw [hw]
        simpa using h0.symm
    have hn1 := key r r' rs rs' L1 L1' h2 h2' (hL1.symm.trans hL1') h4
    have hn2 := key r' r rs' rs L1' L1 h2' h2 (hL1'.symm.trans hL1) h4'
    have hn : r.n = r'.n := by omega
    have hw : r.w = r'.w := by
      have h0 := congrArg (fun l => l[0]?) (hL1.symm.trans hL1')
      simp only [List.getElem?_append, List.length_replicate, List.getElem?_replicate] at h0
      rw [if_pos (by omega), if_pos (by omega), if_pos (by omega), if_pos (by omega)] at h0
      simpa using h0
    have hr : r = r' := by
      cases r; cases r'
      simp only at h1 h1' hn hw
      rw [h1, h1', hn, hw]
    subst hr
    have hL : L1 = L1' := List.append_cancel_left (hL1.symm.trans hL1')
    subst hL
    rw [Fw.unique h4 h4']

/-- put keeps the runs in order -/
theorem putL_nm {rs : List R3} {L : List Int} {r : R3} (h : Nm rs L) (hf : r.f = (L.length : Int)) (h0 : 0 ≤ r.n) (hn : r.n ≤ 1000) (hL : L.length ≤ 1000) : Nm (putL rs r) (L ++ List.replicate r.n.toNat r.w) := by
  unfold putL
  by_cases hz : r.n = 0
  · rw [if_pos hz, hz]; simpa using h
  · rw [if_neg hz]
    by_cases hnil : rs = []
    · rw [if_pos hnil]
      subst hnil
      obtain rfl : L = [] := h
      exact ⟨by simpa using hf, by omega, by simp, [], by simp, rfl⟩
    · rw [if_neg hnil]
      obtain ⟨l, rs0, rfl⟩ : ∃ l rs0, rs = rs0 ++ [l] := ⟨rs.getLast hnil, rs.dropLast, (List.dropLast_concat_getLast hnil).symm⟩
      have hg : (rs0 ++ [l]).getD ((rs0 ++ [l]).length - 1) default = l := by simp [List.getD]
      rw [hg]
      obtain ⟨L0, e, hF, hlf, hln, hlast⟩ := Fw.unsnoc h
      by_cases hw : l.w = r.w
      · rw [if_pos hw]
        have hset : (rs0 ++ [l]).set ((rs0 ++ [l]).length - 1) ⟨l.f, wrap64 (l.n + r.n), l.w⟩ = rs0 ++ [⟨l.f, l.n + r.n, l.w⟩] := by
          have hlen : l.n ≤ 1000 := by
            have := congrArg List.length e
            simp at this; omega
          rw [IntWalk.wrap64_in _ ⟨by omega, by omega⟩]
          simp
        rw [hset]
        have h2 := Fw.snoc (r := ⟨l.f, l.n + r.n, l.w⟩) hF hlf (by simp only; omega) hlast
        have e2 : L ++ List.replicate r.n.toNat r.w = L0 ++ List.replicate (l.n + r.n).toNat l.w := by
          rw [e, List.append_assoc, ← hw, List.replicate_append_replicate]
          congr 2
          omega
        rw [e2]
        exact h2
      · rw [if_neg hw]
        refine Fw.snoc h (by simpa using hf) (by omega) ?_
        simp [lastW, hw]
end Go.Proofs.YtikkfapgmbamlaaGreatDoor.Pt
end
section
/- Plain facts: what a table's calls answer, said of whose each place is. -/
namespace Go.Proofs.YtikkfapgmbamlaaGreatDoor.Pt
open Go.RowKit
set_option linter.unusedVariables false

abbrev vals (xs : List BR) : List R3 := xs.map (·.1)

theorem fw_cons {x : BR} {xs : List BR} {k : Nat} {prev : Option Int} {L : List Int} (h : Fw k prev (vals (x :: xs)) L) : x.1.f = (k : Int) ∧ 1 ≤ x.1.n ∧ prev ≠ some x.1.w ∧ ∃ L', L = List.replicate x.1.n.toNat x.1.w ++ L' ∧ Fw (k + x.1.n.toNat) (some x.1.w) (vals xs) L' := h

theorem getD_rep (n : Nat) (w : Int) (L : List Int) (q : Nat) : (List.replicate n w ++ L).getD q 0 = if q < n then w else L.getD (q - n) 0 := by
  simp only [List.getD_eq_getElem?_getD, List.getElem?_append, List.length_replicate, List.getElem?_replicate]
  by_cases h : q < n
  · rw [if_pos h, if_pos h, if_pos h]; rfl
  · rw [if_neg h, if_neg h]

theorem sumN_fw : ∀ {xs : List BR} {k : Nat} {prev : Option Int} {L : List Int}, Fw k prev (vals xs) L → sumN xs = (L.length : Int)
  | [], _, _, L, h => by obtain rfl : L = [] := h; rfl
  | x :: xs, k, prev, L, h => by
    obtain ⟨_, h2, _, L', hL, h4⟩ := fw_cons h
    have ih := sumN_fw (xs := xs) h4
    subst hL
    simp only [sumN, List.map_cons, List.sum_cons] at ih ⊢
    rw [ih]; simp; omega

theorem sumF_fw : ∀ {xs : List BR} {k : Nat} {prev : Option Int} {L : List Int}, Fw k prev (vals xs) L → sumF xs = (L.count (-1) : Int)
  | [], _, _, L, h => by obtain rfl : L = [] := h; rfl
  | x :: xs, k, prev, L, h => by
    obtain ⟨_, h2, _, L', hL, h4⟩ := fw_cons h
    have ih := sumF_fw (xs := xs) h4
    subst hL
    simp only [sumF, List.map_cons, List.sum_cons] at ih ⊢
    rw [ih, List.count_append, List.count_replicate]
    by_cases hw : x.1.w = -1
    · rw [if_pos hw]; simp [hw]; omega
    · rw [if_neg hw, if_neg (by simpa using hw)]; simp

/-- the places of who, from place k on -/
def placesFrom (who : Int) : Nat → List Int → List Int
  | _, [] => []
  | k, o :: L => (if o = who then [(k : Int)] else []) ++ placesFrom who (k + 1) L
theorem placesFrom_append (who : Int) : ∀ (A B : List Int) (k : Nat), placesFrom who k (A ++ B) = placesFrom who k A ++ placesFrom who (k + A.length) B
  | [], B, k => by simp [placesFrom]
  | o :: A, B, k => by
    simp only [List.cons_append, placesFrom]
    rw [placesFrom_append who A B (k + 1), List.append_assoc, List.length_cons]
    congr 3
    omega
theorem placesFrom_rep (who w : Int) : ∀ (n k : Nat), placesFrom who k (List.replicate n w) = if w = who then (List.range n).map (fun (j : Nat) => (k : Int) + (j : Int)) else []
  | 0, k => by simp [placesFrom]
  | n + 1, k => by
    rw [List.replicate_succ, placesFrom, placesFrom_rep who w n (k + 1)]
    by_cases h : w = who
    · rw [if_pos h, if_pos h, if_pos h, List.range_succ_eq_map]
      simp only [List.map_cons, List.map_map, List.singleton_append]
      congr 1
      apply List.map_congr_left
      intro j _
      simp
      omega
    · rw [if_neg h, if_neg h, if_neg h]; rfl
theorem ofL_fw (who : Int) : ∀ {xs : List BR} {k : Nat} {prev : Option Int} {L : List Int}, Fw k prev (vals xs) L → ofL who xs = placesFrom who k L
  | [], _, _, L, h => by obtain rfl : L = [] := h; rfl
  | x :: xs, k, prev, L, h => by
    obtain ⟨h1, h2, _, L', hL, h4⟩ := fw_cons h
    have ih := ofL_fw who (xs := xs) h4
    subst hL
    rw [placesFrom_append, placesFrom_rep, List.length_replicate, ← ih]
    simp only [ofL, List.flatMap_cons]
    congr 1
    by_cases hw : x.1.w = who
    · rw [if_pos hw, if_pos hw]
      unfold someOf
      rw [h1]
    · rw [if_neg hw, if_neg hw]

/-- the run of a place, from its beginning to its end -/
theorem seek_fw : ∀ {xs : List BR} {k : Nat} {prev : Option Int} {L : List Int}, Fw k prev (vals xs) L → ∀ i : Int,
    (i < k ∨ (k : Int) + L.length ≤ i → seek i xs = none) ∧
    (∀ p : Nat, i = k + p → p < L.length → ∃ (h : BR) (a m : Nat), seek i xs = some h ∧ h.1.f = (k : Int) + a ∧ h.1.n = m ∧ a ≤ p ∧ p < a + m ∧ a + m ≤ L.length ∧ (∀ q, a ≤ q → q < a + m → L.getD q 0 = h.1.w) ∧ (a + m < L.length → L.getD (a + m) 0 ≠ h.1.w))
  | [], k, _, L, h, i => by
    obtain rfl : L = [] := h
    exact ⟨fun _ => rfl, fun p _ hp => by simp at hp⟩
  | x :: xs, k, prev, L, h, i => by
    obtain ⟨h1, h2, _, L', hL, h4⟩ := fw_cons h
    have ih := seek_fw (xs := xs) h4 i
    subst hL
    have hx : ((x.1.n.toNat : Nat) : Int) = x.1.n := by omega
    refine ⟨fun ho => ?_, fun p hp hpl => ?_⟩
    · unfold seek
      by_cases c1 : i < x.1.f
      · rw [if_pos c1]
      · rw [if_neg c1]
        by_cases c2 : i < x.1.f + x.1.n
        · exfalso
          simp at ho
          omega
        · rw [if_neg c2]
          refine ih.1 (.inr ?_)
          simp at ho
          omega
    · by_cases hpn : p < x.1.n.toNat
      · refine ⟨x, 0, x.1.n.toNat, ?_, by omega, hx.symm, by omega, by omega, by simp, fun q _ hq => ?_, fun hlt => ?_⟩
        · unfold seek
          rw [if_neg (by omega), if_pos (by omega)]
        · rw [getD_rep, if_pos (by omega)]
        · rw [getD_rep, if_neg (by omega)]
          have hL' : 0 < L'.length := by simp at hlt; omega
          cases xs with
          | nil => have : L' = [] := h4; rw [this] at hL'; simp at hL'
          | cons y ys =>
            obtain ⟨_, hy, hne, L2, hL2, _⟩ := fw_cons h4
            rw [hL2, show 0 + x.1.n.toNat - x.1.n.toNat = 0 by omega, getD_rep, if_pos (by omega)]
            intro e
            exact hne (by rw [e])
      · obtain ⟨h, a, m, e1, e2, e3, e4, e5, e6, e7, e8⟩ := ih.2 (p - x.1.n.toNat) (by omega) (by simp at hpl; omega)
        refine ⟨h, x.1.n.toNat + a, m, ?_, by rw [e2]; omega, e3, by omega, by omega, by simp; omega, fun q hq1 hq2 => ?_, fun hlt => ?_⟩
        · unfold seek
          rw [if_neg (by omega), if_neg (by omega)]
          exact e1
        · rw [getD_rep, if_neg (by omega)]
          exact e7 _ (by omega) (by omega)
        · rw [getD_rep, if_neg (by omega), show x.1.n.toNat + a + m - x.1.n.toNat = a + m by omega]
          exact e8 (by simp at hlt; omega)

/-- places k, k + 1, .. with those of g made g's -/
def overK (g : R3) : Nat → List Int → List Int
  | _, [] => []
  | k, o :: L => (if g.f ≤ (k : Int) ∧ (k : Int) < g.f + g.n then g.w else o) :: overK g (k + 1) L
theorem overK_append (g : R3) : ∀ (A B : List Int) (k : Nat), overK g k (A ++ B) = overK g k A ++ overK g (k + A.length) B
  | [], B, k => by simp [overK]
  | o :: A, B, k => by
    simp only [List.cons_append, overK]
    rw [overK_append g A B (k + 1), List.length_cons]
    congr 3
    omega
theorem overK_out (g : R3) : ∀ (A : List Int) (k : Nat), ((k : Int) + A.length ≤ g.f ∨ g.f + g.n ≤ k) → overK g k A = A
  | [], k, _ => rfl
  | o :: A, k, h => by
    simp only [List.length_cons] at h
    rw [overK, if_neg (by omega), overK_out g A (k + 1) (by omega)]
theorem overK_in (g : R3) : ∀ (A : List Int) (k : Nat), g.f ≤ (k : Int) → (k : Int) + A.length ≤ g.f + g.n → overK g k A = List.replicate A.length g.w
  | [], k, _, _ => rfl
  | o :: A, k, h1, h2 => by
    simp only [List.length_cons] at h2
    rw [overK, if_pos (by omega), overK_in g A (k + 1) (by omega) (by omega), List.length_cons, List.replicate_succ]
theorem overK_length (g : R3) : ∀ (A : List Int) (k : Nat), (overK g k A).length = A.length
  | [], _ => rfl
  | o :: A, k => by rw [overK, List.length_cons, overK_length g A, List.length_cons]

theorem with_fw (g : BR) : ∀ {xs : List BR} {k : Nat} {prev : Option Int} {L : List Int}, Fw k prev (vals xs) L → ∀ {rs : List R3} {L0 : List Int}, Nm rs L0 → L0.length = k → k + L.length ≤ 64 → 1 ≤ g.1.n →
    (∀ p, p < L.length → g.1.f ≤ (k : Int) + p → (k : Int) + p < g.1.f + g.1.n → L.getD p 0 = -1) → (g.1.f + g.1.n ≤ (k : Int) + L.length ∨ g.1.f + g.1.n ≤ k) → ((k : Int) ≤ g.1.f ∨ g.1.f + g.1.n ≤ k) →
    Nm (xs.foldl (withStep g) rs) (L0 ++ overK g.1 k L)
  | [], k, _, L, h, rs, L0, hr, _, _, _, _, _, _ => by
    obtain rfl : L = [] := h
    simpa [overK] using hr
  | x :: xs, k, prev, L, h, rs, L0, hr, hk, h64, hgn, hfree, hend, hst => by
    obtain ⟨h1, h2, h3, L', hL, h4⟩ := fw_cons h
    subst hL
    have hx : ((x.1.n.toNat : Nat) : Int) = x.1.n := by omega
    have hlen : (List.replicate x.1.n.toNat x.1.w ++ L').length = x.1.n.toNat + L'.length := by simp
    rw [hlen] at h64 hend
    simp only [List.foldl_cons]
    rw [overK_append, List.length_replicate, ← List.append_assoc]
    have hfree' : ∀ p, p < L'.length → g.1.f ≤ ((k + x.1.n.toNat : Nat) : Int) + p → ((k + x.1.n.toNat : Nat) : Int) + p < g.1.f + g.1.n → L'.getD p 0 = -1 := fun p hp c1 c2 => by
      have := hfree (x.1.n.toNat + p) (by rw [hlen]; omega) (by omega) (by omega)
      rw [getD_rep, if_neg (by omega), show x.1.n.toNat + p - x.1.n.toNat = p by omega] at this
      exact this
    by_cases c : g.1.f < x.1.f ∨ x.1.f + x.1.n ≤ g.1.f
    · have hstep : withStep g rs x = putL rs x.1 := by unfold withStep; rw [if_pos c]
      rw [hstep, overK_out g.1 (List.replicate x.1.n.toNat x.1.w) k (by simp; omega)]
      refine with_fw g h4 (putL_nm hr (by rw [hk]; exact h1) (by omega) (by omega) (by omega)) (by simp [hk]) (by omega) hgn hfree' (by omega) (by omega)
    · have hxw : x.1.w = -1 := by
        have := hfree (g.1.f - k).toNat (by rw [hlen]; omega) (by omega) (by omega)
        rwa [getD_rep, if_pos (by omega)] at this
      have hge : g.1.f + g.1.n ≤ x.1.f + x.1.n := by
        rcases Int.lt_or_le (x.1.f + x.1.n) (g.1.f + g.1.n) with hlt | hle
        · exfalso
          have hL' : 0 < L'.length := by omega
          have h0 := hfree' 0 hL' (by omega) (by omega)
          cases xs with
          | nil => have : L' = [] := h4; rw [this] at hL'; simp at hL'
          | cons y ys =>
            obtain ⟨_, hy, hne, L2, hL2, _⟩ := fw_cons h4
            rw [hL2, getD_rep, if_pos (by omega)] at h0
            exact hne (by rw [hxw, h0])
        · exact hle
      have hstep : withStep g rs x = putL (putL (putL rs ⟨x.1.f, g.1.f - x.1.f, -1⟩) g.1) ⟨g.1.f + g.1.n, x.1.f + x.1.n - (g.1.f + g.1.n), -1⟩ := by unfold withStep; rw [if_neg (by omega)]
      have hrep : List.replicate x.1.n.toNat x.1.w = List.replicate (g.1.f - x.1.f).toNat (-1) ++ (List.replicate g.1.n.toNat (-1) ++ List.replicate (x.1.f + x.1.n - (g.1.f + g.1.n)).toNat (-1)) := by
        rw [hxw, List.replicate_append_replicate, List.replicate_append_replicate]
        congr 1
        omega
      have hov : overK g.1 k (List.replicate x.1.n.toNat x.1.w) = List.replicate (g.1.f - x.1.f).toNat (-1) ++ (List.replicate g.1.n.toNat g.1.w ++ List.replicate (x.1.f + x.1.n - (g.1.f + g.1.n)).toNat (-1)) := by
        rw [hrep, overK_append, overK_append, overK_out g.1 _ k (by simp; omega), overK_in g.1 _ _ (by simp; omega) (by simp; omega), overK_out g.1 _ _ (by simp; omega)]
        simp
      have p1 := putL_nm (r := ⟨x.1.f, g.1.f - x.1.f, -1⟩) hr (by rw [hk]; exact h1) (by simp only; omega) (by simp only; omega) (by omega)
      have p2 := putL_nm (r := g.1) p1 (by simp; omega) (by omega) (by omega) (by simp; omega)
      have p3 := putL_nm (r := ⟨g.1.f + g.1.n, x.1.f + x.1.n - (g.1.f + g.1.n), -1⟩) p2 (by simp; omega) (by simp only; omega) (by simp only; omega) (by simp; omega)
      rw [hstep, hov]
      simp only [List.append_assoc] at p3 ⊢
      have := with_fw g h4 p3 (by simp; omega) (by omega) hgn hfree' (by omega) (by omega)
      simpa [List.append_assoc] using this
end Go.Proofs.YtikkfapgmbamlaaGreatDoor.Pt
end
section
/- The document's own table: New, Who, Free, Of. -/
namespace Go.Proofs.YtikkfapgmbamlaaGreatDoor.Pt
open Go.RowKit Ut
set_option linter.unusedVariables false

/-- block br is the document's table: whose the places are -/
def RefAt (W : World) (br : Nat) (L : List Int) : Prop := ∃ v, W.heap[br]? = some (.cells #[v] 121 (0, 0)) ∧ W.ownsRow 0 3 1 v L.length (L.map (Value.int .i64))

theorem RefAt.form {W : World} {br : Nat} {L : List Int} (h : RefAt W br L) : ∃ a cap, W.cell? ⟨br, 0, none⟩ = some (.slice a L.length cap) ∧ W.frozen? ⟨br, 0, none⟩ = false ∧ br < W.heap.size ∧ L.length ≤ cap ∧ cap ≤ 9223372036854775807 ∧ RowK .i64 W W.heap.size a L.length L ∧ W.heap[br]? = some (.cells #[.slice a L.length cap] 121 (0, 0)) ∧ W.ownsRow 0 3 1 (.slice a L.length cap) L.length (L.map (Value.int .i64)) := by
  obtain ⟨v, h1, h2⟩ := h
  obtain ⟨a, cap, rfl, h3, h4, h5⟩ := RowK.of_own h2
  exact ⟨a, cap, by simp [World.cell?, h1], by simp [World.frozen?, h1], (Array.getElem?_eq_some_iff.1 h1).1, h3, h4, h5, h1, h2⟩
theorem RefAt.kept {W W' : World} {br : Nat} {L : List Int} {row : Option Nat} (h : RefAt W br L) (hg : W.grownBy W' row) (hr : ∀ q, row = some q → ∃ c t f, W.heap[q]? = some (.cells c t f) ∧ t ≠ 121 ∧ t ≠ 3) : RefAt W' br L := by
  obtain ⟨v, h1, h2⟩ := h
  refine ⟨v, (hg.block br (Array.getElem?_eq_some_iff.1 h1).1 fun e => ?_).trans h1, World.ownsRow.kept h2 hg ?_⟩
  · obtain ⟨c, t, f, hq, ht, _⟩ := hr br e.symm
    rw [h1] at hq
    injection hq with hq
    injection hq with _ hq
    exact ht hq.symm
  · rcases h2.2 with ⟨rfl, _⟩ | ⟨g, cap, cur, rfl, _, hgb, _⟩
    · exact .inl rfl
    · refine .inr fun e => ?_
      obtain ⟨c, t, f, hq, _, ht⟩ := hr g (by simpa [Value.ownBlock] using e.symm)
      rw [hgb] at hq
      injection hq with hq
      injection hq with _ hq
      exact ht hq.symm
theorem RefAt.below {W W' : World} {br : Nat} {L : List Int} (h : RefAt W br L) (hb : Below W.heap.size W W') : RefAt W' br L :=
  h.kept (row := none) ⟨hb.os, hb.tape, hb.output, hb.size, fun q hq _ => hb.block q hq⟩ (fun q e => by cases e)

def whoRB (i : Int) (L : List Int) : Bool := decide (0 ≤ i) && decide (i < L.length) && decide (0 ≤ L.getD i.toNat 0)
def whoRW (i : Int) (L : List Int) : Int := if whoRB i L then L.getD i.toNat 0 else 0

/-- how many are below nought -/
def cntNeg (L : List Int) : Int := (L.filter fun o => decide (o < 0)).length
theorem cntNeg_take (L : List Int) (k : Nat) (hk : k < L.length) : cntNeg (L.take (k + 1)) = cntNeg (L.take k) + if L.getD k 0 < 0 then 1 else 0 := by
  rw [List.take_succ_eq_append_getElem hk]
  unfold cntNeg
  rw [List.filter_append, List.length_append]
  have e : L.getD k 0 = L[k] := by simp [List.getD, hk]
  rw [e]
  by_cases h : L[k] < 0 <;> simp [h]
theorem cntNeg_bd (L : List Int) : 0 ≤ cntNeg L ∧ cntNeg L ≤ L.length := by
  unfold cntNeg
  exact ⟨by omega, by have := List.length_filter_le (fun o => decide (o < 0)) L; omega⟩

end Go.Proofs.YtikkfapgmbamlaaGreatDoor.Pt
end
section
/- The document's own table: Of, New. -/
namespace Go.Proofs.YtikkfapgmbamlaaGreatDoor.Pt
open Go.RowKit Ut
set_option linter.unusedVariables false

/-- who's places, as the document's loop finds them -/
def plR (who : Int) (L : List Int) : List Int := if 0 ≤ who then placesFrom who 0 L else []
theorem plR_take (who : Int) (L : List Int) (k : Nat) (hk : k < L.length) : plR who (L.take (k + 1)) = plR who (L.take k) ++ if L.getD k 0 = who ∧ 0 ≤ who then [(k : Int)] else [] := by
  rw [List.take_succ_eq_append_getElem hk]
  have e : L.getD k 0 = L[k] := by simp [List.getD, hk]
  have hl : (L.take k).length = k := by simp; omega
  unfold plR
  by_cases h0 : 0 ≤ who
  · rw [if_pos h0, if_pos h0, placesFrom_append, Nat.zero_add, hl, e]
    by_cases h1 : L[k] = who <;> simp [placesFrom, h1, h0]
  · rw [if_neg h0, if_neg h0, if_neg (by omega)]; rfl
theorem plR_length (who : Int) (L : List Int) : (plR who L).length ≤ L.length := by
  unfold plR
  split
  · suffices h : ∀ (A : List Int) (k : Nat), (placesFrom who k A).length ≤ A.length from h L 0
    intro A
    induction A with
    | nil => intro k; simp [placesFrom]
    | cons o A ih =>
      intro k
      have := ih (k + 1)
      simp only [placesFrom, List.length_append, List.length_cons]
      split <;> simp <;> omega
  · simp

theorem refNew_no (n : Int) (w : World) (h : n < 0 ∨ 64 < n) :
    Calls Tryz.prog 59 #[.int .i64 n] w fun e W' => e = .returned (.tuple #[.pointer none, .int .i64 1]) ∧ w = W' := by
  by_cases h0 : n < 0
  · go_enter Tryz.func59, Tryz.ntmps59
    go_wp2_with fail
    go_ret2
    exact ⟨rfl, rfl⟩
  · have h1 : 64 < n := by omega
    go_enter Tryz.func59, Tryz.ntmps59
    go_wp2_with fail
    go_ret2
    exact ⟨rfl, rfl⟩

set_option maxRecDepth 100000 in
theorem refNew_yes (n : Nat) (w : World) (h1 : n ≤ 64) :
    Calls Tryz.prog 59 #[.int .i64 n] w fun e W' => e = .returned (.tuple #[.pointer (some ⟨w.heap.size, 0, none⟩), .int .i64 0]) ∧ RefAt W' w.heap.size (List.replicate n (-1)) ∧ Below w.heap.size w W' := by
  have h0 : (0 : Int) ≤ (n : Int) := by omega
  have h1' : (n : Int) ≤ 64 := by omega
  obtain ⟨i0, hi, hz0, hz1, hz2⟩ := info_parts A.info3
  have HI := Lib.hid hi
  clear hi
  have bB := Boxed.new w 121 (.slice none 0 0)
  have hB0 := (Below.refl w.heap.size w).alloc (Nat.le_refl _) (.cells #[.slice none 0 0] 121)
  go_enter Tryz.func59, Tryz.ntmps59
  go_wp2
  go_loopw [5] (fun i wr => ∃ (k : Nat) (v : Value), k ≤ n ∧ i = .int .i64 k ∧ Boxed wr w.heap.size 121 v ∧ wr.ownsRow w.heap.size 3 1 v k ((List.replicate k (-1 : Int)).map (Value.int .i64)) ∧ Below w.heap.size w wr) (fun i _ => n - (intOf i).toNat)
  case atStart => exact ⟨0, _, Nat.zero_le _, rfl, bB, World.ownsRow_nil _ _ _ _, hB0⟩
  case round =>
    obtain ⟨k, v, hk, rfl, hv, hrow, hb⟩ := hrel
    have hcv := hv.cell
    by_cases hlt : k < n
    · have h2' : (k : Int) < (n : Int) := by omega
      have hrep : (List.replicate (k + 1) (-1 : Int)).map (Value.int .i64) = (List.replicate k (-1 : Int)).map (Value.int .i64) ++ [.int .i64 (-1)] := by rw [List.replicate_succ', List.map_append]; rfl
      have HRp := Lib.hid hrep
      clear hrep bB hB0
      go_wp2_with (at_builtin; refine wpList_append_own _ rfl _ _ _ rfl w.heap.size 3 i0 _ 1 8 Tryz.underlying119 HI.out hz0 hz1 hz2 rfl (by decide) _ _ _ rfl (hrow.alloc _) ⟨wr.heap.size, 0, none⟩ 1 1 [.int .i64 (-1)] rfl rfl (cell_one_new _ _ _) (by simp [Value.oneCell']) (by unfold maxLen; omega) (by omega) (by have := hb.size; simp; omega) ?_; intro v' w1 hown' hgrow _; obtain ⟨g', cap', rfl⟩ := ownsRow_succ hown'; obtain ⟨hv1, hv2, hr2, hk2, hb2⟩ := hv.appended (by decide) hrow hb.size (Nat.le_refl _) hown' hgrow; have hc1 := hv1.cell; have hf1 := hv1.frozen)
      go_roundw
      case rel => exact ⟨k + 1, _, by omega, by go_num, hv2, by rw [HRp.out]; exact hr2, hb.trans hb2⟩
      case measure => simp [intOf]; omega
    · have hkn : k = n := by omega
      subst hkn
      have h2' : ¬ (k : Int) < (k : Int) := by omega
      have HR := Lib.hid hrow
      clear hrow bB hB0
      go_wp2
      go_ret2
      refine ⟨rfl, ⟨v, hv, ?_⟩, hb⟩
      have ho := HR.out
      rw [List.length_replicate]
      rcases ho.2 with h | ⟨q, cap', cur, e1, e2, e3⟩
      · exact ⟨ho.1, .inl h⟩
      · exact ⟨ho.1, .inr ⟨q, cap', cur, e1, Nat.zero_le _, e3⟩⟩
end Go.Proofs.YtikkfapgmbamlaaGreatDoor.Pt
end
section
/- The document's own table: Give. -/
namespace Go.Proofs.YtikkfapgmbamlaaGreatDoor.Pt
open Go.RowKit Ut
set_option linter.unusedVariables false

def refBad (f n who : Int) (L : List Int) : Prop := f < 0 ∨ n < 1 ∨ (L.length : Int) < f ∨ (L.length : Int) - f < n ∨ who < 0 ∨ 64 ≤ who

theorem refGive_arg (br : Nat) (f n who : Int) (L : List Int) (w : World) (hR : RefAt w br L) (hl : L.length ≤ 1000) (hbad : refBad f n who L) :
    Calls Tryz.prog 60 #[.pointer (some ⟨br, 0, none⟩), .int .i64 f, .int .i64 n, .int .i64 who] w fun e W' => e = .returned (.int .i64 1) ∧ w = W' := by
  obtain ⟨a, cap, hc, _, hbr, hn, hcap, hrow, _, _⟩ := hR.form
  unfold refBad at hbad
  obtain ⟨m, hlm⟩ : ∃ m, m = L.length := ⟨_, rfl⟩
  rw [← hlm] at hc hn hbad hl
  clear hlm hrow hR
  by_cases h1 : f < 0
  · go_enter Tryz.func60, Tryz.ntmps60
    go_wp2
    go_ret
    exact ⟨rfl, rfl⟩
  · by_cases h2 : n < 1
    · go_enter Tryz.func60, Tryz.ntmps60
      go_wp2
      go_ret
      exact ⟨rfl, rfl⟩
    · by_cases h3 : (m : Int) < f
      · go_enter Tryz.func60, Tryz.ntmps60
        go_wp2
        go_ret
        exact ⟨rfl, rfl⟩
      · by_cases h4 : (m : Int) - f < n
        · go_enter Tryz.func60, Tryz.ntmps60
          go_wp2
          go_ret
          exact ⟨rfl, rfl⟩
        · by_cases h5 : who < 0
          · go_enter Tryz.func60, Tryz.ntmps60
            go_wp2
            go_ret
            exact ⟨rfl, rfl⟩
          · have h6 : 64 ≤ who := by omega
            go_enter Tryz.func60, Tryz.ntmps60
            go_wp2
            go_ret
            exact ⟨rfl, rfl⟩

set_option maxRecDepth 100000 in
theorem refGive_used (br F N : Nat) (who : Int) (L : List Int) (w : World) (hR : RefAt w br L) (hl : L.length ≤ 1000) (hN : 1 ≤ N) (hFN : F + N ≤ L.length) (hw0 : 0 ≤ who) (hw1 : who < 64) (hu : ∃ j, j < N ∧ 0 ≤ L.getD (F + j) 0) :
    Calls Tryz.prog 60 #[.pointer (some ⟨br, 0, none⟩), .int .i64 F, .int .i64 N, .int .i64 who] w fun e W' => e = .returned (.int .i64 5) ∧ w = W' := by
  obtain ⟨a, cap, hc, _, hbr, hn, hcap, hrow, _, _⟩ := hR.form
  obtain ⟨m, hlm⟩ : ∃ m, m = L.length := ⟨_, rfl⟩
  rw [← hlm] at hc hn hFN hl hrow
  have HRo := Lib.hid hrow
  have HU := Lib.hid hu
  clear hlm hrow hR hu
  have h1 : ¬ (F : Int) < 0 := by omega
  have h2 : ¬ (N : Int) < 1 := by omega
  have h3 : ¬ (m : Int) < (F : Int) := by omega
  have h4 : ¬ (m : Int) - (F : Int) < (N : Int) := by omega
  go_enter Tryz.func60, Tryz.ntmps60
  go_wp2
  go_loop [9] (fun i => ∃ k : Nat, k ≤ N ∧ i = .int .i64 k ∧ Hid (∀ j, j < k → L.getD (F + j) 0 < 0)) (fun i => N - (intOf i).toNat)
  case atStart => exact ⟨0, Nat.zero_le _, rfl, fun j hj => absurd hj (by omega)⟩
  case round =>
    obtain ⟨k, hk, rfl, hall⟩ := hrel
    by_cases hlt : k < N
    · obtain ⟨x, rfl, _, hx⟩ := HRo.out.2 (F + k) (by omega)
      have b0 : (0 : Int) ≤ (F : Int) + (k : Int) := by omega
      have b1 : (F : Int) + (k : Int) < (m : Int) := by omega
      have b2 : (k : Int) < (N : Int) := by omega
      obtain ⟨u, hu⟩ : ∃ u, u = L.getD (F + k) 0 := ⟨_, rfl⟩
      rw [← hu] at hx
      have HU2 := Lib.hid hu
      clear hu
      by_cases h5 : 0 ≤ u
      · go_wp2
        go_ret
        exact ⟨rfl, rfl⟩
      · go_wp2
        go_round
        case rel =>
          refine ⟨k + 1, by omega, by go_num, fun j hj => ?_⟩
          by_cases e : j = k
          · subst e; rw [← HU2.out]; omega
          · exact hall.out j (by omega)
        case measure => simp [intOf]; omega
    · exfalso
      obtain ⟨j, hj, hj2⟩ := HU.out
      have := hall.out j (by omega)
      omega

/-- L with n places from F on made who's -/
def setR (L : List Int) (F k : Nat) (who : Int) : List Int := L.take F ++ List.replicate k who ++ L.drop (F + k)
theorem setR_length (L : List Int) (F k : Nat) (who : Int) (h : F + k ≤ L.length) : (setR L F k who).length = L.length := by simp [setR]; omega
theorem setR_succ (L : List Int) (F k : Nat) (who : Int) (h : F + k < L.length) : (setR L F k who).set (F + k) who = setR L F (k + 1) who := by
  unfold setR
  have hl : (L.take F ++ List.replicate k who).length = F + k := by simp; omega
  rw [List.set_append_right _ _ (by omega), hl, Nat.sub_self, List.drop_eq_getElem_cons h, List.set_cons_zero, List.replicate_succ', List.append_assoc, List.append_assoc, List.append_assoc]
  rfl

set_option maxRecDepth 100000 in
set_option maxHeartbeats 2000000 in
theorem refGive_ok (br F N : Nat) (who : Int) (L : List Int) (w : World) (hR : RefAt w br L) (hl : L.length ≤ 1000) (hN : 1 ≤ N) (hFN : F + N ≤ L.length) (hw0 : 0 ≤ who) (hw1 : who < 64) (hu : ∀ j, j < N → L.getD (F + j) 0 < 0) :
    Calls Tryz.prog 60 #[.pointer (some ⟨br, 0, none⟩), .int .i64 F, .int .i64 N, .int .i64 who] w fun e W' => e = .returned (.int .i64 0) ∧ RefAt W' br (setR L F N who) ∧ w.grownBy W' (some br) := by
  obtain ⟨a, cap, hc, hfr, hbr, hn, hcap, hrow, hheap, _⟩ := hR.form
  obtain ⟨m, hlm⟩ : ∃ m, m = L.length := ⟨_, rfl⟩
  rw [← hlm] at hc hn hFN hl hrow hheap
  have HRo := Lib.hid hrow
  have HU := Lib.hid hu
  have HH := Lib.hid hheap
  have HL := Lib.hid hlm
  clear hlm hrow hR hu hheap
  have h1 : ¬ (F : Int) < 0 := by omega
  have h2 : ¬ (N : Int) < 1 := by omega
  have h3 : ¬ (m : Int) < (F : Int) := by omega
  have h4 : ¬ (m : Int) - (F : Int) < (N : Int) := by omega
  go_enter Tryz.func60, Tryz.ntmps60
  go_wp2
  go_loop [9] (fun i => ∃ k : Nat, k ≤ N ∧ i = .int .i64 k) (fun i => N - (intOf i).toNat)
  case atStart => exact ⟨0, Nat.zero_le _, rfl⟩
  case round =>
    obtain ⟨k, hk, rfl⟩ := hrel
    by_cases hlt : k < N
    · obtain ⟨x, rfl, _, hx⟩ := HRo.out.2 (F + k) (by omega)
      have b0 : (0 : Int) ≤ (F : Int) + (k : Int) := by omega
      have b1 : (F : Int) + (k : Int) < (m : Int) := by omega
      have b2 : (k : Int) < (N : Int) := by omega
      have h5 := HU.out k hlt
      obtain ⟨u, hu⟩ : ∃ u, u = L.getD (F + k) 0 := ⟨_, rfl⟩
      rw [← hu] at hx h5
      clear hu
      have h6 : ¬ 0 ≤ u := by omega
      go_wp2
      go_round
      case rel => exact ⟨k + 1, by omega, by go_num⟩
      case measure => simp [intOf]; omega
    · have hkN : k = N := by omega
      subst hkN
      have b2 : ¬ (k : Int) < (k : Int) := by omega
      have hmade := OwnI.made .i64 w w.heap.size 3 (Nat.le_refl _)
      have HMd := Lib.hid hmade
      have hrow2 := HRo.out.below ((Below.refl w.heap.size w).alloc (Nat.le_refl _) (.cells #[] 3))
      have HR2 := Lib.hid hrow2
      clear hmade hrow2
      go_wp2_with (at_builtin; refine wpList_append_ints rfl _ _ _ rfl .i64 w.heap.size 3 8 Tryz.underlying119 A.info3 _ 0 [] rfl HMd.out _ a m cap L rfl HR2.out (by unfold maxLen; omega) (by omega) (by simp) ?_; intro v1 w1 ho1 hb1 _; obtain ⟨g1, c1, rfl, hg1, hg2, hg3, hg4⟩ := OwnI.form ho1.out (by omega))
      have hba : Below w.heap.size w w1 := ((Below.refl w.heap.size w).alloc (Nat.le_refl _) (.cells #[] 3)).trans hb1
      have hoS : OwnI .i64 w1 w.heap.size 3 (.slice (some ⟨g1, 0, none⟩) (0 + m) c1) m (setR L F 0 who) := by
        have h := ho1.out
        rw [List.nil_append] at h
        have e : setR L F 0 who = L := by unfold setR; simp
        rw [e]
        simpa using h
      rw [Nat.zero_add] at hoS hg3
      have HS0 := Lib.hid hoS
      unfold maxLen at hg4
      clear hoS ho1
      go_loopw [11] (fun i wr => ∃ q : Nat, q ≤ k ∧ i = .int .i64 q ∧ OwnI .i64 wr w.heap.size 3 (.slice (some ⟨g1, 0, none⟩) m c1) m (setR L F q who) ∧ Below w.heap.size w wr) (fun i _ => k - (intOf i).toNat)
      case atStart => exact ⟨0, Nat.zero_le _, rfl, HS0.out, hba⟩
      case round =>
        obtain ⟨q, hq, rfl, ho, hb⟩ := hrel
        have HO := Lib.hid ho
        clear ho
        by_cases hlt2 : q < k
        · have cc := HO.out.cellAt (F + q) (by omega)
          have ff := HO.out.frozenAt (F + q)
          have hst := HO.out.store (F + q) who
          have hsu := setR_succ L F q who (by have := HL.out; omega)
          rw [hsu] at hst
          have HSt := Lib.hid hst
          have b3 : (0 : Int) ≤ (F : Int) + (q : Int) := by omega
          have b4 : (F : Int) + (q : Int) < (m : Int) := by omega
          have b5 : (q : Int) < (k : Int) := by omega
          clear hst hsu
          go_wp2
          go_roundw
          case rel => exact ⟨q + 1, by omega, by go_num, HSt.out, hb.setCell (p := ⟨g1, F + q, none⟩) hg1 _⟩
          case measure => simp [intOf]; omega
        · have hqk : q = k := by omega
          subst hqk
          have b5 : ¬ (q : Int) < (q : Int) := by omega
          have hH2 := (hb.block br hbr).trans HH.out
          have d1 : wr.cell? ⟨br, 0, none⟩ = some (.slice a m cap) := by simp [World.cell?, hH2]
          have d2 : wr.frozen? ⟨br, 0, none⟩ = false := by simp [World.frozen?, hH2]
          have HH2 := Lib.hid hH2
          clear hH2 hc hfr
          go_wp2
          go_ret
          refine ⟨rfl, ⟨_, heap_set HH2.out 0 _, ?_⟩, grownBy_trans (grownBy_of_below _ hb) (grownBy_setCell' _ _ _)⟩
          have hne : some br ≠ (Value.slice (some ⟨g1, 0, none⟩) m c1).ownBlock := by
            simp only [Value.ownBlock, ne_eq, Option.some.injEq]
            omega
          have ho2 := World.ownsRow.kept HO.out (grownBy_setCell' wr br (.slice (some ⟨g1, 0, none⟩) m c1)) (.inr hne.symm)
          rw [setR_length _ _ _ _ (by have := HL.out; omega), ← HL.out]
          exact ownsRow_less ho2 (Nat.zero_le _)
end Go.Proofs.YtikkfapgmbamlaaGreatDoor.Pt
end
