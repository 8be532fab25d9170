/- Plain facts on what is left of whose: a list of the places that meet a test, as a heap keeps it; nothing of the program. -/
import Derived.Test.YthabilokbfieiaaHp
namespace Go.Proofs.Ythabilokbfieiaa.Hp
set_option linter.unusedVariables false

/-- the places below n that meet p -/
def those (p : Nat → Bool) (n : Nat) : List Int := ((List.range n).filter p).map Int.ofNat
theorem those_zero (p : Nat → Bool) : those p 0 = [] := rfl
theorem those_succ (p : Nat → Bool) (n : Nat) : those p (n + 1) = those p n ++ (if p n = true then [(n : Int)] else []) := by
  unfold those
  rw [List.range_succ, List.filter_append, List.map_append]
  congr 1
  by_cases h : p n = true
  · rw [if_pos h, List.filter_cons_of_pos h]; rfl
  · rw [if_neg h, List.filter_cons_of_neg h]; rfl
theorem those_congr {p q : Nat → Bool} (n : Nat) (h : ∀ k, k < n → p k = q k) : those p n = those q n := by
  induction n with
  | zero => rfl
  | succ n ih => rw [those_succ, those_succ, ih (fun k hk => h k (by omega)), h n (by omega)]
/-- one more meets it -/
theorem those_add (n f : Nat) (hf : f < n) (p q : Nat → Bool) (h1 : p f = false) (h2 : q f = true) (h3 : ∀ k, k ≠ f → q k = p k) : (those q n).Perm ((f : Int) :: those p n) := by
  induction n with
  | zero => omega
  | succ n ih =>
    rw [those_succ, those_succ]
    by_cases e : f = n
    · subst e
      rw [if_pos h2, h1, if_neg (by simp), List.append_nil, those_congr f (fun k hk => h3 k (by omega))]
      exact List.perm_append_comm (l₂ := [(f : Int)])
    · rw [h3 n (fun q => e q.symm)]
      exact (ih (by omega)).append_right _
theorem mem_those {p : Nat → Bool} {n : Nat} {y : Int} : y ∈ those p n ↔ ∃ k : Nat, y = k ∧ k < n ∧ p k = true := by
  unfold those
  rw [List.mem_map]
  constructor
  · rintro ⟨k, hk, rfl⟩
    rw [List.mem_filter, List.mem_range] at hk
    exact ⟨k, rfl, hk.1, hk.2⟩
  · rintro ⟨k, rfl, hk, hp⟩
    exact ⟨k, by rw [List.mem_filter, List.mem_range]; exact ⟨hk, hp⟩, rfl⟩
/-- how many meet it -/
def countN (p : Nat → Bool) : Nat → Nat
  | 0 => 0
  | k + 1 => countN p k + (if p k = true then 1 else 0)
theorem length_those (p : Nat → Bool) : ∀ n, (those p n).length = countN p n
  | 0 => rfl
  | n + 1 => by
    rw [those_succ, List.length_append, length_those p n, countN]
    congr 1
    split <;> rfl
/-- a heap of those: the first is the least of them; when it is out, the rest are a heap of those that are left -/
theorem pop_those {l : List Int} {p q : Nat → Bool} {n : Nat} (hl : 0 < l.length) (hh : HeapL l l.length) (hp : l.Perm (those p n)) :
    ∃ f : Nat, l.getD 0 0 = f ∧ f < n ∧ p f = true ∧ (∀ k, k < f → p k = false) ∧
      ∃ r, popL l = r ++ [(f : Int)] ∧ r.length + 1 = l.length ∧ HeapL r r.length ∧ (q f = false → (∀ k, k ≠ f → q k = p k) → r.Perm (those q n)) := by
  obtain ⟨r, hr1, hr2, hr3, hr4, hr5⟩ := pop_parts hl hh
  have hx : l.getD 0 0 ∈ l := hr4.mem_iff.1 List.mem_cons_self
  obtain ⟨f, hf1, hf2, hf3, hf4⟩ := least_of (l := l) (p := p) (n := n) (x := l.getD 0 0) (fun y => (hp.mem_iff).trans mem_those) hx hr5
  refine ⟨f, hf1, hf2, hf3, hf4, r, by rw [← hf1]; exact hr1, hr2, hr3, fun hq1 hq2 => ?_⟩
  have h1 : ((f : Int) :: r).Perm (those p n) := by rw [← hf1]; exact hr4.trans hp
  have h2 := those_add n f hf2 q p hq1 hf3 (fun k hk => (hq2 k hk).symm)
  exact (List.perm_cons (f : Int)).1 (h1.trans h2)
/-- one more goes in -/
theorem push_those {l : List Int} {p q : Nat → Bool} {n f : Nat} (hh : HeapL l l.length) (hp : l.Perm (those p n)) (hf : f < n) (h1 : p f = false) (h2 : q f = true) (h3 : ∀ k, k ≠ f → q k = p k) :
    (pushL l f).length = l.length + 1 ∧ HeapL (pushL l f) (pushL l f).length ∧ (pushL l f).Perm (those q n) := by
  obtain ⟨a, b, c⟩ := push_parts (f : Int) hh
  exact ⟨a, b, (c.trans (hp.cons _)).trans (those_add n f hf p q h1 h2 h3).symm⟩
theorem none_those {p : Nat → Bool} {n : Nat} (h : ∀ k, k < n → p k = false) : those p n = [] := by
  induction n with
  | zero => rfl
  | succ n ih => rw [those_succ, ih (fun k hk => h k (by omega)), h n (by omega)]; rfl
theorem empty_those {l : List Int} {p : Nat → Bool} {n : Nat} (hp : l.Perm (those p n)) (hl : l.length = 0) : ∀ k, k < n → p k = false := by
  intro k hk
  cases h : p k with
  | false => rfl
  | true =>
    have := hp.mem_iff.2 (mem_those.2 ⟨k, rfl, hk, h⟩)
    rw [List.length_eq_zero_iff.1 hl] at this
    cases this
end Go.Proofs.Ythabilokbfieiaa.Hp
