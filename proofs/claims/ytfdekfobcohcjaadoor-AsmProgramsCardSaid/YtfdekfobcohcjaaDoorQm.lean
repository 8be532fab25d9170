/- Plain facts of words and numerals of any size: words joined and cut, the decimal digits of a number and the number of digits, 32 bits' numerals. -/
import Derived.Test.YtfdekfobcohcjaaDoorEm
import Derived.Lib.ParseIntB
namespace Go.Proofs.YtfdekfobcohcjaaDoor.Pl
open Go.Lib

theorem words_back2 {l : List UInt8} {w : List UInt8} {ws : List (List UInt8)} (h : wordsL l = some (w :: ws)) : l = w ++ (ws.map (32 :: ·)).flatten := by
  unfold wordsL at h
  split at h
  · cases h
  · injection h with h
    have hj := cutL_join 32 l
    have key : ∀ (ps : List (List UInt8)) (q : List UInt8) (w : List UInt8) (ws : List (List UInt8)), ps ++ [q] = w :: ws → (ps.map (· ++ [32])).flatten ++ q = w ++ (ws.map (32 :: ·)).flatten := by
      intro ps
      induction ps with
      | nil => intro q w ws h; simp at h; obtain ⟨rfl, rfl⟩ := h; simp
      | cons p ps ih =>
        intro q w ws h
        simp only [List.cons_append] at h
        injection h with e1 e2
        subst e1
        cases ws with
        | nil => simp at e2
        | cons x xs =>
          have := ih q x xs e2
          simp only [List.map_cons, List.flatten_cons, List.append_assoc, List.cons_append, List.nil_append] at this ⊢
          rw [this]
    rw [hj]
    exact key _ _ _ _ h
theorem words_of2 (w : List UInt8) (ws : List (List UInt8)) (h : ∀ x ∈ w :: ws, 32 ∉ x ∧ x ≠ []) : wordsL (w ++ (ws.map (32 :: ·)).flatten) = some (w :: ws) := by
  have key : ∀ (w : List UInt8) (ws : List (List UInt8)), (∀ x ∈ w :: ws, 32 ∉ x) → ∃ ps q, ps ++ [q] = w :: ws ∧ cutL 32 (w ++ (ws.map (32 :: ·)).flatten) = (ps, q) := by
    intro w ws hx
    have hne : (w :: ws) ≠ [] := by simp
    refine ⟨(w :: ws).dropLast, (w :: ws).getLast hne, List.dropLast_concat_getLast hne, ?_⟩
    have e : ∀ (ws : List (List UInt8)) (w : List UInt8), w ++ (ws.map (32 :: ·)).flatten = (((w :: ws).dropLast).map (· ++ [32])).flatten ++ (w :: ws).getLast (by simp) := by
      intro ws
      induction ws with
      | nil => intro w; simp
      | cons x xs ih =>
        intro w
        have := ih x
        simp only [List.map_cons, List.flatten_cons, List.dropLast_cons_cons, List.append_assoc, List.cons_append, List.nil_append] at this ⊢
        rw [this]
        simp
    rw [e ws w]
    exact cutL_of 32 _ _ (fun p hp => hx p (List.dropLast_subset _ hp)) (hx _ (List.getLast_mem hne))
  obtain ⟨ps, q, e1, e2⟩ := key w ws fun x hx => (h x hx).1
  unfold wordsL
  rw [e2]
  simp only [e1]
  rw [if_neg fun hm => (h _ hm).2 rfl]
theorem wordsL_ne2 {l : List UInt8} {ws : List (List UInt8)} (h : wordsL l = some ws) : ∃ x xs, ws = x :: xs := by
  unfold wordsL at h
  split at h
  · cases h
  · injection h with h
    cases ws with
    | nil => simp at h
    | cons x xs => exact ⟨x, xs, rfl⟩
theorem wordsL_mem {l : List UInt8} {ws : List (List UInt8)} (h : wordsL l = some ws) : [] ∉ ws := by
  unfold wordsL at h
  split at h
  · cases h
  · rename_i h2
    injection h with h
    rw [← h]; exact h2

/-! ### decimal digits -/
theorem dec_low (u : Nat) (h : u < 10) : decDigits u = [UInt8.ofNat (48 + u)] := by rw [decDigits, dif_pos h]
theorem dec_high (u : Nat) (h : ¬ u < 10) : decDigits u = decDigits (u / 10) ++ [UInt8.ofNat (48 + u % 10)] := by rw [decDigits, dif_neg h]
theorem dig_of (k : Nat) (h : k < 10) : isDig (UInt8.ofNat (48 + k)) = true ∧ (UInt8.ofNat (48 + k)).toNat - 48 = k := by
  have e : (UInt8.ofNat (48 + k)).toNat = 48 + k := by simp; omega
  refine ⟨?_, by omega⟩
  rw [isDig_iff, e]; omega
theorem dec_dig (u : Nat) : (decDigits u).all isDig = true := by
  induction u using Nat.strongRecOn with
  | _ u ih =>
    by_cases h : u < 10
    · rw [dec_low u h, List.all_cons, (dig_of u h).1]; rfl
    · rw [dec_high u h, List.all_append, ih (u / 10) (by omega), List.all_cons, (dig_of (u % 10) (by omega)).1]; rfl
theorem dec_val (u : Nat) : valD (decDigits u) = u := by
  induction u using Nat.strongRecOn with
  | _ u ih =>
    by_cases h : u < 10
    · rw [dec_low u h]
      show digN 0 _ = u
      unfold digN
      rw [(dig_of u h).2]; omega
    · rw [dec_high u h, valD_snoc, ih (u / 10) (by omega), (dig_of (u % 10) (by omega)).2]; omega
theorem dec_ne (u : Nat) : decDigits u ≠ [] := by
  by_cases h : u < 10
  · rw [dec_low u h]; simp
  · rw [dec_high u h]; simp
theorem dec_head (u : Nat) : ¬ ((decDigits u).getD 0 0 = 48 ∧ 1 < (decDigits u).length) := by
  induction u using Nat.strongRecOn with
  | _ u ih =>
    by_cases h : u < 10
    · rw [dec_low u h]; simp
    · have e : (decDigits u).getD 0 0 = (decDigits (u / 10)).getD 0 0 := by
        rw [dec_high u h]
        have := dec_ne (u / 10)
        cases hd : decDigits (u / 10) with
        | nil => exact absurd hd this
        | cons x r => rfl
      rintro ⟨h1, h2⟩
      rw [e] at h1
      by_cases h3 : u / 10 < 10
      · rw [dec_low _ h3] at h1
        simp at h1
        have : (UInt8.ofNat (48 + u / 10)).toNat = 48 := by rw [show 48 = (48 : UInt8).toNat from rfl]; exact congrArg _ (by simpa using h1)
        simp at this
        omega
      · refine ih (u / 10) (by omega) ⟨h1, ?_⟩
        rw [dec_high _ h3]
        have := List.length_pos_iff.2 (dec_ne (u / 10 / 10))
        simp; omega
theorem dec_len : ∀ (k u : Nat), u < 10 ^ (k + 1) → (decDigits u).length ≤ k + 1
  | 0, u, h => by rw [dec_low u (by simpa using h)]; simp
  | k + 1, u, h => by
    by_cases h10 : u < 10
    · rw [dec_low u h10]; simp
    · rw [dec_high u h10, List.length_append]
      have := dec_len k (u / 10) (by rw [Nat.pow_succ] at h; omega)
      simp; omega
theorem dec_mem (u : Nat) (b : UInt8) (h : b ∈ decDigits u) : 48 ≤ b.toNat ∧ b.toNat ≤ 57 := (isDig_iff b).1 (List.all_eq_true.1 (dec_dig u) b h)
theorem dec_no (u : Nat) (b : UInt8) (h : b.toNat < 48 ∨ 57 < b.toNat) : b ∉ decDigits u := fun hm => by
  have := dec_mem u b hm; omega
theorem num_dec (u : Nat) (h : u < 1000000000) : numL (decDigits u) = some u := by
  unfold numL
  rw [if_neg, dec_val]
  rintro (h1 | h1 | h1 | h1)
  · exact dec_ne u h1
  · have := dec_len 8 u h; omega
  · exact dec_head u h1
  · rw [dec_dig u] at h1; cases h1
/-- a number of 32 bits and no needless zeros -/
def bigL (t : List UInt8) : Option Nat := if t = [] ∨ 10 < t.length ∨ (t.getD 0 0 = 48 ∧ 1 < t.length) ∨ t.all isDig = false ∨ 4294967296 ≤ valD t then none else some (valD t)
theorem big_dec (u : Nat) (h : u < 4294967296) : bigL (decDigits u) = some u := by
  unfold bigL
  rw [if_neg, dec_val]
  rintro (h1 | h1 | h1 | h1 | h1)
  · exact dec_ne u h1
  · have := dec_len 9 u (by omega); omega
  · exact dec_head u h1
  · rw [dec_dig u] at h1; cases h1
  · rw [dec_val] at h1; omega
theorem big_lt {t : List UInt8} {n : Nat} (h : bigL t = some n) : n < 4294967296 := by
  unfold bigL at h
  split at h
  · cases h
  · rename_i hc
    injection h with h
    subst h
    exact Nat.lt_of_not_le fun h => hc (.inr (.inr (.inr (.inr h))))
theorem digN_ge (a : Nat) (b : UInt8) : a ≤ digN a b := by unfold digN; omega
theorem foldN_ge : ∀ (t : List UInt8) (a : Nat), a ≤ t.foldl digN a
  | [], a => Nat.le_refl a
  | b :: t, a => Nat.le_trans (digN_ge a b) (foldN_ge t (digN a b))
theorem parseM_ok : ∀ (t : List UInt8) (acc n : Nat), acc ≤ 4294967295 → (parseUintM 4294967295 acc t = .ok n ↔ t.all isDig = true ∧ t.foldl digN acc = n ∧ n ≤ 4294967295)
  | [], acc, n, h => by
    simp only [parseUintM, List.all_nil, List.foldl_nil, true_and]
    constructor
    · intro h2; injection h2 with h2; omega
    · rintro ⟨rfl, _⟩; rfl
  | c :: r, acc, n, h => by
    unfold parseUintM
    have hd : digN acc c = acc * 10 + (c.toNat - 48) := by unfold digN; omega
    by_cases h1 : 48 ≤ c.toNat ∧ c.toNat ≤ 57
    · rw [if_pos h1, if_neg (by omega)]
      have hg : isDig c = true := (isDig_iff c).2 h1
      split
      · rename_i h2
        constructor
        · intro h3; cases h3
        · rintro ⟨_, h3, h4⟩
          rw [List.foldl_cons, hd] at h3
          have := foldN_ge r (acc * 10 + (c.toNat - 48))
          omega
      · rename_i h2
        rw [parseM_ok r _ n (by omega), List.all_cons, hg, List.foldl_cons, hd]
        simp
    · rw [if_neg h1]
      have hg : isDig c = false := by
        cases hx : isDig c with
        | false => rfl
        | true => exact absurd ((isDig_iff c).1 hx) h1
      constructor
      · intro h3; cases h3
      · rintro ⟨h3, _⟩
        rw [List.all_cons, hg] at h3; cases h3
theorem parse32_ok (t : List UInt8) (n : Nat) : parseUintB 32 t = .ok n ↔ t ≠ [] ∧ t.all isDig = true ∧ valD t = n ∧ n ≤ 4294967295 := by
  unfold parseUintB
  by_cases h : t = []
  · rw [if_pos h]
    constructor
    · intro h2; cases h2
    · rintro ⟨h2, _⟩; exact absurd h h2
  · rw [if_neg h]
    have := parseM_ok t 0 n (by omega)
    show parseUintM 4294967295 0 t = .ok n ↔ _
    rw [this]
    exact ⟨fun h2 => ⟨h, h2⟩, fun h2 => h2.2⟩
/-- what is read and printed as it stands: just the numbers without needless zeros -/
theorem big_iff (t : List UInt8) (n : Nat) : bigL t = some n ↔ parseUintB 32 t = .ok n ∧ decDigits n = t := by
  rw [parse32_ok]
  constructor
  · intro h
    have hl := big_lt h
    unfold bigL at h
    split at h
    · cases h
    · rename_i hc
      injection h with h
      have h1 : t ≠ [] := fun e => hc (.inl e)
      have h2 : t.all isDig = true := by
        cases hx : t.all isDig with
        | true => rfl
        | false => exact absurd (.inr (.inr (.inr (.inl hx)))) hc
      refine ⟨⟨h1, h2, h, by omega⟩, ?_⟩
      rw [← h]
      exact valD_text t h1 h2 fun e => hc (.inr (.inr (.inl e)))
  · rintro ⟨⟨h1, h2, h3, h4⟩, h5⟩
    rw [← h5]
    exact big_dec n (by omega)
end Go.Proofs.YtfdekfobcohcjaaDoor.Pl
