/- Package pool: plain facts on how many are left; what the walks of PoolScrub and PoolApart keep. -/
import Derived.Test.YthabilokbfieiaaKi
namespace Go.Proofs.Ythabilokbfieiaa.Lo
open Go.RowKit Ut Hp Fr Oc
set_option linter.unusedVariables false

theorem count_less {p q : Nat → Bool} {n f : Nat} (hf : f < n) (hp : p f = true) (hq : q f = false) (h : ∀ k, k ≠ f → q k = p k) : countN p n = countN q n + 1 := by
  have := (those_add n f hf q p hq hp (fun k hk => (h k hk).symm)).length_eq
  rw [length_those, List.length_cons, length_those] at this
  exact this
theorem count_none {p : Nat → Bool} {n : Nat} (h : countN p n = 0) : ∀ k, k < n → p k = false := empty_those (List.Perm.refl (those p n)) (by rw [length_those]; exact h)
theorem least_ex {p : Nat → Bool} : ∀ k, p k = true → ∃ f, f ≤ k ∧ p f = true ∧ ∀ j, j < f → p j = false := by
  intro k
  induction k using Nat.strongRecOn with
  | _ k ih =>
    intro hk
    by_cases h : ∃ j, j < k ∧ p j = true
    · obtain ⟨j, hj, hp⟩ := h
      obtain ⟨f, h1, h2, h3⟩ := ih j hj hp
      exact ⟨f, by omega, h2, h3⟩
    · refine ⟨k, Nat.le_refl _, hk, fun j hj => ?_⟩
      cases hp : p j with
      | false => rfl
      | true => exact absurd ⟨j, hj, hp⟩ h
theorem count_some {p : Nat → Bool} {n : Nat} (h : 0 < countN p n) : ∃ f, f < n ∧ p f = true ∧ ∀ k, k < f → p k = false := by
  rw [← length_those] at h
  obtain ⟨y, hy⟩ := List.exists_mem_of_length_pos h
  obtain ⟨k, _, hk, hp⟩ := mem_those.1 hy
  obtain ⟨f, h1, h2, h3⟩ := least_ex k hp
  exact ⟨f, by omega, h2, h3⟩
theorem count_le (p : Nat → Bool) (n : Nat) : countN p n ≤ n := by
  induction n with
  | zero => exact Nat.le_refl _
  | succ n ih => rw [countN]; split <;> omega
theorem count_all {p : Nat → Bool} {n : Nat} (h : ∀ k, k < n → p k = true) : countN p n = n := by
  induction n with
  | zero => rfl
  | succ n ih => rw [countN, ih (fun k hk => h k (by omega)), if_pos (h n (by omega))]

/-- just the frames below k are someone's, of one of four -/
def All (s : PS) (k : Nat) : Prop := (∀ f, s.ow f = true ↔ f < k) ∧ ∀ f, s.wh f < 4
theorem all_no : All noS 0 := ⟨fun f => by simp [noS], fun f => by simp [noS]⟩
theorem all_own {s : PS} {k q : Nat} (h : All s k) (hq : q < 4) : All (owS s k q) (k + 1) := by
  refine ⟨fun f => ?_, fun f => ?_⟩
  · by_cases e : f = k
    · subst e; simp [owS]
    · simp only [owS, e, if_false]
      rw [h.1]
      omega
  · by_cases e : f = k
    · subst e; simpa [owS] using hq
    · simpa [owS, e] using h.2 f
theorem all_tk {s : PS} {k f : Nat} {v : Bool} (h : All s k) : All (tkS s f v) k := h
theorem all_next {s : PS} {k : Nat} (h : All s k) : s.ow k = false := by
  cases ho : s.ow k with
  | false => rfl
  | true => exact absurd ((h.1 k).1 ho) (Nat.lt_irrefl k)
/-- none is taken -/
def NoT (s : PS) : Prop := ∀ f, s.tk f = false
theorem no_own {s : PS} {k q : Nat} (h : NoT s) : NoT (owS s k q) := fun f => by
  by_cases e : f = k
  · subst e; simp [owS]
  · simpa [owS, e] using h f

section
variable {W W' : World} {b pb B n : Nat} {k : IntKind} {e : TypeId} {v : Value} {xs : List Int}
/-- what the call owns beyond both blocks stays -/
theorem own_two (h : OwnI k W B e v n xs) (t : Two W W' b pb) (hb : b < B) (hp : pb < B) : OwnI k W' B e v n xs := by
  refine ⟨h.1, ?_⟩
  rcases h.2 with h0 | ⟨g, cap, cur, hv, hB, hg, hr⟩
  · exact .inl h0
  · exact .inr ⟨g, cap, cur, hv, hB, (t.other g (Array.getElem?_eq_some_iff.1 hg).1 (by omega) (by omega)).trans hg, hr⟩
theorem own_size (h : OwnI k W B e v n xs) (hn : 0 < n) : B < W.heap.size := by
  obtain ⟨g, _, _, h1, h2, _⟩ := h.form hn
  omega
end

theorem info_int : (Try.prog.info? 3).map (fun i => (i.zero, i.size, i.bytes)) = some (some (.int .i64 0), 1, 8) := by kernel_rfl
/-- one more number behind what the call owns: the literal's block, then the append -/
theorem own_more {W : World} {B : Nat} {v : Value} {xs : List Int} (x : Int) (h : OwnI .i64 W B 3 v xs.length xs) (hB : B ≤ W.heap.size) (hl : xs.length ≤ 1000) :
    ∃ v' W', (Builtin.append_ #[23, 23] 23 #[v, .slice (some ⟨W.heap.size, 0, none⟩) 1 1]).run Try.prog (W.alloc (.cells #[.int .i64 x] 3)) = .ok v' W' ∧ OwnI .i64 W' B 3 v' (xs ++ [x]).length (xs ++ [x]) ∧ Below B W W' := by
  obtain ⟨v', w', hrun, ho, hg, _, _⟩ := own_push (P := Try.prog) W B 23 23 3 (.int .i64 0) (.int .i64 x) 8 Try.underlying23 info_int rfl rfl v xs.length _ h hB (by unfold maxLen; omega) (by omega)
  refine ⟨v', w', hrun, ?_, (Below.refl _ _).grown hg hB fun q hq => (World.ownsRow.lt h q hq).1⟩
  unfold OwnI
  rw [List.map_append, List.length_append]
  exact ho
theorem PB.under {W W' : World} {b pb n : Nat} {s : PS} (h : PB W pb b n s) (t : Below (pb + 1) W W') : PB W' pb b n s := ⟨h.1.of_block (t.block pb (Nat.lt_succ_self pb)), h.2⟩
theorem PB.save {W W' : World} {b pb n : Nat} {s : PS} (h : PB W pb b n s) (hg : W.grownBy W' (some b)) (hne : b ≠ pb) : PB W' pb b n s := ⟨h.1.grown hg hne, h.2⟩
/-- a loop over w: those of partitions below w are taken, those of w and beyond are not; l holds what is taken -/
def Turn (s : PS) (n w : Nat) (xs : List Int) : Prop := All s n ∧ (∀ f, f < n → s.wh f < w → s.tk f = true) ∧ (∀ f, w ≤ s.wh f → s.tk f = false) ∧ xs.Perm (those s.tk n)
/-- the inner loop: i of w's have been taken, m - i are left -/
def Mid (s : PS) (n w r : Nat) (xs : List Int) : Prop := All s n ∧ (∀ f, f < n → s.wh f < w → s.tk f = true) ∧ (∀ f, w < s.wh f → s.tk f = false) ∧ countN (hit s w) n = r ∧ xs.Perm (those s.tk n)
theorem turn_start {s : PS} {n : Nat} (h : All s n) (hn : NoT s) : Turn s n 0 [] := by
  refine ⟨h, fun f _ hf => absurd hf (by omega), fun f _ => hn f, ?_⟩
  rw [none_those (fun k _ => hn k)]
theorem mid_start {s : PS} {n w : Nat} {xs : List Int} (h : Turn s n w xs) : Mid s n w (countN (hit s w) n) xs := ⟨h.1, h.2.1, fun f hf => h.2.2.1 f (by omega), rfl, h.2.2.2⟩
theorem mid_end {s : PS} {n w : Nat} {xs : List Int} (h : Mid s n w 0 xs) : (∀ k, k < n → hit s w k = false) ∧ Turn s n (w + 1) xs := by
  obtain ⟨h1, h2, h3, h4, h5⟩ := h
  have hz := count_none h4
  refine ⟨hz, h1, fun f hf hw => ?_, fun f hf => h3 f (by omega), h5⟩
  by_cases e : s.wh f < w
  · exact h2 f hf e
  · have e2 : s.wh f = w := by omega
    have := hz f hf
    have ho := (h1.1 f).2 hf
    cases ht : s.tk f with
    | true => rfl
    | false => simp [hit, ho, ht, e2] at this
theorem mid_step {s : PS} {n w r f : Nat} {xs : List Int} (h : Mid s n w (r + 1) xs) (hf : f < n) (hh : hit s w f = true) : Mid (tkS s f true) n w r (xs ++ [(f : Int)]) := by
  obtain ⟨h1, h2, h3, h4, h5⟩ := h
  have hh' : (s.ow f = true ∧ s.tk f = false) ∧ s.wh f = w := by simpa [hit] using hh
  refine ⟨h1, fun g hg hw => ?_, fun g hg => ?_, ?_, ?_⟩
  · by_cases e : g = f
    · subst e; simp [tkS]
    · simpa [tkS, e] using h2 g hg hw
  · by_cases e : g = f
    · subst e
      have : s.wh g = w := hh'.2
      have hg' : w < s.wh g := hg
      omega
    · simpa [tkS, e] using h3 g hg
  · have := count_less (q := hit (tkS s f true) w) hf hh (by simp [hit, tkS]) (fun k hk => by simp [hit, tkS, hk])
    omega
  · have := those_add n f hf s.tk (tkS s f true).tk hh'.1.2 (by simp [tkS]) (fun k hk => by simp [tkS, hk])
    exact (List.perm_append_comm.trans (h5.cons (f : Int))).trans this.symm
theorem turn_end {s : PS} {n : Nat} {xs : List Int} (h : Turn s n 4 xs) : xs.length = n ∧ xs.Perm (those s.tk n) := by
  refine ⟨?_, h.2.2.2⟩
  rw [h.2.2.2.length_eq, length_those]
  exact count_all fun k hk => h.2.1 k hk (h.1.2 k)

/-- the loop that gives back: all from the i-th on are still taken, and nothing else is -/
def Back' (s : PS) (n : Nat) (xs : List Int) : Prop := All s n ∧ (∀ f, s.tk f = true → f < n) ∧ xs.Perm (those s.tk n)
theorem back_step {s : PS} {n : Nat} {x : Int} {xs : List Int} (h : Back' s n (x :: xs)) : ∃ f : Nat, x = f ∧ f < n ∧ s.tk f = true ∧ Back' (tkS s f false) n xs := by
  obtain ⟨h1, h2, h3⟩ := h
  obtain ⟨f, rfl, hf, ht⟩ := mem_those.1 (h3.mem_iff.1 List.mem_cons_self)
  refine ⟨f, rfl, hf, ht, h1, fun g hg => ?_, ?_⟩
  · by_cases e : g = f
    · subst e; simp [tkS] at hg
    · exact h2 g (by simpa [tkS, e] using hg)
  · have := those_add n f hf (tkS s f false).tk s.tk (by simp [tkS]) ht (fun k hk => by simp [tkS, hk])
    exact (List.perm_cons (f : Int)).1 (h3.trans this)
theorem back_end {s : PS} {n : Nat} (h : Back' s n []) : NoT s := fun f => by
  cases ht : s.tk f with
  | false => rfl
  | true =>
    have := h.2.2.mem_iff.2 (mem_those.2 ⟨f, rfl, h.2.1 f ht, ht⟩)
    cases this
end Go.Proofs.Ythabilokbfieiaa.Lo
