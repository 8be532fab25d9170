/- Several texts in one: Cd -/
import Derived.Test.YtikkfapgmbamlaaGreatDoorZ20
import Derived.Deep.QuietTactic
import Derived.BigQuiet
section
/- The first of them; portOf, isWrongPort, isWrongRing. -/
namespace Go.Proofs.YtikkfapgmbamlaaGreatDoor.Cf
open Go.RowKit Ut
set_option maxRecDepth 100000
set_option linter.unusedVariables false

theorem firstI_some {n k : Nat} {p : Nat → Bool} (hk : k < n) (hp : p k = true) (hno : ∀ j, j < k → p j = false) : firstI n p = some k := by
  unfold firstI
  induction n with
  | zero => omega
  | succ n ih =>
    rw [List.range_succ, List.find?_append]
    rcases Nat.lt_or_ge k n with h | h
    · rw [ih h]; rfl
    · obtain rfl : k = n := by omega
      have : (List.range k).find? p = none := by
        rw [List.find?_eq_none]
        intro j hj
        rw [hno j (List.mem_range.1 hj)]
        simp
      rw [this]
      simp [hp]
theorem firstI_none {n : Nat} {p : Nat → Bool} (hno : ∀ j, j < n → p j = false) : firstI n p = none := by
  unfold firstI
  rw [List.find?_eq_none]
  intro j hj
  rw [hno j (List.mem_range.1 hj)]
  simp
theorem firstI_cases (n : Nat) (p : Nat → Bool) : (firstI n p = none ∧ ∀ j, j < n → p j = false) ∨ ∃ k, firstI n p = some k ∧ k < n ∧ p k = true ∧ ∀ j, j < k → p j = false := by
  cases h : firstI n p with
  | none =>
    refine .inl ⟨rfl, fun j hj => ?_⟩
    unfold firstI at h
    rw [List.find?_eq_none] at h
    have := h j (List.mem_range.2 hj)
    simpa using this
  | some k =>
    refine .inr ⟨k, rfl, ?_⟩
    unfold firstI at h
    rw [List.find?_range_eq_some] at h
    exact ⟨by have := h.2.1; simpa using this, h.1, fun j hj => by have := h.2.2 j hj; simpa using this⟩
theorem more_no {Q : Nat → Prop} {k : Nat} (h : ∀ j, j < k → ¬ Q j) (hk : ¬ Q k) : ∀ j, j < k + 1 → ¬ Q j := fun j hj => by
  by_cases e : j = k
  · rw [e]; exact hk
  · exact h j (by omega)
def atI (o : Option Nat) : Int := match o with
  | some k => k
  | none => -1

/-- the first of n ports that is g's -/
def portI (P : Nat → Nat → Int) (n : Nat) (g : Int) : Option Nat := firstI n fun k => decide (P k 1 = g)

theorem portOf1_any (l g' g : Int) (bg : Nat) (w : World) (hbg : bg < w.heap.size) (hg : w.cell? ⟨bg, 0, none⟩ = some (.int .i64 g)) :
    Calls Tryz.prog 82 #[.agg #[.int .i64 l, .int .i64 g'], .pointer (some ⟨bg, 0, none⟩)] w fun e w' => e = .returned (.bool (decide (g' = g))) ∧ Below w.heap.size w w' := by
  go_enter Tryz.func82, Tryz.ntmps82
  go_wp2
  go_ret
  exact ⟨rfl, (Below.refl _ _).alloc (Nat.le_refl _) _⟩

set_option maxRecDepth 100000 in
theorem indexPort_any (a : Option Addr) (n c B : Nat) (P : Nat → Nat → Int) (g : Int) (bg : Nat) (w : World) (hB : B ≤ w.heap.size) (h : RowT 2 w B a n P) (hn : n ≤ 140737488355328) (hbg : bg < w.heap.size) (hg : w.cell? ⟨bg, 0, none⟩ = some (.int .i64 g)) :
    Calls Tryz.prog 81 #[.slice a n c, .func (.func 82) #[] #[.pointer (some ⟨bg, 0, none⟩)]] w fun e w' => e = .returned (.int .i64 (atI (portI P n g))) ∧ Below w.heap.size w w' := by
  have H := Lib.hid h
  have HG := Lib.hid hg
  clear h hg
  go_enter Tryz.func81, Tryz.ntmps81
  go_wp2
  go_loopw [8] (fun i wr => ∃ k : Nat, k ≤ n ∧ i = .int .i64 k ∧ Hid (∀ j, j < k → ¬ P j 1 = g) ∧ Below w.heap.size w wr) (fun i _ => n - (intOf i).toNat)
  case atStart => exact ⟨0, Nat.zero_le _, rfl, fun j hj => absurd hj (by omega), Below.refl _ _⟩
  case round =>
    obtain ⟨k, hk, rfl, hno, hb⟩ := hrel
    by_cases hlt : k < n
    · obtain ⟨x, rfl, hx, c0, c1⟩ := (H.out.below (hb.mono hB)).at2 k hlt
      have b0 : (0 : Int) ≤ (k : Int) := by omega
      have b1 : (k : Int) < (n : Int) := by omega
      have hbs := hb.size
      have HC := Lib.hid (portOf1_any (P k 0) (P k 1) g bg wr (by omega) ((hb.cell (p := ⟨bg, 0, none⟩) hbg).trans HG.out))
      obtain ⟨l, hl⟩ : ∃ l, l = P k 0 := ⟨_, rfl⟩
      obtain ⟨q, hq⟩ : ∃ q, q = P k 1 := ⟨_, rfl⟩
      rw [← hl, ← hq] at HC
      rw [← hl] at c0
      rw [← hq] at c1
      have HQ := Lib.hid hq
      clear hl hq
      by_cases he : q = g
      · subst he
        have hd : decide (q = q) = true := decide_eq_true rfl
        rw [hd] at HC
        clear hd
        go_wp2_with fail
        refine HC.out.mono ?_
        rintro e w1 ⟨rfl, hb1⟩
        go_wp2
        go_ret
        refine ⟨?_, hb.trans (hb1.mono hbs)⟩
        rw [show portI P n q = some k from firstI_some hlt (decide_eq_true HQ.out.symm) fun j hj => decide_eq_false (hno.out j hj)]
        rfl
      · have hd : decide (q = g) = false := decide_eq_false he
        rw [hd] at HC
        clear hd
        go_wp2_with fail
        refine HC.out.mono ?_
        rintro e w1 ⟨rfl, hb1⟩
        go_wp2
        go_roundw
        case rel => exact ⟨k + 1, by omega, by go_num, more_no hno.out (by rw [← HQ.out]; exact he), hb.trans (hb1.mono hbs)⟩
        case measure => simp [intOf]; omega
    · have hkn : k = n := by omega
      subst hkn
      have b1 : ¬ (k : Int) < (k : Int) := by omega
      have hr : portI P k g = none := firstI_none fun j hj => decide_eq_false (hno.out j hj)
      have HR := Lib.hid hr
      clear hr
      go_wp2
      go_ret
      exact ⟨by rw [HR.out]; rfl, hb⟩

theorem portOf_any (a : Option Addr) (n c B : Nat) (P : Nat → Nat → Int) (g : Int) (w : World) (hB : B ≤ w.heap.size) (h : RowT 2 w B a n P) (hn : n ≤ 140737488355328) :
    Calls Tryz.prog 68 #[.slice a n c, .int .i64 g] w fun e w' => e = .returned (.int .i64 (atI (portI P n g))) ∧ Below w.heap.size w w' := by
  have H := Lib.hid h
  clear h
  go_enter Tryz.func68, Tryz.ntmps68
  go_wp2_with fail
  have hb1 : Below w.heap.size w (w.alloc (.cells #[.int .i64 g] 3)) := (Below.refl _ _).alloc (Nat.le_refl _) _
  refine (indexPort_any a n c B P g w.heap.size _ (by simp; omega) (H.out.below (hb1.mono hB)) hn (by simp) (by simp [go_sem])).mono ?_
  rintro e w1 ⟨rfl, hb⟩
  go_wp2
  go_ret
  exact ⟨rfl, hb1.trans (hb.mono hb1.size)⟩
end Go.Proofs.YtikkfapgmbamlaaGreatDoor.Cf
end
