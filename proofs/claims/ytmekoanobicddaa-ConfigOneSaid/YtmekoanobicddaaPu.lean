/- Give of both tables, said once; what a row of numbers that came in gives at a place. -/
import Derived.Test.YtmekoanobicddaaPs
namespace Go.Proofs.Ytmekoanobicddaa.Pt
open Go.RowKit Ut
set_option linter.unusedVariables false

def badB (L : List Int) (f n who : Int) : Bool := decide (f < 0) || decide (n < 1) || decide ((L.length : Int) < f) || decide ((L.length : Int) - f < n) || decide (who < 0) || decide (64 ≤ who)
def usedB (L : List Int) (f n : Int) : Bool := (List.range n.toNat).any fun j => decide (0 ≤ L.getD (f.toNat + j) 0)
def giveE (L : List Int) (f n who : Int) : Int := if badB L f n who then 1 else if usedB L f n then 5 else 0
def giveL (L : List Int) (f n who : Int) : List Int := if badB L f n who then L else if usedB L f n then L else setR L f.toNat n.toNat who

theorem badB_iff (L : List Int) (f n who : Int) : badB L f n who = true ↔ refBad f n who L := by
  unfold badB refBad
  simp only [Bool.or_eq_true, decide_eq_true_eq]
  omega
theorem giveL_cases (L : List Int) (f n who : Int) : (refBad f n who L ∧ giveE L f n who = 1 ∧ giveL L f n who = L) ∨
    ∃ F N : Nat, f = F ∧ n = N ∧ 1 ≤ N ∧ F + N ≤ L.length ∧ 0 ≤ who ∧ who < 64 ∧ (((∃ j, j < N ∧ 0 ≤ L.getD (F + j) 0) ∧ giveE L f n who = 5 ∧ giveL L f n who = L) ∨
      ((∀ j, j < N → L.getD (F + j) 0 < 0) ∧ giveE L f n who = 0 ∧ giveL L f n who = setR L F N who)) := by
  cases hb : badB L f n who with
  | true => exact .inl ⟨(badB_iff L f n who).1 hb, by unfold giveE; rw [hb]; rfl, by unfold giveL; rw [hb]; rfl⟩
  | false =>
    have hgood : ¬ refBad f n who L := fun h => by rw [(badB_iff L f n who).2 h] at hb; cases hb
    unfold refBad at hgood
    refine .inr ⟨f.toNat, n.toNat, by omega, by omega, by omega, by omega, by omega, by omega, ?_⟩
    cases hu : usedB L f n with
    | true =>
      refine .inl ⟨?_, by unfold giveE; rw [hb, hu]; rfl, by unfold giveL; rw [hb, hu]; rfl⟩
      unfold usedB at hu
      simp only [List.any_eq_true, List.mem_range, decide_eq_true_eq] at hu
      exact hu
    | false =>
      refine .inr ⟨fun j hj => ?_, by unfold giveE; rw [hb, hu]; rfl, by unfold giveL; rw [hb, hu]; rfl⟩
      unfold usedB at hu
      rw [List.any_eq_false] at hu
      have := hu j (List.mem_range.2 hj)
      simp only [decide_eq_true_eq] at this
      omega
theorem giveL_okay {L : List Int} (hL : Okay L) (f n who : Int) : Okay (giveL L f n who) ∧ (giveL L f n who).length = L.length := by
  rcases giveL_cases L f n who with ⟨_, _, e⟩ | ⟨F, N, _, _, h1, h2, h3, h4, ⟨_, _, e⟩ | ⟨_, _, e⟩⟩
  · rw [e]; exact ⟨hL, rfl⟩
  · rw [e]; exact ⟨hL, rfl⟩
  · rw [e]; exact ⟨setR_okay hL F N who h2 h3 h4, setR_length _ _ _ _ h2⟩

theorem tab_give {bt : Nat} {L : List Int} {w : World} (h : Tab w bt L) (hL : Okay L) (f n who : Int) (hn : -9223372036854775808 ≤ n ∧ n < 9223372036854775808) :
    Calls Try.prog 11 #[.pointer (some ⟨bt, 0, none⟩), .int .i64 f, .int .i64 n, .int .i64 who] w fun e W' => e = .returned (.int .i64 (giveE L f n who)) ∧ Tab W' bt (giveL L f n who) ∧ w.grownBy W' (some bt) := by
  rcases giveL_cases L f n who with ⟨hb, e1, e2⟩ | ⟨F, N, rfl, rfl, h1, h2, h3, h4, ⟨hu, e1, e2⟩ | ⟨hu, e1, e2⟩⟩
  · rw [e1, e2]
    exact (tab_give_bad h hL f n who hn hb).mono fun e W' ⟨he, hbl⟩ => ⟨he, h.below hbl, grownBy_of_below _ hbl⟩
  · rw [e1, e2]
    exact (tab_give_used h hL F N who h1 h2 h3 h4 hu).mono fun e W' ⟨he, hbl⟩ => ⟨he, h.below hbl, grownBy_of_below _ hbl⟩
  · rw [e1, e2]
    exact tab_give_ok h hL F N who h1 h2 h3 h4 hu
theorem ref_give {br : Nat} {L : List Int} {w : World} (h : RefAt w br L) (hL : Okay L) (f n who : Int) :
    Calls Try.prog 86 #[.pointer (some ⟨br, 0, none⟩), .int .i64 f, .int .i64 n, .int .i64 who] w fun e W' => e = .returned (.int .i64 (giveE L f n who)) ∧ RefAt W' br (giveL L f n who) ∧ w.grownBy W' (some br) := by
  have hl : L.length ≤ 1000 := by have := hL.1; omega
  rcases giveL_cases L f n who with ⟨hb, e1, e2⟩ | ⟨F, N, rfl, rfl, h1, h2, h3, h4, ⟨hu, e1, e2⟩ | ⟨hu, e1, e2⟩⟩
  · rw [e1, e2]
    exact (refGive_arg br f n who L w h hl hb).mono fun e W' ⟨he, hw⟩ => by subst hw; exact ⟨he, h, World.grownBy.refl w _⟩
  · rw [e1, e2]
    exact (refGive_used br F N who L w h hl h1 h2 h3 h4 hu).mono fun e W' ⟨he, hw⟩ => by subst hw; exact ⟨he, h, World.grownBy.refl w _⟩
  · rw [e1, e2]
    exact refGive_ok br F N who L w h hl h1 h2 h3 h4 hu

/-- run number i of the runs that say L -/
theorem fw_at : ∀ {rs : List R3} {k : Nat} {prev : Option Int} {L : List Int}, Fw k prev rs L → ∀ i, i < rs.length → ∃ a m : Nat, (rs.getD i default).f = (k : Int) + a ∧ (rs.getD i default).n = m ∧ 1 ≤ m ∧ a + m ≤ L.length ∧
    (∀ q, a ≤ q → q < a + m → L.getD q 0 = (rs.getD i default).w) ∧ (∀ j, i = j + 1 → (rs.getD i default).w ≠ (rs.getD j default).w) ∧ (i = 0 → a = 0 ∧ prev ≠ some (rs.getD i default).w) ∧
    (i + 1 < rs.length → (rs.getD (i + 1) default).f = (k : Int) + a + m) ∧ (i + 1 = rs.length → a + m = L.length)
  | [], _, _, _, _, i, hi => by cases hi
  | r :: rs, k, prev, L, ⟨h1, h2, h3, L', hL, h4⟩, i, hi => by
    subst hL
    have hlen : (List.replicate r.n.toNat r.w ++ L').length = r.n.toNat + L'.length := by simp
    cases i with
    | zero =>
      refine ⟨0, r.n.toNat, by simp [h1], by simp; omega, by omega, by rw [hlen]; omega, fun q _ hq => ?_, (fun j e => by cases e), fun _ => ⟨rfl, h3⟩, fun hlt => ?_, fun he => ?_⟩
      · rw [getD_rep, if_pos (by omega)]; rfl
      · obtain ⟨a, m, e1, e2, e3, e4, e5, e6, e7, e8, e9⟩ := fw_at h4 0 (by simpa using hlt)
        have := (e7 rfl).1
        simp only [List.getD_cons_succ]
        rw [e1, this]; omega
      · have : rs = [] := List.length_eq_zero_iff.1 (by simpa using he.symm)
        subst this
        have : L' = [] := h4
        rw [hlen, this]; simp
    | succ i =>
      obtain ⟨a, m, e1, e2, e3, e4, e5, e6, e7, e8, e9⟩ := fw_at h4 i (by simpa using hi)
      simp only [List.getD_cons_succ]
      refine ⟨r.n.toNat + a, m, by rw [e1]; omega, e2, e3, by rw [hlen]; omega, fun q hq1 hq2 => ?_, fun j e => ?_, (fun e => by cases e), fun hlt => ?_, fun he => ?_⟩
      · rw [getD_rep, if_neg (by omega)]; exact e5 _ (by omega) (by omega)
      · obtain rfl : i = j := by omega
        cases i with
        | zero =>
          simp only [List.getD_cons_zero]
          intro e
          exact (e7 rfl).2 (by rw [e])
        | succ i =>
          simp only [List.getD_cons_succ]
          exact e6 i rfl
      · rw [e8 (by simpa using hlt)]; omega
      · rw [hlen]; have := e9 (by simpa using he); omega
theorem nm_length {rs : List R3} {L : List Int} (h : Nm rs L) : rs.length ≤ L.length := by
  suffices hh : ∀ {rs : List R3} {k : Nat} {prev : Option Int} {L : List Int}, Fw k prev rs L → rs.length ≤ L.length from hh h
  intro rs
  induction rs with
  | nil => intro _ _ _ _; exact Nat.zero_le _
  | cons r rs ih =>
    rintro k prev L ⟨h1, h2, h3, L', hL, h4⟩
    subst hL
    have := ih h4
    simp; omega
/-- where run i begins; behind the last one: how many places there are -/
def posOf (rs : List R3) (K i : Nat) : Int := if i < rs.length then (rs.getD i default).f else K
theorem who_at {L : List Int} {a : Nat} {u : Int} (ha : a < L.length) (hu : L.getD a 0 = u) : whoRB (a : Int) L = decide (0 ≤ u) ∧ whoRW (a : Int) L = if 0 ≤ u then u else 0 := by
  have hb : whoRB (a : Int) L = decide (0 ≤ u) := by
    unfold whoRB
    rw [Int.toNat_natCast, hu, show decide ((0 : Int) ≤ (a : Int)) = true from decide_eq_true (by omega), show decide ((a : Int) < L.length) = true from decide_eq_true (by omega)]
    rfl
  refine ⟨hb, ?_⟩
  unfold whoRW
  rw [hb, Int.toNat_natCast, hu]
  by_cases h : 0 ≤ u <;> simp [h]
end Go.Proofs.Ytmekoanobicddaa.Pt
