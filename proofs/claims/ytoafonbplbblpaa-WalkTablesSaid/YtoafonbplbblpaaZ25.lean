/- Several texts in one: Za -/
import Derived.Test.YtoafonbplbblpaaZ24
import Derived.Test.YtoafonbplbblpaaZ02
import Derived.Test.YtoafonbplbblpaaZ03
section
/- Package walk: a word of a table, plainly; entry; the document's Word, table. -/
namespace Go.Proofs.Ytoafonbplbblpaa.Wa
open Go.RowKit Go.Shelf Ut Oc Vw
set_option maxRecDepth 100000
set_option linter.unusedVariables false
set_option maxHeartbeats 4000000

/-- is there a table at page p; its word at place i -/
def hasT (n : Nat) (L : List Gm.Pl) (p : Int) : Bool := decide (0 ≤ p) && decide (p < 8) && okP n (Gm.plN L p.toNat)
def wordT (n : Nat) (S : List Int) (L : List Gm.Pl) (p : Int) (i : Nat) : Nat := if hasT n L p = true then (num (rB L S (64 * p.toNat + 4 * i) 4)).toNat else 0

theorem rB_bytes {L : List Gm.Pl} {S : List Int} (h : AreBytes S) (a k : Nat) : AreBytes (rB L S a k) := fun z hz => by
  unfold rB at hz
  obtain ⟨i, _, rfl⟩ := List.mem_map.1 hz
  exact h.at_ _
theorem num4 {L : List Gm.Pl} {S : List Int} (h : AreBytes S) (a : Nat) : 0 ≤ num (rB L S a 4) ∧ num (rB L S a 4) < 4294967296 := by
  have := num_bd1 (rB L S a 4) (rB_bytes h a 4) (by rw [rB_len]; exact Nat.le_refl _)
  rw [rB_len] at this
  exact this
theorem wordT_lt {n : Nat} {S : List Int} {L : List Gm.Pl} (h : AreBytes S) (p : Int) (i : Nat) : wordT n S L p i < 4294967296 := by
  unfold wordT
  have := num4 (L := L) h (64 * p.toNat + 4 * i)
  by_cases ht : hasT n L p = true
  · rw [if_pos ht]; omega
  · rw [if_neg ht]; omega
theorem word_page {n : Nat} {L : List Gm.Pl} {p i : Nat} (hi : i < 16) : ∀ j, j < 4 → okA n L (64 * p + 4 * i + j) = okP n (Gm.plN L p) := fun j hj => by
  unfold okA
  rw [show (64 * p + 4 * i + j) / 64 = p by omega]
theorem own_word {n : Nat} {L : List Gm.Pl} {p i : Nat} (hp : p < 8) (hi : i < 16) : ownB n L ((64 * p + 4 * i : Nat) : Int) ((4 : Nat) : Int) = okP n (Gm.plN L p) := by
  have h := word_page (n := n) (L := L) (p := p) hi
  have e : ((List.range 4).all fun j => okA n L (64 * p + 4 * i + j)) = okP n (Gm.plN L p) := by
    rw [Bool.eq_iff_iff, List.all_eq_true]
    constructor
    · intro h1
      rw [← h 0 (by omega)]
      exact h1 0 (by simp)
    · intro h1 j hj
      rw [h j (by simpa using hj)]
      exact h1
  unfold ownB
  rw [Int.toNat_natCast, Int.toNat_natCast, e]
  simp
  intro _
  omega
theorem hasT_in (n : Nat) (L : List Gm.Pl) {p : Nat} (hp : p < 8) : hasT n L (p : Int) = okP n (Gm.plN L p) := by
  unfold hasT
  rw [Int.toNat_natCast]
  simp [show (p : Int) < 8 by omega]
theorem hasT_neg {n : Nat} {L : List Gm.Pl} {p : Int} (hp : p < 0) : hasT n L p = false := by
  unfold hasT
  simp [show ¬ 0 ≤ p by omega]
theorem hasT_far {n : Nat} {L : List Gm.Pl} {p : Int} (hp : 8 ≤ p) : hasT n L p = false := by
  unfold hasT
  simp [show ¬ p < 8 by omega]
theorem hasT_bd {n : Nat} {L : List Gm.Pl} {p : Int} (h : hasT n L p = true) : 0 ≤ p ∧ p < 8 := by
  unfold hasT at h
  simp at h
  exact h.1

section
variable {b s m n : Nat} {S : List Int} {L : List Gm.Pl} {D : List Bool}
theorem entry_out (a : Option Addr) (p i : Int) (h : p < 0 ∨ 8 ≤ p) (w : World) :
    Calls Try.prog 35 #[.pointer a, .int .i64 p, .int .i64 i] w fun e w' => e = .returned (.tuple #[.int .u32 0, .int .i64 3]) ∧ w = w' := by
  rcases h with h | h
  · go_enter Try.func35, Try.ntmps35
    go_wp2
    go_ret2
    exact ⟨rfl, rfl⟩
  · have h0 : ¬ p < 0 := by omega
    go_enter Try.func35, Try.ntmps35
    go_wp2
    go_ret2
    exact ⟨rfl, rfl⟩
theorem entry_none (p i : Nat) (hp : p < 8) (hi : i < 16) (ht : okP n (Gm.plN L p) = false) (w : World) (hP : PV w b s m n S L D) :
    Calls Try.prog 35 #[.pointer (some ⟨b, 0, none⟩), .int .i64 p, .int .i64 i] w fun e w' => e = .returned (.tuple #[.int .u32 0, .int .i64 3]) ∧ Below w.heap.size w w' := by
  have HR : Hid (Calls Try.prog 58 #[.pointer (some ⟨b, 0, none⟩), .int .u32 ((p : Int) * 64 + (i : Int) * 4), .int .i64 4] w fun e w' => ∃ x q c, e = .returned (.tuple #[.slice x q c, .bool false]) ∧ Below w.heap.size w w') := Lib.hid (by
    have := read_any ((64 * p + 4 * i : Nat) : Int) ((4 : Nat) : Int) false (by omega) (by omega) ((own_word hp hi).trans ht) w hP
    rw [show ((64 * p + 4 * i : Nat) : Int) = (p : Int) * 64 + (i : Int) * 4 by omega] at this
    exact this.mono fun e w' ⟨x, q, c, he, _, hb⟩ => ⟨x, q, c, he, hb⟩)
  have p0 : (0 : Int) ≤ (p : Int) := by omega
  have p1 : (p : Int) < 8 := by omega
  have i0 : (0 : Int) ≤ (i : Int) := by omega
  have i1 : (i : Int) < 16 := by omega
  clear hP ht hp hi
  go_enter Try.func35, Try.ntmps35
  go_wp2_with fail
  refine HR.out.mono ?_
  rintro e w1 ⟨x, q, c, rfl, hb1⟩
  have HB1 := Lib.hid hb1
  clear hb1 HR
  go_wp2
  go_ret2
  exact ⟨rfl, HB1.out⟩
theorem entry_some (p i : Nat) (hp : p < 8) (hi : i < 16) (ht : okP n (Gm.plN L p) = true) (w : World) (hP : PV w b s m n S L D) :
    Calls Try.prog 35 #[.pointer (some ⟨b, 0, none⟩), .int .i64 p, .int .i64 i] w fun e w' => e = .returned (.tuple #[.int .u32 (num (rB L S (64 * p + 4 * i) 4)), .int .i64 0]) ∧ Below w.heap.size w w' := by
  have HR : Hid (Calls Try.prog 58 #[.pointer (some ⟨b, 0, none⟩), .int .u32 ((p : Int) * 64 + (i : Int) * 4), .int .i64 4] w fun e w' => ∃ x c, e = .returned (.tuple #[.slice x 4 c, .bool true]) ∧ Hid (∀ W, Below w'.heap.size w' W → Calls Try.prog 59 #[.slice x 4 c, .int .i64 0, .int .i64 4] W fun e w' => e = .returned (.tuple #[.int .u32 (num (rB L S (64 * p + 4 * i) 4)), .int .i64 0]) ∧ W = w') ∧ Below w.heap.size w w') := Lib.hid (by
    have := read_yes2 (64 * p + 4 * i) 4 (by omega) ((own_word hp hi).trans ht) (fun j hj => (word_page hi j hj).trans ht) w hP
    rw [show ((64 * p + 4 * i : Nat) : Int) = (p : Int) * 64 + (i : Int) * 4 by omega] at this
    refine this.mono fun e w' ⟨x, q, c, he, hr, hb, hq, hc⟩ => ?_
    have hq4 : 4 = q := by have := hr.out.1; rw [rB_len] at this; exact this
    subst hq4
    refine ⟨x, c, he, Lib.hid fun W hW => ?_, hb⟩
    have := get_yes x 4 c 0 4 _ _ W hq (by omega) (hr.out.below hW) (rB_bytes hP.st.2.2.1 _ _) (by decide) (by omega)
    rw [List.drop_zero, List.take_of_length_le (by rw [rB_len]; exact Nat.le_refl _)] at this
    exact this)
  have p0 : (0 : Int) ≤ (p : Int) := by omega
  have p1 : (p : Int) < 8 := by omega
  have i0 : (0 : Int) ≤ (i : Int) := by omega
  have i1 : (i : Int) < 16 := by omega
  clear hP ht hp hi
  go_enter Try.func35, Try.ntmps35
  go_wp2_with fail
  refine HR.out.mono ?_
  rintro e w1 ⟨x, c, rfl, HG, hb1⟩
  have HB1 := Lib.hid hb1
  clear hb1 HR
  go_wp2_with fail
  refine (HG.out _ (Below.refl _ _)).mono ?_
  rintro e w2 ⟨rfl, rfl⟩
  go_wp2
  go_ret2
  exact ⟨rfl, HB1.out⟩
theorem entry_any (p : Int) (i u : Nat) (t : Bool) (hi : i < 16) (ht : hasT n L p = t) (hu : wordT n S L p i = u) (w : World) (hP : PV w b s m n S L D) :
    Calls Try.prog 35 #[.pointer (some ⟨b, 0, none⟩), .int .i64 p, .int .i64 i] w fun e w' => e = .returned (.tuple #[.int .u32 u, .int .i64 (if t = true then 0 else 3)]) ∧ Below w.heap.size w w' := by
  subst hu ht
  unfold wordT
  by_cases h : p < 0 ∨ 8 ≤ p
  · have e : hasT n L p = false := h.elim hasT_neg hasT_far
    rw [e]
    exact (entry_out _ p i h w).mono fun e w' ⟨he, hb⟩ => ⟨he, hb ▸ Below.refl _ _⟩
  · obtain ⟨q, rfl⟩ := Int.eq_ofNat_of_zero_le (show 0 ≤ p by omega)
    have hq : q < 8 := by omega
    rw [hasT_in n L hq]
    cases ht : okP n (Gm.plN L q)
    · exact entry_none q i hq hi ht w hP
    · rw [if_pos rfl, if_pos rfl, Int.toNat_natCast, Int.toNat_of_nonneg (num4 hP.st.2.2.1 _).1]
      exact entry_some q i hq hi ht w hP
end

section
variable {g bt B q n gv cap : Nat} {S : List Int} {L : List Gm.Pl} {D : List Bool}
theorem refWord_any (p i u : Nat) (t : Bool) (hp : p < 8) (hi : i < 16) (ht : hasT n L (p : Int) = t) (hu : wordT n S L (p : Int) i = u) (w : World) (hP : DV w g bt B q n gv cap S L D) :
    Calls Try.prog 60 #[.pointer (some ⟨g, 0, none⟩), .int .u32 ((p : Int) * 64 + 4 * (i : Int))] w fun e w' => e = .returned (.tuple #[.int .u32 u, .bool t]) ∧ Below w.heap.size w w' := by
  subst hu
  have hs1 := hP.s1
  rw [hasT_in n L hp] at ht
  have hrd := refRead_any ((64 * p + 4 * i : Nat) : Int) ((4 : Nat) : Int) t (by omega) (by omega) ((own_word hp hi).trans ht) w hP
  rw [show ((64 * p + 4 * i : Nat) : Int) = (p : Int) * 64 + 4 * (i : Int) by omega] at hrd
  unfold wordT
  rw [hasT_in n L hp, ht, Int.toNat_natCast]
  unfold rdL at hrd
  rw [show ownB n L ((p : Int) * 64 + 4 * (i : Int)) ((4 : Nat) : Int) = t by rw [← ht, ← own_word hp hi]; congr 1; omega] at hrd
  cases t
  · have HR := Lib.hid hrd
    clear hrd hP ht
    go_enter Try.func60, Try.ntmps60
    go_wp2_with fail
    refine HR.out.mono ?_
    rintro e w1 ⟨x, k, c, rfl, _, hb1⟩
    have HB1 := Lib.hid hb1
    clear hb1 HR
    go_wp2
    go_ret2
    exact ⟨rfl, HB1.out⟩
  · rw [if_pos rfl] at hrd
    have HR : Hid (Calls Try.prog 75 #[.pointer (some ⟨g, 0, none⟩), .int .u32 ((p : Int) * 64 + 4 * (i : Int)), .int .i64 4] w fun e w' => ∃ x c, e = .returned (.tuple #[.slice x 4 c, .bool true]) ∧ Hid (∀ W, Below w'.heap.size w' W → Calls Try.prog 76 #[.slice x 4 c, .int .i64 0, .int .i64 4] W fun e w' => e = .returned (.tuple #[.int .u32 (num (rB L S (64 * p + 4 * i) 4)), .int .i64 0]) ∧ W = w') ∧ Below w.heap.size w w') := Lib.hid (by
      refine hrd.mono fun e w' ⟨x, q, c, he, hr, hb⟩ => ?_
      rw [show ((p : Int) * 64 + 4 * (i : Int)).toNat = 64 * p + 4 * i by omega, Int.toNat_natCast] at hr
      have hq4 : 4 = q := by have := hr.out.1; rw [rB_len] at this; exact this
      subst hq4
      refine ⟨x, c, he, Lib.hid fun W hW => ?_, hb⟩
      have := refGet_yes x 4 c 0 4 _ _ W (by omega) (hr.out.below hW) (rB_bytes hs1 _ _) (by decide) (by omega)
      rw [List.drop_zero, List.take_of_length_le (by rw [rB_len]; exact Nat.le_refl _)] at this
      exact this)
    rw [if_pos rfl, Int.toNat_of_nonneg (num4 hs1 _).1]
    clear hrd hP ht
    go_enter Try.func60, Try.ntmps60
    go_wp2_with fail
    refine HR.out.mono ?_
    rintro e w1 ⟨x, c, rfl, HG, hb1⟩
    have HB1 := Lib.hid hb1
    clear hb1 HR
    go_wp2_with fail
    refine (HG.out _ (Below.refl _ _)).mono ?_
    rintro e w2 ⟨rfl, rfl⟩
    go_wp2
    go_ret2
    exact ⟨rfl, HB1.out⟩
theorem refTab_out (a : Option Addr) (p i : Int) (ha : a ≠ none) (h : p < 0 ∨ 8 ≤ p) (w : World) :
    Calls Try.prog 37 #[.pointer a, .int .i64 p, .int .u32 i] w fun e w' => e = .returned (.tuple #[.int .u32 0, .bool false]) ∧ w = w' := by
  obtain ⟨x, rfl⟩ := Option.ne_none_iff_exists'.1 ha
  clear ha
  rcases h with h | h
  · go_enter Try.func37, Try.ntmps37
    go_wp2
    go_ret2
    exact ⟨rfl, rfl⟩
  · have h0 : ¬ p < 0 := by omega
    go_enter Try.func37, Try.ntmps37
    go_wp2
    go_ret2
    exact ⟨rfl, rfl⟩
theorem refTab_in (p i u : Nat) (t : Bool) (hp : p < 8) (hi : i < 16) (ht : hasT n L (p : Int) = t) (hu : wordT n S L (p : Int) i = u) (w : World) (hP : DV w g bt B q n gv cap S L D) :
    Calls Try.prog 37 #[.pointer (some ⟨g, 0, none⟩), .int .i64 p, .int .u32 i] w fun e w' => e = .returned (.tuple #[.int .u32 u, .bool t]) ∧ Below w.heap.size w w' := by
  have HW := Lib.hid (refWord_any p i u t hp hi ht hu w hP)
  have p0 : (0 : Int) ≤ (p : Int) := by omega
  have p1 : (p : Int) < 8 := by omega
  have i0 : (0 : Int) ≤ (i : Int) := by omega
  have i1 : (i : Int) < 16 := by omega
  have p2 : ¬ (p : Int) < 0 := by omega
  have p3 : ¬ 8 ≤ (p : Int) := by omega
  clear hP ht hp hi hu
  go_enter Try.func37, Try.ntmps37
  go_wp2_with fail
  refine HW.out.mono ?_
  rintro e w1 ⟨rfl, hb1⟩
  have HB1 := Lib.hid hb1
  clear hb1 HW
  go_wp2
  go_ret2
  exact ⟨rfl, HB1.out⟩
theorem refTab_any (p : Int) (i u : Nat) (t : Bool) (hi : i < 16) (ht : hasT n L p = t) (hu : wordT n S L p i = u) (w : World) (hP : DV w g bt B q n gv cap S L D) :
    Calls Try.prog 37 #[.pointer (some ⟨g, 0, none⟩), .int .i64 p, .int .u32 i] w fun e w' => e = .returned (.tuple #[.int .u32 u, .bool t]) ∧ Below w.heap.size w w' := by
  by_cases h : p < 0 ∨ 8 ≤ p
  · have e : hasT n L p = false := h.elim hasT_neg hasT_far
    unfold wordT at hu
    rw [e, if_neg (by decide)] at hu
    rw [e] at ht
    subst hu ht
    exact (refTab_out _ p i (by simp) h w).mono fun e w' ⟨he, hb⟩ => ⟨he, hb ▸ Below.refl _ _⟩
  · obtain ⟨k, rfl⟩ := Int.eq_ofNat_of_zero_le (show 0 ≤ p by omega)
    exact refTab_in k i u t (by omega) hi ht hu w hP
end
end Go.Proofs.Ytoafonbplbblpaa.Wa
end
