/- Several texts in one: Yn Za Ba Bb -/
import Derived.Test.YteaincdeoajkeaaGreatDoorZ11
import Derived.Test.YteaincdeoajkeaaGreatDoorZ12
import Derived.Test.YteaincdeoajkeaaGreatDoorZ13
import Derived.StillTailTactics
import Derived.Test.YteaincdeoajkeaaGreatDoorZ01
import Derived.Test.YteaincdeoajkeaaGreatDoorZ02
import Derived.Laws.BitsAllLaws
import Derived.Laws.ShiftsVarLaws
section
/- hermitagelaw16: made; the document's Read and Write whatever they are asked. -/
namespace Go.Proofs.YteaincdeoajkeaaGreatDoor.Vw
open Go.RowKit Go.Shelf Ut Oc
set_option maxRecDepth 100000
set_option linter.unusedVariables false
set_option maxHeartbeats 4000000

section
variable {g bt B q n gv cap : Nat} {S : List Int} {L : List Gm.Pl} {D : List Bool}
theorem refRead_any (z k : Int) (t : Bool) (h0 : 0 ≤ z) (h1 : z < 4294967296) (ht : ownB n L z k = t) (w : World) (hP : DV w g bt B q n gv cap S L D) :
    Calls Tryz.prog 147 #[.pointer (some ⟨g, 0, none⟩), .int .u32 z, .int .i64 k] w fun e w' => ∃ p q c, e = .returned (.tuple #[.slice p q c, .bool t]) ∧ Hid (RowK .u8 w' w'.heap.size p q (rdL n S L z k)) ∧ Below w.heap.size w w' := by
  have hno : ownB n L z k = false → Calls Tryz.prog 147 #[.pointer (some ⟨g, 0, none⟩), .int .u32 z, .int .i64 k] w fun e w' => ∃ p q c, e = .returned (.tuple #[.slice p q c, .bool false]) ∧ Hid (RowK .u8 w' w'.heap.size p q (rdL n S L z k)) ∧ Below w.heap.size w w' := fun hf => by
    have e : rdL n S L z k = [] := by unfold rdL; rw [hf]; rfl
    rw [e]
    exact (refRead_no z k h0 h1 hf w hP).mono fun e w' ⟨he, hb⟩ => ⟨none, 0, 0, he, RowK.nil _ _ _ _, hb⟩
  rcases own_cases n L z k h0 with ⟨h2, _⟩ | ⟨a, K, rfl, rfl, h2, h3⟩
  · rw [h2] at ht
    subst ht
    exact hno h2
  · cases t
    · exact hno ht
    · have e : rdL n S L a K = rB L S a K := by unfold rdL; rw [if_pos ht]; rfl
      rw [e]
      exact refRead_yes a K h2 ht (h3.1 ht) w hP
end

/-- the map behind the first k pages -/
def mkL (xs : List Int) (Z : Nat → Gm.Pl) : Nat → List Gm.Pl
  | 0 => Gm.noP
  | k + 1 => Gm.setL (mkL xs Z k) (xs.getD k 0) (Z k)
def cnt (li lp : Nat) : Nat := min (min li lp) 30

/-- what made makes -/
structure Mk (w0 w : World) (b s m n g bt B q gv cap : Nat) (L : List Gm.Pl) : Prop where
  pv : PV w b s m n Fr.zeros L noD
  dv : DV w g bt B q n gv cap Fr.zeros L noD
  ws : w0.heap.size ≤ s
  mB : m < B
  qb : q < b
  bg : b < g
  blw : Below w0.heap.size w0 w

end Go.Proofs.YteaincdeoajkeaaGreatDoor.Vw
end
section
/- Package walk: a word of a table, plainly; entry; the document's Word, table. -/
namespace Go.Proofs.YteaincdeoajkeaaGreatDoor.Wa
open Go.RowKit Go.Shelf Ut Oc Vw
set_option maxRecDepth 100000
set_option linter.unusedVariables false
set_option maxHeartbeats 4000000

/-- is there a table at page p; its word at place i -/
def hasT (n : Nat) (L : List Gm.Pl) (p : Int) : Bool := decide (0 ≤ p) && decide (p < 8) && okP n (Gm.plN L p.toNat)
def wordT (n : Nat) (S : List Int) (L : List Gm.Pl) (p : Int) (i : Nat) : Nat := if hasT n L p = true then (num (rB L S (64 * p.toNat + 4 * i) 4)).toNat else 0

theorem rB_bytes {L : List Gm.Pl} {S : List Int} (h : AreBytes S) (a k : Nat) : AreBytes (rB L S a k) := fun z hz => by
  unfold rB at hz
  obtain ⟨i, _, rfl⟩ := List.mem_map.1 hz
  exact h.at_ _
theorem num4 {L : List Gm.Pl} {S : List Int} (h : AreBytes S) (a : Nat) : 0 ≤ num (rB L S a 4) ∧ num (rB L S a 4) < 4294967296 := by
  have := num_bd1 (rB L S a 4) (rB_bytes h a 4) (by rw [rB_len]; exact Nat.le_refl _)
  rw [rB_len] at this
  exact this
theorem wordT_lt {n : Nat} {S : List Int} {L : List Gm.Pl} (h : AreBytes S) (p : Int) (i : Nat) : wordT n S L p i < 4294967296 := by
  unfold wordT
  have := num4 (L := L) h (64 * p.toNat + 4 * i)
  by_cases ht : hasT n L p = true
  · rw [if_pos ht]; omega
  · rw [if_neg ht]; omega
theorem word_page {n : Nat} {L : List Gm.Pl} {p i : Nat} (hi : i < 16) : ∀ j, j < 4 → okA n L (64 * p + 4 * i + j) = okP n (Gm.plN L p) := fun j hj => by
  unfold okA
  rw [show (64 * p + 4 * i + j) / 64 = p by omega]
theorem own_word {n : Nat} {L : List Gm.Pl} {p i : Nat} (hp : p < 8) (hi : i < 16) : ownB n L ((64 * p + 4 * i : Nat) : Int) ((4 : Nat) : Int) = okP n (Gm.plN L p) := by
  have h := word_page (n := n) (L := L) (p := p) hi
  have e : ((List.range 4).all fun j => okA n L (64 * p + 4 * i + j)) = okP n (Gm.plN L p) := by
    rw [Bool.eq_iff_iff, List.all_eq_true]
    constructor
    · intro h1
      rw [← h 0 (by omega)]
      exact h1 0 (by simp)
    · intro h1 j hj
      rw [h j (by simpa using hj)]
      exact h1
  unfold ownB
  rw [Int.toNat_natCast, Int.toNat_natCast, e]
  simp
  intro _
  omega
theorem hasT_in (n : Nat) (L : List Gm.Pl) {p : Nat} (hp : p < 8) : hasT n L (p : Int) = okP n (Gm.plN L p) := by
  unfold hasT
  rw [Int.toNat_natCast]
  simp [show (p : Int) < 8 by omega]
theorem hasT_neg {n : Nat} {L : List Gm.Pl} {p : Int} (hp : p < 0) : hasT n L p = false := by
  unfold hasT
  simp [show ¬ 0 ≤ p by omega]
theorem hasT_far {n : Nat} {L : List Gm.Pl} {p : Int} (hp : 8 ≤ p) : hasT n L p = false := by
  unfold hasT
  simp [show ¬ p < 8 by omega]
theorem hasT_bd {n : Nat} {L : List Gm.Pl} {p : Int} (h : hasT n L p = true) : 0 ≤ p ∧ p < 8 := by
  unfold hasT at h
  simp at h
  exact h.1

section
variable {b s m n : Nat} {S : List Int} {L : List Gm.Pl} {D : List Bool}
theorem entry_out (a : Option Addr) (p i : Int) (h : p < 0 ∨ 8 ≤ p) (w : World) :
    Calls Tryz.prog 108 #[.pointer a, .int .i64 p, .int .i64 i] w fun e w' => e = .returned (.tuple #[.int .u32 0, .int .i64 3]) ∧ w = w' := by
  rcases h with h | h
  · go_enter Tryz.func108, Tryz.ntmps108
    go_wp2
    go_ret2
    exact ⟨rfl, rfl⟩
  · have h0 : ¬ p < 0 := by omega
    go_enter Tryz.func108, Tryz.ntmps108
    go_wp2
    go_ret2
    exact ⟨rfl, rfl⟩
theorem entry_none (p i : Nat) (hp : p < 8) (hi : i < 16) (ht : okP n (Gm.plN L p) = false) (w : World) (hP : PV w b s m n S L D) :
    Calls Tryz.prog 108 #[.pointer (some ⟨b, 0, none⟩), .int .i64 p, .int .i64 i] w fun e w' => e = .returned (.tuple #[.int .u32 0, .int .i64 3]) ∧ Below w.heap.size w w' := by
  have HR : Hid (Calls Tryz.prog 136 #[.pointer (some ⟨b, 0, none⟩), .int .u32 ((p : Int) * 64 + (i : Int) * 4), .int .i64 4] w fun e w' => ∃ x q c, e = .returned (.tuple #[.slice x q c, .bool false]) ∧ Below w.heap.size w w') := Lib.hid (by
    have := read_any ((64 * p + 4 * i : Nat) : Int) ((4 : Nat) : Int) false (by omega) (by omega) ((own_word hp hi).trans ht) w hP
    rw [show ((64 * p + 4 * i : Nat) : Int) = (p : Int) * 64 + (i : Int) * 4 by omega] at this
    exact this.mono fun e w' ⟨x, q, c, he, _, hb⟩ => ⟨x, q, c, he, hb⟩)
  have p0 : (0 : Int) ≤ (p : Int) := by omega
  have p1 : (p : Int) < 8 := by omega
  have i0 : (0 : Int) ≤ (i : Int) := by omega
  have i1 : (i : Int) < 16 := by omega
  clear hP ht hp hi
  go_enter Tryz.func108, Tryz.ntmps108
  go_wp2_with fail
  refine HR.out.mono ?_
  rintro e w1 ⟨x, q, c, rfl, hb1⟩
  have HB1 := Lib.hid hb1
  clear hb1 HR
  go_wp2
  go_ret2
  exact ⟨rfl, HB1.out⟩
theorem entry_some (p i : Nat) (hp : p < 8) (hi : i < 16) (ht : okP n (Gm.plN L p) = true) (w : World) (hP : PV w b s m n S L D) :
    Calls Tryz.prog 108 #[.pointer (some ⟨b, 0, none⟩), .int .i64 p, .int .i64 i] w fun e w' => e = .returned (.tuple #[.int .u32 (num (rB L S (64 * p + 4 * i) 4)), .int .i64 0]) ∧ Below w.heap.size w w' := by
  have HR : Hid (Calls Tryz.prog 136 #[.pointer (some ⟨b, 0, none⟩), .int .u32 ((p : Int) * 64 + (i : Int) * 4), .int .i64 4] w fun e w' => ∃ x c, e = .returned (.tuple #[.slice x 4 c, .bool true]) ∧ Hid (∀ W, Below w'.heap.size w' W → Calls Tryz.prog 85 #[.slice x 4 c, .int .i64 0, .int .i64 4] W fun e w' => e = .returned (.tuple #[.int .u32 (num (rB L S (64 * p + 4 * i) 4)), .int .i64 0]) ∧ W = w') ∧ Below w.heap.size w w') := Lib.hid (by
    have := read_yes2 (64 * p + 4 * i) 4 (by omega) ((own_word hp hi).trans ht) (fun j hj => (word_page hi j hj).trans ht) w hP
    rw [show ((64 * p + 4 * i : Nat) : Int) = (p : Int) * 64 + (i : Int) * 4 by omega] at this
    refine this.mono fun e w' ⟨x, q, c, he, hr, hb, hq, hc⟩ => ?_
    have hq4 : 4 = q := by have := hr.out.1; rw [rB_len] at this; exact this
    subst hq4
    refine ⟨x, c, he, Lib.hid fun W hW => ?_, hb⟩
    have := get_yes x 4 c 0 4 _ _ W hq (by omega) (hr.out.below hW) (rB_bytes hP.st.2.2.1 _ _) (by decide) (by omega)
    rw [List.drop_zero, List.take_of_length_le (by rw [rB_len]; exact Nat.le_refl _)] at this
    exact this)
  have p0 : (0 : Int) ≤ (p : Int) := by omega
  have p1 : (p : Int) < 8 := by omega
  have i0 : (0 : Int) ≤ (i : Int) := by omega
  have i1 : (i : Int) < 16 := by omega
  clear hP ht hp hi
  go_enter Tryz.func108, Tryz.ntmps108
  go_wp2_with fail
  refine HR.out.mono ?_
  rintro e w1 ⟨x, c, rfl, HG, hb1⟩
  have HB1 := Lib.hid hb1
  clear hb1 HR
  go_wp2_with fail
  refine (HG.out _ (Below.refl _ _)).mono ?_
  rintro e w2 ⟨rfl, rfl⟩
  go_wp2
  go_ret2
  exact ⟨rfl, HB1.out⟩
theorem entry_any (p : Int) (i u : Nat) (t : Bool) (hi : i < 16) (ht : hasT n L p = t) (hu : wordT n S L p i = u) (w : World) (hP : PV w b s m n S L D) :
    Calls Tryz.prog 108 #[.pointer (some ⟨b, 0, none⟩), .int .i64 p, .int .i64 i] w fun e w' => e = .returned (.tuple #[.int .u32 u, .int .i64 (if t = true then 0 else 3)]) ∧ Below w.heap.size w w' := by
  subst hu ht
  unfold wordT
  by_cases h : p < 0 ∨ 8 ≤ p
  · have e : hasT n L p = false := h.elim hasT_neg hasT_far
    rw [e]
    exact (entry_out _ p i h w).mono fun e w' ⟨he, hb⟩ => ⟨he, hb ▸ Below.refl _ _⟩
  · obtain ⟨q, rfl⟩ := Int.eq_ofNat_of_zero_le (show 0 ≤ p by omega)
    have hq : q < 8 := by omega
    rw [hasT_in n L hq]
    cases ht : okP n (Gm.plN L q)
    · exact entry_none q i hq hi ht w hP
    · rw [if_pos rfl, if_pos rfl, Int.toNat_natCast, Int.toNat_of_nonneg (num4 hP.st.2.2.1 _).1]
      exact entry_some q i hq hi ht w hP
end

section
variable {g bt B q n gv cap : Nat} {S : List Int} {L : List Gm.Pl} {D : List Bool}
theorem refWord_any (p i u : Nat) (t : Bool) (hp : p < 8) (hi : i < 16) (ht : hasT n L (p : Int) = t) (hu : wordT n S L (p : Int) i = u) (w : World) (hP : DV w g bt B q n gv cap S L D) :
    Calls Tryz.prog 122 #[.pointer (some ⟨g, 0, none⟩), .int .u32 ((p : Int) * 64 + 4 * (i : Int))] w fun e w' => e = .returned (.tuple #[.int .u32 u, .bool t]) ∧ Below w.heap.size w w' := by
  subst hu
  have hs1 := hP.s1
  rw [hasT_in n L hp] at ht
  have hrd := refRead_any ((64 * p + 4 * i : Nat) : Int) ((4 : Nat) : Int) t (by omega) (by omega) ((own_word hp hi).trans ht) w hP
  rw [show ((64 * p + 4 * i : Nat) : Int) = (p : Int) * 64 + 4 * (i : Int) by omega] at hrd
  unfold wordT
  rw [hasT_in n L hp, ht, Int.toNat_natCast]
  unfold rdL at hrd
  rw [show ownB n L ((p : Int) * 64 + 4 * (i : Int)) ((4 : Nat) : Int) = t by rw [← ht, ← own_word hp hi]; congr 1; omega] at hrd
  cases t
  · have HR := Lib.hid hrd
    clear hrd hP ht
    go_enter Tryz.func122, Tryz.ntmps122
    go_wp2_with fail
    refine HR.out.mono ?_
    rintro e w1 ⟨x, k, c, rfl, _, hb1⟩
    have HB1 := Lib.hid hb1
    clear hb1 HR
    go_wp2
    go_ret2
    exact ⟨rfl, HB1.out⟩
  · rw [if_pos rfl] at hrd
    have HR : Hid (Calls Tryz.prog 147 #[.pointer (some ⟨g, 0, none⟩), .int .u32 ((p : Int) * 64 + 4 * (i : Int)), .int .i64 4] w fun e w' => ∃ x c, e = .returned (.tuple #[.slice x 4 c, .bool true]) ∧ Hid (∀ W, Below w'.heap.size w' W → Calls Tryz.prog 86 #[.slice x 4 c, .int .i64 0, .int .i64 4] W fun e w' => e = .returned (.tuple #[.int .u32 (num (rB L S (64 * p + 4 * i) 4)), .int .i64 0]) ∧ W = w') ∧ Below w.heap.size w w') := Lib.hid (by
      refine hrd.mono fun e w' ⟨x, q, c, he, hr, hb⟩ => ?_
      rw [show ((p : Int) * 64 + 4 * (i : Int)).toNat = 64 * p + 4 * i by omega, Int.toNat_natCast] at hr
      have hq4 : 4 = q := by have := hr.out.1; rw [rB_len] at this; exact this
      subst hq4
      refine ⟨x, c, he, Lib.hid fun W hW => ?_, hb⟩
      have := refGet_yes x 4 c 0 4 _ _ W (by omega) (hr.out.below hW) (rB_bytes hs1 _ _) (by decide) (by omega)
      rw [List.drop_zero, List.take_of_length_le (by rw [rB_len]; exact Nat.le_refl _)] at this
      exact this)
    rw [if_pos rfl, Int.toNat_of_nonneg (num4 hs1 _).1]
    clear hrd hP ht
    go_enter Tryz.func122, Tryz.ntmps122
    go_wp2_with fail
    refine HR.out.mono ?_
    rintro e w1 ⟨x, c, rfl, HG, hb1⟩
    have HB1 := Lib.hid hb1
    clear hb1 HR
    go_wp2_with fail
    refine (HG.out _ (Below.refl _ _)).mono ?_
    rintro e w2 ⟨rfl, rfl⟩
    go_wp2
    go_ret2
    exact ⟨rfl, HB1.out⟩
theorem refTab_out (a : Option Addr) (p i : Int) (ha : a ≠ none) (h : p < 0 ∨ 8 ≤ p) (w : World) :
    Calls Tryz.prog 81 #[.pointer a, .int .i64 p, .int .u32 i] w fun e w' => e = .returned (.tuple #[.int .u32 0, .bool false]) ∧ w = w' := by
  obtain ⟨x, rfl⟩ := Option.ne_none_iff_exists'.1 ha
  clear ha
  rcases h with h | h
  · go_enter Tryz.func81, Tryz.ntmps81
    go_wp2
    go_ret2
    exact ⟨rfl, rfl⟩
  · have h0 : ¬ p < 0 := by omega
    go_enter Tryz.func81, Tryz.ntmps81
    go_wp2
    go_ret2
    exact ⟨rfl, rfl⟩
theorem refTab_in (p i u : Nat) (t : Bool) (hp : p < 8) (hi : i < 16) (ht : hasT n L (p : Int) = t) (hu : wordT n S L (p : Int) i = u) (w : World) (hP : DV w g bt B q n gv cap S L D) :
    Calls Tryz.prog 81 #[.pointer (some ⟨g, 0, none⟩), .int .i64 p, .int .u32 i] w fun e w' => e = .returned (.tuple #[.int .u32 u, .bool t]) ∧ Below w.heap.size w w' := by
  have HW := Lib.hid (refWord_any p i u t hp hi ht hu w hP)
  have p0 : (0 : Int) ≤ (p : Int) := by omega
  have p1 : (p : Int) < 8 := by omega
  have i0 : (0 : Int) ≤ (i : Int) := by omega
  have i1 : (i : Int) < 16 := by omega
  have p2 : ¬ (p : Int) < 0 := by omega
  have p3 : ¬ 8 ≤ (p : Int) := by omega
  clear hP ht hp hi hu
  go_enter Tryz.func81, Tryz.ntmps81
  go_wp2_with fail
  refine HW.out.mono ?_
  rintro e w1 ⟨rfl, hb1⟩
  have HB1 := Lib.hid hb1
  clear hb1 HW
  go_wp2
  go_ret2
  exact ⟨rfl, HB1.out⟩
theorem refTab_any (p : Int) (i u : Nat) (t : Bool) (hi : i < 16) (ht : hasT n L p = t) (hu : wordT n S L p i = u) (w : World) (hP : DV w g bt B q n gv cap S L D) :
    Calls Tryz.prog 81 #[.pointer (some ⟨g, 0, none⟩), .int .i64 p, .int .u32 i] w fun e w' => e = .returned (.tuple #[.int .u32 u, .bool t]) ∧ Below w.heap.size w w' := by
  by_cases h : p < 0 ∨ 8 ≤ p
  · have e : hasT n L p = false := h.elim hasT_neg hasT_far
    unfold wordT at hu
    rw [e, if_neg (by decide)] at hu
    rw [e] at ht
    subst hu ht
    exact (refTab_out _ p i (by simp) h w).mono fun e w' ⟨he, hb⟩ => ⟨he, hb ▸ Below.refl _ _⟩
  · obtain ⟨k, rfl⟩ := Int.eq_ofNat_of_zero_le (show 0 ≤ p by omega)
    exact refTab_in k i u t (by omega) hi ht hu w hP
end
end Go.Proofs.YteaincdeoajkeaaGreatDoor.Wa
end
section
/- Package pte: an entry as a block of three cells; what its calls answer, plainly; facts on bits. -/
namespace Go.Proofs.YteaincdeoajkeaaGreatDoor.Pe
open Go.RowKit Ut
set_option linter.unusedVariables false
set_option maxRecDepth 100000
set_option maxHeartbeats 4000000

/-- an entry -/
abbrev pteV (o : Bool) (r g : Int) : Value := .agg #[.bool o, .int .i64 r, .int .i64 g]
abbrev pteW (o : Bool) (r g : Int) (w : World) : World := w.alloc (.cells #[.bool o, .int .i64 r, .int .i64 g] 112)
theorem pte_below (o : Bool) (r g : Int) (w : World) : Below w.heap.size w (pteW o r g w) := (Below.refl _ _).alloc (Nat.le_refl _) _
/-- an entry's block -/
def PteAt (w : World) (p : Nat) (o : Bool) (r g : Int) : Prop := w.heap[p]? = some (.cells #[.bool o, .int .i64 r, .int .i64 g] 112 (0, 0))
section
variable {w w' : World} {p B : Nat} {o : Bool} {r g : Int}
theorem PteAt.lt (h : PteAt w p o r g) : p < w.heap.size := (Array.getElem?_eq_some_iff.1 h).1
theorem PteAt.below (h : PteAt w p o r g) (hb : Below B w w') (hB : p < B) : PteAt w' p o r g := (hb.block _ hB).trans h
theorem PteAt.more (h : PteAt w p o r g) (hb : Below w.heap.size w w') : PteAt w' p o r g := h.below hb h.lt
theorem PteAt.cells (h : PteAt w p o r g) : w.cell? ⟨p, 0, none⟩ = some (.bool o) ∧ w.cell? ⟨p, 1, none⟩ = some (.int .i64 r) ∧ w.cell? ⟨p, 2, none⟩ = some (.int .i64 g) := by
  unfold PteAt at h
  refine ⟨?_, ?_, ?_⟩ <;> simp [World.cell?, h]
theorem PteAt.frozen (h : PteAt w p o r g) (j : Nat) : w.frozen? ⟨p, j, none⟩ = false := by
  unfold PteAt at h
  simp [World.frozen?, h]
end
theorem pte_at (o : Bool) (r g : Int) (w : World) : PteAt (pteW o r g w) w.heap.size o r g := by
  unfold PteAt
  simpa using heap_alloc_new w (.cells #[.bool o, .int .i64 r, .int .i64 g] 112)

/-- what has a word -/
def fitsB (o : Bool) (r g : Int) : Bool := if o then decide (0 ≤ r) && decide (r ≤ 15) && decide (0 ≤ g) && decide (g ≤ 31) else decide (r = 0) && decide (g = 0)
def wordN (r g : Int) : Nat := 1 + 2 * r.toNat + 256 * g.toNat
def putZ (o : Bool) (r g : Int) : Nat := if fitsB o r g && o then wordN r g else 0
def putE (o : Bool) (r g : Int) : Int := if fitsB o r g then 0 else 6
/-- what a word is -/
def rOf (x : Nat) : Nat := x / 2 % 16
def gOf (x : Nat) : Nat := x / 256 % 32
def getF (x : Nat) : Int := if x % 2 = 0 then 4 else if 1 + 2 * rOf x + 256 * gOf x = x then 0 else 5
def tabF (x : Nat) : Int := if getF x = 0 then (if rOf x = 0 then 0 else 5) else getF x
def leafF (x : Nat) : Int := if getF x = 0 then (if rOf x % 8 = 0 then 5 else 0) else getF x
/-- an entry, or none, by a fault -/
def oF (f : Int) : Bool := decide (f = 0)
def rF (f : Int) (x : Nat) : Int := if f = 0 then rOf x else 0
def gF (f : Int) (x : Nat) : Int := if f = 0 then gOf x else 0
/-- the right of a kind of access, as rights have it -/
def kindN (k : Int) : Nat := if k = 0 then 4 else if k = 1 then 1 else if k = 2 then 2 else 0
def bitB (r : Int) (z : Nat) : Bool := decide ((r % 16).toNat &&& z ≠ 0)
def alwB (o : Bool) (r k : Int) (u : Bool) : Bool := o && bitB r (kindN k) && (!u || bitB r 8)

theorem and_low (x z n : Nat) (hz : z < 2 ^ n) : x &&& z = (x % 2 ^ n) &&& z := by
  have h1 : x &&& z < 2 ^ n := Nat.and_lt_two_pow _ hz
  have h2 := Nat.and_mod_two_pow (a := x) (b := z) (n := n)
  rw [Nat.mod_eq_of_lt h1, Nat.mod_eq_of_lt hz] at h2
  exact h2
theorem i64_and_low (n : Int) (c : Nat) (hc : c < 16) : bits .and .i64 n (c : Int) = (((n % 16).toNat &&& c : Nat) : Int) := by
  have h1 : (BitVec.ofInt 64 (c : Int)).toNat = c := by rw [BitVec.ofInt_natCast, BitVec.toNat_ofNat]; exact Nat.mod_eq_of_lt (by omega)
  have hl := and_low (n % ((2 ^ 64 : Nat) : Int)).toNat c 4 (by omega)
  have e : (n % ((2 ^ 64 : Nat) : Int)).toNat % 2 ^ 4 = (n % 16).toNat := by omega
  rw [e] at hl
  have hlt : (n % 16).toNat &&& c < 2 ^ 4 := Nat.and_lt_two_pow _ (by omega)
  show IntKind.i64.wrap ((BitVec.ofInt 64 n &&& BitVec.ofInt 64 (c : Int)).toNat : Nat) = _
  rw [BitVec.toNat_and, BitVec.toNat_ofInt, h1, hl, IntKind.wrap_i64]
  omega
/-- a word's lowest bits -/
theorem and_one (x : Nat) (hx : x < 4294967296) : bits .and .u32 (x : Int) 1 = ((x % 2 : Nat) : Int) := by
  rw [show (1 : Int) = ((1 : Nat) : Int) from rfl, u32_and_nat x 1 hx (by omega), Nat.and_one_is_mod]
theorem bits_split (x : Nat) (hx : x < 4294967296) : x &&& 4294959328 = 32 * (x / 32 % 8 + 256 * (x / 8192)) := by
  have h1 : (x &&& 4294959328) % 32 = 0 := by
    have := Nat.and_mod_two_pow (a := x) (b := 4294959328) (n := 5)
    rw [show (4294959328 : Nat) % 2 ^ 5 = 0 from rfl, Nat.and_zero] at this
    exact this
  have h2 : (x &&& 4294959328) / 32 = x / 32 &&& 134217479 := Nat.and_div_two_pow (a := x) (b := 4294959328) (n := 5)
  have h3 : (x / 32 &&& 134217479) % 256 = x / 32 % 8 := by
    have := Nat.and_mod_two_pow (a := x / 32) (b := 134217479) (n := 8)
    rw [show (134217479 : Nat) % 2 ^ 8 = 2 ^ 3 - 1 from rfl, Nat.and_two_pow_sub_one_eq_mod] at this
    omega
  have h4 : (x / 32 &&& 134217479) / 256 = x / 8192 := by
    have := Nat.and_div_two_pow (a := x / 32) (b := 134217479) (n := 8)
    rw [show (134217479 : Nat) / 2 ^ 8 = 2 ^ 19 - 1 from rfl, Nat.and_two_pow_sub_one_eq_mod] at this
    omega
  omega
theorem and_not_all (x : Nat) (hx : x < 4294967296) : bits .andNot .u32 (x : Int) 7967 = ((32 * (x / 32 % 8 + 256 * (x / 8192)) : Nat) : Int) := by
  rw [show (7967 : Int) = ((7967 : Nat) : Int) from rfl, u32_andNot_nat x 7967 hx (by omega)]
  exact congrArg _ (bits_split x hx)
end Go.Proofs.YteaincdeoajkeaaGreatDoor.Pe
end
section
/- Package pte: fits, needed, Put of both. -/
namespace Go.Proofs.YteaincdeoajkeaaGreatDoor.Pe
open Go.RowKit Ut
set_option linter.unusedVariables false
set_option maxRecDepth 100000
set_option maxHeartbeats 4000000

theorem needed_any (k : Int) (w : World) :
    Calls Tryz.prog 111 #[.int .i64 k] w fun e w' => e = .returned (.int .u32 (2 * kindN k : Nat)) ∧ w = w' := by
  unfold kindN
  by_cases h0 : k = 0
  · subst h0
    go_enter Tryz.func111, Tryz.ntmps111
    go_wp2
    go_ret
    exact ⟨rfl, rfl⟩
  rw [if_neg h0]
  by_cases h1 : k = 1
  · subst h1
    go_enter Tryz.func111, Tryz.ntmps111
    go_wp2
    go_ret
    exact ⟨rfl, rfl⟩
  rw [if_neg h1]
  by_cases h2 : k = 2
  · subst h2
    go_enter Tryz.func111, Tryz.ntmps111
    go_wp2
    go_ret
    exact ⟨rfl, rfl⟩
  rw [if_neg h2]
  go_enter Tryz.func111, Tryz.ntmps111
  go_wp2
  go_ret
  exact ⟨rfl, rfl⟩

theorem fits_in {r g : Int} (h : fitsB true r g = true) : ∃ a b : Nat, r = a ∧ g = b ∧ a ≤ 15 ∧ b ≤ 31 := by
  unfold fitsB at h
  simp at h
  exact ⟨r.toNat, g.toNat, by omega, by omega, by omega, by omega⟩
theorem word_or (a b : Nat) (ha : a ≤ 15) (hb : b ≤ 31) : bits .or .u32 (bits .or .u32 1 ((a : Int) * 2)) ((b : Int) * 256) = (1 + 2 * a + 256 * b : Nat) := by
  have h : ((List.range 16).all fun a => (List.range 32).all fun b => bits .or .u32 (bits .or .u32 1 ((a : Int) * 2)) ((b : Int) * 256) == ((1 + 2 * a + 256 * b : Nat) : Int)) = true := by decide +kernel
  have h1 := List.all_eq_true.1 (List.all_eq_true.1 h a (by simp; omega)) b (by simp; omega)
  simpa using h1

end Go.Proofs.YteaincdeoajkeaaGreatDoor.Pe
end
