/- Several texts in one: Te Ma -/
import Derived.Test.YtniaclhmfmkikaaGreatDoorZ08
import Derived.Test.YtniaclhmfmkikaaGreatDoorZ03
import Derived.Test.YtniaclhmfmkikaaGreatDoorZ01
import Derived.Laws.BitsAllLaws
import Derived.Laws.ShiftsVarLaws
section
/- The document's registers (hermitageref11): Get, Set; awake of the law. -/
namespace Go.Proofs.YtniaclhmfmkikaaGreatDoor.Rg
open Go.RowKit Ut
set_option maxRecDepth 100000
set_option linter.unusedVariables false

/-- the document's file: its registers, where it goes on -/
def rCells (p : Int) (R : List Int) : List Value := wordsV R ++ [.int .u32 p]
def RAt (w : World) (b : Nat) (p : Int) (R : List Int) : Prop := Blk w b 43 (rCells p R) ∧ R.length = 16
section
variable {w w' : World} {b : Nat} {p : Int} {R : List Int}
theorem RAt.below {B : Nat} (h : RAt w b p R) (hb : Below B w w') (hB : b < B) : RAt w' b p R := ⟨h.1.below hb hB, h.2⟩
theorem RAt.kept {row : Option Nat} (h : RAt w b p R) (hg : w.grownBy w' row) (hr : some b ≠ row) : RAt w' b p R := ⟨h.1.kept hg hr, h.2⟩
theorem RAt.reg (h : RAt w b p R) (i : Nat) (hi : i < 16) : w.cell? ⟨b, i, none⟩ = some (.int .u32 (R.getD i 0)) := h.1.cell (by
  have hl := h.2
  simp [rCells, wordsV, List.getD, hl, hi, List.getElem?_append])
theorem RAt.pc (h : RAt w b p R) : w.cell? ⟨b, 16, none⟩ = some (.int .u32 p) := h.1.cell (by
  have hl := h.2
  simp [rCells, wordsV, hl])
theorem rCells_words (p : Int) (R : List Int) : ∀ j v, (wordsV R)[j]? = some v → (rCells p R)[0 + j]? = some v := fun j v h => by
  have hj := (List.getElem?_eq_some_iff.1 h).1
  rw [Nat.zero_add]
  unfold rCells
  rw [List.getElem?_append_left hj]
  exact h
theorem RAt.set (h : RAt w b p R) (i : Nat) (hi : i < 16) (v : Int) : RAt (w.setCell ⟨b, i, none⟩ (.int .u32 v)) b p (R.set i v) := by
  refine ⟨?_, by rw [List.length_set]; exact h.2⟩
  have := h.1.set i (.int .u32 v)
  have hl := h.2
  have e : (rCells p R).set i (.int .u32 v) = rCells p (R.set i v) := by
    unfold rCells wordsV
    rw [List.set_append_left _ _ (by simp [hl, hi]), List.map_set]
  rwa [e] at this
theorem RAt.jump (h : RAt w b p R) (q : Int) : RAt (w.setCell ⟨b, 16, none⟩ (.int .u32 q)) b q R := by
  refine ⟨?_, h.2⟩
  have := h.1.set 16 (.int .u32 q)
  have hl := h.2
  have e : (rCells p R).set 16 (.int .u32 q) = rCells q R := by
    unfold rCells wordsV
    rw [List.set_append_right _ _ (by simp [hl])]
    simp [hl]
  rwa [e] at this
end

theorem refGet_any (b : Nat) (p i : Int) (R : List Int) (w : World) (h : RAt w b p R) :
    Calls Tryz.prog 70 #[.pointer (some ⟨b, 0, none⟩), .int .i64 i] w fun e w' => e = .returned (.tuple #[.int .u32 (getR R i), .int .i64 (errZ i)]) ∧ w = w' := by
  by_cases h0 : i < 0
  · have h1 : decide (i < 0) = true := by simpa using h0
    rw [errZ_no (.inl h0), getR_no (.inl h0)]
    clear h0 h
    go_enter Tryz.func70, Tryz.ntmps70
    go_wp2
    go_ret2
    exact ⟨rfl, rfl⟩
  · have h1 : decide (i < 0) = false := by simpa using h0
    by_cases h2 : 16 ≤ i
    · have h3 : decide (16 ≤ i) = true := by simpa using h2
      rw [errZ_no (.inr h2), getR_no (.inr h2)]
      clear h0 h
      go_enter Tryz.func70, Tryz.ntmps70
      go_wp2
      go_ret2
      exact ⟨rfl, rfl⟩
    · obtain ⟨k, rfl, hk⟩ : ∃ k : Nat, i = k ∧ k < 16 := ⟨i.toNat, by omega, by omega⟩
      have hc := h.reg k hk
      have h1 : decide ((k : Int) < 0) = false := by simp
      have h3 : decide ((16 : Int) ≤ (k : Int)) = false := by simp; omega
      rw [errZ_yes hk, getR_yes hk]
      generalize R.getD k 0 = z at hc ⊢
      clear h h0 h2
      go_enter Tryz.func70, Tryz.ntmps70
      go_wp2
      go_ret2
      exact ⟨rfl, rfl⟩

theorem refSet_any (b : Nat) (p i v : Int) (R : List Int) (w : World) (h : RAt w b p R) :
    Calls Tryz.prog 25 #[.pointer (some ⟨b, 0, none⟩), .int .i64 i, .int .u32 v] w fun e w' => e = .returned (.int .i64 (errZ i)) ∧ RAt w' b p (setR R i v) ∧ w.grownBy w' (some b) := by
  rcases reg_cases i with h0 | rfl | ⟨k, rfl, h0, hk⟩
  · rw [errZ_no h0, setR_no (by omega)]
    have H := Lib.hid h
    clear h
    by_cases h0 : i < 0
    · have h1 : decide (i < 0) = true := by simpa using h0
      go_enter Tryz.func25, Tryz.ntmps25
      go_wp2
      go_ret
      exact ⟨rfl, H.out, World.grownBy.refl _ _⟩
    · have h1 : decide (i < 0) = false := by simpa using h0
      have h3 : decide (16 ≤ i) = true := by simp; omega
      go_enter Tryz.func25, Tryz.ntmps25
      go_wp2
      go_ret
      exact ⟨rfl, H.out, World.grownBy.refl _ _⟩
  · rw [setR_no (by omega)]
    have H := Lib.hid h
    clear h
    go_enter Tryz.func25, Tryz.ntmps25
    go_wp2
    go_ret
    exact ⟨rfl, H.out, World.grownBy.refl _ _⟩
  · rw [errZ_yes hk, setR_yes h0 hk]
    have hc := h.reg k hk
    have hf := h.1.frozen k
    have h1 : decide ((k : Int) < 0) = false := by simp
    have h3 : decide ((16 : Int) ≤ (k : Int)) = false := by simp; omega
    have hn : decide ((0 : Int) < (k : Int)) = true := by simp; omega
    have H := Lib.hid (h.set k hk v)
    have G := Lib.hid (grown_setCell w b k (.int .u32 v))
    clear h
    go_enter Tryz.func25, Tryz.ntmps25
    go_wp2
    go_ret
    exact ⟨rfl, H.out, G.out⟩

/-- two arrays of registers compared inside a walk -/
theorem eql_words (R Q : List Int) (hR : R.length = 16) (hQ : Q.length = 16) (w : World) : (Op.equalIn 10000 40 (arrV R) (arrV Q)).run Tryz.prog w = .ok (R == Q) w :=
  run_equalIn_ints w 9998 40 23 16 .u32 Tryz.underlying40 Tryz.underlying23 (fun W => by kernel_rfl) R Q hR hQ
theorem guard_words (op : BinOp) (x y : Operand) (R Q : List Int) (w : World) : (eqGuard op 40 x y (arrV R) (arrV Q)).run Tryz.prog w = .ok () w := run_eqGuard_agg w op 40 x y _ _ (by kernel_rfl)
theorem bin_eql (R Q : List Int) (hR : R.length = 16) (hQ : Q.length = 16) (w : World) : (binOp .eql 40 (arrV R) (arrV Q)).run Tryz.prog w = .ok (.bool (R == Q)) w := by
  have h := eql_words R Q hR hQ w
  unfold arrV at h ⊢
  rw [run_eql_struct, h]
  rfl
theorem bin_neq (R Q : List Int) (hR : R.length = 16) (hQ : Q.length = 16) (w : World) : (binOp .neq 40 (arrV R) (arrV Q)).run Tryz.prog w = .ok (.bool (!(R == Q))) w := by
  have h := eql_words R Q hR hQ w
  unfold arrV at h ⊢
  rw [run_neq_struct, h]
  rfl
def five : List Int := setR (setR zer 3 5) 0 5
theorem five_len : five.length = 16 := rfl

end Go.Proofs.YtniaclhmfmkikaaGreatDoor.Rg
end
section
/- Package alu: plain facts on words as natural numbers below 2^32; what the small methods of a pair of words return. -/
namespace Go.Proofs.YtniaclhmfmkikaaGreatDoor.Al
open Go.RowKit Ut
set_option linter.unusedVariables false
set_option maxRecDepth 100000
set_option maxHeartbeats 2000000

/-- a pair of words -/
abbrev pairV (a b : Nat) : Value := .agg #[.int .u32 a, .int .u32 b]
/-- the world with a pair's block more -/
abbrev boxW (a b : Nat) (w : World) : World := w.alloc (.cells #[.int .u32 a, .int .u32 b] 129)
theorem box_below (a b : Nat) (w : World) : Below w.heap.size w (boxW a b w) := (Below.refl _ _).alloc (Nat.le_refl _) _

/-- less, with signs -/
def sltN (a b : Nat) : Bool := decide ((a + 2147483648) % 4294967296 < (b + 2147483648) % 4294967296)
def one1 (t : Bool) : Nat := if t then 1 else 0
/-- down, with its sign -/
def sarN (a k : Nat) : Nat := if a < 2147483648 then a / 2 ^ k else 4294967295 - (4294967295 - a) / 2 ^ k

theorem wrap32_lt (a b : Nat) (ha : a < 4294967296) (hb : b < 4294967296) : decide (wrap32 (a : Int) < wrap32 (b : Int)) = sltN a b := by
  unfold sltN wrap32
  rw [decide_eq_decide]
  omega
theorem not_u32 (b : Nat) (hb : b < 4294967296) : bits .xor .u32 IntKind.u32.max (b : Int) = ((4294967295 - b : Nat) : Int) := by
  have e : IntKind.u32.max = ((4294967295 : Nat) : Int) := by decide
  rw [e, u32_xor_nat _ _ (by omega) hb]
  congr 1
  have h : 4294967295 - b = 2 ^ 32 - (b + 1) := by omega
  apply Nat.eq_of_testBit_eq
  intro i
  rw [h, Nat.testBit_two_pow_sub_succ (by omega), Nat.testBit_xor, show (4294967295 : Nat) = 2 ^ 32 - 1 from rfl, Nat.testBit_two_pow_sub_one]
  by_cases hi : i < 32
  · simp [hi]
  · have : b.testBit i = false := Nat.testBit_lt_two_pow (Nat.lt_of_lt_of_le hb (show 2 ^ 32 ≤ 2 ^ i from Nat.pow_le_pow_right (by decide) (by omega)))
    simp [hi, this]
theorem wrap32_cases (a : Nat) (ha : a < 4294967296) : wrap32 (a : Int) = if a < 2147483648 then (a : Int) else (a : Int) - 4294967296 := by
  unfold wrap32
  split <;> omega

theorem sum_any (a b : Nat) (ha : a < 4294967296) (hb : b < 4294967296) (w : World) :
    Calls Tryz.prog 109 #[pairV a b] w fun e w' => e = .returned (.int .u32 ((a + b) % 4294967296 : Nat)) ∧ Below w.heap.size w w' := by
  go_enter Tryz.func109, Tryz.ntmps109
  go_wp2
  go_ret
  exact ⟨rfl, box_below a b w⟩
theorem difference_any (a b : Nat) (ha : a < 4294967296) (hb : b < 4294967296) (w : World) :
    Calls Tryz.prog 110 #[pairV a b] w fun e w' => e = .returned (.int .u32 ((a + (4294967296 - b)) % 4294967296 : Nat)) ∧ Below w.heap.size w w' := by
  have H := Lib.hid (not_u32 b hb)
  go_enter Tryz.func110, Tryz.ntmps110
  go_wp2
  go_ret
  refine ⟨congrArg (fun z => Ending.returned (.int .u32 z)) ?_, box_below a b w⟩
  rw [H.out]
  omega
theorem and_any (a b : Nat) (ha : a < 4294967296) (hb : b < 4294967296) (w : World) :
    Calls Tryz.prog 111 #[pairV a b] w fun e w' => e = .returned (.int .u32 (a &&& b : Nat)) ∧ Below w.heap.size w w' := by
  have H := Lib.hid (u32_and_nat a b ha hb)
  go_enter Tryz.func111, Tryz.ntmps111
  go_wp2
  go_ret
  exact ⟨congrArg Ending.returned (congrArg _ H.out), box_below a b w⟩
theorem or_any (a b : Nat) (ha : a < 4294967296) (hb : b < 4294967296) (w : World) :
    Calls Tryz.prog 112 #[pairV a b] w fun e w' => e = .returned (.int .u32 (a ||| b : Nat)) ∧ Below w.heap.size w w' := by
  have H := Lib.hid (u32_or_nat a b ha hb)
  go_enter Tryz.func112, Tryz.ntmps112
  go_wp2
  go_ret
  exact ⟨congrArg Ending.returned (congrArg _ H.out), box_below a b w⟩
theorem xor_any (a b : Nat) (ha : a < 4294967296) (hb : b < 4294967296) (w : World) :
    Calls Tryz.prog 113 #[pairV a b] w fun e w' => e = .returned (.int .u32 (a ^^^ b : Nat)) ∧ Below w.heap.size w w' := by
  have H := Lib.hid (u32_xor_nat a b ha hb)
  go_enter Tryz.func113, Tryz.ntmps113
  go_wp2
  go_ret
  exact ⟨congrArg Ending.returned (congrArg _ H.out), box_below a b w⟩
theorem places_any (a b : Nat) (w : World) :
    Calls Tryz.prog 128 #[pairV a b] w fun e w' => e = .returned (.int .u32 (b % 32 : Nat)) ∧ w' = boxW a b w := by
  go_enter Tryz.func128, Tryz.ntmps128
  go_wp2
  go_ret
  exact ⟨rfl, rfl⟩
theorem less_any (a b : Nat) (ha : a < 4294967296) (hb : b < 4294967296) (w : World) :
    Calls Tryz.prog 125 #[pairV a b] w fun e w' => e = .returned (.bool (sltN a b)) ∧ Below w.heap.size w w' := by
  have H := Lib.hid (wrap32_lt a b ha hb)
  go_enter Tryz.func125, Tryz.ntmps125
  go_wp2
  go_ret
  exact ⟨by rw [H.out]; rfl, box_below a b w⟩
theorem below_any (a b : Nat) (w : World) :
    Calls Tryz.prog 126 #[pairV a b] w fun e w' => e = .returned (.bool (decide (a < b))) ∧ Below w.heap.size w w' := by
  go_enter Tryz.func126, Tryz.ntmps126
  go_wp2
  go_ret
  exact ⟨rfl, box_below a b w⟩
theorem same_any (a b : Nat) (w : World) :
    Calls Tryz.prog 123 #[pairV a b] w fun e w' => e = .returned (.bool (decide (a = b))) ∧ Below w.heap.size w w' := by
  go_enter Tryz.func123, Tryz.ntmps123
  go_wp2
  go_ret
  refine ⟨congrArg Ending.returned (congrArg Value.bool ?_), box_below a b w⟩
  rw [Bool.eq_iff_iff]
  simp
  omega
theorem differs_any (a b : Nat) (w : World) :
    Calls Tryz.prog 124 #[pairV a b] w fun e w' => e = .returned (.bool (!decide (a = b))) ∧ Below w.heap.size w w' := by
  go_enter Tryz.func124, Tryz.ntmps124
  go_wp2
  go_ret
  refine ⟨congrArg Ending.returned (congrArg Value.bool ?_), box_below a b w⟩
  rw [Bool.eq_iff_iff]
  simp
  omega
theorem one_any (t : Bool) (w : World) :
    Calls Tryz.prog 129 #[.bool t] w fun e w' => e = .returned (.int .u32 (one1 t : Nat)) ∧ w = w' := by
  cases t
  all_goals
    go_enter Tryz.func129, Tryz.ntmps129
    go_wp2
    go_ret
    exact ⟨rfl, rfl⟩
theorem oneIfLess_any (a b : Nat) (ha : a < 4294967296) (hb : b < 4294967296) (w : World) :
    Calls Tryz.prog 117 #[pairV a b] w fun e w' => e = .returned (.int .u32 (one1 (sltN a b) : Nat)) ∧ Below w.heap.size w w' := by
  go_enter Tryz.func117, Tryz.ntmps117
  have hb0 := Lib.hid (box_below a b w)
  go_wp2_with fail
  refine (less_any a b ha hb _).mono ?_
  rintro e w1 ⟨rfl, hb1⟩
  have hb2 := Lib.hid (hb0.out.trans (hb1.mono hb0.out.size))
  clear hb1
  go_wp2_with fail
  refine (one_any _ _).mono ?_
  rintro e w2 ⟨rfl, rfl⟩
  go_wp2
  go_ret
  exact ⟨rfl, hb2.out⟩
theorem oneIfBelow_any (a b : Nat) (w : World) :
    Calls Tryz.prog 118 #[pairV a b] w fun e w' => e = .returned (.int .u32 (one1 (decide (a < b)) : Nat)) ∧ Below w.heap.size w w' := by
  go_enter Tryz.func118, Tryz.ntmps118
  have hb0 := Lib.hid (box_below a b w)
  go_wp2_with fail
  refine (below_any a b _).mono ?_
  rintro e w1 ⟨rfl, hb1⟩
  have hb2 := Lib.hid (hb0.out.trans (hb1.mono hb0.out.size))
  clear hb1
  go_wp2_with fail
  refine (one_any _ _).mono ?_
  rintro e w2 ⟨rfl, rfl⟩
  go_wp2
  go_ret
  exact ⟨rfl, hb2.out⟩
end Go.Proofs.YtniaclhmfmkikaaGreatDoor.Al
end
