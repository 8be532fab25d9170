/- Package alu: plain facts on words as natural numbers below 2^32; what the small methods of a pair of words return. -/
import Derived.Test.YtniaclhmfmkikaaDoorUt
import Derived.Laws.BitsAllLaws
import Derived.Laws.ShiftsVarLaws
namespace Go.Proofs.YtniaclhmfmkikaaDoor.Al
open Go.RowKit Ut
set_option linter.unusedVariables false
set_option maxRecDepth 100000
set_option maxHeartbeats 2000000

/-- a pair of words -/
abbrev pairV (a b : Nat) : Value := .agg #[.int .u32 a, .int .u32 b]
/-- the world with a pair's block more -/
abbrev boxW (a b : Nat) (w : World) : World := w.alloc (.cells #[.int .u32 a, .int .u32 b] 86)
theorem box_below (a b : Nat) (w : World) : Below w.heap.size w (boxW a b w) := (Below.refl _ _).alloc (Nat.le_refl _) _

/-- less, with signs -/
def sltN (a b : Nat) : Bool := decide ((a + 2147483648) % 4294967296 < (b + 2147483648) % 4294967296)
def one1 (t : Bool) : Nat := if t then 1 else 0
/-- down, with its sign -/
def sarN (a k : Nat) : Nat := if a < 2147483648 then a / 2 ^ k else 4294967295 - (4294967295 - a) / 2 ^ k

theorem wrap32_lt (a b : Nat) (ha : a < 4294967296) (hb : b < 4294967296) : decide (wrap32 (a : Int) < wrap32 (b : Int)) = sltN a b := by
  unfold sltN wrap32
  rw [decide_eq_decide]
  omega
theorem not_u32 (b : Nat) (hb : b < 4294967296) : bits .xor .u32 IntKind.u32.max (b : Int) = ((4294967295 - b : Nat) : Int) := by
  have e : IntKind.u32.max = ((4294967295 : Nat) : Int) := by decide
  rw [e, u32_xor_nat _ _ (by omega) hb]
  congr 1
  have h : 4294967295 - b = 2 ^ 32 - (b + 1) := by omega
  apply Nat.eq_of_testBit_eq
  intro i
  rw [h, Nat.testBit_two_pow_sub_succ (by omega), Nat.testBit_xor, show (4294967295 : Nat) = 2 ^ 32 - 1 from rfl, Nat.testBit_two_pow_sub_one]
  by_cases hi : i < 32
  · simp [hi]
  · have : b.testBit i = false := Nat.testBit_lt_two_pow (Nat.lt_of_lt_of_le hb (show 2 ^ 32 ≤ 2 ^ i from Nat.pow_le_pow_right (by decide) (by omega)))
    simp [hi, this]
theorem wrap32_cases (a : Nat) (ha : a < 4294967296) : wrap32 (a : Int) = if a < 2147483648 then (a : Int) else (a : Int) - 4294967296 := by
  unfold wrap32
  split <;> omega

theorem sum_any (a b : Nat) (ha : a < 4294967296) (hb : b < 4294967296) (w : World) :
    Calls Tryd.prog 69 #[pairV a b] w fun e w' => e = .returned (.int .u32 ((a + b) % 4294967296 : Nat)) ∧ Below w.heap.size w w' := by
  go_enter Tryd.func69, Tryd.ntmps69
  go_wp2
  go_ret
  exact ⟨rfl, box_below a b w⟩
theorem difference_any (a b : Nat) (ha : a < 4294967296) (hb : b < 4294967296) (w : World) :
    Calls Tryd.prog 70 #[pairV a b] w fun e w' => e = .returned (.int .u32 ((a + (4294967296 - b)) % 4294967296 : Nat)) ∧ Below w.heap.size w w' := by
  have H := Lib.hid (not_u32 b hb)
  go_enter Tryd.func70, Tryd.ntmps70
  go_wp2
  go_ret
  refine ⟨congrArg (fun z => Ending.returned (.int .u32 z)) ?_, box_below a b w⟩
  rw [H.out]
  omega
theorem and_any (a b : Nat) (ha : a < 4294967296) (hb : b < 4294967296) (w : World) :
    Calls Tryd.prog 71 #[pairV a b] w fun e w' => e = .returned (.int .u32 (a &&& b : Nat)) ∧ Below w.heap.size w w' := by
  have H := Lib.hid (u32_and_nat a b ha hb)
  go_enter Tryd.func71, Tryd.ntmps71
  go_wp2
  go_ret
  exact ⟨congrArg Ending.returned (congrArg _ H.out), box_below a b w⟩
theorem or_any (a b : Nat) (ha : a < 4294967296) (hb : b < 4294967296) (w : World) :
    Calls Tryd.prog 72 #[pairV a b] w fun e w' => e = .returned (.int .u32 (a ||| b : Nat)) ∧ Below w.heap.size w w' := by
  have H := Lib.hid (u32_or_nat a b ha hb)
  go_enter Tryd.func72, Tryd.ntmps72
  go_wp2
  go_ret
  exact ⟨congrArg Ending.returned (congrArg _ H.out), box_below a b w⟩
theorem xor_any (a b : Nat) (ha : a < 4294967296) (hb : b < 4294967296) (w : World) :
    Calls Tryd.prog 73 #[pairV a b] w fun e w' => e = .returned (.int .u32 (a ^^^ b : Nat)) ∧ Below w.heap.size w w' := by
  have H := Lib.hid (u32_xor_nat a b ha hb)
  go_enter Tryd.func73, Tryd.ntmps73
  go_wp2
  go_ret
  exact ⟨congrArg Ending.returned (congrArg _ H.out), box_below a b w⟩
theorem places_any (a b : Nat) (w : World) :
    Calls Tryd.prog 89 #[pairV a b] w fun e w' => e = .returned (.int .u32 (b % 32 : Nat)) ∧ w' = boxW a b w := by
  go_enter Tryd.func89, Tryd.ntmps89
  go_wp2
  go_ret
  exact ⟨rfl, rfl⟩
theorem less_any (a b : Nat) (ha : a < 4294967296) (hb : b < 4294967296) (w : World) :
    Calls Tryd.prog 85 #[pairV a b] w fun e w' => e = .returned (.bool (sltN a b)) ∧ Below w.heap.size w w' := by
  have H := Lib.hid (wrap32_lt a b ha hb)
  go_enter Tryd.func85, Tryd.ntmps85
  go_wp2
  go_ret
  exact ⟨by rw [H.out]; rfl, box_below a b w⟩
theorem below_any (a b : Nat) (w : World) :
    Calls Tryd.prog 86 #[pairV a b] w fun e w' => e = .returned (.bool (decide (a < b))) ∧ Below w.heap.size w w' := by
  go_enter Tryd.func86, Tryd.ntmps86
  go_wp2
  go_ret
  exact ⟨rfl, box_below a b w⟩
theorem same_any (a b : Nat) (w : World) :
    Calls Tryd.prog 83 #[pairV a b] w fun e w' => e = .returned (.bool (decide (a = b))) ∧ Below w.heap.size w w' := by
  go_enter Tryd.func83, Tryd.ntmps83
  go_wp2
  go_ret
  refine ⟨congrArg Ending.returned (congrArg Value.bool ?_), box_below a b w⟩
  rw [Bool.eq_iff_iff]
  simp
  omega
theorem differs_any (a b : Nat) (w : World) :
    Calls Tryd.prog 84 #[pairV a b] w fun e w' => e = .returned (.bool (!decide (a = b))) ∧ Below w.heap.size w w' := by
  go_enter Tryd.func84, Tryd.ntmps84
  go_wp2
  go_ret
  refine ⟨congrArg Ending.returned (congrArg Value.bool ?_), box_below a b w⟩
  rw [Bool.eq_iff_iff]
  simp
  omega
theorem one_any (t : Bool) (w : World) :
    Calls Tryd.prog 90 #[.bool t] w fun e w' => e = .returned (.int .u32 (one1 t : Nat)) ∧ w = w' := by
  cases t
  all_goals
    go_enter Tryd.func90, Tryd.ntmps90
    go_wp2
    go_ret
    exact ⟨rfl, rfl⟩
theorem oneIfLess_any (a b : Nat) (ha : a < 4294967296) (hb : b < 4294967296) (w : World) :
    Calls Tryd.prog 77 #[pairV a b] w fun e w' => e = .returned (.int .u32 (one1 (sltN a b) : Nat)) ∧ Below w.heap.size w w' := by
  go_enter Tryd.func77, Tryd.ntmps77
  have hb0 := Lib.hid (box_below a b w)
  go_wp2_with fail
  refine (less_any a b ha hb _).mono ?_
  rintro e w1 ⟨rfl, hb1⟩
  have hb2 := Lib.hid (hb0.out.trans (hb1.mono hb0.out.size))
  clear hb1
  go_wp2_with fail
  refine (one_any _ _).mono ?_
  rintro e w2 ⟨rfl, rfl⟩
  go_wp2
  go_ret
  exact ⟨rfl, hb2.out⟩
theorem oneIfBelow_any (a b : Nat) (w : World) :
    Calls Tryd.prog 78 #[pairV a b] w fun e w' => e = .returned (.int .u32 (one1 (decide (a < b)) : Nat)) ∧ Below w.heap.size w w' := by
  go_enter Tryd.func78, Tryd.ntmps78
  have hb0 := Lib.hid (box_below a b w)
  go_wp2_with fail
  refine (below_any a b _).mono ?_
  rintro e w1 ⟨rfl, hb1⟩
  have hb2 := Lib.hid (hb0.out.trans (hb1.mono hb0.out.size))
  clear hb1
  go_wp2_with fail
  refine (one_any _ _).mono ?_
  rintro e w2 ⟨rfl, rfl⟩
  go_wp2
  go_ret
  exact ⟨rfl, hb2.out⟩
end Go.Proofs.YtniaclhmfmkikaaDoor.Al
