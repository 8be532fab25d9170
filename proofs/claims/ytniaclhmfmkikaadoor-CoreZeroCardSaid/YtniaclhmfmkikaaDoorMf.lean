/- Package alu: Do, Taken, Plain, Upper. -/
import Derived.Test.YtniaclhmfmkikaaDoorMd
import Derived.Test.YtniaclhmfmkikaaDoorMb
import Derived.Test.YtniaclhmfmkikaaDoorMe
namespace Go.Proofs.YtniaclhmfmkikaaDoor.Al
open Go.RowKit Ut
set_option linter.unusedVariables false
set_option maxRecDepth 100000
set_option maxHeartbeats 4000000

theorem eql_nilW (w : World) : (binOp .eql 83 .nilFunc .nilFunc).run Tryd.prog w = .ok (.bool true) w := rfl
theorem eql_nilB (w : World) : (binOp .eql 87 .nilFunc .nilFunc).run Tryd.prog w = .ok (.bool true) w := rfl
theorem eql_mthW (f : Nat) (w : World) : (binOp .eql 83 (mthV f) .nilFunc).run Tryd.prog w = .ok (.bool false) w := rfl
theorem eql_mthB (f : Nat) (w : World) : (binOp .eql 87 (mthV f) .nilFunc).run Tryd.prog w = .ok (.bool false) w := rfl

theorem do_none (i : Int) (a b : Nat) (w : World) (hv : atRow rowW i .nilFunc = .nilFunc) :
    Calls Tryd.prog 44 #[.int .i64 i, .int .u32 a, .int .u32 b] w fun e w' => e = .returned (.tuple #[.int .u32 0, .int .i64 1]) ∧ Below w.heap.size w w' := by
  go_enter Tryd.func44, Tryd.ntmps44
  go_wp2_with fail
  refine (reckoning_any i _).mono ?_
  rw [hv]
  rintro e w1 ⟨rfl, hb1⟩
  have HB1 := Lib.hid hb1
  have he := eql_nilW w1
  clear hb1
  go_wp2
  go_ret2
  exact ⟨rfl, HB1.out⟩
theorem do_some (i : Int) (f a b : Nat) (r : Int) (w : World) (hv : atRow rowW i .nilFunc = mthV f)
    (hen : ∀ (args : Array Value) (w : World), (callFunc f args).run Tryd.prog w = .ok (.enter f args) w)
    (hf : ∀ w, Calls Tryd.prog f #[pairV a b] w fun e w' => e = .returned (.int .u32 r) ∧ Below w.heap.size w w') :
    Calls Tryd.prog 44 #[.int .i64 i, .int .u32 a, .int .u32 b] w fun e w' => e = .returned (.tuple #[.int .u32 r, .int .i64 0]) ∧ Below w.heap.size w w' := by
  have HF := Lib.hid hf
  clear hf
  go_enter Tryd.func44, Tryd.ntmps44
  go_wp2_with fail
  refine (reckoning_any i _).mono ?_
  rw [hv]
  rintro e w1 ⟨rfl, hb1⟩
  have HB1 := Lib.hid hb1
  have he := eql_mthW f w1
  clear hb1 hv
  go_wp2_with fail
  with_reducible refine (HF.out _).mono ?_
  rintro e w2 ⟨rfl, hb2⟩
  have HB2 := Lib.hid (HB1.out.trans (hb2.mono HB1.out.size))
  clear hb2
  go_wp2
  go_ret2
  exact ⟨rfl, HB2.out⟩
theorem taken_none (i : Int) (a b : Nat) (w : World) (hv : atRow rowB i .nilFunc = .nilFunc) :
    Calls Tryd.prog 50 #[.int .i64 i, .int .u32 a, .int .u32 b] w fun e w' => e = .returned (.tuple #[.bool false, .int .i64 1]) ∧ Below w.heap.size w w' := by
  go_enter Tryd.func50, Tryd.ntmps50
  go_wp2_with fail
  refine (question_any i _).mono ?_
  rw [hv]
  rintro e w1 ⟨rfl, hb1⟩
  have HB1 := Lib.hid hb1
  have he := eql_nilB w1
  clear hb1
  go_wp2
  go_ret2
  exact ⟨rfl, HB1.out⟩
theorem taken_some (i : Int) (f a b : Nat) (r : Bool) (w : World) (hv : atRow rowB i .nilFunc = mthV f)
    (hen : ∀ (args : Array Value) (w : World), (callFunc f args).run Tryd.prog w = .ok (.enter f args) w)
    (hf : ∀ w, Calls Tryd.prog f #[pairV a b] w fun e w' => e = .returned (.bool r) ∧ Below w.heap.size w w') :
    Calls Tryd.prog 50 #[.int .i64 i, .int .u32 a, .int .u32 b] w fun e w' => e = .returned (.tuple #[.bool r, .int .i64 0]) ∧ Below w.heap.size w w' := by
  have HF := Lib.hid hf
  clear hf
  go_enter Tryd.func50, Tryd.ntmps50
  go_wp2_with fail
  refine (question_any i _).mono ?_
  rw [hv]
  rintro e w1 ⟨rfl, hb1⟩
  have HB1 := Lib.hid hb1
  have he := eql_mthB f w1
  clear hb1 hv
  go_wp2_with fail
  with_reducible refine (HF.out _).mono ?_
  rintro e w2 ⟨rfl, hb2⟩
  have HB2 := Lib.hid (HB1.out.trans (hb2.mono HB1.out.size))
  clear hb2
  go_wp2
  go_ret2
  exact ⟨rfl, HB2.out⟩

/-- what operation i makes of two words -/
def reckN (i : Int) (a b : Nat) : Nat :=
  if i = 1 then (a + b) % 4294967296 else if i = 2 then (a + (4294967296 - b)) % 4294967296 else if i = 3 then a &&& b else if i = 4 then a ||| b else if i = 5 then a ^^^ b
  else if i = 6 then a * 2 ^ (b % 32) % 4294967296 else if i = 7 then a / 2 ^ (b % 32) else if i = 8 then sarN a (b % 32) else if i = 9 then one1 (sltN a b) else if i = 10 then one1 (decide (a < b))
  else if i = 11 then a * b % 4294967296 else if i = 12 then (if b = 0 then 4294967295 else a / b) else if i = 13 then a % b else 0
def reckE (i : Int) : Int := if 1 ≤ i ∧ i ≤ 13 then 0 else 1
def takeN (i : Int) (a b : Nat) : Bool :=
  if i = 28 then decide (a = b) else if i = 29 then !decide (a = b) else if i = 30 then sltN a b else if i = 31 then decide (a < b) else false
def takeE (i : Int) : Int := if 28 ≤ i ∧ i ≤ 31 then 0 else 1

def isNil : Value → Bool
  | .nilFunc => true
  | _ => false
theorem isNil_is : ∀ {v : Value}, isNil v = true → v = .nilFunc
  | .nilFunc, _ => rfl
def isI (z : Int) : Value → Bool
  | .int .i64 x => x == z
  | _ => false
theorem isI_is {z : Int} : ∀ {v : Value}, isI z v = true → v = .int .i64 z
  | .int .i64 x, h => by rw [eq_of_beq h]

theorem reck_none (i : Int) (a b : Nat) (h : ¬ (1 ≤ i ∧ i ≤ 13)) : reckN i a b = 0 := by
  unfold reckN
  simp only [show ¬ i = 1 by omega, show ¬ i = 2 by omega, show ¬ i = 3 by omega, show ¬ i = 4 by omega, show ¬ i = 5 by omega, show ¬ i = 6 by omega, show ¬ i = 7 by omega, show ¬ i = 8 by omega, show ¬ i = 9 by omega, show ¬ i = 10 by omega, show ¬ i = 11 by omega, show ¬ i = 12 by omega, show ¬ i = 13 by omega, if_false]
theorem take_none (i : Int) (a b : Nat) (h : ¬ (28 ≤ i ∧ i ≤ 31)) : takeN i a b = false := by
  unfold takeN
  simp only [show ¬ i = 28 by omega, show ¬ i = 29 by omega, show ¬ i = 30 by omega, show ¬ i = 31 by omega, if_false]

theorem do_any (i : Int) (a b : Nat) (ha : a < 4294967296) (hb : b < 4294967296) (w : World) :
    Calls Tryd.prog 44 #[.int .i64 i, .int .u32 a, .int .u32 b] w fun e w' => e = .returned (.tuple #[.int .u32 (reckN i a b : Nat), .int .i64 (reckE i)]) ∧ Below w.heap.size w w' := by
  by_cases h : 1 ≤ i ∧ i ≤ 13
  · rcases (show i = 1 ∨ i = 2 ∨ i = 3 ∨ i = 4 ∨ i = 5 ∨ i = 6 ∨ i = 7 ∨ i = 8 ∨ i = 9 ∨ i = 10 ∨ i = 11 ∨ i = 12 ∨ i = 13 by omega) with rfl | rfl | rfl | rfl | rfl | rfl | rfl | rfl | rfl | rfl | rfl | rfl | rfl
    · rw [show reckN 1 a b = _ from by unfold reckN; simp only [Int.reduceEq, if_true, if_false]; rfl, show reckE 1 = 0 from rfl]; exact do_some 1 69 a b _ w rfl (fun _ _ => rfl) (sum_any a b ha hb)
    · rw [show reckN 2 a b = _ from by unfold reckN; simp only [Int.reduceEq, if_true, if_false]; rfl, show reckE 2 = 0 from rfl]; exact do_some 2 70 a b _ w rfl (fun _ _ => rfl) (difference_any a b ha hb)
    · rw [show reckN 3 a b = _ from by unfold reckN; simp only [Int.reduceEq, if_true, if_false]; rfl, show reckE 3 = 0 from rfl]; exact do_some 3 71 a b _ w rfl (fun _ _ => rfl) (and_any a b ha hb)
    · rw [show reckN 4 a b = _ from by unfold reckN; simp only [Int.reduceEq, if_true, if_false]; rfl, show reckE 4 = 0 from rfl]; exact do_some 4 72 a b _ w rfl (fun _ _ => rfl) (or_any a b ha hb)
    · rw [show reckN 5 a b = _ from by unfold reckN; simp only [Int.reduceEq, if_true, if_false]; rfl, show reckE 5 = 0 from rfl]; exact do_some 5 73 a b _ w rfl (fun _ _ => rfl) (xor_any a b ha hb)
    · rw [show reckN 6 a b = _ from by unfold reckN; simp only [Int.reduceEq, if_true, if_false]; rfl, show reckE 6 = 0 from rfl]; exact do_some 6 74 a b _ w rfl (fun _ _ => rfl) (up_any a b ha hb)
    · rw [show reckN 7 a b = _ from by unfold reckN; simp only [Int.reduceEq, if_true, if_false]; rfl, show reckE 7 = 0 from rfl]; exact do_some 7 75 a b _ w rfl (fun _ _ => rfl) (down_any a b ha hb)
    · rw [show reckN 8 a b = _ from by unfold reckN; simp only [Int.reduceEq, if_true, if_false]; rfl, show reckE 8 = 0 from rfl]; exact do_some 8 76 a b _ w rfl (fun _ _ => rfl) (downSigned_any a b ha hb)
    · rw [show reckN 9 a b = _ from by unfold reckN; simp only [Int.reduceEq, if_true, if_false]; rfl, show reckE 9 = 0 from rfl]; exact do_some 9 77 a b _ w rfl (fun _ _ => rfl) (oneIfLess_any a b ha hb)
    · rw [show reckN 10 a b = _ from by unfold reckN; simp only [Int.reduceEq, if_true, if_false]; rfl, show reckE 10 = 0 from rfl]; exact do_some 10 78 a b _ w rfl (fun _ _ => rfl) (oneIfBelow_any a b)
    · rw [show reckN 11 a b = _ from by unfold reckN; simp only [Int.reduceEq, if_true, if_false]; rfl, show reckE 11 = 0 from rfl]; exact do_some 11 79 a b _ w rfl (fun _ _ => rfl) (product_any a b ha hb)
    · rw [show reckN 12 a b = _ from by unfold reckN; simp only [Int.reduceEq, if_true, if_false]; rfl, show reckE 12 = 0 from rfl]; exact do_some 12 80 a b _ w rfl (fun _ _ => rfl) (quotient_any a b ha hb)
    · rw [show reckN 13 a b = _ from by unfold reckN; simp only [Int.reduceEq, if_true, if_false]; rfl, show reckE 13 = 0 from rfl]; exact do_some 13 81 a b _ w rfl (fun _ _ => rfl) (rest_any a b ha hb)
  · have e1 := reck_none i a b h
    rw [e1, show reckE i = 1 from if_neg h]
    refine do_none i a b w ?_
    by_cases h0 : i = 0
    · subst h0; rfl
    · exact if_neg (show ¬ (0 ≤ i ∧ i < 14) by omega)
theorem taken_any (i : Int) (a b : Nat) (ha : a < 4294967296) (hb : b < 4294967296) (w : World) :
    Calls Tryd.prog 50 #[.int .i64 i, .int .u32 a, .int .u32 b] w fun e w' => e = .returned (.tuple #[.bool (takeN i a b), .int .i64 (takeE i)]) ∧ Below w.heap.size w w' := by
  by_cases h : 28 ≤ i ∧ i ≤ 31
  · rcases (show i = 28 ∨ i = 29 ∨ i = 30 ∨ i = 31 by omega) with rfl | rfl | rfl | rfl
    · rw [show takeN 28 a b = _ from by unfold takeN; simp only [Int.reduceEq, if_true, if_false]; rfl, show takeE 28 = 0 from rfl]; exact taken_some 28 83 a b _ w rfl (fun _ _ => rfl) (same_any a b)
    · rw [show takeN 29 a b = _ from by unfold takeN; simp only [Int.reduceEq, if_true, if_false]; rfl, show takeE 29 = 0 from rfl]; exact taken_some 29 84 a b _ w rfl (fun _ _ => rfl) (differs_any a b)
    · rw [show takeN 30 a b = _ from by unfold takeN; simp only [Int.reduceEq, if_true, if_false]; rfl, show takeE 30 = 0 from rfl]; exact taken_some 30 85 a b _ w rfl (fun _ _ => rfl) (less_any a b ha hb)
    · rw [show takeN 31 a b = _ from by unfold takeN; simp only [Int.reduceEq, if_true, if_false]; rfl, show takeE 31 = 0 from rfl]; exact taken_some 31 86 a b _ w rfl (fun _ _ => rfl) (below_any a b)
  · have e1 := take_none i a b h
    rw [e1, show takeE i = 1 from if_neg h]
    refine taken_none i a b w ?_
    by_cases h0 : 0 ≤ i ∧ i < 28
    · obtain ⟨k, rfl⟩ := Int.eq_ofNat_of_zero_le h0.1
      refine (if_pos (show 0 ≤ (k : Int) ∧ (k : Int) < 32 by omega)).trans ?_
      have hk : k < 28 := by omega
      clear h0 h e1
      have : (List.range 28).all (fun k => isNil (rowB.getD ((k : Int).toNat) .nilFunc)) = true := by decide +kernel
      exact isNil_is (List.all_eq_true.1 this k (List.mem_range.2 hk))
    · exact if_neg (show ¬ (0 ≤ i ∧ i < 32) by omega)

def plainN (i : Int) : Int := if i = 14 then 1 else if 15 ≤ i ∧ i ≤ 21 then i - 12 else 0
theorem plain_row (i : Int) : atRow rowI i (.int .i64 0) = .int .i64 (plainN i) := by
  by_cases h : 0 ≤ i ∧ i < 22
  · obtain ⟨k, rfl⟩ := Int.eq_ofNat_of_zero_le h.1
    refine (if_pos h).trans ?_
    have hk : k < 22 := by omega
    clear h
    have : (List.range 22).all (fun k => isI (plainN (k : Int)) (rowI.getD ((k : Int).toNat) .nilFunc)) = true := by decide +kernel
    exact isI_is (List.all_eq_true.1 this k (List.mem_range.2 hk))
  · refine (if_neg h).trans ?_
    unfold plainN
    rw [if_neg (by omega), if_neg (by omega)]
theorem plain_any (i : Int) (w : World) :
    Calls Tryd.prog 19 #[.int .i64 i] w fun e w' => e = .returned (.tuple #[.int .i64 (plainN i), .bool (plainN i != 0)]) ∧ Below w.heap.size w w' := by
  have hb : Hid (∀ r t, Below w.heap.size w (w.alloc (.cells r t))) := Lib.hid fun r t => (Below.refl _ _).alloc (Nat.le_refl _) _
  have hr := plain_row i
  obtain ⟨p, hp⟩ : ∃ p, plainN i = p := ⟨_, rfl⟩
  rw [hp] at hr ⊢
  clear hp
  by_cases h : 0 ≤ i ∧ i < 22
  · obtain ⟨k, rfl⟩ := Int.eq_ofNat_of_zero_le h.1
    have hv2 : rowI.getD k .nilFunc = .int .i64 p := by rw [← hr]; exact (if_pos h).symm
    have hc := Lib.hid fun t => (cell_of_new w rowI t k (show k < 22 by omega)).trans (congrArg some hv2)
    have hk : k < 22 := by omega
    clear hv2 hr h
    go_enter Tryd.func19, Tryd.ntmps19
    go_wp2_with fail
    refine (pickI_in _ _ k _ hk (by omega) _ (hc.out _)).mono ?_
    rintro e w1 ⟨rfl, rfl⟩
    go_wp2
    go_ret2
    exact ⟨rfl, hb.out _ _⟩
  · have hv : atRow rowI i (.int .i64 0) = .int .i64 0 := if_neg h
    obtain rfl : p = 0 := by
      rw [hv] at hr
      exact ((Value.int.injEq _ _ _ _).mp hr).2.symm
    clear hr hv
    go_enter Tryd.func19, Tryd.ntmps19
    go_wp2_with fail
    refine (pickI_out _ _ i (by omega) (by omega) _).mono ?_
    rintro e w1 ⟨rfl, rfl⟩
    go_wp2
    go_ret2
    exact ⟨rfl, hb.out _ _⟩
theorem upper_any (i : Int) (w : World) :
    Calls Tryd.prog 46 #[.int .i64 i] w fun e w' => e = .returned (.int .u32 (i % 4294967296 * 262144 % 4294967296)) ∧ w = w' := by
  go_enter Tryd.func46, Tryd.ntmps46
  go_wp2
  go_ret
  exact ⟨rfl, rfl⟩
end Go.Proofs.YtniaclhmfmkikaaDoor.Al
