/- Several texts in one: Mf Mh -/
import Derived.Test.YtniaclhmfmkikaaGreatDoorZ10
import Derived.Test.YtniaclhmfmkikaaGreatDoorZ11
section
/- Package alu: Do, Taken, Plain, Upper. -/
namespace Go.Proofs.YtniaclhmfmkikaaGreatDoor.Al
open Go.RowKit Ut
set_option linter.unusedVariables false
set_option maxRecDepth 100000
set_option maxHeartbeats 4000000

theorem eql_nilW (w : World) : (binOp .eql 126 .nilFunc .nilFunc).run Tryz.prog w = .ok (.bool true) w := rfl
theorem eql_nilB (w : World) : (binOp .eql 130 .nilFunc .nilFunc).run Tryz.prog w = .ok (.bool true) w := rfl
theorem eql_mthW (f : Nat) (w : World) : (binOp .eql 126 (mthV f) .nilFunc).run Tryz.prog w = .ok (.bool false) w := rfl
theorem eql_mthB (f : Nat) (w : World) : (binOp .eql 130 (mthV f) .nilFunc).run Tryz.prog w = .ok (.bool false) w := rfl

theorem do_none (i : Int) (a b : Nat) (w : World) (hv : atRow rowW i .nilFunc = .nilFunc) :
    Calls Tryz.prog 89 #[.int .i64 i, .int .u32 a, .int .u32 b] w fun e w' => e = .returned (.tuple #[.int .u32 0, .int .i64 1]) ∧ Below w.heap.size w w' := by
  go_enter Tryz.func89, Tryz.ntmps89
  go_wp2_with fail
  refine (reckoning_any i _).mono ?_
  rw [hv]
  rintro e w1 ⟨rfl, hb1⟩
  have HB1 := Lib.hid hb1
  have he := eql_nilW w1
  clear hb1
  go_wp2
  go_ret2
  exact ⟨rfl, HB1.out⟩
theorem do_some (i : Int) (f a b : Nat) (r : Int) (w : World) (hv : atRow rowW i .nilFunc = mthV f)
    (hen : ∀ (args : Array Value) (w : World), (callFunc f args).run Tryz.prog w = .ok (.enter f args) w)
    (hf : ∀ w, Calls Tryz.prog f #[pairV a b] w fun e w' => e = .returned (.int .u32 r) ∧ Below w.heap.size w w') :
    Calls Tryz.prog 89 #[.int .i64 i, .int .u32 a, .int .u32 b] w fun e w' => e = .returned (.tuple #[.int .u32 r, .int .i64 0]) ∧ Below w.heap.size w w' := by
  have HF := Lib.hid hf
  clear hf
  go_enter Tryz.func89, Tryz.ntmps89
  go_wp2_with fail
  refine (reckoning_any i _).mono ?_
  rw [hv]
  rintro e w1 ⟨rfl, hb1⟩
  have HB1 := Lib.hid hb1
  have he := eql_mthW f w1
  clear hb1 hv
  go_wp2_with fail
  with_reducible refine (HF.out _).mono ?_
  rintro e w2 ⟨rfl, hb2⟩
  have HB2 := Lib.hid (HB1.out.trans (hb2.mono HB1.out.size))
  clear hb2
  go_wp2
  go_ret2
  exact ⟨rfl, HB2.out⟩
theorem taken_none (i : Int) (a b : Nat) (w : World) (hv : atRow rowB i .nilFunc = .nilFunc) :
    Calls Tryz.prog 95 #[.int .i64 i, .int .u32 a, .int .u32 b] w fun e w' => e = .returned (.tuple #[.bool false, .int .i64 1]) ∧ Below w.heap.size w w' := by
  go_enter Tryz.func95, Tryz.ntmps95
  go_wp2_with fail
  refine (question_any i _).mono ?_
  rw [hv]
  rintro e w1 ⟨rfl, hb1⟩
  have HB1 := Lib.hid hb1
  have he := eql_nilB w1
  clear hb1
  go_wp2
  go_ret2
  exact ⟨rfl, HB1.out⟩
theorem taken_some (i : Int) (f a b : Nat) (r : Bool) (w : World) (hv : atRow rowB i .nilFunc = mthV f)
    (hen : ∀ (args : Array Value) (w : World), (callFunc f args).run Tryz.prog w = .ok (.enter f args) w)
    (hf : ∀ w, Calls Tryz.prog f #[pairV a b] w fun e w' => e = .returned (.bool r) ∧ Below w.heap.size w w') :
    Calls Tryz.prog 95 #[.int .i64 i, .int .u32 a, .int .u32 b] w fun e w' => e = .returned (.tuple #[.bool r, .int .i64 0]) ∧ Below w.heap.size w w' := by
  have HF := Lib.hid hf
  clear hf
  go_enter Tryz.func95, Tryz.ntmps95
  go_wp2_with fail
  refine (question_any i _).mono ?_
  rw [hv]
  rintro e w1 ⟨rfl, hb1⟩
  have HB1 := Lib.hid hb1
  have he := eql_mthB f w1
  clear hb1 hv
  go_wp2_with fail
  with_reducible refine (HF.out _).mono ?_
  rintro e w2 ⟨rfl, hb2⟩
  have HB2 := Lib.hid (HB1.out.trans (hb2.mono HB1.out.size))
  clear hb2
  go_wp2
  go_ret2
  exact ⟨rfl, HB2.out⟩

/-- what operation i makes of two words -/
def reckN (i : Int) (a b : Nat) : Nat :=
  if i = 1 then (a + b) % 4294967296 else if i = 2 then (a + (4294967296 - b)) % 4294967296 else if i = 3 then a &&& b else if i = 4 then a ||| b else if i = 5 then a ^^^ b
  else if i = 6 then a * 2 ^ (b % 32) % 4294967296 else if i = 7 then a / 2 ^ (b % 32) else if i = 8 then sarN a (b % 32) else if i = 9 then one1 (sltN a b) else if i = 10 then one1 (decide (a < b))
  else if i = 11 then a * b % 4294967296 else if i = 12 then (if b = 0 then 4294967295 else a / b) else if i = 13 then a % b else 0
def reckE (i : Int) : Int := if 1 ≤ i ∧ i ≤ 13 then 0 else 1
def takeN (i : Int) (a b : Nat) : Bool :=
  if i = 28 then decide (a = b) else if i = 29 then !decide (a = b) else if i = 30 then sltN a b else if i = 31 then decide (a < b) else false
def takeE (i : Int) : Int := if 28 ≤ i ∧ i ≤ 31 then 0 else 1

def isNil : Value → Bool
  | .nilFunc => true
  | _ => false
theorem isNil_is : ∀ {v : Value}, isNil v = true → v = .nilFunc
  | .nilFunc, _ => rfl
def isI (z : Int) : Value → Bool
  | .int .i64 x => x == z
  | _ => false
theorem isI_is {z : Int} : ∀ {v : Value}, isI z v = true → v = .int .i64 z
  | .int .i64 x, h => by rw [eq_of_beq h]

theorem reck_none (i : Int) (a b : Nat) (h : ¬ (1 ≤ i ∧ i ≤ 13)) : reckN i a b = 0 := by
  unfold reckN
  simp only [show ¬ i = 1 by omega, show ¬ i = 2 by omega, show ¬ i = 3 by omega, show ¬ i = 4 by omega, show ¬ i = 5 by omega, show ¬ i = 6 by omega, show ¬ i = 7 by omega, show ¬ i = 8 by omega, show ¬ i = 9 by omega, show ¬ i = 10 by omega, show ¬ i = 11 by omega, show ¬ i = 12 by omega, show ¬ i = 13 by omega, if_false]
theorem take_none (i : Int) (a b : Nat) (h : ¬ (28 ≤ i ∧ i ≤ 31)) : takeN i a b = false := by
  unfold takeN
  simp only [show ¬ i = 28 by omega, show ¬ i = 29 by omega, show ¬ i = 30 by omega, show ¬ i = 31 by omega, if_false]

theorem do_any (i : Int) (a b : Nat) (ha : a < 4294967296) (hb : b < 4294967296) (w : World) :
    Calls Tryz.prog 89 #[.int .i64 i, .int .u32 a, .int .u32 b] w fun e w' => e = .returned (.tuple #[.int .u32 (reckN i a b : Nat), .int .i64 (reckE i)]) ∧ Below w.heap.size w w' := by
  by_cases h : 1 ≤ i ∧ i ≤ 13
  · rcases (show i = 1 ∨ i = 2 ∨ i = 3 ∨ i = 4 ∨ i = 5 ∨ i = 6 ∨ i = 7 ∨ i = 8 ∨ i = 9 ∨ i = 10 ∨ i = 11 ∨ i = 12 ∨ i = 13 by omega) with rfl | rfl | rfl | rfl | rfl | rfl | rfl | rfl | rfl | rfl | rfl | rfl | rfl
    · rw [show reckN 1 a b = _ from by unfold reckN; simp only [Int.reduceEq, if_true, if_false]; rfl, show reckE 1 = 0 from rfl]; exact do_some 1 109 a b _ w rfl (fun _ _ => rfl) (sum_any a b ha hb)
    · rw [show reckN 2 a b = _ from by unfold reckN; simp only [Int.reduceEq, if_true, if_false]; rfl, show reckE 2 = 0 from rfl]; exact do_some 2 110 a b _ w rfl (fun _ _ => rfl) (difference_any a b ha hb)
    · rw [show reckN 3 a b = _ from by unfold reckN; simp only [Int.reduceEq, if_true, if_false]; rfl, show reckE 3 = 0 from rfl]; exact do_some 3 111 a b _ w rfl (fun _ _ => rfl) (and_any a b ha hb)
    · rw [show reckN 4 a b = _ from by unfold reckN; simp only [Int.reduceEq, if_true, if_false]; rfl, show reckE 4 = 0 from rfl]; exact do_some 4 112 a b _ w rfl (fun _ _ => rfl) (or_any a b ha hb)
    · rw [show reckN 5 a b = _ from by unfold reckN; simp only [Int.reduceEq, if_true, if_false]; rfl, show reckE 5 = 0 from rfl]; exact do_some 5 113 a b _ w rfl (fun _ _ => rfl) (xor_any a b ha hb)
    · rw [show reckN 6 a b = _ from by unfold reckN; simp only [Int.reduceEq, if_true, if_false]; rfl, show reckE 6 = 0 from rfl]; exact do_some 6 114 a b _ w rfl (fun _ _ => rfl) (up_any a b ha hb)
    · rw [show reckN 7 a b = _ from by unfold reckN; simp only [Int.reduceEq, if_true, if_false]; rfl, show reckE 7 = 0 from rfl]; exact do_some 7 115 a b _ w rfl (fun _ _ => rfl) (down_any a b ha hb)
    · rw [show reckN 8 a b = _ from by unfold reckN; simp only [Int.reduceEq, if_true, if_false]; rfl, show reckE 8 = 0 from rfl]; exact do_some 8 116 a b _ w rfl (fun _ _ => rfl) (downSigned_any a b ha hb)
    · rw [show reckN 9 a b = _ from by unfold reckN; simp only [Int.reduceEq, if_true, if_false]; rfl, show reckE 9 = 0 from rfl]; exact do_some 9 117 a b _ w rfl (fun _ _ => rfl) (oneIfLess_any a b ha hb)
    · rw [show reckN 10 a b = _ from by unfold reckN; simp only [Int.reduceEq, if_true, if_false]; rfl, show reckE 10 = 0 from rfl]; exact do_some 10 118 a b _ w rfl (fun _ _ => rfl) (oneIfBelow_any a b)
    · rw [show reckN 11 a b = _ from by unfold reckN; simp only [Int.reduceEq, if_true, if_false]; rfl, show reckE 11 = 0 from rfl]; exact do_some 11 119 a b _ w rfl (fun _ _ => rfl) (product_any a b ha hb)
    · rw [show reckN 12 a b = _ from by unfold reckN; simp only [Int.reduceEq, if_true, if_false]; rfl, show reckE 12 = 0 from rfl]; exact do_some 12 120 a b _ w rfl (fun _ _ => rfl) (quotient_any a b ha hb)
    · rw [show reckN 13 a b = _ from by unfold reckN; simp only [Int.reduceEq, if_true, if_false]; rfl, show reckE 13 = 0 from rfl]; exact do_some 13 121 a b _ w rfl (fun _ _ => rfl) (rest_any a b ha hb)
  · have e1 := reck_none i a b h
    rw [e1, show reckE i = 1 from if_neg h]
    refine do_none i a b w ?_
    by_cases h0 : i = 0
    · subst h0; rfl
    · exact if_neg (show ¬ (0 ≤ i ∧ i < 14) by omega)
theorem taken_any (i : Int) (a b : Nat) (ha : a < 4294967296) (hb : b < 4294967296) (w : World) :
    Calls Tryz.prog 95 #[.int .i64 i, .int .u32 a, .int .u32 b] w fun e w' => e = .returned (.tuple #[.bool (takeN i a b), .int .i64 (takeE i)]) ∧ Below w.heap.size w w' := by
  by_cases h : 28 ≤ i ∧ i ≤ 31
  · rcases (show i = 28 ∨ i = 29 ∨ i = 30 ∨ i = 31 by omega) with rfl | rfl | rfl | rfl
    · rw [show takeN 28 a b = _ from by unfold takeN; simp only [Int.reduceEq, if_true, if_false]; rfl, show takeE 28 = 0 from rfl]; exact taken_some 28 123 a b _ w rfl (fun _ _ => rfl) (same_any a b)
    · rw [show takeN 29 a b = _ from by unfold takeN; simp only [Int.reduceEq, if_true, if_false]; rfl, show takeE 29 = 0 from rfl]; exact taken_some 29 124 a b _ w rfl (fun _ _ => rfl) (differs_any a b)
    · rw [show takeN 30 a b = _ from by unfold takeN; simp only [Int.reduceEq, if_true, if_false]; rfl, show takeE 30 = 0 from rfl]; exact taken_some 30 125 a b _ w rfl (fun _ _ => rfl) (less_any a b ha hb)
    · rw [show takeN 31 a b = _ from by unfold takeN; simp only [Int.reduceEq, if_true, if_false]; rfl, show takeE 31 = 0 from rfl]; exact taken_some 31 126 a b _ w rfl (fun _ _ => rfl) (below_any a b)
  · have e1 := take_none i a b h
    rw [e1, show takeE i = 1 from if_neg h]
    refine taken_none i a b w ?_
    by_cases h0 : 0 ≤ i ∧ i < 28
    · obtain ⟨k, rfl⟩ := Int.eq_ofNat_of_zero_le h0.1
      refine (if_pos (show 0 ≤ (k : Int) ∧ (k : Int) < 32 by omega)).trans ?_
      have hk : k < 28 := by omega
      clear h0 h e1
      have : (List.range 28).all (fun k => isNil (rowB.getD ((k : Int).toNat) .nilFunc)) = true := by decide +kernel
      exact isNil_is (List.all_eq_true.1 this k (List.mem_range.2 hk))
    · exact if_neg (show ¬ (0 ≤ i ∧ i < 32) by omega)

def plainN (i : Int) : Int := if i = 14 then 1 else if 15 ≤ i ∧ i ≤ 21 then i - 12 else 0
theorem plain_row (i : Int) : atRow rowI i (.int .i64 0) = .int .i64 (plainN i) := by
  by_cases h : 0 ≤ i ∧ i < 22
  · obtain ⟨k, rfl⟩ := Int.eq_ofNat_of_zero_le h.1
    refine (if_pos h).trans ?_
    have hk : k < 22 := by omega
    clear h
    have : (List.range 22).all (fun k => isI (plainN (k : Int)) (rowI.getD ((k : Int).toNat) .nilFunc)) = true := by decide +kernel
    exact isI_is (List.all_eq_true.1 this k (List.mem_range.2 hk))
  · refine (if_neg h).trans ?_
    unfold plainN
    rw [if_neg (by omega), if_neg (by omega)]
theorem plain_any (i : Int) (w : World) :
    Calls Tryz.prog 57 #[.int .i64 i] w fun e w' => e = .returned (.tuple #[.int .i64 (plainN i), .bool (plainN i != 0)]) ∧ Below w.heap.size w w' := by
  have hb : Hid (∀ r t, Below w.heap.size w (w.alloc (.cells r t))) := Lib.hid fun r t => (Below.refl _ _).alloc (Nat.le_refl _) _
  have hr := plain_row i
  obtain ⟨p, hp⟩ : ∃ p, plainN i = p := ⟨_, rfl⟩
  rw [hp] at hr ⊢
  clear hp
  by_cases h : 0 ≤ i ∧ i < 22
  · obtain ⟨k, rfl⟩ := Int.eq_ofNat_of_zero_le h.1
    have hv2 : rowI.getD k .nilFunc = .int .i64 p := by rw [← hr]; exact (if_pos h).symm
    have hc := Lib.hid fun t => (cell_of_new w rowI t k (show k < 22 by omega)).trans (congrArg some hv2)
    have hk : k < 22 := by omega
    clear hv2 hr h
    go_enter Tryz.func57, Tryz.ntmps57
    go_wp2_with fail
    refine (pickI_in _ _ k _ hk (by omega) _ (hc.out _)).mono ?_
    rintro e w1 ⟨rfl, rfl⟩
    go_wp2
    go_ret2
    exact ⟨rfl, hb.out _ _⟩
  · have hv : atRow rowI i (.int .i64 0) = .int .i64 0 := if_neg h
    obtain rfl : p = 0 := by
      rw [hv] at hr
      exact ((Value.int.injEq _ _ _ _).mp hr).2.symm
    clear hr hv
    go_enter Tryz.func57, Tryz.ntmps57
    go_wp2_with fail
    refine (pickI_out _ _ i (by omega) (by omega) _).mono ?_
    rintro e w1 ⟨rfl, rfl⟩
    go_wp2
    go_ret2
    exact ⟨rfl, hb.out _ _⟩
theorem upper_any (i : Int) (w : World) :
    Calls Tryz.prog 91 #[.int .i64 i] w fun e w' => e = .returned (.int .u32 (i % 4294967296 * 262144 % 4294967296)) ∧ w = w' := by
  go_enter Tryz.func91, Tryz.ntmps91
  go_wp2
  go_ret
  exact ⟨rfl, rfl⟩
end Go.Proofs.YtniaclhmfmkikaaGreatDoor.Al
end
section
/- The document's plain answers for alu: signed, bit, sar, Do, Taken, Plain, Upper. -/
namespace Go.Proofs.YtniaclhmfmkikaaGreatDoor.Al
open Go.RowKit Ut
set_option linter.unusedVariables false
set_option maxRecDepth 100000
set_option maxHeartbeats 4000000

theorem refSigned_any (a b : Nat) (w : World) :
    Calls Tryz.prog 101 #[.int .u32 a, .int .u32 b] w fun e w' => e = .returned (.bool (sltN a b)) ∧ w = w' := by
  have H : Hid (decide (((a : Int) + 2147483648) % 4294967296 < ((b : Int) + 2147483648) % 4294967296) = sltN a b) := Lib.hid (by unfold sltN; rw [decide_eq_decide]; omega)
  go_enter Tryz.func101, Tryz.ntmps101
  go_wp2
  go_ret
  exact ⟨by rw [H.out]; rfl, rfl⟩
theorem refBit_any (t : Bool) (w : World) :
    Calls Tryz.prog 100 #[.bool t] w fun e w' => e = .returned (.int .u32 (one1 t : Nat)) ∧ w = w' := by
  cases t
  all_goals
    go_enter Tryz.func100, Tryz.ntmps100
    go_wp2
    go_ret
    exact ⟨rfl, rfl⟩
theorem ones_up (j : Nat) (hj : j ≤ 32) : 4294967295 * 2 ^ j % 4294967296 = (2 ^ (32 - j) - 1) * 2 ^ j := by
  have hp : 2 ^ j * 2 ^ (32 - j) = 4294967296 := by rw [← Nat.pow_add, show j + (32 - j) = 32 by omega]
  have h0 : 0 < 2 ^ j := Nat.two_pow_pos j
  have h1 : 0 < 2 ^ (32 - j) := Nat.two_pow_pos _
  rw [Nat.sub_mul, Nat.mul_comm (2 ^ (32 - j)), hp, Nat.one_mul]
  have h2 : 2 ^ j ≤ 4294967296 := by rw [← hp]; exact Nat.le_mul_of_pos_right _ h1
  generalize 2 ^ j = q at h0 h2
  rw [show 4294967295 * q = (4294967296 - q) + 4294967296 * (q - 1) by omega, Nat.add_mul_mod_self_left]
  exact Nat.mod_eq_of_lt (by omega)
theorem div_neg (a p q : Nat) (hp : 0 < p) (h : a < p * q) : (p * q - 1 - a) / p = q - 1 - a / p := by
  have h1 := Nat.div_add_mod a p
  have h2 := Nat.mod_lt a hp
  have h3 : a / p < q := Nat.div_lt_of_lt_mul h
  generalize a / p = x at h1 h3 ⊢
  generalize a % p = r at h1 h2
  have e : p * q - 1 - a = (p - 1 - r) + p * (q - 1 - x) := by
    obtain ⟨d, rfl⟩ : ∃ d, q = x + 1 + d := ⟨q - 1 - x, by omega⟩
    rw [show x + 1 + d - 1 - x = d by omega, ← h1, Nat.mul_add, Nat.mul_add]
    omega
  rw [e, Nat.add_mul_div_left _ _ hp, Nat.div_eq_of_lt (by omega)]
  omega
theorem sar_or (a k : Nat) (h : 2147483648 ≤ a) (ha : a < 4294967296) (hk : k < 32) : a / 2 ^ k ||| 4294967295 * 2 ^ (32 - k) % 4294967296 = sarN a k := by
  have hp : 2 ^ k * 2 ^ (32 - k) = 4294967296 := by rw [← Nat.pow_add, show k + (32 - k) = 32 by omega]
  have hx : a / 2 ^ k < 2 ^ (32 - k) := Nat.div_lt_of_lt_mul (by rw [hp]; exact ha)
  rw [ones_up (32 - k) (by omega), show 32 - (32 - k) = k by omega, Nat.or_comm, ← Nat.shiftLeft_eq, ← Nat.shiftLeft_add_eq_or_of_lt hx, Nat.shiftLeft_eq]
  unfold sarN
  rw [if_neg (by omega)]
  have h2 := div_neg a (2 ^ k) (2 ^ (32 - k)) (Nat.two_pow_pos k) (by rw [hp]; exact ha)
  rw [hp] at h2
  rw [show 4294967295 - a = 4294967296 - 1 - a by omega, h2, Nat.sub_mul, hp, Nat.one_mul]
  have h3 : 2 ^ (32 - k) ≤ 4294967296 := by rw [← hp]; exact Nat.le_mul_of_pos_left _ (Nat.two_pow_pos k)
  clear h2 hp
  generalize 2 ^ (32 - k) = q at hx h3 ⊢
  generalize a / 2 ^ k = x at hx ⊢
  omega
theorem sar_zero (a : Nat) (ha : a < 4294967296) : sarN a 0 = a := by
  unfold sarN
  rw [Nat.pow_zero, Nat.div_one, Nat.div_one]
  split <;> omega
theorem sar_told2 (a k : Nat) (h : 2147483648 ≤ a) (ha : a < 4294967296) (hk : k < 32) :
    bits BinOp.or IntKind.u32 ((a : Int) / 2 ^ k) (4294967295 * 2 ^ (32 - k) % 4294967296) = (sarN a k : Nat) := by
  have h1 : a / 2 ^ k < 4294967296 := Nat.lt_of_le_of_lt (Nat.div_le_self _ _) ha
  have e1 : ((a : Int) / 2 ^ k) = ((a / 2 ^ k : Nat) : Int) := by simp
  have e2 : ((4294967295 : Int) * 2 ^ (32 - k) % 4294967296) = ((4294967295 * 2 ^ (32 - k) % 4294967296 : Nat) : Int) := by simp
  rw [e1, e2, u32_or_nat _ _ h1 (Nat.mod_lt _ (by decide)), sar_or a k h ha hk]

theorem refSar_any (a k : Nat) (ha : a < 4294967296) (hk : k < 32) (w : World) :
    Calls Tryz.prog 99 #[.int .u32 a, .int .u32 k] w fun e w' => e = .returned (.int .u32 (sarN a k : Nat)) ∧ w = w' := by
  by_cases h : 2147483648 ≤ a
  · by_cases h0 : k = 0
    · subst h0
      go_enter Tryz.func99, Tryz.ntmps99
      go_wp2
      go_ret
      exact ⟨by rw [sar_zero a ha]; rfl, rfl⟩
    · have H := Lib.hid (sar_told2 a k h ha hk)
      go_enter Tryz.func99, Tryz.ntmps99
      go_wp2
      go_ret
      exact ⟨by rw [H.out]; rfl, rfl⟩
  · have H : Hid (sarN a k = a / 2 ^ k) := Lib.hid (if_pos (by omega))
    go_enter Tryz.func99, Tryz.ntmps99
    go_wp2
    go_ret
    exact ⟨by rw [H.out]; rfl, rfl⟩

theorem refDo_none (i : Int) (a b : Nat) (h : ¬ (1 ≤ i ∧ i ≤ 13)) (w : World) :
    Calls Tryz.prog 73 #[.int .i64 i, .int .u32 a, .int .u32 b] w fun e w' => e = .returned (.tuple #[.int .u32 0, .int .i64 1]) ∧ w = w' := by
  have h1 : (i == 1) = false := by rw [beq_eq_false_iff_ne]; omega
  have h2 : (i == 2) = false := by rw [beq_eq_false_iff_ne]; omega
  have h3 : (i == 3) = false := by rw [beq_eq_false_iff_ne]; omega
  have h4 : (i == 4) = false := by rw [beq_eq_false_iff_ne]; omega
  have h5 : (i == 5) = false := by rw [beq_eq_false_iff_ne]; omega
  have h6 : (i == 6) = false := by rw [beq_eq_false_iff_ne]; omega
  have h7 : (i == 7) = false := by rw [beq_eq_false_iff_ne]; omega
  have h8 : (i == 8) = false := by rw [beq_eq_false_iff_ne]; omega
  have h9 : (i == 9) = false := by rw [beq_eq_false_iff_ne]; omega
  have h10 : (i == 10) = false := by rw [beq_eq_false_iff_ne]; omega
  have h11 : (i == 11) = false := by rw [beq_eq_false_iff_ne]; omega
  have h12 : (i == 12) = false := by rw [beq_eq_false_iff_ne]; omega
  have h13 : (i == 13) = false := by rw [beq_eq_false_iff_ne]; omega
  clear h
  go_enter Tryz.func73, Tryz.ntmps73
  go_wp2
  go_ret2
  exact ⟨rfl, rfl⟩
theorem refDo_some (i : Int) (a b : Nat) (h : 1 ≤ i ∧ i ≤ 13) (ha : a < 4294967296) (hb : b < 4294967296) (w : World) :
    Calls Tryz.prog 73 #[.int .i64 i, .int .u32 a, .int .u32 b] w fun e w' => e = .returned (.tuple #[.int .u32 (reckN i a b : Nat), .int .i64 0]) ∧ w = w' := by
  rcases (show i = 1 ∨ i = 2 ∨ i = 3 ∨ i = 4 ∨ i = 5 ∨ i = 6 ∨ i = 7 ∨ i = 8 ∨ i = 9 ∨ i = 10 ∨ i = 11 ∨ i = 12 ∨ i = 13 by omega) with rfl | rfl | rfl | rfl | rfl | rfl | rfl | rfl | rfl | rfl | rfl | rfl | rfl
  all_goals unfold reckN; simp only [Int.reduceEq, if_true, if_false]
  · go_enter Tryz.func73, Tryz.ntmps73
    go_wp2
    go_ret2
    exact ⟨rfl, rfl⟩
  · have H : Hid (((a : Int) - b) % 4294967296 = ((a + (4294967296 - b)) % 4294967296 : Nat)) := Lib.hid (by omega)
    go_enter Tryz.func73, Tryz.ntmps73
    go_wp2
    go_ret2
    exact ⟨by rw [H.out]; rfl, rfl⟩
  · have H := Lib.hid (u32_and_nat a b ha hb)
    go_enter Tryz.func73, Tryz.ntmps73
    go_wp2
    go_ret2
    exact ⟨by rw [H.out]; rfl, rfl⟩
  · have H := Lib.hid (u32_or_nat a b ha hb)
    go_enter Tryz.func73, Tryz.ntmps73
    go_wp2
    go_ret2
    exact ⟨by rw [H.out]; rfl, rfl⟩
  · have H := Lib.hid (u32_xor_nat a b ha hb)
    go_enter Tryz.func73, Tryz.ntmps73
    go_wp2
    go_ret2
    exact ⟨by rw [H.out]; rfl, rfl⟩
  · obtain ⟨k, hk⟩ : ∃ k, b % 32 = k := ⟨_, rfl⟩
    have hk2 : (b : Int) % 32 = k := by omega
    have hk32 : k < 32 := by omega
    rw [hk]
    clear hk
    go_enter Tryz.func73, Tryz.ntmps73
    go_wp2
    go_ret2
    exact ⟨rfl, rfl⟩
  · obtain ⟨k, hk⟩ : ∃ k, b % 32 = k := ⟨_, rfl⟩
    have hk2 : (b : Int) % 32 = k := by omega
    have hk32 : k < 32 := by omega
    rw [hk]
    clear hk
    go_enter Tryz.func73, Tryz.ntmps73
    go_wp2
    go_ret2
    exact ⟨rfl, rfl⟩
  · obtain ⟨k, hk⟩ : ∃ k, b % 32 = k := ⟨_, rfl⟩
    have hk2 : (b : Int) % 32 = k := by omega
    have hk32 : k < 32 := by omega
    rw [hk]
    clear hk
    go_enter Tryz.func73, Tryz.ntmps73
    go_wp2_with fail
    refine (refSar_any a k ha hk32 _).mono ?_
    rintro e w1 ⟨rfl, rfl⟩
    go_wp2
    go_ret2
    exact ⟨rfl, rfl⟩
  · go_enter Tryz.func73, Tryz.ntmps73
    go_wp2_with fail
    refine (refSigned_any a b _).mono ?_
    rintro e w1 ⟨rfl, rfl⟩
    go_wp2_with fail
    refine (refBit_any _ _).mono ?_
    rintro e w2 ⟨rfl, rfl⟩
    go_wp2
    go_ret2
    exact ⟨rfl, rfl⟩
  · go_enter Tryz.func73, Tryz.ntmps73
    go_wp2_with fail
    refine (refBit_any _ _).mono ?_
    rintro e w2 ⟨rfl, rfl⟩
    go_wp2
    go_ret2
    exact ⟨rfl, rfl⟩
  · go_enter Tryz.func73, Tryz.ntmps73
    go_wp2
    go_ret2
    exact ⟨rfl, rfl⟩
  · by_cases h0 : b = 0
    · subst h0
      go_enter Tryz.func73, Tryz.ntmps73
      go_wp2
      go_ret2
      exact ⟨rfl, rfl⟩
    · rw [if_neg h0]
      have H : Hid ((a : Int) / b % 4294967296 = (a / b : Nat)) := Lib.hid (by
        have h1 : a / b ≤ a := Nat.div_le_self _ _
        rw [show (a : Int) / b = ((a / b : Nat) : Int) by simp]
        generalize a / b = x at h1
        omega)
      go_enter Tryz.func73, Tryz.ntmps73
      go_wp2
      go_ret2
      exact ⟨by rw [H.out]; rfl, rfl⟩
  · by_cases h0 : b = 0
    · subst h0
      go_enter Tryz.func73, Tryz.ntmps73
      go_wp2
      go_ret2
      exact ⟨by simp, rfl⟩
    · go_enter Tryz.func73, Tryz.ntmps73
      go_wp2
      go_ret2
      exact ⟨rfl, rfl⟩
theorem refDo_any (i : Int) (a b : Nat) (ha : a < 4294967296) (hb : b < 4294967296) (w : World) :
    Calls Tryz.prog 73 #[.int .i64 i, .int .u32 a, .int .u32 b] w fun e w' => e = .returned (.tuple #[.int .u32 (reckN i a b : Nat), .int .i64 (reckE i)]) ∧ w = w' := by
  by_cases h : 1 ≤ i ∧ i ≤ 13
  · rw [show reckE i = 0 from if_pos h]
    exact refDo_some i a b h ha hb w
  · rw [show reckE i = 1 from if_neg h, reck_none i a b h]
    exact refDo_none i a b h w

theorem refTaken_some (i : Int) (a b : Nat) (h : 28 ≤ i ∧ i ≤ 31) (w : World) :
    Calls Tryz.prog 74 #[.int .i64 i, .int .u32 a, .int .u32 b] w fun e w' => e = .returned (.tuple #[.bool (takeN i a b), .int .i64 0]) ∧ w = w' := by
  rcases (show i = 28 ∨ i = 29 ∨ i = 30 ∨ i = 31 by omega) with rfl | rfl | rfl | rfl
  all_goals unfold takeN; simp only [Int.reduceEq, if_true, if_false]
  · have H : Hid (decide (a = b) = ((a : Int) == b)) := Lib.hid (by rw [Bool.eq_iff_iff]; simp; omega)
    go_enter Tryz.func74, Tryz.ntmps74
    go_wp2
    go_ret2
    exact ⟨by rw [H.out]; rfl, rfl⟩
  · have H : Hid (decide (a = b) = ((a : Int) == b)) := Lib.hid (by rw [Bool.eq_iff_iff]; simp; omega)
    go_enter Tryz.func74, Tryz.ntmps74
    go_wp2
    go_ret2
    exact ⟨by rw [H.out]; rfl, rfl⟩
  · go_enter Tryz.func74, Tryz.ntmps74
    go_wp2_with fail
    refine (refSigned_any a b _).mono ?_
    rintro e w1 ⟨rfl, rfl⟩
    go_wp2
    go_ret2
    exact ⟨rfl, rfl⟩
  · go_enter Tryz.func74, Tryz.ntmps74
    go_wp2
    go_ret2
    exact ⟨rfl, rfl⟩
theorem refTaken_none (i : Int) (a b : Nat) (h : ¬ (28 ≤ i ∧ i ≤ 31)) (w : World) :
    Calls Tryz.prog 74 #[.int .i64 i, .int .u32 a, .int .u32 b] w fun e w' => e = .returned (.tuple #[.bool false, .int .i64 1]) ∧ w = w' := by
  have h28 : (i == 28) = false := by rw [beq_eq_false_iff_ne]; omega
  have h29 : (i == 29) = false := by rw [beq_eq_false_iff_ne]; omega
  have h30 : (i == 30) = false := by rw [beq_eq_false_iff_ne]; omega
  have h31 : (i == 31) = false := by rw [beq_eq_false_iff_ne]; omega
  clear h
  go_enter Tryz.func74, Tryz.ntmps74
  go_wp2
  go_ret2
  exact ⟨rfl, rfl⟩
theorem refTaken_any (i : Int) (a b : Nat) (w : World) :
    Calls Tryz.prog 74 #[.int .i64 i, .int .u32 a, .int .u32 b] w fun e w' => e = .returned (.tuple #[.bool (takeN i a b), .int .i64 (takeE i)]) ∧ w = w' := by
  by_cases h : 28 ≤ i ∧ i ≤ 31
  · rw [show takeE i = 0 from if_pos h]
    exact refTaken_some i a b h w
  · rw [show takeE i = 1 from if_neg h, take_none i a b h]
    exact refTaken_none i a b h w
theorem refPlain_none (i : Int) (h : ¬ (14 ≤ i ∧ i ≤ 21)) (w : World) :
    Calls Tryz.prog 72 #[.int .i64 i] w fun e w' => e = .returned (.tuple #[.int .i64 0, .bool false]) ∧ w = w' := by
  have h14 : (i == 14) = false := by rw [beq_eq_false_iff_ne]; omega
  have h15 : (i == 15) = false := by rw [beq_eq_false_iff_ne]; omega
  have h16 : (i == 16) = false := by rw [beq_eq_false_iff_ne]; omega
  have h17 : (i == 17) = false := by rw [beq_eq_false_iff_ne]; omega
  have h18 : (i == 18) = false := by rw [beq_eq_false_iff_ne]; omega
  have h19 : (i == 19) = false := by rw [beq_eq_false_iff_ne]; omega
  have h20 : (i == 20) = false := by rw [beq_eq_false_iff_ne]; omega
  have h21 : (i == 21) = false := by rw [beq_eq_false_iff_ne]; omega
  clear h
  go_enter Tryz.func72, Tryz.ntmps72
  go_wp2
  go_ret2
  exact ⟨rfl, rfl⟩
theorem refPlain_some (i : Int) (h : 14 ≤ i ∧ i ≤ 21) (w : World) :
    Calls Tryz.prog 72 #[.int .i64 i] w fun e w' => e = .returned (.tuple #[.int .i64 (plainN i), .bool true]) ∧ w = w' := by
  rcases (show i = 14 ∨ i = 15 ∨ i = 16 ∨ i = 17 ∨ i = 18 ∨ i = 19 ∨ i = 20 ∨ i = 21 by omega) with rfl | rfl | rfl | rfl | rfl | rfl | rfl | rfl
  all_goals
    go_enter Tryz.func72, Tryz.ntmps72
    go_wp2
    go_ret2
    exact ⟨rfl, rfl⟩
theorem refPlain_any (i : Int) (w : World) :
    Calls Tryz.prog 72 #[.int .i64 i] w fun e w' => e = .returned (.tuple #[.int .i64 (plainN i), .bool (plainN i != 0)]) ∧ w = w' := by
  by_cases h : 14 ≤ i ∧ i ≤ 21
  · have e : (plainN i != 0) = true := by
      rw [bne_iff_ne]; unfold plainN; split
      · decide
      · rw [if_pos (by omega)]; omega
    rw [e]
    exact refPlain_some i h w
  · have e : plainN i = 0 := by unfold plainN; rw [if_neg (by omega), if_neg (by omega)]
    rw [e]
    exact refPlain_none i h w
theorem refUpper_any (i : Int) (w : World) :
    Calls Tryz.prog 71 #[.int .i64 i] w fun e w' => e = .returned (.int .u32 (i % 4294967296 * 262144 % 4294967296)) ∧ w = w' := by
  go_enter Tryz.func71, Tryz.ntmps71
  go_wp2
  go_ret
  exact ⟨rfl, rfl⟩
end Go.Proofs.YtniaclhmfmkikaaGreatDoor.Al
end
