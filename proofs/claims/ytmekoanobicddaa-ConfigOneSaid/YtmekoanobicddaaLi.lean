/- The document's Valid, Flows, Minus, Count of layer 1: what each returns, for every argument. -/
import Derived.Test.YtmekoanobicddaaLg
import Derived.Test.YtmekoanobicddaaLh
namespace Go.Proofs.Ytmekoanobicddaa.La
open Go.RowKit Ut

theorem hasZ_all : (List.range 256).all (fun n => (List.range 8).all fun i => hasZ (n : Int) i == n.testBit i) = true := by decide +kernel
theorem hasZ_nat (n i : Nat) (hn : n < 256) (hi : i < 8) : hasZ n i = n.testBit i := by
  have := List.all_eq_true.1 (List.all_eq_true.1 hasZ_all n (List.mem_range.2 hn)) i (List.mem_range.2 hi)
  simpa using this
theorem tb_high (n i : Nat) (hn : n < 256) (hi : 8 ≤ i) : n.testBit i = false :=
  Nat.testBit_lt_two_pow (Nat.lt_of_lt_of_le hn (show 2 ^ 8 ≤ 2 ^ i from Nat.pow_le_pow_right (by decide) hi))
theorem flowsZ_yes (n m : Nat) (hn : n < 256) (hm : m < 256) (h : ∀ i, i < 8 → hasZ n i = true → hasZ m i = true) : flowsZ n m = true := by
  refine (flowsZ_nat n m hn hm).2 fun i hi => ?_
  by_cases k : i < 8
  · have := h i k
    rw [hasZ_nat n i hn k, hasZ_nat m i hm k] at this
    exact this hi
  · rw [tb_high n i hn (by omega)] at hi; cases hi
theorem flowsZ_no (n m i : Nat) (hn : n < 256) (hm : m < 256) (hi : i < 8) (h1 : hasZ n i = true) (h2 : hasZ m i = false) : flowsZ n m = false := by
  cases h : flowsZ n m
  · rfl
  · have := (flowsZ_nat n m hn hm).1 h i (by rw [← hasZ_nat n i hn hi]; exact h1)
    rw [← hasZ_nat m i hm hi, h2] at this; cases this

/-- cats 0 to 8, and l a label of the first cats categories -/
def validB (l cats : Int) : Bool := decide (0 ≤ cats) && decide (cats ≤ 8) && decide (0 ≤ l) && decide (l < wrap64 (2 ^ cats.toNat))
theorem valid_gen (l cats : Int) (w : World) :
    Calls Try.prog 94 #[.int .i64 l, .int .i64 cats] w fun e w' => e = .returned (.bool (validB l cats)) ∧ w = w' := by
  by_cases h1 : 0 ≤ cats
  · by_cases h2 : cats ≤ 8
    · by_cases h3 : 0 ≤ l
      · go_enter Try.func94, Try.ntmps94
        go_wp2
        all_goals (go_ret; exact ⟨congrArg (fun b => Ending.returned (.bool b)) (by unfold validB; simp [*] <;> intros <;> omega), rfl⟩)
      · have h3' : l < 0 := by omega
        go_enter Try.func94, Try.ntmps94
        go_wp2
        all_goals (go_ret; exact ⟨congrArg (fun b => Ending.returned (.bool b)) (by unfold validB; simp [*] <;> intros <;> omega), rfl⟩)
    · have h2' : 8 < cats := by omega
      go_enter Try.func94, Try.ntmps94
      go_wp2
      all_goals (go_ret; exact ⟨congrArg (fun b => Ending.returned (.bool b)) (by unfold validB; simp [*] <;> intros <;> omega), rfl⟩)
  · have h1' : cats < 0 := by omega
    go_enter Try.func94, Try.ntmps94
    go_wp2
    all_goals (go_ret; exact ⟨congrArg (fun b => Ending.returned (.bool b)) (by unfold validB; simp [*] <;> intros <;> omega), rfl⟩)
theorem refValid_gen (l cats : Int) (w : World) :
    Calls Try.prog 84 #[.int .i64 l, .int .i64 cats] w fun e w' => e = .returned (.bool (validB l cats)) ∧ w = w' := by
  by_cases h1 : 0 ≤ cats
  · by_cases h2 : cats ≤ 8
    · by_cases h3 : 0 ≤ l
      · go_enter Try.func84, Try.ntmps84
        go_wp2
        all_goals (go_ret; exact ⟨congrArg (fun b => Ending.returned (.bool b)) (by unfold validB; simp [*] <;> intros <;> omega), rfl⟩)
      · have h3' : l < 0 := by omega
        go_enter Try.func84, Try.ntmps84
        go_wp2
        all_goals (go_ret; exact ⟨congrArg (fun b => Ending.returned (.bool b)) (by unfold validB; simp [*] <;> intros <;> omega), rfl⟩)
    · have h2' : 8 < cats := by omega
      go_enter Try.func84, Try.ntmps84
      go_wp2
      all_goals (go_ret; exact ⟨congrArg (fun b => Ending.returned (.bool b)) (by unfold validB; simp [*] <;> intros <;> omega), rfl⟩)
  · have h1' : cats < 0 := by omega
    go_enter Try.func84, Try.ntmps84
    go_wp2
    all_goals (go_ret; exact ⟨congrArg (fun b => Ending.returned (.bool b)) (by unfold validB; simp [*] <;> intros <;> omega), rfl⟩)

theorem refFlows_bad (a b : Int) (h : isL a = true → isL b = false) (w : World) :
    Calls Try.prog 87 #[.int .i64 a, .int .i64 b] w fun e w' => e = .returned (.bool false) ∧ w = w' := by
  cases ha : isL a
  · clear h
    go_enter Try.func87, Try.ntmps87
    go_wp2_with (go_at_call 95; refine (refIs_any _ _).mono ?_; rintro e w' ⟨rfl, rfl⟩)
    go_ret
    exact ⟨rfl, rfl⟩
  · have hb := h ha
    clear h
    go_enter Try.func87, Try.ntmps87
    go_wp2_with (go_at_call 95; refine (refIs_any _ _).mono ?_; rintro e w' ⟨rfl, rfl⟩)
    go_ret
    exact ⟨rfl, rfl⟩

set_option maxRecDepth 100000 in
theorem refFlows_good (n m : Nat) (hn : n < 256) (hm : m < 256) (w : World) :
    Calls Try.prog 87 #[.int .i64 n, .int .i64 m] w fun e w' => e = .returned (.bool (flowsZ n m)) ∧ w = w' := by
  have ha := isL_nat n hn
  have hb := isL_nat m hm
  go_enter Try.func87, Try.ntmps87
  go_wp2_with (go_at_call 95; refine (refIs_any _ _).mono ?_; rintro e w' ⟨rfl, rfl⟩)
  clear ha hb
  go_loop [5] (fun i => ∃ k : Nat, k ≤ 8 ∧ i = .int .i64 k ∧ ∀ i, i < k → hasZ n i = true → hasZ m i = true) (fun i => 8 - (intOf i).toNat)
  case atStart => exact ⟨0, Nat.zero_le _, rfl, fun i h => absurd h (by omega)⟩
  case round =>
    obtain ⟨k, hk, rfl, hall⟩ := hrel
    have HA := Lib.hid hall
    clear hall
    by_cases hlt : k < 8
    · cases h1 : hasZ n k
      · have H1 := Lib.hid h1
        go_wp2_with (go_at_call 96; refine (refHas_any _ _ hk _).mono ?_; rintro e w' ⟨rfl, rfl⟩)
        go_round
        case rel =>
          refine ⟨k + 1, by omega, by go_num, fun i hi h => ?_⟩
          by_cases e : i < k
          · exact HA.out i e h
          · obtain rfl : i = k := by omega
            rw [H1.out] at h; cases h
        case measure => simp [intOf]; omega
      · cases h2 : hasZ m k
        · have H := Lib.hid (flowsZ_no n m k hn hm hlt h1 h2)
          go_wp2_with (go_at_call 96; refine (refHas_any _ _ hk _).mono ?_; rintro e w' ⟨rfl, rfl⟩)
          go_ret
          exact ⟨congrArg (fun b => Ending.returned (.bool b)) H.out.symm, rfl⟩
        · have H2 := Lib.hid h2
          go_wp2_with (go_at_call 96; refine (refHas_any _ _ hk _).mono ?_; rintro e w' ⟨rfl, rfl⟩)
          go_round
          case rel =>
            refine ⟨k + 1, by omega, by go_num, fun i hi h => ?_⟩
            by_cases e : i < k
            · exact HA.out i e h
            · obtain rfl : i = k := by omega
              exact H2.out
          case measure => simp [intOf]; omega
    · obtain rfl : k = 8 := by omega
      have H := Lib.hid (flowsZ_yes n m hn hm HA.out)
      go_wp2
      go_ret
      exact ⟨congrArg (fun b => Ending.returned (.bool b)) H.out.symm, rfl⟩

theorem refFlows_any (a b : Int) (w : World) :
    Calls Try.prog 87 #[.int .i64 a, .int .i64 b] w fun e w' => e = .returned (.bool (flowsZ a b)) ∧ w = w' := by
  cases ha : isL a
  · rw [flowsZ_left a b ha]
    exact refFlows_bad a b (fun h => by rw [ha] at h; cases h) w
  · cases hb : isL b
    · rw [flowsZ_right a b hb]
      exact refFlows_bad a b (fun _ => hb) w
    · obtain ⟨n, hn, rfl⟩ := isL_ex a ha
      obtain ⟨m, hm, rfl⟩ := isL_ex b hb
      exact refFlows_good n m hn hm w

/-- the first k bits -/
theorem low_all : (List.range 256).all (fun x => (List.range 8).all fun k => x % 2 ^ (k + 1) == x % 2 ^ k + (if x.testBit k then 2 ^ k else 0)) = true := by decide +kernel
theorem low_any (x k : Nat) (hx : x < 256) (hk : k < 8) : x % 2 ^ (k + 1) = x % 2 ^ k + (if x.testBit k then 2 ^ k else 0) := by
  have := List.all_eq_true.1 (List.all_eq_true.1 low_all x (List.mem_range.2 hx)) k (List.mem_range.2 hk)
  exact eq_of_beq this
theorem low_yes (x k : Nat) (hx : x < 256) (hk : k < 8) (h : x.testBit k = true) : x % 2 ^ (k + 1) = x % 2 ^ k + 2 ^ k := by
  rw [low_any x k hx hk, h]; rfl
theorem low_no (x k : Nat) (hx : x < 256) (hk : k < 8) (h : x.testBit k = false) : x % 2 ^ (k + 1) = x % 2 ^ k := by
  rw [low_any x k hx hk, h]; rfl
theorem pow_le (k : Nat) (h : k < 8) : 2 ^ k ≤ 128 := Nat.pow_le_pow_right (by decide) (show k ≤ 7 by omega)

/-- how many of the first k categories are in n -/
def popK (n : Nat) : Nat → Nat
  | 0 => 0
  | k + 1 => popK n k + (hasZ n k).toNat
theorem popK_all : (List.range 256).all (fun n => popK n 8 == pop n) = true := by decide +kernel
theorem popK_pop (n : Nat) (h : n < 256) : popK n 8 = pop n := by
  have := List.all_eq_true.1 popK_all n (List.mem_range.2 h)
  simpa using this
theorem popK_le (n : Nat) : ∀ k, popK n k ≤ k
  | 0 => Nat.le_refl _
  | k + 1 => by
    have := popK_le n k
    have h : ∀ b : Bool, b.toNat ≤ 1 := by decide
    have := h (hasZ n k)
    unfold popK; omega

/-- how many categories a number has, -1 if it is no label -/
def countZ (l : Int) : Int := if isL l then (pop l.toNat : Nat) else -1

end Go.Proofs.Ytmekoanobicddaa.La
