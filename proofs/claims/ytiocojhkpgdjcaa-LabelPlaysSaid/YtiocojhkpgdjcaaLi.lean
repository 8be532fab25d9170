/- The document's Valid, Flows, Minus, Count of layer 1: what each returns, for every argument. -/
import Derived.Test.YtiocojhkpgdjcaaLg
import Derived.Test.YtiocojhkpgdjcaaLh
namespace Go.Proofs.Ytiocojhkpgdjcaa.La
open Go.RowKit Ut

theorem hasZ_all : (List.range 256).all (fun n => (List.range 8).all fun i => hasZ (n : Int) i == n.testBit i) = true := by decide +kernel
theorem hasZ_nat (n i : Nat) (hn : n < 256) (hi : i < 8) : hasZ n i = n.testBit i := by
  have := List.all_eq_true.1 (List.all_eq_true.1 hasZ_all n (List.mem_range.2 hn)) i (List.mem_range.2 hi)
  simpa using this
theorem tb_high (n i : Nat) (hn : n < 256) (hi : 8 ≤ i) : n.testBit i = false :=
  Nat.testBit_lt_two_pow (Nat.lt_of_lt_of_le hn (show 2 ^ 8 ≤ 2 ^ i from Nat.pow_le_pow_right (by decide) hi))
theorem flowsZ_yes (n m : Nat) (hn : n < 256) (hm : m < 256) (h : ∀ i, i < 8 → hasZ n i = true → hasZ m i = true) : flowsZ n m = true := by
  refine (flowsZ_nat n m hn hm).2 fun i hi => ?_
  by_cases k : i < 8
  · have := h i k
    rw [hasZ_nat n i hn k, hasZ_nat m i hm k] at this
    exact this hi
  · rw [tb_high n i hn (by omega)] at hi; cases hi
theorem flowsZ_no (n m i : Nat) (hn : n < 256) (hm : m < 256) (hi : i < 8) (h1 : hasZ n i = true) (h2 : hasZ m i = false) : flowsZ n m = false := by
  cases h : flowsZ n m
  · rfl
  · have := (flowsZ_nat n m hn hm).1 h i (by rw [← hasZ_nat n i hn hi]; exact h1)
    rw [← hasZ_nat m i hm hi, h2] at this; cases this

/-- cats 0 to 8, and l a label of the first cats categories -/
def validB (l cats : Int) : Bool := decide (0 ≤ cats) && decide (cats ≤ 8) && decide (0 ≤ l) && decide (l < wrap64 (2 ^ cats.toNat))
theorem valid_gen (l cats : Int) (w : World) :
    Calls Try.prog 8 #[.int .i64 l, .int .i64 cats] w fun e w' => e = .returned (.bool (validB l cats)) ∧ w = w' := by
  by_cases h1 : 0 ≤ cats
  · by_cases h2 : cats ≤ 8
    · by_cases h3 : 0 ≤ l
      · go_enter Try.func8, Try.ntmps8
        go_wp2
        all_goals (go_ret; exact ⟨congrArg (fun b => Ending.returned (.bool b)) (by unfold validB; simp [*] <;> intros <;> omega), rfl⟩)
      · have h3' : l < 0 := by omega
        go_enter Try.func8, Try.ntmps8
        go_wp2
        all_goals (go_ret; exact ⟨congrArg (fun b => Ending.returned (.bool b)) (by unfold validB; simp [*] <;> intros <;> omega), rfl⟩)
    · have h2' : 8 < cats := by omega
      go_enter Try.func8, Try.ntmps8
      go_wp2
      all_goals (go_ret; exact ⟨congrArg (fun b => Ending.returned (.bool b)) (by unfold validB; simp [*] <;> intros <;> omega), rfl⟩)
  · have h1' : cats < 0 := by omega
    go_enter Try.func8, Try.ntmps8
    go_wp2
    all_goals (go_ret; exact ⟨congrArg (fun b => Ending.returned (.bool b)) (by unfold validB; simp [*] <;> intros <;> omega), rfl⟩)
theorem refValid_gen (l cats : Int) (w : World) :
    Calls Try.prog 9 #[.int .i64 l, .int .i64 cats] w fun e w' => e = .returned (.bool (validB l cats)) ∧ w = w' := by
  by_cases h1 : 0 ≤ cats
  · by_cases h2 : cats ≤ 8
    · by_cases h3 : 0 ≤ l
      · go_enter Try.func9, Try.ntmps9
        go_wp2
        all_goals (go_ret; exact ⟨congrArg (fun b => Ending.returned (.bool b)) (by unfold validB; simp [*] <;> intros <;> omega), rfl⟩)
      · have h3' : l < 0 := by omega
        go_enter Try.func9, Try.ntmps9
        go_wp2
        all_goals (go_ret; exact ⟨congrArg (fun b => Ending.returned (.bool b)) (by unfold validB; simp [*] <;> intros <;> omega), rfl⟩)
    · have h2' : 8 < cats := by omega
      go_enter Try.func9, Try.ntmps9
      go_wp2
      all_goals (go_ret; exact ⟨congrArg (fun b => Ending.returned (.bool b)) (by unfold validB; simp [*] <;> intros <;> omega), rfl⟩)
  · have h1' : cats < 0 := by omega
    go_enter Try.func9, Try.ntmps9
    go_wp2
    all_goals (go_ret; exact ⟨congrArg (fun b => Ending.returned (.bool b)) (by unfold validB; simp [*] <;> intros <;> omega), rfl⟩)

theorem refFlows_bad (a b : Int) (h : isL a = true → isL b = false) (w : World) :
    Calls Try.prog 11 #[.int .i64 a, .int .i64 b] w fun e w' => e = .returned (.bool false) ∧ w = w' := by
  cases ha : isL a
  · clear h
    go_enter Try.func11, Try.ntmps11
    go_wp2_with (go_at_call 28; refine (refIs_any _ _).mono ?_; rintro e w' ⟨rfl, rfl⟩)
    go_ret
    exact ⟨rfl, rfl⟩
  · have hb := h ha
    clear h
    go_enter Try.func11, Try.ntmps11
    go_wp2_with (go_at_call 28; refine (refIs_any _ _).mono ?_; rintro e w' ⟨rfl, rfl⟩)
    go_ret
    exact ⟨rfl, rfl⟩

set_option maxRecDepth 100000 in
theorem refFlows_good (n m : Nat) (hn : n < 256) (hm : m < 256) (w : World) :
    Calls Try.prog 11 #[.int .i64 n, .int .i64 m] w fun e w' => e = .returned (.bool (flowsZ n m)) ∧ w = w' := by
  have ha := isL_nat n hn
  have hb := isL_nat m hm
  go_enter Try.func11, Try.ntmps11
  go_wp2_with (go_at_call 28; refine (refIs_any _ _).mono ?_; rintro e w' ⟨rfl, rfl⟩)
  clear ha hb
  go_loop [5] (fun i => ∃ k : Nat, k ≤ 8 ∧ i = .int .i64 k ∧ ∀ i, i < k → hasZ n i = true → hasZ m i = true) (fun i => 8 - (intOf i).toNat)
  case atStart => exact ⟨0, Nat.zero_le _, rfl, fun i h => absurd h (by omega)⟩
  case round =>
    obtain ⟨k, hk, rfl, hall⟩ := hrel
    have HA := Lib.hid hall
    clear hall
    by_cases hlt : k < 8
    · cases h1 : hasZ n k
      · have H1 := Lib.hid h1
        go_wp2_with (go_at_call 29; refine (refHas_any _ _ hk _).mono ?_; rintro e w' ⟨rfl, rfl⟩)
        go_round
        case rel =>
          refine ⟨k + 1, by omega, by go_num, fun i hi h => ?_⟩
          by_cases e : i < k
          · exact HA.out i e h
          · obtain rfl : i = k := by omega
            rw [H1.out] at h; cases h
        case measure => simp [intOf]; omega
      · cases h2 : hasZ m k
        · have H := Lib.hid (flowsZ_no n m k hn hm hlt h1 h2)
          go_wp2_with (go_at_call 29; refine (refHas_any _ _ hk _).mono ?_; rintro e w' ⟨rfl, rfl⟩)
          go_ret
          exact ⟨congrArg (fun b => Ending.returned (.bool b)) H.out.symm, rfl⟩
        · have H2 := Lib.hid h2
          go_wp2_with (go_at_call 29; refine (refHas_any _ _ hk _).mono ?_; rintro e w' ⟨rfl, rfl⟩)
          go_round
          case rel =>
            refine ⟨k + 1, by omega, by go_num, fun i hi h => ?_⟩
            by_cases e : i < k
            · exact HA.out i e h
            · obtain rfl : i = k := by omega
              exact H2.out
          case measure => simp [intOf]; omega
    · obtain rfl : k = 8 := by omega
      have H := Lib.hid (flowsZ_yes n m hn hm HA.out)
      go_wp2
      go_ret
      exact ⟨congrArg (fun b => Ending.returned (.bool b)) H.out.symm, rfl⟩

theorem refFlows_any (a b : Int) (w : World) :
    Calls Try.prog 11 #[.int .i64 a, .int .i64 b] w fun e w' => e = .returned (.bool (flowsZ a b)) ∧ w = w' := by
  cases ha : isL a
  · rw [flowsZ_left a b ha]
    exact refFlows_bad a b (fun h => by rw [ha] at h; cases h) w
  · cases hb : isL b
    · rw [flowsZ_right a b hb]
      exact refFlows_bad a b (fun _ => hb) w
    · obtain ⟨n, hn, rfl⟩ := isL_ex a ha
      obtain ⟨m, hm, rfl⟩ := isL_ex b hb
      exact refFlows_good n m hn hm w

/-- the first k bits -/
theorem low_all : (List.range 256).all (fun x => (List.range 8).all fun k => x % 2 ^ (k + 1) == x % 2 ^ k + (if x.testBit k then 2 ^ k else 0)) = true := by decide +kernel
theorem low_any (x k : Nat) (hx : x < 256) (hk : k < 8) : x % 2 ^ (k + 1) = x % 2 ^ k + (if x.testBit k then 2 ^ k else 0) := by
  have := List.all_eq_true.1 (List.all_eq_true.1 low_all x (List.mem_range.2 hx)) k (List.mem_range.2 hk)
  exact eq_of_beq this
theorem low_yes (x k : Nat) (hx : x < 256) (hk : k < 8) (h : x.testBit k = true) : x % 2 ^ (k + 1) = x % 2 ^ k + 2 ^ k := by
  rw [low_any x k hx hk, h]; rfl
theorem low_no (x k : Nat) (hx : x < 256) (hk : k < 8) (h : x.testBit k = false) : x % 2 ^ (k + 1) = x % 2 ^ k := by
  rw [low_any x k hx hk, h]; rfl
theorem pow_le (k : Nat) (h : k < 8) : 2 ^ k ≤ 128 := Nat.pow_le_pow_right (by decide) (show k ≤ 7 by omega)

theorem refMinus_bad (a b : Int) (h : isL a = true → isL b = false) (w : World) :
    Calls Try.prog 13 #[.int .i64 a, .int .i64 b] w fun e w' => e = .returned (.int .i64 (-1)) ∧ w = w' := by
  cases ha : isL a
  · clear h
    go_enter Try.func13, Try.ntmps13
    go_wp2_with (go_at_call 28; refine (refIs_any _ _).mono ?_; rintro e w' ⟨rfl, rfl⟩)
    go_ret
    exact ⟨rfl, rfl⟩
  · have hb := h ha
    clear h
    go_enter Try.func13, Try.ntmps13
    go_wp2_with (go_at_call 28; refine (refIs_any _ _).mono ?_; rintro e w' ⟨rfl, rfl⟩)
    go_ret
    exact ⟨rfl, rfl⟩

set_option maxRecDepth 100000 in
theorem refMinus_good (n m : Nat) (hn : n < 256) (hm : m < 256) (w : World) :
    Calls Try.prog 13 #[.int .i64 n, .int .i64 m] w fun e w' => e = .returned (.int .i64 (andN n m : Nat)) ∧ w = w' := by
  have ha := isL_nat n hn
  have hb := isL_nat m hm
  have hlt := andN_lt n m hn hm
  go_enter Try.func13, Try.ntmps13
  go_wp2_with (go_at_call 28; refine (refIs_any _ _).mono ?_; rintro e w' ⟨rfl, rfl⟩)
  clear ha hb
  go_loop [5, 6] (fun o i => ∃ k r : Nat, k ≤ 8 ∧ i = .int .i64 k ∧ o = .int .i64 r ∧ r = andN n m % 2 ^ k) (fun _ i => 8 - (intOf i).toNat)
  case atStart => exact ⟨0, 0, Nat.zero_le _, rfl, rfl, by simp [Nat.mod_one]⟩
  case round =>
    obtain ⟨k, r, hk, rfl, rfl, hr⟩ := hrel
    have HR := Lib.hid hr
    have hr2 : r < 256 := by rw [hr]; exact Nat.lt_of_le_of_lt (Nat.mod_le _ _) hlt
    clear hr
    by_cases hk8 : k < 8
    · obtain ⟨p, hp, hp2, hp3⟩ : ∃ p : Nat, wrap64 (2 ^ k) = (p : Int) ∧ p ≤ 128 ∧ Hid (p = 2 ^ k) := ⟨2 ^ k, wrap_pow k hk8, pow_le k hk8, rfl⟩
      have ht := tb_andN n m k
      rw [← hasZ_nat n k hn hk8, ← hasZ_nat m k hm hk8] at ht
      cases h1 : hasZ n k
      · rw [h1] at ht
        have HN := Lib.hid (low_no _ _ hlt hk8 ht)
        clear ht
        go_wp2_with (go_at_call 29; refine (refHas_any _ _ hk _).mono ?_; rintro e w' ⟨rfl, rfl⟩)
        go_round
        case rel => exact ⟨k + 1, r, by omega, by go_num, rfl, by rw [HN.out]; exact HR.out⟩
        case measure => simp [intOf]; omega
      · cases h2 : hasZ m k
        · rw [h1, h2] at ht
          have HN := Lib.hid (low_yes _ _ hlt hk8 ht)
          clear ht
          go_wp2_with (go_at_call 29; refine (refHas_any _ _ hk _).mono ?_; rintro e w' ⟨rfl, rfl⟩)
          go_round
          case rel => exact ⟨k + 1, r + p, by omega, by go_num, by go_num, by rw [HN.out, HR.out, hp3.out]⟩
          case measure => simp [intOf]; omega
        · rw [h1, h2] at ht
          have HN := Lib.hid (low_no _ _ hlt hk8 ht)
          clear ht
          go_wp2_with (go_at_call 29; refine (refHas_any _ _ hk _).mono ?_; rintro e w' ⟨rfl, rfl⟩)
          go_round
          case rel => exact ⟨k + 1, r, by omega, by go_num, rfl, by rw [HN.out]; exact HR.out⟩
          case measure => simp [intOf]; omega
    · obtain rfl : k = 8 := by omega
      have HE : Hid (r = andN n m) := Lib.hid (by rw [HR.out]; exact Nat.mod_eq_of_lt hlt)
      go_wp2
      go_ret
      exact ⟨by rw [← HE.out]; rfl, rfl⟩

theorem refMinus_any (a b : Int) (w : World) :
    Calls Try.prog 13 #[.int .i64 a, .int .i64 b] w fun e w' => e = .returned (.int .i64 (minusZ a b)) ∧ w = w' := by
  cases ha : isL a
  · rw [minusZ_left a b ha]
    exact refMinus_bad a b (fun h => by rw [ha] at h; cases h) w
  · cases hb : isL b
    · rw [minusZ_right a b hb]
      exact refMinus_bad a b (fun _ => hb) w
    · obtain ⟨n, hn, rfl⟩ := isL_ex a ha
      obtain ⟨m, hm, rfl⟩ := isL_ex b hb
      rw [minusZ_nat n m hn hm]
      exact refMinus_good n m hn hm w

/-- how many of the first k categories are in n -/
def popK (n : Nat) : Nat → Nat
  | 0 => 0
  | k + 1 => popK n k + (hasZ n k).toNat
theorem popK_all : (List.range 256).all (fun n => popK n 8 == pop n) = true := by decide +kernel
theorem popK_pop (n : Nat) (h : n < 256) : popK n 8 = pop n := by
  have := List.all_eq_true.1 popK_all n (List.mem_range.2 h)
  simpa using this
theorem popK_le (n : Nat) : ∀ k, popK n k ≤ k
  | 0 => Nat.le_refl _
  | k + 1 => by
    have := popK_le n k
    have h : ∀ b : Bool, b.toNat ≤ 1 := by decide
    have := h (hasZ n k)
    unfold popK; omega

/-- how many categories a number has, -1 if it is no label -/
def countZ (l : Int) : Int := if isL l then (pop l.toNat : Nat) else -1

theorem refCount_good (n : Nat) (hn : n < 256) (w : World) :
    Calls Try.prog 15 #[.int .i64 n] w fun e w' => e = .returned (.int .i64 (pop n)) ∧ w = w' := by
  have ha := isL_nat n hn
  go_enter Try.func15, Try.ntmps15
  go_wp2_with (go_at_call 28; refine (refIs_any _ _).mono ?_; rintro e w' ⟨rfl, rfl⟩)
  clear ha
  go_loop [3, 4] (fun o i => ∃ k r : Nat, k ≤ 8 ∧ i = .int .i64 k ∧ o = .int .i64 r ∧ r = popK n k) (fun _ i => 8 - (intOf i).toNat)
  case atStart => exact ⟨0, 0, Nat.zero_le _, rfl, rfl, rfl⟩
  case round =>
    obtain ⟨k, r, hk, rfl, rfl, hr⟩ := hrel
    have HR := Lib.hid hr
    have hr2 : r ≤ 8 := by rw [hr]; exact Nat.le_trans (popK_le n k) hk
    clear hr
    by_cases hk8 : k < 8
    · cases h1 : hasZ n k
      · have HN : Hid (popK n (k + 1) = popK n k) := Lib.hid (by rw [popK, h1]; rfl)
        go_wp2_with (go_at_call 29; refine (refHas_any _ _ hk _).mono ?_; rintro e w' ⟨rfl, rfl⟩)
        go_round
        case rel => exact ⟨k + 1, r, by omega, by go_num, rfl, by rw [HN.out]; exact HR.out⟩
        case measure => simp [intOf]; omega
      · have HN : Hid (popK n (k + 1) = popK n k + 1) := Lib.hid (by rw [popK, h1]; rfl)
        go_wp2_with (go_at_call 29; refine (refHas_any _ _ hk _).mono ?_; rintro e w' ⟨rfl, rfl⟩)
        go_round
        case rel => exact ⟨k + 1, r + 1, by omega, by go_num, by go_num, by rw [HN.out, HR.out]⟩
        case measure => simp [intOf]; omega
    · obtain rfl : k = 8 := by omega
      have HE : Hid (r = pop n) := Lib.hid (by rw [HR.out]; exact popK_pop n hn)
      go_wp2
      go_ret
      exact ⟨by rw [← HE.out]; rfl, rfl⟩

theorem refCount_any (l : Int) (w : World) :
    Calls Try.prog 15 #[.int .i64 l] w fun e w' => e = .returned (.int .i64 (countZ l)) ∧ w = w' := by
  unfold countZ
  cases ha : isL l
  · go_enter Try.func15, Try.ntmps15
    go_wp2_with (go_at_call 28; refine (refIs_any _ _).mono ?_; rintro e w' ⟨rfl, rfl⟩)
    go_ret
    exact ⟨rfl, rfl⟩
  · obtain ⟨n, hn, rfl⟩ := isL_ex l ha
    exact refCount_good n hn w
theorem count_any (l : Int) (w : World) :
    Calls Try.prog 14 #[.int .i64 l] w fun e w' => e = .returned (.int .i64 (countZ l)) ∧ w = w' := by
  unfold countZ
  cases ha : isL l
  · exact count_bad l ha w
  · obtain ⟨n, hn, rfl⟩ := isL_ex l ha
    exact count_good n hn w
end Go.Proofs.Ytiocojhkpgdjcaa.La
