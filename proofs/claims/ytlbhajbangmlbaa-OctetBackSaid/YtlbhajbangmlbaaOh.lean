/- The walk of hermitagelaw02.OctetBack. -/
import Derived.Test.YtlbhajbangmlbaaOg
namespace Go.Proofs.Ytlbhajbangmlbaa.Oc
open Go.RowKit Ut
set_option linter.unusedVariables false

set_option maxRecDepth 100000 in
set_option maxHeartbeats 1000000 in
theorem back_no_true (a : Option Addr) (n cap : Nat) (i v : Int) (zs : List Int) (w : World) (hnc : n ≤ cap) (hc : cap ≤ 140737488351232) (hrow : RowK .u8 w w.heap.size a n zs) (hh : hold n i 2 = false) :
    Calls Try.prog 5 #[.slice a n cap, .int .i64 i, .bool true, .int .u32 v] w fun e w' => e = .returned (.bool true) ∧ Below w.heap.size w w' := by
  have hn' : n ≤ 9223372036854775807 := by omega
  have hcv := run_convert_row (P := Try.prog) (cap := cap) (dst := 9) Try.underlying22 Try.underlying5 Try.underlying9 hrow
  clear hrow
  have hb0 : Below w.heap.size w w := Below.refl _ _
  go_enter Try.func5, Try.ntmps5
  go_wp2_with (first | (go_at_call 9; refine (put_no _ _ _ _ _ _ _ hn' hh).mono ?_; rintro e w1 ⟨rfl, rfl⟩) | (go_at_call 7; refine (get_no _ _ _ _ _ _ hn' hh).mono ?_; rintro e w1 ⟨rfl, rfl⟩) | (go_at_call 13; refine (awake_keep (Nat.le_refl _) hb0).mono ?_; rintro e w1 ⟨rfl, hb1⟩))
  go_ret
  exact ⟨rfl, hb1⟩

set_option maxRecDepth 100000 in
set_option maxHeartbeats 1000000 in
theorem back_yes_true (a : Option Addr) (n cap j : Nat) (v : Int) (zs : List Int) (w : World) (hnc : n ≤ cap) (hc : cap ≤ 140737488351232) (hrow : RowK .u8 w w.heap.size a n zs) (hz : AreBytes zs) (hv0 : 0 ≤ v) (hv1 : v < 4294967296) (hi : j + 2 ≤ n) :
    Calls Try.prog 5 #[.slice a n cap, .int .i64 j, .bool true, .int .u32 v] w fun e w' => e = .returned (.bool true) ∧ Below w.heap.size w w' := by
  have hn' : n ≤ 9223372036854775807 := by omega
  have hn : n ≤ 140737488355328 := by omega
  have HR := Lib.hid hrow
  have HZ := Lib.hid hz
  have hcv := run_convert_row (P := Try.prog) (cap := cap) (dst := 9) Try.underlying22 Try.underlying5 Try.underlying9 hrow
  clear hrow hz
  have hput : ∀ W : World, RowK .u8 W W.heap.size a n zs → Calls Try.prog 9 #[.slice a n cap, .int .i64 j, .int .i64 2, .int .u32 v] W fun e w' =>
      e = .returned (.tuple #[.slice (some ⟨W.heap.size, 0, none⟩) n n, .int .i64 0]) ∧ RowK .u8 w' w'.heap.size (some ⟨W.heap.size, 0, none⟩) n (putZ zs j 2 v) ∧ Below W.heap.size W w' :=
    fun W h => put_yes a n cap j 2 v zs W hn h rfl hi hv0 hv1
  have hget : ∀ (W : World) (x : Option Addr) (B : Nat), RowK .u8 W B x n (putZ zs j 2 v) → Calls Try.prog 7 #[.slice x n n, .int .i64 j, .int .i64 2] W fun e w' => e = .returned (.tuple #[.int .u32 (v % 65536), .int .i64 0]) ∧ W = w' := fun W x B h => by
    have := get_yes x n n j 2 B (putZ zs j 2 v) W (Nat.le_refl _) hn' h (putZ_bytes HZ.out _ _ _) rfl hi
    rw [putZ_part _ _ _ _ (by rw [HR.out.1]; exact hi), num_bytes2 v] at this
    exact this
  have HP := Lib.hid hput
  have HG := Lib.hid hget
  clear hput hget
  go_enter Try.func5, Try.ntmps5
  go_wp2_with fail
  refine (HP.out _ HR.out).mono ?_
  rintro e w1 ⟨rfl, hr1, hb1⟩
  have HR1 := Lib.hid hr1
  have hcv1 := run_convert_row (P := Try.prog) (cap := cap) (dst := 9) Try.underlying22 Try.underlying5 Try.underlying9 (HR.out.below hb1)
  clear hr1
  go_wp2_with (go_at_call 7; refine (HG.out _ _ _ HR1.out).mono ?_; rintro e w2 ⟨rfl, rfl⟩)
  clear hcv hcv1
  go_loopw [17] (fun i wr => ∃ k d : Nat, k ≤ n ∧ i = .int .i64 k ∧ wr = w1.drewN d) (fun i _ => n - (intOf i).toNat)
  case atStart => exact ⟨0, 0, Nat.zero_le _, rfl, rfl⟩
  case round =>
    obtain ⟨k, d, hk, rfl, rfl⟩ := hrel
    by_cases hlt : k < n
    · have hik : (k : Int) < (n : Int) := by omega
      obtain ⟨x, rfl, _, hx⟩ := (HR.out.below hb1).2 k hlt
      have hy : w1.cell? ⟨w.heap.size, k, none⟩ = some (.int .u8 ((putZ zs j 2 v).getD k 0)) := by
        obtain ⟨y, e, _, hy⟩ := HR1.out.2 k hlt
        injection e with e
        subst e
        rwa [add_plain] at hy
      have HE := Lib.hid (getD_putZ zs j 2 v (by rw [HR.out.1]; exact hi) k)
      by_cases k1 : k < j
      · have g1 : decide ((k : Int) < (j : Int)) = true := by simpa using k1
        rw [HE.out, if_neg (by omega)] at hy
        obtain ⟨s, hs⟩ : ∃ s, zs.getD k 0 = s := ⟨_, rfl⟩
        rw [hs] at hx hy
        clear hs
        go_wp2_with fail
        go_quiet (fail)
        go_wp2
        go_roundw
        case rel => exact ⟨k + 1, _, by omega, by go_num, rfl⟩
        case measure => simp [intOf]; omega
      · have g1 : decide ((k : Int) < (j : Int)) = false := by simpa using k1
        by_cases k2 : j + 2 ≤ k
        · have g2 : decide ((2 : Int) ≤ (k : Int) - (j : Int)) = true := by simp; omega
          rw [HE.out, if_neg (by omega)] at hy
          obtain ⟨s, hs⟩ : ∃ s, zs.getD k 0 = s := ⟨_, rfl⟩
          rw [hs] at hx hy
          clear hs
          go_wp2_with fail
          go_quiet (fail)
          go_wp2
          go_roundw
          case rel => exact ⟨k + 1, _, by omega, by go_num, rfl⟩
          case measure => simp [intOf]; omega
        · have g2 : decide ((2 : Int) ≤ (k : Int) - (j : Int)) = false := by simp; omega
          clear hx hy
          go_wp2_with fail
          go_quiet (fail)
          go_wp2
          go_roundw
          case rel => exact ⟨k + 1, _, by omega, by go_num, rfl⟩
          case measure => simp [intOf]; omega
    · go_wp2_with (go_at_call 13; refine (awake_keep (Nat.le_refl _) (Below.drewN_ hb1 d)).mono ?_; rintro e w2 ⟨rfl, hb2⟩)
      go_ret
      exact ⟨rfl, hb2⟩

set_option maxRecDepth 100000 in
set_option maxHeartbeats 1000000 in
theorem back_no_false (a : Option Addr) (n cap : Nat) (i v : Int) (zs : List Int) (w : World) (hnc : n ≤ cap) (hc : cap ≤ 140737488351232) (hrow : RowK .u8 w w.heap.size a n zs) (hh : hold n i 4 = false) :
    Calls Try.prog 5 #[.slice a n cap, .int .i64 i, .bool false, .int .u32 v] w fun e w' => e = .returned (.bool true) ∧ Below w.heap.size w w' := by
  have hn' : n ≤ 9223372036854775807 := by omega
  have hcv := run_convert_row (P := Try.prog) (cap := cap) (dst := 9) Try.underlying22 Try.underlying5 Try.underlying9 hrow
  clear hrow
  have hb0 : Below w.heap.size w w := Below.refl _ _
  go_enter Try.func5, Try.ntmps5
  go_wp2_with (first | (go_at_call 9; refine (put_no _ _ _ _ _ _ _ hn' hh).mono ?_; rintro e w1 ⟨rfl, rfl⟩) | (go_at_call 7; refine (get_no _ _ _ _ _ _ hn' hh).mono ?_; rintro e w1 ⟨rfl, rfl⟩) | (go_at_call 13; refine (awake_keep (Nat.le_refl _) hb0).mono ?_; rintro e w1 ⟨rfl, hb1⟩))
  go_ret
  exact ⟨rfl, hb1⟩

set_option maxRecDepth 100000 in
set_option maxHeartbeats 1000000 in
theorem back_yes_false (a : Option Addr) (n cap j : Nat) (v : Int) (zs : List Int) (w : World) (hnc : n ≤ cap) (hc : cap ≤ 140737488351232) (hrow : RowK .u8 w w.heap.size a n zs) (hz : AreBytes zs) (hv0 : 0 ≤ v) (hv1 : v < 4294967296) (hi : j + 4 ≤ n) :
    Calls Try.prog 5 #[.slice a n cap, .int .i64 j, .bool false, .int .u32 v] w fun e w' => e = .returned (.bool true) ∧ Below w.heap.size w w' := by
  have hn' : n ≤ 9223372036854775807 := by omega
  have hn : n ≤ 140737488355328 := by omega
  have HR := Lib.hid hrow
  have HZ := Lib.hid hz
  have hcv := run_convert_row (P := Try.prog) (cap := cap) (dst := 9) Try.underlying22 Try.underlying5 Try.underlying9 hrow
  clear hrow hz
  have hput : ∀ W : World, RowK .u8 W W.heap.size a n zs → Calls Try.prog 9 #[.slice a n cap, .int .i64 j, .int .i64 4, .int .u32 v] W fun e w' =>
      e = .returned (.tuple #[.slice (some ⟨W.heap.size, 0, none⟩) n n, .int .i64 0]) ∧ RowK .u8 w' w'.heap.size (some ⟨W.heap.size, 0, none⟩) n (putZ zs j 4 v) ∧ Below W.heap.size W w' :=
    fun W h => put_yes a n cap j 4 v zs W hn h rfl hi hv0 hv1
  have hget : ∀ (W : World) (x : Option Addr) (B : Nat), RowK .u8 W B x n (putZ zs j 4 v) → Calls Try.prog 7 #[.slice x n n, .int .i64 j, .int .i64 4] W fun e w' => e = .returned (.tuple #[.int .u32 v, .int .i64 0]) ∧ W = w' := fun W x B h => by
    have := get_yes x n n j 4 B (putZ zs j 4 v) W (Nat.le_refl _) hn' h (putZ_bytes HZ.out _ _ _) rfl hi
    rw [putZ_part _ _ _ _ (by rw [HR.out.1]; exact hi), num_bytes4 v hv0 hv1] at this
    exact this
  have HP := Lib.hid hput
  have HG := Lib.hid hget
  clear hput hget
  go_enter Try.func5, Try.ntmps5
  go_wp2_with fail
  refine (HP.out _ HR.out).mono ?_
  rintro e w1 ⟨rfl, hr1, hb1⟩
  have HR1 := Lib.hid hr1
  have hcv1 := run_convert_row (P := Try.prog) (cap := cap) (dst := 9) Try.underlying22 Try.underlying5 Try.underlying9 (HR.out.below hb1)
  clear hr1
  go_wp2_with (go_at_call 7; refine (HG.out _ _ _ HR1.out).mono ?_; rintro e w2 ⟨rfl, rfl⟩)
  clear hcv hcv1
  go_loopw [17] (fun i wr => ∃ k d : Nat, k ≤ n ∧ i = .int .i64 k ∧ wr = w1.drewN d) (fun i _ => n - (intOf i).toNat)
  case atStart => exact ⟨0, 0, Nat.zero_le _, rfl, rfl⟩
  case round =>
    obtain ⟨k, d, hk, rfl, rfl⟩ := hrel
    by_cases hlt : k < n
    · have hik : (k : Int) < (n : Int) := by omega
      obtain ⟨x, rfl, _, hx⟩ := (HR.out.below hb1).2 k hlt
      have hy : w1.cell? ⟨w.heap.size, k, none⟩ = some (.int .u8 ((putZ zs j 4 v).getD k 0)) := by
        obtain ⟨y, e, _, hy⟩ := HR1.out.2 k hlt
        injection e with e
        subst e
        rwa [add_plain] at hy
      have HE := Lib.hid (getD_putZ zs j 4 v (by rw [HR.out.1]; exact hi) k)
      by_cases k1 : k < j
      · have g1 : decide ((k : Int) < (j : Int)) = true := by simpa using k1
        rw [HE.out, if_neg (by omega)] at hy
        obtain ⟨s, hs⟩ : ∃ s, zs.getD k 0 = s := ⟨_, rfl⟩
        rw [hs] at hx hy
        clear hs
        go_wp2_with fail
        go_quiet (fail)
        go_wp2
        go_roundw
        case rel => exact ⟨k + 1, _, by omega, by go_num, rfl⟩
        case measure => simp [intOf]; omega
      · have g1 : decide ((k : Int) < (j : Int)) = false := by simpa using k1
        by_cases k2 : j + 4 ≤ k
        · have g2 : decide ((4 : Int) ≤ (k : Int) - (j : Int)) = true := by simp; omega
          rw [HE.out, if_neg (by omega)] at hy
          obtain ⟨s, hs⟩ : ∃ s, zs.getD k 0 = s := ⟨_, rfl⟩
          rw [hs] at hx hy
          clear hs
          go_wp2_with fail
          go_quiet (fail)
          go_wp2
          go_roundw
          case rel => exact ⟨k + 1, _, by omega, by go_num, rfl⟩
          case measure => simp [intOf]; omega
        · have g2 : decide ((4 : Int) ≤ (k : Int) - (j : Int)) = false := by simp; omega
          clear hx hy
          go_wp2_with fail
          go_quiet (fail)
          go_wp2
          go_roundw
          case rel => exact ⟨k + 1, _, by omega, by go_num, rfl⟩
          case measure => simp [intOf]; omega
    · go_wp2_with (go_at_call 13; refine (awake_keep (Nat.le_refl _) (Below.drewN_ hb1 d)).mono ?_; rintro e w2 ⟨rfl, hb2⟩)
      go_ret
      exact ⟨rfl, hb2⟩

theorem back_any (a : Option Addr) (n cap : Nat) (i : Int) (two : Bool) (v : Int) (zs : List Int) (w : World) (hnc : n ≤ cap) (hc : cap ≤ 140737488351232) (hrow : RowK .u8 w w.heap.size a n zs) (hz : AreBytes zs) (hv0 : 0 ≤ v) (hv1 : v < 4294967296) :
    Calls Try.prog 5 #[.slice a n cap, .int .i64 i, .bool two, .int .u32 v] w fun e w' => e = .returned (.bool true) ∧ Below w.heap.size w w' := by
  cases two
  · cases hh : hold n i 4
    · exact back_no_false a n cap i v zs w hnc hc hrow hh
    · obtain ⟨j, k, rfl, e, _, hi, _⟩ := hold_yes hh
      exact back_yes_false a n cap j v zs w hnc hc hrow hz hv0 hv1 (by omega)
  · cases hh : hold n i 2
    · exact back_no_true a n cap i v zs w hnc hc hrow hh
    · obtain ⟨j, k, rfl, e, _, hi, _⟩ := hold_yes hh
      exact back_yes_true a n cap j v zs w hnc hc hrow hz hv0 hv1 (by omega)
end Go.Proofs.Ytlbhajbangmlbaa.Oc
