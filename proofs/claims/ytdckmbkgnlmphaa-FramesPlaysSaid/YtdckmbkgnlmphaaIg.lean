/- The statements' own helpers on frames: awake, all; what all tells of two stores. -/
import Derived.Test.YtdckmbkgnlmphaaIc
namespace Go.Proofs.Ytdckmbkgnlmphaa.Fr
open Go.RowKit Ut Oc
set_option linter.unusedVariables false

/-- either there is no such place, or it is one of frame F from O on -/
theorem place_cases (n : Nat) (f o m : Int) : (f < 0 ∨ (n : Int) ≤ f) ∨ (∃ F : Nat, f = F ∧ F < n ∧ (hold 64 o m = false ∨ ∃ O M : Nat, o = O ∧ m = M ∧ isW (M : Int) = true ∧ O + M ≤ 64 ∧ 0 < M ∧ M ≤ 4)) := by
  rcases Int.lt_or_le f 0 with h | h
  · exact .inl (.inl h)
  · rcases Int.lt_or_le f n with h2 | h2
    · obtain ⟨F, rfl⟩ := Int.eq_ofNat_of_zero_le h
      refine .inr ⟨F, rfl, by omega, ?_⟩
      cases hh : hold 64 o m with
      | false => exact .inl rfl
      | true =>
        obtain ⟨O, M, h1, h2, h3, h4, h5, h6⟩ := hold_yes hh
        exact .inr ⟨O, M, h1, h2, h3, h4, h5, h6⟩
    · exact .inl (.inr h2)
theorem save_cases (b n : Nat) (f o m v : Int) (L : List Int) (w : World) (hS : St w b n L) :
    Calls Try.prog 12 #[.pointer (some ⟨b, 0, none⟩), .int .i64 f, .int .i64 o, .int .i64 m, .int .u32 v] w (fun e w' => e = .returned (.int .i64 1) ∧ w = w') ∨
      ∃ F O M : Nat, f = F ∧ o = O ∧ m = M ∧ F < n ∧ isW (M : Int) = true ∧ O + M ≤ 64 := by
  rcases place_cases n f o m with h | ⟨F, rfl, hF, h | ⟨O, M, rfl, rfl, h1, h2, _⟩⟩
  · exact .inl (save_no _ f o m v 1 w (.inl rfl) (find_out b n f L w hS h))
  · exact .inl (save_out b n F o m v L w hS hF h)
  · exact .inr ⟨F, O, M, rfl, rfl, rfl, hF, h1, h2⟩

theorem zeros_zer (f : Nat) (hf : f < 32) : frameL zeros f = zer := zeros_frame f hf
theorem clean_zeros (b n f : Nat) (w : World) (hS : St w b n zeros) (hf : f < n) :
    Calls Try.prog 18 #[.pointer (some ⟨b, 0, none⟩), .int .i64 f] w fun e w' => e = .returned (.bool true) ∧ w = w' := by
  refine (clean_in b n f zeros w hS hf).mono ?_
  rintro e w' ⟨rfl, hw⟩
  have := hS.2.2.2
  rw [zeros_zer f (by omega)]
  exact ⟨by rw [beq_self_eq_true], hw⟩

theorem put1 : (putZ zer 60 4 1 == zer) = false := by decide +kernel

theorem awake_any (w : World) : Calls Try.prog 9 #[] w fun e w' => e = .returned (.bool true) ∧ Below w.heap.size w w' := by
  go_enter Try.func9, Try.ntmps9
  go_wp2_with fail
  refine (new_ok 1 w (by omega)).mono ?_
  rintro e w1 ⟨rfl, hS, hB⟩
  have HS := Lib.hid hS
  clear hS
  go_wp2_with fail
  refine (clean_zeros w.heap.size 1 0 w1 HS.out (by omega)).mono ?_
  rintro e w2 ⟨rfl, rfl⟩
  go_wp2_with fail
  refine (save_in w.heap.size 1 0 60 4 1 zeros w1 HS.out (by omega) (by decide) (by omega) (by omega) (by omega)).mono ?_
  rintro e w2 ⟨rfl, hS2, hg⟩
  have HS2 := Lib.hid hS2
  have HB2 := Lib.hid (below_grown hB hg hB.size (Nat.le_refl _))
  clear hS2 hg
  go_wp2_with fail
  refine (clean_in w.heap.size 1 0 _ w2 HS2.out (by omega)).mono ?_
  rintro e w3 ⟨rfl, rfl⟩
  rw [zeros_zer 0 (by omega), frameL_lay zeros_len (by omega) (by rw [length_putZ _ _ _ _ (by rw [zer_len]; omega), zer_len]), put1]
  go_wp2
  go_ret
  exact ⟨rfl, HB2.out⟩

theorem str_append (xs ys : List Int) : strOfNums xs ++ strOfNums ys = strOfNums (xs ++ ys) := by
  unfold strOfNums
  rw [List.map_append]
  apply ByteArray.ext
  simp
theorem take_frame (L : List Int) (k : Nat) : L.take (64 * k) ++ frameL L k = L.take (64 * (k + 1)) := by
  unfold frameL
  rw [Nat.mul_add, Nat.mul_one, List.take_add]

set_option maxRecDepth 100000 in
theorem all_any (b n : Nat) (L : List Int) (w : World) (hS : St w b n L) :
    Calls Try.prog 21 #[.pointer (some ⟨b, 0, none⟩)] w fun e w' => e = .returned (.string (strOfNums (L.take (64 * n)))) ∧ Below w.heap.size w w' := by
  have HS := Lib.hid hS
  have hn : (n : Int) ≤ 32 := by have := hS.2.2.2; omega
  clear hS
  go_enter Try.func21, Try.ntmps21
  go_wp2
  go_loopw [3, 4] (fun v j wr => ∃ k : Nat, k ≤ n ∧ j = .int .i64 k ∧ v = .string (strOfNums (L.take (64 * k))) ∧ Below w.heap.size w wr) (fun _ j _ => n - (intOf j).toNat)
  case atStart => exact ⟨0, Nat.zero_le _, rfl, by rw [Nat.mul_zero, List.take_zero]; rfl, Below.refl _ _⟩
  case round =>
    obtain ⟨k, hk, rfl, rfl, hb⟩ := hrel
    have HS2 := Lib.hid (HS.out.below hb HS.out.lt)
    by_cases hlt : k < n
    · have f1 : decide ((k : Int) < (n : Int)) = true := by simpa using hlt
      have f2 : decide ((k : Int) < 64) = true := by simp; omega
      have HE := Lib.hid ((str_append (L.take (64 * k)) (frameL L k)).trans (by rw [take_frame]))
      have hsz : ¬ 9223372036854775807 < (strOfNums (L.take (64 * k))).size + (strOfNums (frameL L k)).size := by
        rw [strOfNums_size, strOfNums_size, List.length_take, length_frameL HS.out.2.1 (by omega), HS.out.2.1]
        omega
      go_wp2_with (first | (go_at_call 20; refine (len_of b n _ HS2.out.cell1).mono ?_; rintro e w1 ⟨rfl, rfl⟩) | (go_at_call 16; refine (bytes_in b n k L _ HS2.out hlt).mono ?_; rintro e w1 ⟨rfl, hr, hb1⟩; have hcv := run_convert_row (n := 64) (cap := 64) Try.underlying22 Try.underlying5 Try.underlying9 hr; have hbb := hb.trans (hb1.mono hb.size); clear hr hb1))
      go_roundw
      case rel => exact ⟨k + 1, by omega, by go_num, by rw [← HE.out], hbb⟩
      case measure => simp [intOf]; omega
    · obtain rfl : k = n := by omega
      have f1 : decide ((k : Int) < (k : Int)) = false := by simp
      go_wp2_with (go_at_call 20; refine (len_of b k _ HS2.out.cell1).mono ?_; rintro e w1 ⟨rfl, rfl⟩)
      go_ret
      exact ⟨rfl, hb⟩
end Go.Proofs.Ytdckmbkgnlmphaa.Fr
