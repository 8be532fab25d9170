/- The statements' own helpers on frames: awake, all; what all tells of two stores. -/
import Derived.Test.YtlgohgjnocoadaaIc
namespace Go.Proofs.Ytlgohgjnocoadaa.Fr
open Go.RowKit Ut Oc
set_option linter.unusedVariables false

/-- either there is no such place, or it is one of frame F from O on -/
theorem place_cases (n : Nat) (f o m : Int) : (f < 0 ∨ (n : Int) ≤ f) ∨ (∃ F : Nat, f = F ∧ F < n ∧ (hold 64 o m = false ∨ ∃ O M : Nat, o = O ∧ m = M ∧ isW (M : Int) = true ∧ O + M ≤ 64 ∧ 0 < M ∧ M ≤ 4)) := by
  rcases Int.lt_or_le f 0 with h | h
  · exact .inl (.inl h)
  · rcases Int.lt_or_le f n with h2 | h2
    · obtain ⟨F, rfl⟩ := Int.eq_ofNat_of_zero_le h
      refine .inr ⟨F, rfl, by omega, ?_⟩
      cases hh : hold 64 o m with
      | false => exact .inl rfl
      | true =>
        obtain ⟨O, M, h1, h2, h3, h4, h5, h6⟩ := hold_yes hh
        exact .inr ⟨O, M, h1, h2, h3, h4, h5, h6⟩
    · exact .inl (.inr h2)
theorem save_cases (b n : Nat) (f o m v : Int) (L : List Int) (w : World) (hS : St w b n L) :
    Calls Try.prog 36 #[.pointer (some ⟨b, 0, none⟩), .int .i64 f, .int .i64 o, .int .i64 m, .int .u32 v] w (fun e w' => e = .returned (.int .i64 1) ∧ w = w') ∨
      ∃ F O M : Nat, f = F ∧ o = O ∧ m = M ∧ F < n ∧ isW (M : Int) = true ∧ O + M ≤ 64 := by
  rcases place_cases n f o m with h | ⟨F, rfl, hF, h | ⟨O, M, rfl, rfl, h1, h2, _⟩⟩
  · exact .inl (save_no _ f o m v 1 w (.inl rfl) (find_out b n f L w hS h))
  · exact .inl (save_out b n F o m v L w hS hF h)
  · exact .inr ⟨F, O, M, rfl, rfl, rfl, hF, h1, h2⟩

theorem zeros_zer (f : Nat) (hf : f < 32) : frameL zeros f = zer := zeros_frame f hf
theorem put1 : (putZ zer 60 4 1 == zer) = false := by decide +kernel

theorem str_append (xs ys : List Int) : strOfNums xs ++ strOfNums ys = strOfNums (xs ++ ys) := by
  unfold strOfNums
  rw [List.map_append]
  apply ByteArray.ext
  simp
theorem take_frame (L : List Int) (k : Nat) : L.take (64 * k) ++ frameL L k = L.take (64 * (k + 1)) := by
  unfold frameL
  rw [Nat.mul_add, Nat.mul_one, List.take_add]

end Go.Proofs.Ytlgohgjnocoadaa.Fr
