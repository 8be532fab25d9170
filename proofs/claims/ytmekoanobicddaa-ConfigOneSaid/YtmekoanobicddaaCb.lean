/- within, framesOf. -/
import Derived.Test.YtmekoanobicddaaCa
namespace Go.Proofs.Ytmekoanobicddaa.Cf
open Go.RowKit Ut
set_option linter.unusedVariables false

theorem within_any (n a b : Int) (w : World) : Calls Try.prog 58 #[.int .i64 n, .int .i64 a, .int .i64 b] w fun e w' => e = .returned (.bool (inB n a b)) ∧ w = w' := by
  by_cases h1 : a ≤ n
  · by_cases h2 : n ≤ b
    · have hb : inB n a b = true := by unfold inB; simp [h1, h2]
      rw [hb]
      clear hb
      go_enter Try.func58, Try.ntmps58
      go_wp2
      go_ret
      exact ⟨rfl, rfl⟩
    · have hb : inB n a b = false := by unfold inB; simp [h2]
      rw [hb]
      clear hb
      go_enter Try.func58, Try.ntmps58
      go_wp2
      go_ret
      exact ⟨rfl, rfl⟩
  · have hb : inB n a b = false := by unfold inB; simp [h1]
    rw [hb]
    clear hb
    go_enter Try.func58, Try.ntmps58
    go_wp2
    go_ret
    exact ⟨rfl, rfl⟩

set_option maxRecDepth 100000 in
theorem framesOf_any (a : Option Addr) (n c B : Nat) (G : Nat → Nat → Int) (w : World) (hB : B ≤ w.heap.size) (h : RowT 3 w B a n G) (hn : n ≤ 4) (hs : Small G n) :
    Calls Try.prog 56 #[.slice a n c] w fun e w' => e = .returned (.int .i64 (sumG G n)) ∧ Below w.heap.size w w' := by
  have H := Lib.hid h
  have HS := Lib.hid hs
  clear h hs
  go_enter Try.func56, Try.ntmps56
  go_wp2
  go_loopw [3, 8] (fun s i wr => ∃ k : Nat, k ≤ n ∧ s = .int .i64 (sumG G k) ∧ i = .int .i64 k ∧ Below w.heap.size w wr) (fun _ i _ => n - (intOf i).toNat)
  case atStart => exact ⟨0, Nat.zero_le _, rfl, rfl, Below.refl _ _⟩
  case round =>
    obtain ⟨k, hk, rfl, rfl, hb⟩ := hrel
    by_cases hlt : k < n
    · obtain ⟨x, rfl, hx, c0, c1, c2⟩ := (H.out.below (hb.mono hB)).at3 k hlt
      have hsb := sumG_bd HS.out k hk
      have hst := HS.out k hlt
      have hsn : Hid (sumG G (k + 1) = sumG G k + (G k 1 + G k 2)) := Lib.hid rfl
      have b0 : (0 : Int) ≤ (k : Int) := by omega
      have b1 : (k : Int) < (n : Int) := by omega
      obtain ⟨s, hs⟩ : ∃ s, s = sumG G k := ⟨_, rfl⟩
      obtain ⟨l, hl⟩ : ∃ l, l = G k 0 := ⟨_, rfl⟩
      obtain ⟨p, hp⟩ : ∃ p, p = G k 1 := ⟨_, rfl⟩
      obtain ⟨q, hq⟩ : ∃ q, q = G k 2 := ⟨_, rfl⟩
      rw [← hs, ← hp, ← hq] at hsn
      rw [← hs] at hsb ⊢
      rw [← hp, ← hq] at hst
      rw [← hl] at c0
      rw [← hp] at c1
      rw [← hq] at c2
      clear hs hl hp hq
      go_wp2
      go_roundw
      case rel => exact ⟨k + 1, by omega, by rw [hsn.out], by go_num, hb.alloc hb.size _⟩
      case measure => simp [intOf]; omega
    · have hkn : k = n := by omega
      subst hkn
      have b1 : ¬ (k : Int) < (k : Int) := by omega
      go_wp2
      go_ret
      exact ⟨rfl, hb⟩
end Go.Proofs.Ytmekoanobicddaa.Cf
