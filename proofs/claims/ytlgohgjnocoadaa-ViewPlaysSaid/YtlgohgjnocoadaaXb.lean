/- Package gmap: New, find, fits, Get, of the program. -/
import Derived.Test.YtlgohgjnocoadaaXa
namespace Go.Proofs.Ytlgohgjnocoadaa.Gm
open Go.RowKit Ut
set_option maxRecDepth 100000
set_option linter.unusedVariables false
set_option maxHeartbeats 4000000

theorem new_any (w : World) : Calls Try.prog 30 #[] w fun e w' => e = .returned (.pointer (some ⟨w.heap.size, 0, none⟩)) ∧ MAt w' w.heap.size noP ∧ Below w.heap.size w w' := by
  have hF : MAt (w.alloc (.cells (mCells noP).toArray 69)) w.heap.size noP := ⟨Blk.new w _ _, noP_ok⟩
  have HF := Lib.hid hF
  have HB := (Below.refl w.heap.size w).alloc (Nat.le_refl _) (.cells (mCells noP).toArray 69)
  clear hF
  go_enter Try.func30, Try.ntmps30
  go_upto_region 1 with fail
  refine wp_region_lit ?_
  refine wpList_buildTo rfl 69 _ rfl _ rfl (mCells noP).toArray (by kernel_rfl) ?_
  refine Great.wpList_boxTo rfl 69 _ rfl _ rfl w.heap.size rfl (mCells noP).toArray rfl ?_
  obtain ⟨W, hW⟩ : ∃ W, W = w.alloc (.cells (mCells noP).toArray 69) := ⟨_, rfl⟩
  rw [← hW] at HF HB ⊢
  clear hW
  go_wp2
  go_ret
  exact ⟨rfl, HF.out, HB⟩

theorem find_nil (n : Int) (w : World) : Calls Try.prog 54 #[.pointer none, .int .i64 n] w fun e w' => e = .returned (.tuple #[.pointer none, .int .i64 7]) ∧ w = w' := by
  go_enter Try.func54, Try.ntmps54
  go_wp2
  go_ret2
  exact ⟨rfl, rfl⟩
theorem find_unmade (b : Nat) (n : Int) (w : World) (h0 : w.cell? ⟨b, 0, none⟩ = some (.bool false)) : Calls Try.prog 54 #[.pointer (some ⟨b, 0, none⟩), .int .i64 n] w fun e w' => e = .returned (.tuple #[.pointer none, .int .i64 7]) ∧ w = w' := by
  go_enter Try.func54, Try.ntmps54
  go_wp2
  go_ret2
  exact ⟨rfl, rfl⟩
theorem find_out (b : Nat) (n : Int) (L : List Pl) (w : World) (h : MAt w b L) (hn : n < 0 ∨ 12 ≤ n) : Calls Try.prog 54 #[.pointer (some ⟨b, 0, none⟩), .int .i64 n] w fun e w' => e = .returned (.tuple #[.pointer none, .int .i64 1]) ∧ w = w' := by
  have h0 := h.made
  clear h
  rcases Int.lt_or_le n 0 with f0 | f0
  · have f1 : decide (n < 0) = true := by simpa using f0
    go_enter Try.func54, Try.ntmps54
    go_wp2
    go_ret2
    exact ⟨rfl, rfl⟩
  · have f1 : decide (n < 0) = false := by simpa using f0
    have f2 : decide (12 ≤ n) = true := by simp; omega
    go_enter Try.func54, Try.ntmps54
    go_wp2
    go_ret2
    exact ⟨rfl, rfl⟩
theorem find_in (b k : Nat) (L : List Pl) (w : World) (h : MAt w b L) (hk : k < 12) : Calls Try.prog 54 #[.pointer (some ⟨b, 0, none⟩), .int .i64 k] w fun e w' => e = .returned (.tuple #[.pointer (some ⟨b, 1 + 2 * k, none⟩), .int .i64 0]) ∧ w = w' := by
  have h0 := h.made
  have f0 : decide ((k : Int) < 0) = false := by simp
  have f1 : decide ((12 : Int) ≤ (k : Int)) = false := by simp; omega
  have f2 : (0 : Int) ≤ (k : Int) ∧ (k : Int) < 12 := by omega
  clear h
  go_enter Try.func54, Try.ntmps54
  go_wp2
  go_ret2
  refine ⟨?_, rfl⟩
  rw [Nat.mul_comm 2 k]
  rfl

theorem fits_any (p : Pl) (t : Bool) (ht : okB p = t) (w : World) : Calls Try.prog 55 #[plV p] w fun e w' => e = .returned (.bool t) ∧ Below w.heap.size w w' := by
  obtain ⟨f, r⟩ := p
  have hb := Lib.hid ((Below.refl w.heap.size w).alloc (Nat.le_refl _) (.cells #[.int .i64 f, .int .i64 r] 66))
  have H : Hid (t = (decide (0 ≤ f) && decide (f < 32) && decide (0 < r) && decide (r ≤ 3))) := Lib.hid (by rw [← ht]; rfl)
  clear ht
  show Calls _ _ #[.agg #[.int .i64 f, .int .i64 r]] _ _
  by_cases h1 : 0 ≤ f
  · by_cases h2 : f < 32
    · by_cases h3 : 0 < r
      · by_cases h4 : r ≤ 3
        all_goals
          go_enter Try.func55, Try.ntmps55
          go_wp2
          go_ret
          exact ⟨by rw [H.out]; simp [*], hb.out⟩
      · go_enter Try.func55, Try.ntmps55
        go_wp2
        go_ret
        exact ⟨by rw [H.out]; simp; omega, hb.out⟩
    · go_enter Try.func55, Try.ntmps55
      go_wp2
      go_ret
      exact ⟨by rw [H.out]; simp; omega, hb.out⟩
  · go_enter Try.func55, Try.ntmps55
    go_wp2
    go_ret
    exact ⟨by rw [H.out]; simp; omega, hb.out⟩
end Go.Proofs.Ytlgohgjnocoadaa.Gm
