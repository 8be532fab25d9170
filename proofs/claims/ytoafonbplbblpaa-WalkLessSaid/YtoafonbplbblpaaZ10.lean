/- Several texts in one: Xb Xc -/
import Derived.Test.YtoafonbplbblpaaZ09
section
/- Package gmap: New, find, fits, Get, of the program. -/
namespace Go.Proofs.Ytoafonbplbblpaa.Gm
open Go.RowKit Ut
set_option maxRecDepth 100000
set_option linter.unusedVariables false
set_option maxHeartbeats 4000000

theorem new_any (w : World) : Calls Try.prog 22 #[] w fun e w' => e = .returned (.pointer (some ⟨w.heap.size, 0, none⟩)) ∧ MAt w' w.heap.size noP ∧ Below w.heap.size w w' := by
  have hF : MAt (w.alloc (.cells (mCells noP).toArray 118)) w.heap.size noP := ⟨Blk.new w _ _, noP_ok⟩
  have HF := Lib.hid hF
  have HB := (Below.refl w.heap.size w).alloc (Nat.le_refl _) (.cells (mCells noP).toArray 118)
  clear hF
  go_enter Try.func22, Try.ntmps22
  go_upto_region 1 with fail
  refine wp_region_lit ?_
  refine wpList_buildTo rfl 118 _ rfl _ rfl (mCells noP).toArray (by kernel_rfl) ?_
  refine Great.wpList_boxTo rfl 118 _ rfl _ rfl w.heap.size rfl (mCells noP).toArray rfl ?_
  obtain ⟨W, hW⟩ : ∃ W, W = w.alloc (.cells (mCells noP).toArray 118) := ⟨_, rfl⟩
  rw [← hW] at HF HB ⊢
  clear hW
  go_wp2
  go_ret
  exact ⟨rfl, HF.out, HB⟩

theorem find_nil (n : Int) (w : World) : Calls Try.prog 47 #[.pointer none, .int .i64 n] w fun e w' => e = .returned (.tuple #[.pointer none, .int .i64 7]) ∧ w = w' := by
  go_enter Try.func47, Try.ntmps47
  go_wp2
  go_ret2
  exact ⟨rfl, rfl⟩
theorem find_unmade (b : Nat) (n : Int) (w : World) (h0 : w.cell? ⟨b, 0, none⟩ = some (.bool false)) : Calls Try.prog 47 #[.pointer (some ⟨b, 0, none⟩), .int .i64 n] w fun e w' => e = .returned (.tuple #[.pointer none, .int .i64 7]) ∧ w = w' := by
  go_enter Try.func47, Try.ntmps47
  go_wp2
  go_ret2
  exact ⟨rfl, rfl⟩
theorem find_out (b : Nat) (n : Int) (L : List Pl) (w : World) (h : MAt w b L) (hn : n < 0 ∨ 12 ≤ n) : Calls Try.prog 47 #[.pointer (some ⟨b, 0, none⟩), .int .i64 n] w fun e w' => e = .returned (.tuple #[.pointer none, .int .i64 1]) ∧ w = w' := by
  have h0 := h.made
  clear h
  rcases Int.lt_or_le n 0 with f0 | f0
  · have f1 : decide (n < 0) = true := by simpa using f0
    go_enter Try.func47, Try.ntmps47
    go_wp2
    go_ret2
    exact ⟨rfl, rfl⟩
  · have f1 : decide (n < 0) = false := by simpa using f0
    have f2 : decide (12 ≤ n) = true := by simp; omega
    go_enter Try.func47, Try.ntmps47
    go_wp2
    go_ret2
    exact ⟨rfl, rfl⟩
theorem find_in (b k : Nat) (L : List Pl) (w : World) (h : MAt w b L) (hk : k < 12) : Calls Try.prog 47 #[.pointer (some ⟨b, 0, none⟩), .int .i64 k] w fun e w' => e = .returned (.tuple #[.pointer (some ⟨b, 1 + 2 * k, none⟩), .int .i64 0]) ∧ w = w' := by
  have h0 := h.made
  have f0 : decide ((k : Int) < 0) = false := by simp
  have f1 : decide ((12 : Int) ≤ (k : Int)) = false := by simp; omega
  have f2 : (0 : Int) ≤ (k : Int) ∧ (k : Int) < 12 := by omega
  clear h
  go_enter Try.func47, Try.ntmps47
  go_wp2
  go_ret2
  refine ⟨?_, rfl⟩
  rw [Nat.mul_comm 2 k]
  rfl

theorem fits_any (p : Pl) (t : Bool) (ht : okB p = t) (w : World) : Calls Try.prog 48 #[plV p] w fun e w' => e = .returned (.bool t) ∧ Below w.heap.size w w' := by
  obtain ⟨f, r⟩ := p
  have hb := Lib.hid ((Below.refl w.heap.size w).alloc (Nat.le_refl _) (.cells #[.int .i64 f, .int .i64 r] 58))
  have H : Hid (t = (decide (0 ≤ f) && decide (f < 32) && decide (0 < r) && decide (r ≤ 3))) := Lib.hid (by rw [← ht]; rfl)
  clear ht
  show Calls _ _ #[.agg #[.int .i64 f, .int .i64 r]] _ _
  by_cases h1 : 0 ≤ f
  · by_cases h2 : f < 32
    · by_cases h3 : 0 < r
      · by_cases h4 : r ≤ 3
        all_goals
          go_enter Try.func48, Try.ntmps48
          go_wp2
          go_ret
          exact ⟨by rw [H.out]; simp [*], hb.out⟩
      · go_enter Try.func48, Try.ntmps48
        go_wp2
        go_ret
        exact ⟨by rw [H.out]; simp; omega, hb.out⟩
    · go_enter Try.func48, Try.ntmps48
      go_wp2
      go_ret
      exact ⟨by rw [H.out]; simp; omega, hb.out⟩
  · go_enter Try.func48, Try.ntmps48
    go_wp2
    go_ret
    exact ⟨by rw [H.out]; simp; omega, hb.out⟩
end Go.Proofs.Ytoafonbplbblpaa.Gm
end
section
/- Package gmap: Get of the program. -/
namespace Go.Proofs.Ytoafonbplbblpaa.Gm
open Go.RowKit Ut
set_option maxRecDepth 100000
set_option linter.unusedVariables false
set_option maxHeartbeats 4000000

theorem box_below (w : World) (x y : Int) : Below w.heap.size w (w.alloc (.cells #[.int .i64 x, .int .i64 y] 58)) := (Below.refl w.heap.size w).alloc (Nat.le_refl _) _
theorem set_keep {w W : World} (j : Nat) (v : Value) (h : Below w.heap.size w W) : Below w.heap.size w (W.setCell ⟨w.heap.size, j, none⟩ v) := h.setCell (p := ⟨w.heap.size, j, none⟩) (by simp) _
/-- where find says no -/
theorem get_no (a : Option Addr) (n z : Int) (hz : z = 1 ∨ z = 7) (w : World) (hF : ∀ W, Below w.heap.size w W → Calls Try.prog 47 #[.pointer a, .int .i64 n] W fun e w' => e = .returned (.tuple #[.pointer none, .int .i64 z]) ∧ W = w') :
    Calls Try.prog 20 #[.pointer a, .int .i64 n] w fun e w' => e = .returned (.tuple #[plV (0, 0), .bool false]) ∧ Below w.heap.size w w' := by
  have hz0 : (z == 0) = false := by rcases hz with rfl | rfl <;> rfl
  have HB := Lib.hid (box_below w 0 0)
  have HF := Lib.hid (hF _ HB.out)
  clear hF hz
  go_enter Try.func20, Try.ntmps20
  go_wp2_with fail
  refine HF.out.mono ?_
  rintro e w1 ⟨rfl, rfl⟩
  go_wp2
  exact bodyPost_ret (v := .tuple #[plV (0, 0), .bool false]) (by simp [results, Try.results20, go_sem, plV]) rfl ⟨rfl, by first | exact HB.out | exact (box_below w _ _).drew | exact set_keep _ _ (set_keep _ _ HB.out)⟩
theorem get_none (b k : Nat) (L : List Pl) (hk : k < 12) (hp : plN L k = (0, 0)) (w : World) (h : MAt w b L) :
    Calls Try.prog 20 #[.pointer (some ⟨b, 0, none⟩), .int .i64 k] w fun e w' => e = .returned (.tuple #[plV (0, 0), .bool false]) ∧ Below w.heap.size w w' := by
  have HB := Lib.hid (box_below w 0 0)
  have HF := Lib.hid (find_in b k L _ (h.more HB.out) hk)
  have hc := h.cells k hk
  rw [hp] at hc
  obtain ⟨c0, c1⟩ := hc
  have hlt := h.lt
  clear h hk hp
  go_enter Try.func20, Try.ntmps20
  go_wp2_with fail
  refine HF.out.mono ?_
  rintro e w1 ⟨rfl, rfl⟩
  generalize 1 + 2 * k = o at c0 c1 ⊢
  go_upto_region 4 with fail
  go_region
  go_wp2
  exact bodyPost_ret (v := .tuple #[plV (0, 0), .bool false]) (by simp [results, Try.results20, go_sem, plV]) rfl ⟨rfl, by first | exact HB.out | exact (box_below w _ _).drew | exact set_keep _ _ (set_keep _ _ HB.out)⟩
theorem get_is (b k f r : Nat) (L : List Pl) (hk : k < 12) (hp : plN L k = ((f : Int), (r : Int))) (hr : 0 < r) (w : World) (h : MAt w b L) :
    Calls Try.prog 20 #[.pointer (some ⟨b, 0, none⟩), .int .i64 k] w fun e w' => e = .returned (.tuple #[plV ((f : Int), (r : Int)), .bool true]) ∧ Below w.heap.size w w' := by
  have HB := Lib.hid (box_below w 0 0)
  have HF := Lib.hid (find_in b k L _ (h.more HB.out) hk)
  have hc := h.cells k hk
  rw [hp] at hc
  obtain ⟨c0, c1⟩ := hc
  have hlt := h.lt
  have hr0 : ((r : Int) == 0) = false := by simp; omega
  clear h hk hp
  go_enter Try.func20, Try.ntmps20
  go_wp2_with fail
  refine HF.out.mono ?_
  rintro e w1 ⟨rfl, rfl⟩
  generalize 1 + 2 * k = o at c0 c1 ⊢
  go_upto_region 4 with fail
  go_region
  go_wp2
  exact bodyPost_ret (v := .tuple #[plV ((f : Int), (r : Int)), .bool true]) (by simp [results, Try.results20, go_sem, plV]) rfl ⟨rfl, by first | exact HB.out | exact (box_below w _ _).drew | exact set_keep _ _ (set_keep _ _ HB.out)⟩
theorem get_any (b : Nat) (L : List Pl) (n : Int) (p : Pl) (t : Bool) (hp : atP L n = p) (ht : thB p = t) (w : World) (h : MAt w b L) :
    Calls Try.prog 20 #[.pointer (some ⟨b, 0, none⟩), .int .i64 n] w fun e w' => e = .returned (.tuple #[plV p, .bool t]) ∧ Below w.heap.size w w' := by
  subst ht hp
  rcases page_cases n with hn | ⟨k, rfl, hk⟩
  · rw [atP_no hn]
    exact get_no _ n 1 (.inl rfl) w fun W hW => find_out b n L W (h.more hW) hn
  · rw [atP_is hk]
    rcases pl_cases h.2 k with hp | ⟨f, r, hp, _, hr, _, ht⟩
    · rw [hp]
      exact get_none b k L hk hp w h
    · rw [hp, ht]
      exact get_is b k f r L hk hp hr w h
theorem get_zero (a : Option Addr) (n : Int) (w : World) (hF : ∀ W, Below w.heap.size w W → Calls Try.prog 47 #[.pointer a, .int .i64 n] W fun e w' => e = .returned (.tuple #[.pointer none, .int .i64 7]) ∧ W = w') :
    Calls Try.prog 20 #[.pointer a, .int .i64 n] w fun e w' => e = .returned (.tuple #[plV (0, 0), .bool false]) ∧ Below w.heap.size w w' := get_no a n 7 (.inr rfl) w hF
end Go.Proofs.Ytoafonbplbblpaa.Gm
end
