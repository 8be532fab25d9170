/- Package gmap: Get of the program. -/
import Derived.Test.YtlgohgjnocoadaaXb
namespace Go.Proofs.Ytlgohgjnocoadaa.Gm
open Go.RowKit Ut
set_option maxRecDepth 100000
set_option linter.unusedVariables false
set_option maxHeartbeats 4000000

theorem box_below (w : World) (x y : Int) : Below w.heap.size w (w.alloc (.cells #[.int .i64 x, .int .i64 y] 66)) := (Below.refl w.heap.size w).alloc (Nat.le_refl _) _
theorem set_keep {w W : World} (j : Nat) (v : Value) (h : Below w.heap.size w W) : Below w.heap.size w (W.setCell ⟨w.heap.size, j, none⟩ v) := h.setCell (p := ⟨w.heap.size, j, none⟩) (by simp) _
/-- where find says no -/
theorem get_no (a : Option Addr) (n z : Int) (hz : z = 1 ∨ z = 7) (w : World) (hF : ∀ W, Below w.heap.size w W → Calls Try.prog 54 #[.pointer a, .int .i64 n] W fun e w' => e = .returned (.tuple #[.pointer none, .int .i64 z]) ∧ W = w') :
    Calls Try.prog 51 #[.pointer a, .int .i64 n] w fun e w' => e = .returned (.tuple #[plV (0, 0), .bool false]) ∧ Below w.heap.size w w' := by
  have hz0 : (z == 0) = false := by rcases hz with rfl | rfl <;> rfl
  have HB := Lib.hid (box_below w 0 0)
  have HF := Lib.hid (hF _ HB.out)
  clear hF hz
  go_enter Try.func51, Try.ntmps51
  go_wp2_with fail
  refine HF.out.mono ?_
  rintro e w1 ⟨rfl, rfl⟩
  go_wp2
  exact bodyPost_ret (v := .tuple #[plV (0, 0), .bool false]) (by simp [results, Try.results51, go_sem, plV]) rfl ⟨rfl, by first | exact HB.out | exact (box_below w _ _).drew | exact set_keep _ _ (set_keep _ _ HB.out)⟩
theorem get_none (b k : Nat) (L : List Pl) (hk : k < 12) (hp : plN L k = (0, 0)) (w : World) (h : MAt w b L) :
    Calls Try.prog 51 #[.pointer (some ⟨b, 0, none⟩), .int .i64 k] w fun e w' => e = .returned (.tuple #[plV (0, 0), .bool false]) ∧ Below w.heap.size w w' := by
  have HB := Lib.hid (box_below w 0 0)
  have HF := Lib.hid (find_in b k L _ (h.more HB.out) hk)
  have hc := h.cells k hk
  rw [hp] at hc
  obtain ⟨c0, c1⟩ := hc
  have hlt := h.lt
  clear h hk hp
  go_enter Try.func51, Try.ntmps51
  go_wp2_with fail
  refine HF.out.mono ?_
  rintro e w1 ⟨rfl, rfl⟩
  generalize 1 + 2 * k = o at c0 c1 ⊢
  go_upto_region 4 with fail
  go_region
  go_wp2
  exact bodyPost_ret (v := .tuple #[plV (0, 0), .bool false]) (by simp [results, Try.results51, go_sem, plV]) rfl ⟨rfl, by first | exact HB.out | exact (box_below w _ _).drew | exact set_keep _ _ (set_keep _ _ HB.out)⟩
theorem get_is (b k f r : Nat) (L : List Pl) (hk : k < 12) (hp : plN L k = ((f : Int), (r : Int))) (hr : 0 < r) (w : World) (h : MAt w b L) :
    Calls Try.prog 51 #[.pointer (some ⟨b, 0, none⟩), .int .i64 k] w fun e w' => e = .returned (.tuple #[plV ((f : Int), (r : Int)), .bool true]) ∧ Below w.heap.size w w' := by
  have HB := Lib.hid (box_below w 0 0)
  have HF := Lib.hid (find_in b k L _ (h.more HB.out) hk)
  have hc := h.cells k hk
  rw [hp] at hc
  obtain ⟨c0, c1⟩ := hc
  have hlt := h.lt
  have hr0 : ((r : Int) == 0) = false := by simp; omega
  clear h hk hp
  go_enter Try.func51, Try.ntmps51
  go_wp2_with fail
  refine HF.out.mono ?_
  rintro e w1 ⟨rfl, rfl⟩
  generalize 1 + 2 * k = o at c0 c1 ⊢
  go_upto_region 4 with fail
  go_region
  go_wp2
  exact bodyPost_ret (v := .tuple #[plV ((f : Int), (r : Int)), .bool true]) (by simp [results, Try.results51, go_sem, plV]) rfl ⟨rfl, by first | exact HB.out | exact (box_below w _ _).drew | exact set_keep _ _ (set_keep _ _ HB.out)⟩
theorem get_any (b : Nat) (L : List Pl) (n : Int) (p : Pl) (t : Bool) (hp : atP L n = p) (ht : thB p = t) (w : World) (h : MAt w b L) :
    Calls Try.prog 51 #[.pointer (some ⟨b, 0, none⟩), .int .i64 n] w fun e w' => e = .returned (.tuple #[plV p, .bool t]) ∧ Below w.heap.size w w' := by
  subst ht hp
  rcases page_cases n with hn | ⟨k, rfl, hk⟩
  · rw [atP_no hn]
    exact get_no _ n 1 (.inl rfl) w fun W hW => find_out b n L W (h.more hW) hn
  · rw [atP_is hk]
    rcases pl_cases h.2 k with hp | ⟨f, r, hp, _, hr, _, ht⟩
    · rw [hp]
      exact get_none b k L hk hp w h
    · rw [hp, ht]
      exact get_is b k f r L hk hp hr w h
theorem get_zero (a : Option Addr) (n : Int) (w : World) (hF : ∀ W, Below w.heap.size w W → Calls Try.prog 54 #[.pointer a, .int .i64 n] W fun e w' => e = .returned (.tuple #[.pointer none, .int .i64 7]) ∧ W = w') :
    Calls Try.prog 51 #[.pointer a, .int .i64 n] w fun e w' => e = .returned (.tuple #[plV (0, 0), .bool false]) ∧ Below w.heap.size w w' := get_no a n 7 (.inr rfl) w hF
end Go.Proofs.Ytlgohgjnocoadaa.Gm
