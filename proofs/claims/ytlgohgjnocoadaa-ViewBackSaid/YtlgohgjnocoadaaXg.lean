/- The document's map (hermitageref15): Is, Get, Set, Drop. -/
import Derived.Test.YtlgohgjnocoadaaXc
import Derived.Test.YtlgohgjnocoadaaXd
namespace Go.Proofs.Ytlgohgjnocoadaa.Gm
open Go.RowKit Ut
set_option maxRecDepth 100000
set_option linter.unusedVariables false
set_option maxHeartbeats 4000000

theorem is_no (n : Int) (h : n < 0 ∨ 12 ≤ n) (w : World) : Calls Try.prog 56 #[.int .i64 n] w fun e w' => e = .returned (.bool false) ∧ w = w' := by
  rcases Int.lt_or_le n 0 with h0 | h0
  · have h1 : decide ((0 : Int) ≤ n) = false := by simp; omega
    go_enter Try.func56, Try.ntmps56
    go_wp2
    go_ret
    exact ⟨rfl, rfl⟩
  · have h1 : decide ((0 : Int) ≤ n) = true := by simpa using h0
    have h2 : decide (n < 12) = false := by simp; omega
    go_enter Try.func56, Try.ntmps56
    go_wp2
    go_ret
    exact ⟨rfl, rfl⟩
theorem is_yes (k : Nat) (h : k < 12) (w : World) : Calls Try.prog 56 #[.int .i64 k] w fun e w' => e = .returned (.bool true) ∧ w = w' := by
  have h1 : decide ((0 : Int) ≤ (k : Int)) = true := by simp
  have h2 : decide ((k : Int) < 12) = true := by simp; omega
  go_enter Try.func56, Try.ntmps56
  go_wp2
  go_ret
  exact ⟨rfl, rfl⟩

theorem RAt.cells' {w : World} {b : Nat} {L : List Pl} (h : RAt w b L) (k : Nat) (hk : k < 12) : w.cell? ⟨b, 12 + k * 2, none⟩ = some (.int .i64 (plN L k).1) ∧ w.cell? ⟨b, 12 + k * 2 + 1, none⟩ = some (.int .i64 (plN L k).2) := by
  rw [Nat.mul_comm k 2]; exact h.cells k hk

theorem refGet_no (b : Nat) (n : Int) (L : List Pl) (hn : n < 0 ∨ 12 ≤ n) (w : World) (h : RAt w b L) :
    Calls Try.prog 43 #[.pointer (some ⟨b, 0, none⟩), .int .i64 n] w fun e w' => e = .returned (.tuple #[plV (0, 0), .bool false]) ∧ Below w.heap.size w w' := by
  have HB := Lib.hid (box_below w 0 0)
  have HI := Lib.hid (is_no n hn)
  clear h hn
  go_enter Try.func43, Try.ntmps43
  go_wp2_with fail
  refine (HI.out _).mono ?_
  rintro e w1 ⟨rfl, rfl⟩
  go_wp2
  exact bodyPost_ret (v := .tuple #[plV (0, 0), .bool false]) (by simp [results, Try.results43, go_sem, plV]) rfl ⟨rfl, by first | exact HB.out | exact (box_below w _ _).drew | exact set_keep _ _ (set_keep _ _ HB.out)⟩
theorem refGet_is (b k : Nat) (L : List Pl) (hk : k < 12) (w : World) (h : RAt w b L) :
    Calls Try.prog 43 #[.pointer (some ⟨b, 0, none⟩), .int .i64 k] w fun e w' => e = .returned (.tuple #[plV (plN L k), .bool (thB (plN L k))]) ∧ Below w.heap.size w w' := by
  have HI := Lib.hid (is_yes k hk)
  have HB := Lib.hid (box_below w 0 0)
  obtain ⟨c0, c1⟩ := h.cells' k hk
  have ct := h.there k hk
  have hlt := h.lt
  have f2 : (0 : Int) ≤ (k : Int) ∧ (k : Int) < 12 := by omega
  obtain ⟨t, ht⟩ : ∃ t, thB (plN L k) = t := ⟨_, rfl⟩
  rw [ht] at ct ⊢
  clear ht
  generalize plN L k = p at c0 c1 ⊢
  obtain ⟨f, r⟩ := p
  dsimp only at c0 c1
  clear h hk
  go_enter Try.func43, Try.ntmps43
  go_wp2_with fail
  refine (HI.out _).mono ?_
  rintro e w1 ⟨rfl, rfl⟩
  go_upto_region 3 with fail
  go_region
  go_wp2
  exact bodyPost_ret (v := .tuple #[plV (f, r), .bool t]) (by simp [results, Try.results43, go_sem, plV]) rfl ⟨rfl, by first | exact HB.out | exact (box_below w _ _).drew | exact set_keep _ _ (set_keep _ _ HB.out)⟩
theorem refGet_any (b : Nat) (L : List Pl) (n : Int) (p : Pl) (t : Bool) (hp : atP L n = p) (ht : thB p = t) (w : World) (h : RAt w b L) :
    Calls Try.prog 43 #[.pointer (some ⟨b, 0, none⟩), .int .i64 n] w fun e w' => e = .returned (.tuple #[plV p, .bool t]) ∧ Below w.heap.size w w' := by
  subst ht hp
  rcases page_cases n with hn | ⟨k, rfl, hk⟩
  · rw [atP_no hn]; exact refGet_no b n L hn w h
  · rw [atP_is hk]; exact refGet_is b k L hk w h

theorem grown_three {w w1 : World} (hb : Below w.heap.size w w1) (b i j l : Nat) (x y z : Value) : w.grownBy (((w1.setCell ⟨b, i, none⟩ x).setCell ⟨b, j, none⟩ y).setCell ⟨b, l, none⟩ z) (some b) :=
  grown_trans (grown_two hb b i j x y) (grown_setCell _ b l z)
theorem RAt.set' {w : World} {b : Nat} {L : List Pl} (h : RAt w b L) (k : Nat) (hk : k < 12) (p : Pl) (t : Bool) (ht : thB p = t) (hp : p = (0, 0) ∨ okB p = true) : RAt (((w.setCell ⟨b, k, none⟩ (.bool t)).setCell ⟨b, 12 + k * 2, none⟩ (.int .i64 p.1)).setCell ⟨b, 12 + k * 2 + 1, none⟩ (.int .i64 p.2)) b (L.set k p) := by
  rw [Nat.mul_comm k 2]; exact ht ▸ h.set k hk p hp
end Go.Proofs.Ytlgohgjnocoadaa.Gm
