/- Several texts in one: Xd Xg -/
import Derived.Test.YtoafonbplbblpaaZ10
section
/- Package gmap: Set and Drop of the program. -/
namespace Go.Proofs.Ytoafonbplbblpaa.Gm
open Go.RowKit Ut
set_option maxRecDepth 100000
set_option linter.unusedVariables false
set_option maxHeartbeats 4000000

/-- both cells of a place turned -/
theorem grown_two {w w1 : World} (hb : Below w.heap.size w w1) (b i j : Nat) (x y : Value) : w.grownBy ((w1.setCell ⟨b, i, none⟩ x).setCell ⟨b, j, none⟩ y) (some b) :=
  grown_trans (grown_trans (grown_below hb) (grown_setCell w1 b i x)) (grown_setCell _ b j y)

theorem set_no (a : Option Addr) (n z : Int) (p : Pl) (hz : z = 1 ∨ z = 7) (w : World) (hF : ∀ W, Below w.heap.size w W → Calls Try.prog 47 #[.pointer a, .int .i64 n] W fun e w' => e = .returned (.tuple #[.pointer none, .int .i64 z]) ∧ W = w') :
    Calls Try.prog 24 #[.pointer a, .int .i64 n, plV p] w fun e w' => e = .returned (.int .i64 z) ∧ Below w.heap.size w w' := by
  obtain ⟨f, r⟩ := p
  have hz0 : (z == 0) = false := by rcases hz with rfl | rfl <;> rfl
  have HB := Lib.hid (box_below w f r)
  have HF := Lib.hid (hF _ HB.out)
  clear hF hz
  show Calls _ _ #[_, _, .agg #[.int .i64 f, .int .i64 r]] _ _
  go_enter Try.func24, Try.ntmps24
  go_wp2_with fail
  refine HF.out.mono ?_
  rintro e w1 ⟨rfl, rfl⟩
  go_wp2
  go_ret
  exact ⟨rfl, HB.out⟩
theorem set_unfit (b k : Nat) (L : List Pl) (p : Pl) (hk : k < 12) (hp : okB p = false) (w : World) (h : MAt w b L) :
    Calls Try.prog 24 #[.pointer (some ⟨b, 0, none⟩), .int .i64 k, plV p] w fun e w' => e = .returned (.int .i64 1) ∧ Below w.heap.size w w' := by
  have HT := Lib.hid (fits_any p false hp)
  obtain ⟨f, r⟩ := p
  have HB := Lib.hid (box_below w f r)
  have HF := Lib.hid (find_in b k L _ (h.more HB.out) hk)
  clear h hk hp
  show Calls _ _ #[_, _, .agg #[.int .i64 f, .int .i64 r]] _ _
  go_enter Try.func24, Try.ntmps24
  go_wp2_with fail
  refine HF.out.mono ?_
  rintro e w1 ⟨rfl, rfl⟩
  generalize 1 + 2 * k = o
  go_wp2_with fail
  refine (HT.out _).mono ?_
  rintro e w1 ⟨rfl, hb1⟩
  have HB1 := Lib.hid (HB.out.trans (hb1.mono HB.out.size))
  clear hb1
  go_wp2
  go_ret
  exact ⟨rfl, HB1.out⟩
theorem set_used (b k : Nat) (L : List Pl) (p : Pl) (hk : k < 12) (hp : okB p = true) (g s : Nat) (hq : plN L k = ((g : Int), (s : Int))) (hs : 0 < s) (w : World) (h : MAt w b L) :
    Calls Try.prog 24 #[.pointer (some ⟨b, 0, none⟩), .int .i64 k, plV p] w fun e w' => e = .returned (.int .i64 5) ∧ Below w.heap.size w w' := by
  have HT := Lib.hid (fits_any p true hp)
  obtain ⟨f, r⟩ := p
  have HB := Lib.hid (box_below w f r)
  have HM := Lib.hid (h.more HB.out)
  have HF := Lib.hid (find_in b k L _ (h.more HB.out) hk)
  have HC := Lib.hid hk
  have HQ := Lib.hid hq
  have hs0 : ((s : Int) == 0) = false := by simp; omega
  clear h hk hp hq
  show Calls _ _ #[_, _, .agg #[.int .i64 f, .int .i64 r]] _ _
  go_enter Try.func24, Try.ntmps24
  go_wp2_with fail
  refine HF.out.mono ?_
  rintro e w1 ⟨rfl, rfl⟩
  obtain ⟨o, ho⟩ : ∃ o, o = 1 + 2 * k := ⟨_, rfl⟩
  rw [← ho]
  have HO := Lib.hid ho
  clear ho
  go_wp2_with fail
  refine (HT.out _).mono ?_
  rintro e w1 ⟨rfl, hb1⟩
  have HB1 := Lib.hid (HB.out.trans (hb1.mono HB.out.size))
  have hc := (HM.out.more hb1).cells k HC.out
  rw [HQ.out, ← HO.out] at hc
  obtain ⟨c0, c1⟩ := hc
  clear hb1 HF
  go_wp2
  go_ret
  exact ⟨rfl, HB1.out⟩
theorem set_ok (b k : Nat) (L : List Pl) (p : Pl) (hk : k < 12) (hp : okB p = true) (hq : plN L k = (0, 0)) (w : World) (h : MAt w b L) :
    Calls Try.prog 24 #[.pointer (some ⟨b, 0, none⟩), .int .i64 k, plV p] w fun e w' => e = .returned (.int .i64 0) ∧ MAt w' b (L.set k p) ∧ w.grownBy w' (some b) := by
  have HT := Lib.hid (fits_any p true hp)
  have HP := Lib.hid (show p = (0, 0) ∨ okB p = true from .inr hp)
  obtain ⟨f, r⟩ := p
  have HB := Lib.hid (box_below w f r)
  have HM := Lib.hid (h.more HB.out)
  have HF := Lib.hid (find_in b k L _ (h.more HB.out) hk)
  have HC := Lib.hid hk
  have HQ := Lib.hid hq
  clear h hk hp hq
  show Calls _ _ #[_, _, .agg #[.int .i64 f, .int .i64 r]] _ _
  have HN : Hid (Blk (w.alloc (.cells #[.int .i64 f, .int .i64 r] 58)) w.heap.size 58 [.int .i64 f, .int .i64 r]) := Blk.new w _ _
  go_enter Try.func24, Try.ntmps24
  go_wp2_with fail
  refine HF.out.mono ?_
  rintro e w1 ⟨rfl, rfl⟩
  obtain ⟨o, ho⟩ : ∃ o, o = 1 + 2 * k := ⟨_, rfl⟩
  rw [← ho]
  have HO := Lib.hid ho
  clear ho
  go_wp2_with fail
  refine (HT.out _).mono ?_
  rintro e w1 ⟨rfl, hb1⟩
  have HB1 := Lib.hid (HB.out.trans (hb1.mono HB.out.size))
  have hc := (HM.out.more hb1).cells k HC.out
  rw [HQ.out, ← HO.out] at hc
  obtain ⟨c0, c1⟩ := hc
  have hn := HN.out.below hb1 HN.out.lt
  have n0 : w1.cell? ⟨w.heap.size, 0, none⟩ = some (.int .i64 f) := hn.cell rfl
  have n1 : w1.cell? ⟨w.heap.size, 1, none⟩ = some (.int .i64 r) := hn.cell rfl
  have f0 := (HM.out.more hb1).1.frozen o
  have f1 := (HM.out.more hb1).1.frozen (o + 1)
  have HS := Lib.hid ((HM.out.more hb1).set k HC.out (f, r) HP.out)
  have HG := Lib.hid (grown_two HB1.out b o (o + 1) (.int .i64 f) (.int .i64 r))
  rw [← HO.out] at HS
  clear hb1 HF hn
  go_wp2
  go_ret
  exact ⟨rfl, HS.out, HG.out⟩
end Go.Proofs.Ytoafonbplbblpaa.Gm
end
section
/- The document's map (hermitageref15): Is, Get, Set, Drop. -/
namespace Go.Proofs.Ytoafonbplbblpaa.Gm
open Go.RowKit Ut
set_option maxRecDepth 100000
set_option linter.unusedVariables false
set_option maxHeartbeats 4000000

theorem is_no (n : Int) (h : n < 0 ∨ 12 ≤ n) (w : World) : Calls Try.prog 49 #[.int .i64 n] w fun e w' => e = .returned (.bool false) ∧ w = w' := by
  rcases Int.lt_or_le n 0 with h0 | h0
  · have h1 : decide ((0 : Int) ≤ n) = false := by simp; omega
    go_enter Try.func49, Try.ntmps49
    go_wp2
    go_ret
    exact ⟨rfl, rfl⟩
  · have h1 : decide ((0 : Int) ≤ n) = true := by simpa using h0
    have h2 : decide (n < 12) = false := by simp; omega
    go_enter Try.func49, Try.ntmps49
    go_wp2
    go_ret
    exact ⟨rfl, rfl⟩
theorem is_yes (k : Nat) (h : k < 12) (w : World) : Calls Try.prog 49 #[.int .i64 k] w fun e w' => e = .returned (.bool true) ∧ w = w' := by
  have h1 : decide ((0 : Int) ≤ (k : Int)) = true := by simp
  have h2 : decide ((k : Int) < 12) = true := by simp; omega
  go_enter Try.func49, Try.ntmps49
  go_wp2
  go_ret
  exact ⟨rfl, rfl⟩

theorem RAt.cells' {w : World} {b : Nat} {L : List Pl} (h : RAt w b L) (k : Nat) (hk : k < 12) : w.cell? ⟨b, 12 + k * 2, none⟩ = some (.int .i64 (plN L k).1) ∧ w.cell? ⟨b, 12 + k * 2 + 1, none⟩ = some (.int .i64 (plN L k).2) := by
  rw [Nat.mul_comm k 2]; exact h.cells k hk

theorem refGet_no (b : Nat) (n : Int) (L : List Pl) (hn : n < 0 ∨ 12 ≤ n) (w : World) (h : RAt w b L) :
    Calls Try.prog 56 #[.pointer (some ⟨b, 0, none⟩), .int .i64 n] w fun e w' => e = .returned (.tuple #[plV (0, 0), .bool false]) ∧ Below w.heap.size w w' := by
  have HB := Lib.hid (box_below w 0 0)
  have HI := Lib.hid (is_no n hn)
  clear h hn
  go_enter Try.func56, Try.ntmps56
  go_wp2_with fail
  refine (HI.out _).mono ?_
  rintro e w1 ⟨rfl, rfl⟩
  go_wp2
  exact bodyPost_ret (v := .tuple #[plV (0, 0), .bool false]) (by simp [results, Try.results56, go_sem, plV]) rfl ⟨rfl, by first | exact HB.out | exact (box_below w _ _).drew | exact set_keep _ _ (set_keep _ _ HB.out)⟩
theorem refGet_is (b k : Nat) (L : List Pl) (hk : k < 12) (w : World) (h : RAt w b L) :
    Calls Try.prog 56 #[.pointer (some ⟨b, 0, none⟩), .int .i64 k] w fun e w' => e = .returned (.tuple #[plV (plN L k), .bool (thB (plN L k))]) ∧ Below w.heap.size w w' := by
  have HI := Lib.hid (is_yes k hk)
  have HB := Lib.hid (box_below w 0 0)
  obtain ⟨c0, c1⟩ := h.cells' k hk
  have ct := h.there k hk
  have hlt := h.lt
  have f2 : (0 : Int) ≤ (k : Int) ∧ (k : Int) < 12 := by omega
  obtain ⟨t, ht⟩ : ∃ t, thB (plN L k) = t := ⟨_, rfl⟩
  rw [ht] at ct ⊢
  clear ht
  generalize plN L k = p at c0 c1 ⊢
  obtain ⟨f, r⟩ := p
  dsimp only at c0 c1
  clear h hk
  go_enter Try.func56, Try.ntmps56
  go_wp2_with fail
  refine (HI.out _).mono ?_
  rintro e w1 ⟨rfl, rfl⟩
  go_upto_region 3 with fail
  go_region
  go_wp2
  exact bodyPost_ret (v := .tuple #[plV (f, r), .bool t]) (by simp [results, Try.results56, go_sem, plV]) rfl ⟨rfl, by first | exact HB.out | exact (box_below w _ _).drew | exact set_keep _ _ (set_keep _ _ HB.out)⟩
theorem refGet_any (b : Nat) (L : List Pl) (n : Int) (p : Pl) (t : Bool) (hp : atP L n = p) (ht : thB p = t) (w : World) (h : RAt w b L) :
    Calls Try.prog 56 #[.pointer (some ⟨b, 0, none⟩), .int .i64 n] w fun e w' => e = .returned (.tuple #[plV p, .bool t]) ∧ Below w.heap.size w w' := by
  subst ht hp
  rcases page_cases n with hn | ⟨k, rfl, hk⟩
  · rw [atP_no hn]; exact refGet_no b n L hn w h
  · rw [atP_is hk]; exact refGet_is b k L hk w h

theorem grown_three {w w1 : World} (hb : Below w.heap.size w w1) (b i j l : Nat) (x y z : Value) : w.grownBy (((w1.setCell ⟨b, i, none⟩ x).setCell ⟨b, j, none⟩ y).setCell ⟨b, l, none⟩ z) (some b) :=
  grown_trans (grown_two hb b i j x y) (grown_setCell _ b l z)
theorem RAt.set' {w : World} {b : Nat} {L : List Pl} (h : RAt w b L) (k : Nat) (hk : k < 12) (p : Pl) (t : Bool) (ht : thB p = t) (hp : p = (0, 0) ∨ okB p = true) : RAt (((w.setCell ⟨b, k, none⟩ (.bool t)).setCell ⟨b, 12 + k * 2, none⟩ (.int .i64 p.1)).setCell ⟨b, 12 + k * 2 + 1, none⟩ (.int .i64 p.2)) b (L.set k p) := by
  rw [Nat.mul_comm k 2]; exact ht ▸ h.set k hk p hp
end Go.Proofs.Ytoafonbplbblpaa.Gm
end
