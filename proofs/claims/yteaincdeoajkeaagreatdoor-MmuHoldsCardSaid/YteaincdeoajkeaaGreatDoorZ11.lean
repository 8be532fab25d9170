/- Several texts in one: Xe Xf Xh Xj -/
import Derived.Test.YteaincdeoajkeaaGreatDoorZ10
import Derived.Deep.CutBlock
section
/- Package gmap: Set, Drop and Allows of the program, for any arguments. -/
namespace Go.Proofs.YteaincdeoajkeaaGreatDoor.Gm
open Go.RowKit Ut
set_option maxRecDepth 100000
set_option linter.unusedVariables false
set_option maxHeartbeats 4000000

theorem set_any (b : Nat) (L L' : List Pl) (n c : Int) (p : Pl) (hc : setE L n p = c) (hl : setL L n p = L') (w : World) (h : MAt w b L) :
  Calls Tryz.prog 28 #[.pointer (some ⟨b, 0, none⟩), .int .i64 n, plV p] w fun e w' => e = .returned (.int .i64 c) ∧ MAt w' b L' ∧ w.grownBy w' (some b) := by
 have K : ∀ {z : Int}, setE L n p = z → z ≠ 0 → Calls Tryz.prog 28 #[.pointer (some ⟨b, 0, none⟩), .int .i64 n, plV p] w (fun e w' => e = .returned (.int .i64 z) ∧ Below w.heap.size w w') → Calls Tryz.prog 28 #[.pointer (some ⟨b, 0, none⟩), .int .i64 n, plV p] w fun e w' => e = .returned (.int .i64 c) ∧ MAt w' b L' ∧ w.grownBy w' (some b) := fun {z} hz h0 H => by
  rw [hz] at hc
  subst hc
  unfold setL at hl
  rw [hz, if_neg h0] at hl
  subst hl
  exact H.mono fun e w' ⟨he, hb⟩ => ⟨he, h.more hb, grown_below hb⟩
 rcases page_cases n with hn | ⟨k, rfl, hk⟩
 ·exact K (setE_no hn) (by omega) (set_no _ n 1 p (.inl rfl) w fun W hW => find_out b n L W (h.more hW) hn)
 ·have e := setE_is (L := L) (p := p) hk
  by_cases hp : okB p = true
  ·rw [if_pos hp] at e
   rcases pl_cases h.2 k with hq | ⟨f, r, hq, _, hr, _, ht⟩
   ·rw [hq] at e
    rw [if_neg (by decide)] at e
    rw [e] at hc
    subst hc
    unfold setL at hl
    rw [e, if_pos rfl] at hl
    subst hl
    exact set_ok b k L p hk hp hq w h
   ·rw [hq, if_pos ht] at e
    exact K e (by omega) (set_used b k L p hk hp f r hq hr w h)
  ·rw [if_neg hp] at e
   exact K e (by omega) (set_unfit b k L p hk (by simpa using hp) w h)
theorem set_zero (a : Option Addr) (n : Int) (p : Pl) (w : World) (hF : ∀ W, Below w.heap.size w W → Calls Tryz.prog 51 #[.pointer a, .int .i64 n] W fun e w' => e = .returned (.tuple #[.pointer none, .int .i64 7]) ∧ W = w') :
  Calls Tryz.prog 28 #[.pointer a, .int .i64 n, plV p] w fun e w' => e = .returned (.int .i64 7) ∧ Below w.heap.size w w' := set_no a n 7 p (.inr rfl) w hF

theorem drop_no (a : Option Addr) (n z : Int) (hz : z = 1 ∨ z = 7) (w : World) (hF : Calls Tryz.prog 51 #[.pointer a, .int .i64 n] w fun e w' => e = .returned (.tuple #[.pointer none, .int .i64 z]) ∧ w = w') :
  Calls Tryz.prog 34 #[.pointer a, .int .i64 n] w fun e w' => e = .returned (.int .i64 z) ∧ w = w' := by
 have hz0 : (z == 0) = false := by rcases hz with rfl | rfl <;> rfl
 have HF := Lib.hid hF
 clear hF hz
 go_enter Tryz.func34, Tryz.ntmps34
 go_wp2_with fail
 refine HF.out.mono ?_
 rintro e w1 ⟨rfl, rfl⟩
 go_wp2
 go_ret
 exact ⟨rfl, rfl⟩
theorem drop_none (b k : Nat) (L : List Pl) (hk : k < 12) (hq : plN L k = (0, 0)) (w : World) (h : MAt w b L) :
  Calls Tryz.prog 34 #[.pointer (some ⟨b, 0, none⟩), .int .i64 k] w fun e w' => e = .returned (.int .i64 3) ∧ w = w' := by
 have HF := Lib.hid (find_in b k L w h hk)
 have hc := h.cells k hk
 rw [hq] at hc
 obtain ⟨c0, c1⟩ := hc
 clear h hk hq
 go_enter Tryz.func34, Tryz.ntmps34
 go_wp2_with fail
 refine HF.out.mono ?_
 rintro e w1 ⟨rfl, rfl⟩
 generalize 1 + 2 * k = o at c0 c1 ⊢
 go_wp2
 go_ret
 exact ⟨rfl, rfl⟩
theorem drop_ok (b k f r : Nat) (L : List Pl) (hk : k < 12) (hq : plN L k = ((f : Int), (r : Int))) (hr : 0 < r) (w : World) (h : MAt w b L) :
  Calls Tryz.prog 34 #[.pointer (some ⟨b, 0, none⟩), .int .i64 k] w fun e w' => e = .returned (.int .i64 0) ∧ MAt w' b (L.set k (0, 0)) ∧ w.grownBy w' (some b) := by
 have HF := Lib.hid (find_in b k L w h hk)
 have HS := Lib.hid (h.set k hk (0, 0) (.inl rfl))
 have HG := Lib.hid (grown_two (Below.refl w.heap.size w) b (1 + 2 * k) (1 + 2 * k + 1) (.int .i64 0) (.int .i64 0))
 have hc := h.cells k hk
 rw [hq] at hc
 obtain ⟨c0, c1⟩ := hc
 have f0 := h.1.frozen (1 + 2 * k)
 have f1 := h.1.frozen (1 + 2 * k + 1)
 have hr0 : ((r : Int) == 0) = false := by simp; omega
 clear h hk hq
 go_enter Tryz.func34, Tryz.ntmps34
 go_wp2_with fail
 refine HF.out.mono ?_
 rintro e w1 ⟨rfl, rfl⟩
 generalize 1 + 2 * k = o at c0 c1 f0 f1 HS HG ⊢
 go_wp2
 go_ret
 exact ⟨rfl, HS.out, HG.out⟩
theorem drop_any (b : Nat) (L L' : List Pl) (n c : Int) (hc : drE L n = c) (hl : drL L n = L') (w : World) (h : MAt w b L) :
  Calls Tryz.prog 34 #[.pointer (some ⟨b, 0, none⟩), .int .i64 n] w fun e w' => e = .returned (.int .i64 c) ∧ MAt w' b L' ∧ w.grownBy w' (some b) := by
 have K : ∀ {z : Int}, drE L n = z → z ≠ 0 → Calls Tryz.prog 34 #[.pointer (some ⟨b, 0, none⟩), .int .i64 n] w (fun e w' => e = .returned (.int .i64 z) ∧ w = w') → Calls Tryz.prog 34 #[.pointer (some ⟨b, 0, none⟩), .int .i64 n] w fun e w' => e = .returned (.int .i64 c) ∧ MAt w' b L' ∧ w.grownBy w' (some b) := fun {z} hz h0 H => by
  rw [hz] at hc
  subst hc
  unfold drL at hl
  rw [hz, if_neg h0] at hl
  subst hl
  exact H.mono fun e w' ⟨he, hb⟩ => ⟨he, hb ▸ h, hb ▸ World.grownBy.refl _ _⟩
 rcases page_cases n with hn | ⟨k, rfl, hk⟩
 ·exact K (drE_no hn) (by omega) (drop_no _ n 1 (.inl rfl) w (find_out b n L w h hn))
 ·have e := drE_is (L := L) hk
  rcases pl_cases h.2 k with hq | ⟨f, r, hq, _, hr, _, ht⟩
  ·rw [hq, if_neg (by decide)] at e
   exact K e (by omega) (drop_none b k L hk hq w h)
  ·rw [hq, if_pos ht] at e
   rw [e] at hc
   subst hc
   unfold drL at hl
   rw [e, if_pos rfl] at hl
   subst hl
   exact drop_ok b k f r L hk hq hr w h

/-- Allows by what Get says -/
theorem allows_no (a : Option Addr) (n k : Int) (w : World) (H : Calls Tryz.prog 16 #[.pointer a, .int .i64 n] w fun e w' => e = .returned (.tuple #[plV (0, 0), .bool false]) ∧ Below w.heap.size w w') :
  Calls Tryz.prog 121 #[.pointer a, .int .i64 n, .int .i64 k] w fun e w' => e = .returned (.int .i64 7) ∧ Below w.heap.size w w' := by
 have HG := Lib.hid H
 clear H
 go_enter Tryz.func121, Tryz.ntmps121
 go_wp2_with fail
 refine HG.out.mono ?_
 rintro e w1 ⟨rfl, hb1⟩
 have HB1 := Lib.hid (hb1.trans ((box_below w1 0 0).mono hb1.size))
 clear hb1
 unfold plV
 go_wp2
 go_ret
 exact ⟨rfl, HB1.out⟩
theorem allows_yes (a : Option Addr) (n f r : Nat) (k : Int) (c : Int) (hn : n < 12) (h0 : 0 < r) (h3 : r ≤ 3) (hc : alwF ((f : Int), (r : Int)) n k = c) (w : World) (H : Calls Tryz.prog 16 #[.pointer a, .int .i64 n] w fun e w' => e = .returned (.tuple #[plV ((f : Int), (r : Int)), .bool true]) ∧ Below w.heap.size w w') :
  Calls Tryz.prog 121 #[.pointer a, .int .i64 n, .int .i64 k] w fun e w' => e = .returned (.int .i64 c) ∧ Below w.heap.size w w' := by
 have HG := Lib.hid H
 have HBX : Hid (∀ (W : World) (x y : Int), Below w.heap.size w W → Below w.heap.size w (W.alloc (.cells #[.int .i64 x, .int .i64 y] 54))) := Lib.hid fun W x y h => h.alloc h.size _
 clear H
 have ht : thB ((f : Int), (r : Int)) = true := by unfold thB; simp; omega
 unfold alwF at hc
 rw [if_pos ht] at hc
 unfold mayB at hc
 clear ht
 by_cases k0 : k = 0
 ·subst k0
  rw [if_pos rfl] at hc
  by_cases h8 : (n : Int) < 8
  ·have f8 : decide ((n : Int) < 8) = true := by simpa using h8
   simp only [h8, decide_true, if_true] at hc
   have HC := Lib.hid hc
   clear hc h8
   go_enter Tryz.func121, Tryz.ntmps121
   go_wp2_with fail
   refine HG.out.mono ?_
   rintro e w1 ⟨rfl, hb1⟩
   have HB1 := Lib.hid hb1
   clear hb1
   unfold plV
   go_wp2
   go_ret
   exact ⟨by rw [← HC.out]; rfl, HBX.out _ _ _ HB1.out⟩
  ·have f8 : decide ((n : Int) < 8) = false := by simpa using h8
   simp only [h8, decide_false, Bool.false_eq_true, if_false] at hc
   have HC := Lib.hid hc
   clear hc h8
   go_enter Tryz.func121, Tryz.ntmps121
   go_wp2_with fail
   refine HG.out.mono ?_
   rintro e w1 ⟨rfl, hb1⟩
   have HB1 := Lib.hid hb1
   clear hb1
   unfold plV
   go_wp2
   go_ret
   exact ⟨by rw [← HC.out]; rfl, HBX.out _ _ _ HB1.out⟩
 rw [if_neg k0] at hc
 have e0 : (k == 0) = false := by simpa using k0
 by_cases k1 : k = 1
 ·subst k1
  rw [if_pos rfl] at hc
  obtain rfl | rfl | rfl : r = 1 ∨ r = 2 ∨ r = 3 := by omega
  all_goals
   have HC := Lib.hid hc
   clear hc
   go_enter Tryz.func121, Tryz.ntmps121
   go_wp2_with fail
   refine HG.out.mono ?_
   rintro e w1 ⟨rfl, hb1⟩
   have HB1 := Lib.hid hb1
   clear hb1
   unfold plV
   go_wp2
   go_ret
   exact ⟨by rw [← HC.out]; rfl, HBX.out _ _ _ HB1.out⟩
 rw [if_neg k1] at hc
 have e1 : (k == 1) = false := by simpa using k1
 by_cases k2 : k = 2
 ·subst k2
  rw [if_pos rfl] at hc
  obtain rfl | rfl | rfl : r = 1 ∨ r = 2 ∨ r = 3 := by omega
  all_goals
   have HC := Lib.hid hc
   clear hc
   go_enter Tryz.func121, Tryz.ntmps121
   go_wp2_with fail
   refine HG.out.mono ?_
   rintro e w1 ⟨rfl, hb1⟩
   have HB1 := Lib.hid hb1
   clear hb1
   unfold plV
   go_wp2
   go_ret
   exact ⟨by rw [← HC.out]; rfl, HBX.out _ _ _ HB1.out⟩
 rw [if_neg k2] at hc
 have e2 : (k == 2) = false := by simpa using k2
 have HC := Lib.hid hc
 clear hc
 go_enter Tryz.func121, Tryz.ntmps121
 go_wp2_with fail
 refine HG.out.mono ?_
 rintro e w1 ⟨rfl, hb1⟩
 have HB1 := Lib.hid hb1
 clear hb1
 unfold plV
 go_wp2
 go_ret
 exact ⟨by rw [← HC.out]; rfl, HBX.out _ _ _ HB1.out⟩
theorem allows_any (b : Nat) (L : List Pl) (n k c : Int) (hc : alwF (atP L n) n k = c) (w : World) (h : MAt w b L) :
  Calls Tryz.prog 121 #[.pointer (some ⟨b, 0, none⟩), .int .i64 n, .int .i64 k] w fun e w' => e = .returned (.int .i64 c) ∧ Below w.heap.size w w' := by
 have G := get_any b L n _ _ rfl rfl w h
 rcases page_cases n with hn | ⟨j, rfl, hj⟩
 ·rw [atP_no hn] at hc G
  obtain rfl : 7 = c := hc
  exact allows_no _ n k w G
 ·rw [atP_is hj] at hc G
  rcases pl_cases h.2 j with hq | ⟨f, r, hq, _, hr, hr3, ht⟩
  ·rw [hq] at hc G
   obtain rfl : 7 = c := hc
   exact allows_no _ j k w G
  ·rw [hq] at hc G
   rw [ht] at G
   exact allows_yes _ j f r k c hj hr hr3 hc w G
end Go.Proofs.YteaincdeoajkeaaGreatDoor.Gm
end
section
/- Package gmap: Pages of the program. -/
namespace Go.Proofs.YteaincdeoajkeaaGreatDoor.Gm
open Go.RowKit Ut
set_option maxRecDepth 100000
set_option linter.unusedVariables false
set_option maxHeartbeats 4000000

end Go.Proofs.YteaincdeoajkeaaGreatDoor.Gm
end
section
/- The document's map (hermitageref15): Set. -/
namespace Go.Proofs.YteaincdeoajkeaaGreatDoor.Gm
open Go.RowKit Ut
set_option maxRecDepth 100000
set_option linter.unusedVariables false
set_option maxHeartbeats 4000000

theorem refSet_no (b : Nat) (n : Int) (p : Pl) (hn : n < 0 ∨ 12 ≤ n) (w : World) :
  Calls Tryz.prog 30 #[.pointer (some ⟨b, 0, none⟩), .int .i64 n, plV p] w fun e w' => e = .returned (.int .i64 1) ∧ Below w.heap.size w w' := by
 obtain ⟨f, r⟩ := p
 have HB := Lib.hid (box_below w f r)
 have HI := Lib.hid (is_no n hn)
 clear hn
 show Calls _ _ #[_, _, .agg #[.int .i64 f, .int .i64 r]] _ _
 go_enter Tryz.func30, Tryz.ntmps30
 go_wp2_with fail
 refine (HI.out _).mono ?_
 rintro e w1 ⟨rfl, rfl⟩
 go_wp2
 go_ret
 exact ⟨rfl, HB.out⟩
theorem refSet_unfit (b k : Nat) (p : Pl) (hk : k < 12) (hp : okB p = false) (w : World) :
  Calls Tryz.prog 30 #[.pointer (some ⟨b, 0, none⟩), .int .i64 k, plV p] w fun e w' => e = .returned (.int .i64 1) ∧ Below w.heap.size w w' := by
 obtain ⟨f, r⟩ := p
 have HB := Lib.hid (box_below w f r)
 have HI := Lib.hid (is_yes k hk)
 have hcs : f < 0 ∨ (¬ f < 0 ∧ 32 ≤ f) ∨ (¬ f < 0 ∧ ¬ 32 ≤ f ∧ r < 1) ∨ (¬ f < 0 ∧ ¬ 32 ≤ f ∧ ¬ r < 1 ∧ 3 < r) := by
  unfold okB at hp
  simp at hp
  omega
 clear hk hp
 show Calls _ _ #[_, _, .agg #[.int .i64 f, .int .i64 r]] _ _
 rcases hcs with h1 | ⟨h1, h2⟩ | ⟨h1, h2, h3⟩ | ⟨h1, h2, h3, h4⟩
 all_goals
  go_enter Tryz.func30, Tryz.ntmps30
  go_wp2_with fail
  refine (HI.out _).mono ?_
  rintro e w1 ⟨rfl, rfl⟩
  go_wp2
  go_ret
  exact ⟨rfl, HB.out⟩
theorem refSet_used (b k : Nat) (L : List Pl) (p : Pl) (hk : k < 12) (hp : okB p = true) (ht : thB (plN L k) = true) (w : World) (h : RAt w b L) :
  Calls Tryz.prog 30 #[.pointer (some ⟨b, 0, none⟩), .int .i64 k, plV p] w fun e w' => e = .returned (.int .i64 5) ∧ Below w.heap.size w w' := by
 obtain ⟨h1, h2, h3, h4⟩ := ok_in hp
 obtain ⟨f, r⟩ := p
 dsimp only at h1 h2 h3 h4
 have HB := Lib.hid (box_below w f r)
 have HI := Lib.hid (is_yes k hk)
 have ct := h.there k hk
 rw [ht] at ct
 have hlt := h.lt
 have g1 : ¬ f < 0 := by omega
 have g2 : ¬ 32 ≤ f := by omega
 have g3 : ¬ r < 1 := by omega
 have g4 : ¬ 3 < r := by omega
 have f2 : (0 : Int) ≤ (k : Int) ∧ (k : Int) < 12 := by omega
 clear h hk hp ht h1 h2 h3 h4
 show Calls _ _ #[_, _, .agg #[.int .i64 f, .int .i64 r]] _ _
 go_enter Tryz.func30, Tryz.ntmps30
 go_wp2_with fail
 refine (HI.out _).mono ?_
 rintro e w1 ⟨rfl, rfl⟩
 go_wp2
 go_ret
 exact ⟨rfl, HB.out⟩
theorem refSet_ok (b k : Nat) (L : List Pl) (p : Pl) (hk : k < 12) (hp : okB p = true) (ht : thB (plN L k) = false) (w : World) (h : RAt w b L) :
  Calls Tryz.prog 30 #[.pointer (some ⟨b, 0, none⟩), .int .i64 k, plV p] w fun e w' => e = .returned (.int .i64 0) ∧ RAt w' b (L.set k p) ∧ w.grownBy w' (some b) := by
 obtain ⟨h1, h2, h3, h4⟩ := ok_in hp
 have HT := th_ok hp
 obtain ⟨f, r⟩ := p
 dsimp only at h1 h2 h3 h4
 have hs := h.set' k hk (f, r) true HT (.inr hp)
 have HD := box_below (((w.setCell ⟨b, k, none⟩ (.bool true)).setCell ⟨b, 12 + k * 2, none⟩ (.int .i64 f)).setCell ⟨b, 12 + k * 2 + 1, none⟩ (.int .i64 r)) f r
 have HS := Lib.hid (hs.more HD.drew)
 have HG := Lib.hid (grown_trans (grown_three (Below.refl w.heap.size w) b k (12 + k * 2) (12 + k * 2 + 1) (.bool true) (.int .i64 f) (.int .i64 r)) (grown_below (row := some b) HD.drew))
 have HI := Lib.hid (is_yes k hk)
 have ct := h.there k hk
 rw [ht] at ct
 obtain ⟨c0, c1⟩ := h.cells' k hk
 have f0 := h.1.frozen k
 have f1 := h.1.frozen (12 + k * 2)
 have f3 := h.1.frozen (12 + k * 2 + 1)
 have hlt := h.lt
 have g1 : ¬ f < 0 := by omega
 have g2 : ¬ 32 ≤ f := by omega
 have g3 : ¬ r < 1 := by omega
 have g4 : ¬ 3 < r := by omega
 have f2 : (0 : Int) ≤ (k : Int) ∧ (k : Int) < 12 := by omega
 clear h hk hp ht h1 h2 h3 h4 HT hs HD
 show Calls _ _ #[_, _, .agg #[.int .i64 f, .int .i64 r]] _ _
 go_enter Tryz.func30, Tryz.ntmps30
 go_wp2_with fail
 refine (HI.out _).mono ?_
 rintro e w1 ⟨rfl, rfl⟩
 go_upto_region 6 with fail
 go_region
 go_wp2
 go_ret
 exact ⟨rfl, HS.out, HG.out⟩
theorem refSet_any (b : Nat) (L L' : List Pl) (n c : Int) (p : Pl) (hc : setE L n p = c) (hl : setL L n p = L') (w : World) (h : RAt w b L) :
  Calls Tryz.prog 30 #[.pointer (some ⟨b, 0, none⟩), .int .i64 n, plV p] w fun e w' => e = .returned (.int .i64 c) ∧ RAt w' b L' ∧ w.grownBy w' (some b) := by
 have K : ∀ {z : Int}, setE L n p = z → z ≠ 0 → Calls Tryz.prog 30 #[.pointer (some ⟨b, 0, none⟩), .int .i64 n, plV p] w (fun e w' => e = .returned (.int .i64 z) ∧ Below w.heap.size w w') → Calls Tryz.prog 30 #[.pointer (some ⟨b, 0, none⟩), .int .i64 n, plV p] w fun e w' => e = .returned (.int .i64 c) ∧ RAt w' b L' ∧ w.grownBy w' (some b) := fun {z} hz h0 H => by
  rw [hz] at hc
  subst hc
  unfold setL at hl
  rw [hz, if_neg h0] at hl
  subst hl
  exact H.mono fun e w' ⟨he, hb⟩ => ⟨he, h.more hb, grown_below hb⟩
 rcases page_cases n with hn | ⟨k, rfl, hk⟩
 ·exact K (setE_no hn) (by omega) (refSet_no _ n p hn w)
 ·have e := setE_is (L := L) (p := p) hk
  by_cases hp : okB p = true
  ·rw [if_pos hp] at e
   by_cases ht : thB (plN L k) = true
   ·rw [if_pos ht] at e
    exact K e (by omega) (refSet_used b k L p hk hp ht w h)
   ·rw [if_neg ht] at e
    rw [e] at hc
    subst hc
    unfold setL at hl
    rw [e, if_pos rfl] at hl
    subst hl
    exact refSet_ok b k L p hk hp (by simpa using ht) w h
  ·rw [if_neg hp] at e
   exact K e (by omega) (refSet_unfit b k p hk (by simpa using hp) w)
end Go.Proofs.YteaincdeoajkeaaGreatDoor.Gm
end
section
/- hermitagelaw15: ints, awake; what no call made; both maps side by side. -/
namespace Go.Proofs.YteaincdeoajkeaaGreatDoor.Gm
open Go.RowKit Ut
set_option maxRecDepth 100000
set_option linter.unusedVariables false
set_option maxHeartbeats 4000000

theorem keep {f : Nat} {args : Array Value} {v : Value} {w0 w : World} (hb : Below w0.heap.size w0 w) (h : Calls Tryz.prog f args w fun e w' => e = .returned v ∧ Below w.heap.size w w') : Calls Tryz.prog f args w fun e w' => e = .returned v ∧ Below w0.heap.size w0 w' :=
 h.mono fun e w' ⟨he, hb'⟩ => ⟨he, hb.trans (hb'.mono hb.size)⟩

def L8 : List Pl := setL noP 8 (3, 1)
/-- of what no call made: each method by find's no -/
def NotMade (a : Option Addr) (w : World) : Prop := ∀ n, Calls Tryz.prog 51 #[.pointer a, .int .i64 n] w fun e w' => e = .returned (.tuple #[.pointer none, .int .i64 7]) ∧ w = w'
/-- .. in all worlds above w -/
def Unmade (w : World) (a : Option Addr) : Prop := ∀ W, Below w.heap.size w W → NotMade a W
section
variable {w : World} {a : Option Addr}
theorem Unmade.up (h : Unmade w a) {W : World} (hW : Below w.heap.size w W) : ∀ V, Below W.heap.size W V → NotMade a V := fun V hV => h V (hW.trans (hV.mono hW.size))
theorem Unmade.get (h : Unmade w a) (n : Int) (W : World) (hW : Below w.heap.size w W) : Calls Tryz.prog 16 #[.pointer a, .int .i64 n] W fun e w' => e = .returned (.tuple #[plV (0, 0), .bool false]) ∧ Below w.heap.size w w' :=
 keep hW (get_zero a n W fun V hV => h.up hW V hV n)
theorem Unmade.set (h : Unmade w a) (n : Int) (p : Pl) (W : World) (hW : Below w.heap.size w W) : Calls Tryz.prog 28 #[.pointer a, .int .i64 n, plV p] W fun e w' => e = .returned (.int .i64 7) ∧ Below w.heap.size w w' :=
 keep hW (set_zero a n p W fun V hV => h.up hW V hV n)
theorem Unmade.drop (h : Unmade w a) (n : Int) (W : World) (hW : Below w.heap.size w W) : Calls Tryz.prog 34 #[.pointer a, .int .i64 n] W fun e w' => e = .returned (.int .i64 7) ∧ Below w.heap.size w w' :=
 (drop_no a n 7 (.inr rfl) W (h W hW n)).mono fun e w' ⟨he, hw⟩ => ⟨he, hw ▸ hW⟩
end
/-- the cells of a map that no call made -/
def unCells : List Value := .bool false :: flatP noP
end Go.Proofs.YteaincdeoajkeaaGreatDoor.Gm
end
