/- Several texts in one: Xf Xh -/
import Derived.Test.YtoafonbplbblpaaZ10
import Derived.Deep.CutBlock
import Derived.Test.YtoafonbplbblpaaZ11
section
/- Package gmap: Pages of the program. -/
namespace Go.Proofs.Ytoafonbplbblpaa.Gm
open Go.RowKit Ut
set_option maxRecDepth 100000
set_option linter.unusedVariables false
set_option maxHeartbeats 4000000

end Go.Proofs.Ytoafonbplbblpaa.Gm
end
section
/- The document's map (hermitageref15): Set. -/
namespace Go.Proofs.Ytoafonbplbblpaa.Gm
open Go.RowKit Ut
set_option maxRecDepth 100000
set_option linter.unusedVariables false
set_option maxHeartbeats 4000000

theorem refSet_no (b : Nat) (n : Int) (p : Pl) (hn : n < 0 ∨ 12 ≤ n) (w : World) :
    Calls Try.prog 25 #[.pointer (some ⟨b, 0, none⟩), .int .i64 n, plV p] w fun e w' => e = .returned (.int .i64 1) ∧ Below w.heap.size w w' := by
  obtain ⟨f, r⟩ := p
  have HB := Lib.hid (box_below w f r)
  have HI := Lib.hid (is_no n hn)
  clear hn
  show Calls _ _ #[_, _, .agg #[.int .i64 f, .int .i64 r]] _ _
  go_enter Try.func25, Try.ntmps25
  go_wp2_with fail
  refine (HI.out _).mono ?_
  rintro e w1 ⟨rfl, rfl⟩
  go_wp2
  go_ret
  exact ⟨rfl, HB.out⟩
theorem refSet_unfit (b k : Nat) (p : Pl) (hk : k < 12) (hp : okB p = false) (w : World) :
    Calls Try.prog 25 #[.pointer (some ⟨b, 0, none⟩), .int .i64 k, plV p] w fun e w' => e = .returned (.int .i64 1) ∧ Below w.heap.size w w' := by
  obtain ⟨f, r⟩ := p
  have HB := Lib.hid (box_below w f r)
  have HI := Lib.hid (is_yes k hk)
  have hcs : f < 0 ∨ (¬ f < 0 ∧ 32 ≤ f) ∨ (¬ f < 0 ∧ ¬ 32 ≤ f ∧ r < 1) ∨ (¬ f < 0 ∧ ¬ 32 ≤ f ∧ ¬ r < 1 ∧ 3 < r) := by
    unfold okB at hp
    simp at hp
    omega
  clear hk hp
  show Calls _ _ #[_, _, .agg #[.int .i64 f, .int .i64 r]] _ _
  rcases hcs with h1 | ⟨h1, h2⟩ | ⟨h1, h2, h3⟩ | ⟨h1, h2, h3, h4⟩
  all_goals
    go_enter Try.func25, Try.ntmps25
    go_wp2_with fail
    refine (HI.out _).mono ?_
    rintro e w1 ⟨rfl, rfl⟩
    go_wp2
    go_ret
    exact ⟨rfl, HB.out⟩
theorem refSet_used (b k : Nat) (L : List Pl) (p : Pl) (hk : k < 12) (hp : okB p = true) (ht : thB (plN L k) = true) (w : World) (h : RAt w b L) :
    Calls Try.prog 25 #[.pointer (some ⟨b, 0, none⟩), .int .i64 k, plV p] w fun e w' => e = .returned (.int .i64 5) ∧ Below w.heap.size w w' := by
  obtain ⟨h1, h2, h3, h4⟩ := ok_in hp
  obtain ⟨f, r⟩ := p
  dsimp only at h1 h2 h3 h4
  have HB := Lib.hid (box_below w f r)
  have HI := Lib.hid (is_yes k hk)
  have ct := h.there k hk
  rw [ht] at ct
  have hlt := h.lt
  have g1 : ¬ f < 0 := by omega
  have g2 : ¬ 32 ≤ f := by omega
  have g3 : ¬ r < 1 := by omega
  have g4 : ¬ 3 < r := by omega
  have f2 : (0 : Int) ≤ (k : Int) ∧ (k : Int) < 12 := by omega
  clear h hk hp ht h1 h2 h3 h4
  show Calls _ _ #[_, _, .agg #[.int .i64 f, .int .i64 r]] _ _
  go_enter Try.func25, Try.ntmps25
  go_wp2_with fail
  refine (HI.out _).mono ?_
  rintro e w1 ⟨rfl, rfl⟩
  go_wp2
  go_ret
  exact ⟨rfl, HB.out⟩
theorem refSet_ok (b k : Nat) (L : List Pl) (p : Pl) (hk : k < 12) (hp : okB p = true) (ht : thB (plN L k) = false) (w : World) (h : RAt w b L) :
    Calls Try.prog 25 #[.pointer (some ⟨b, 0, none⟩), .int .i64 k, plV p] w fun e w' => e = .returned (.int .i64 0) ∧ RAt w' b (L.set k p) ∧ w.grownBy w' (some b) := by
  obtain ⟨h1, h2, h3, h4⟩ := ok_in hp
  have HT := th_ok hp
  obtain ⟨f, r⟩ := p
  dsimp only at h1 h2 h3 h4
  have hs := h.set' k hk (f, r) true HT (.inr hp)
  have HD := box_below (((w.setCell ⟨b, k, none⟩ (.bool true)).setCell ⟨b, 12 + k * 2, none⟩ (.int .i64 f)).setCell ⟨b, 12 + k * 2 + 1, none⟩ (.int .i64 r)) f r
  have HS := Lib.hid (hs.more HD.drew)
  have HG := Lib.hid (grown_trans (grown_three (Below.refl w.heap.size w) b k (12 + k * 2) (12 + k * 2 + 1) (.bool true) (.int .i64 f) (.int .i64 r)) (grown_below (row := some b) HD.drew))
  have HI := Lib.hid (is_yes k hk)
  have ct := h.there k hk
  rw [ht] at ct
  obtain ⟨c0, c1⟩ := h.cells' k hk
  have f0 := h.1.frozen k
  have f1 := h.1.frozen (12 + k * 2)
  have f3 := h.1.frozen (12 + k * 2 + 1)
  have hlt := h.lt
  have g1 : ¬ f < 0 := by omega
  have g2 : ¬ 32 ≤ f := by omega
  have g3 : ¬ r < 1 := by omega
  have g4 : ¬ 3 < r := by omega
  have f2 : (0 : Int) ≤ (k : Int) ∧ (k : Int) < 12 := by omega
  clear h hk hp ht h1 h2 h3 h4 HT hs HD
  show Calls _ _ #[_, _, .agg #[.int .i64 f, .int .i64 r]] _ _
  go_enter Try.func25, Try.ntmps25
  go_wp2_with fail
  refine (HI.out _).mono ?_
  rintro e w1 ⟨rfl, rfl⟩
  go_upto_region 6 with fail
  go_region
  go_wp2
  go_ret
  exact ⟨rfl, HS.out, HG.out⟩
theorem refSet_any (b : Nat) (L L' : List Pl) (n c : Int) (p : Pl) (hc : setE L n p = c) (hl : setL L n p = L') (w : World) (h : RAt w b L) :
    Calls Try.prog 25 #[.pointer (some ⟨b, 0, none⟩), .int .i64 n, plV p] w fun e w' => e = .returned (.int .i64 c) ∧ RAt w' b L' ∧ w.grownBy w' (some b) := by
  have K : ∀ {z : Int}, setE L n p = z → z ≠ 0 → Calls Try.prog 25 #[.pointer (some ⟨b, 0, none⟩), .int .i64 n, plV p] w (fun e w' => e = .returned (.int .i64 z) ∧ Below w.heap.size w w') → Calls Try.prog 25 #[.pointer (some ⟨b, 0, none⟩), .int .i64 n, plV p] w fun e w' => e = .returned (.int .i64 c) ∧ RAt w' b L' ∧ w.grownBy w' (some b) := fun {z} hz h0 H => by
    rw [hz] at hc
    subst hc
    unfold setL at hl
    rw [hz, if_neg h0] at hl
    subst hl
    exact H.mono fun e w' ⟨he, hb⟩ => ⟨he, h.more hb, grown_below hb⟩
  rcases page_cases n with hn | ⟨k, rfl, hk⟩
  · exact K (setE_no hn) (by omega) (refSet_no _ n p hn w)
  · have e := setE_is (L := L) (p := p) hk
    by_cases hp : okB p = true
    · rw [if_pos hp] at e
      by_cases ht : thB (plN L k) = true
      · rw [if_pos ht] at e
        exact K e (by omega) (refSet_used b k L p hk hp ht w h)
      · rw [if_neg ht] at e
        rw [e] at hc
        subst hc
        unfold setL at hl
        rw [e, if_pos rfl] at hl
        subst hl
        exact refSet_ok b k L p hk hp (by simpa using ht) w h
    · rw [if_neg hp] at e
      exact K e (by omega) (refSet_unfit b k p hk (by simpa using hp) w)
end Go.Proofs.Ytoafonbplbblpaa.Gm
end
