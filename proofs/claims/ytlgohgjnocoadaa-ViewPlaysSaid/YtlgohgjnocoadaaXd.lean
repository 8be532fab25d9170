/- Package gmap: Set and Drop of the program. -/
import Derived.Test.YtlgohgjnocoadaaXc
namespace Go.Proofs.Ytlgohgjnocoadaa.Gm
open Go.RowKit Ut
set_option maxRecDepth 100000
set_option linter.unusedVariables false
set_option maxHeartbeats 4000000

/-- both cells of a place turned -/
theorem grown_two {w w1 : World} (hb : Below w.heap.size w w1) (b i j : Nat) (x y : Value) : w.grownBy ((w1.setCell ⟨b, i, none⟩ x).setCell ⟨b, j, none⟩ y) (some b) :=
  grown_trans (grown_trans (grown_below hb) (grown_setCell w1 b i x)) (grown_setCell _ b j y)

theorem set_no (a : Option Addr) (n z : Int) (p : Pl) (hz : z = 1 ∨ z = 7) (w : World) (hF : ∀ W, Below w.heap.size w W → Calls Try.prog 54 #[.pointer a, .int .i64 n] W fun e w' => e = .returned (.tuple #[.pointer none, .int .i64 z]) ∧ W = w') :
    Calls Try.prog 32 #[.pointer a, .int .i64 n, plV p] w fun e w' => e = .returned (.int .i64 z) ∧ Below w.heap.size w w' := by
  obtain ⟨f, r⟩ := p
  have hz0 : (z == 0) = false := by rcases hz with rfl | rfl <;> rfl
  have HB := Lib.hid (box_below w f r)
  have HF := Lib.hid (hF _ HB.out)
  clear hF hz
  show Calls _ _ #[_, _, .agg #[.int .i64 f, .int .i64 r]] _ _
  go_enter Try.func32, Try.ntmps32
  go_wp2_with fail
  refine HF.out.mono ?_
  rintro e w1 ⟨rfl, rfl⟩
  go_wp2
  go_ret
  exact ⟨rfl, HB.out⟩
theorem set_unfit (b k : Nat) (L : List Pl) (p : Pl) (hk : k < 12) (hp : okB p = false) (w : World) (h : MAt w b L) :
    Calls Try.prog 32 #[.pointer (some ⟨b, 0, none⟩), .int .i64 k, plV p] w fun e w' => e = .returned (.int .i64 1) ∧ Below w.heap.size w w' := by
  have HT := Lib.hid (fits_any p false hp)
  obtain ⟨f, r⟩ := p
  have HB := Lib.hid (box_below w f r)
  have HF := Lib.hid (find_in b k L _ (h.more HB.out) hk)
  clear h hk hp
  show Calls _ _ #[_, _, .agg #[.int .i64 f, .int .i64 r]] _ _
  go_enter Try.func32, Try.ntmps32
  go_wp2_with fail
  refine HF.out.mono ?_
  rintro e w1 ⟨rfl, rfl⟩
  generalize 1 + 2 * k = o
  go_wp2_with fail
  refine (HT.out _).mono ?_
  rintro e w1 ⟨rfl, hb1⟩
  have HB1 := Lib.hid (HB.out.trans (hb1.mono HB.out.size))
  clear hb1
  go_wp2
  go_ret
  exact ⟨rfl, HB1.out⟩
theorem set_used (b k : Nat) (L : List Pl) (p : Pl) (hk : k < 12) (hp : okB p = true) (g s : Nat) (hq : plN L k = ((g : Int), (s : Int))) (hs : 0 < s) (w : World) (h : MAt w b L) :
    Calls Try.prog 32 #[.pointer (some ⟨b, 0, none⟩), .int .i64 k, plV p] w fun e w' => e = .returned (.int .i64 5) ∧ Below w.heap.size w w' := by
  have HT := Lib.hid (fits_any p true hp)
  obtain ⟨f, r⟩ := p
  have HB := Lib.hid (box_below w f r)
  have HM := Lib.hid (h.more HB.out)
  have HF := Lib.hid (find_in b k L _ (h.more HB.out) hk)
  have HC := Lib.hid hk
  have HQ := Lib.hid hq
  have hs0 : ((s : Int) == 0) = false := by simp; omega
  clear h hk hp hq
  show Calls _ _ #[_, _, .agg #[.int .i64 f, .int .i64 r]] _ _
  go_enter Try.func32, Try.ntmps32
  go_wp2_with fail
  refine HF.out.mono ?_
  rintro e w1 ⟨rfl, rfl⟩
  obtain ⟨o, ho⟩ : ∃ o, o = 1 + 2 * k := ⟨_, rfl⟩
  rw [← ho]
  have HO := Lib.hid ho
  clear ho
  go_wp2_with fail
  refine (HT.out _).mono ?_
  rintro e w1 ⟨rfl, hb1⟩
  have HB1 := Lib.hid (HB.out.trans (hb1.mono HB.out.size))
  have hc := (HM.out.more hb1).cells k HC.out
  rw [HQ.out, ← HO.out] at hc
  obtain ⟨c0, c1⟩ := hc
  clear hb1 HF
  go_wp2
  go_ret
  exact ⟨rfl, HB1.out⟩
theorem set_ok (b k : Nat) (L : List Pl) (p : Pl) (hk : k < 12) (hp : okB p = true) (hq : plN L k = (0, 0)) (w : World) (h : MAt w b L) :
    Calls Try.prog 32 #[.pointer (some ⟨b, 0, none⟩), .int .i64 k, plV p] w fun e w' => e = .returned (.int .i64 0) ∧ MAt w' b (L.set k p) ∧ w.grownBy w' (some b) := by
  have HT := Lib.hid (fits_any p true hp)
  have HP := Lib.hid (show p = (0, 0) ∨ okB p = true from .inr hp)
  obtain ⟨f, r⟩ := p
  have HB := Lib.hid (box_below w f r)
  have HM := Lib.hid (h.more HB.out)
  have HF := Lib.hid (find_in b k L _ (h.more HB.out) hk)
  have HC := Lib.hid hk
  have HQ := Lib.hid hq
  clear h hk hp hq
  show Calls _ _ #[_, _, .agg #[.int .i64 f, .int .i64 r]] _ _
  have HN : Hid (Blk (w.alloc (.cells #[.int .i64 f, .int .i64 r] 66)) w.heap.size 66 [.int .i64 f, .int .i64 r]) := Blk.new w _ _
  go_enter Try.func32, Try.ntmps32
  go_wp2_with fail
  refine HF.out.mono ?_
  rintro e w1 ⟨rfl, rfl⟩
  obtain ⟨o, ho⟩ : ∃ o, o = 1 + 2 * k := ⟨_, rfl⟩
  rw [← ho]
  have HO := Lib.hid ho
  clear ho
  go_wp2_with fail
  refine (HT.out _).mono ?_
  rintro e w1 ⟨rfl, hb1⟩
  have HB1 := Lib.hid (HB.out.trans (hb1.mono HB.out.size))
  have hc := (HM.out.more hb1).cells k HC.out
  rw [HQ.out, ← HO.out] at hc
  obtain ⟨c0, c1⟩ := hc
  have hn := HN.out.below hb1 HN.out.lt
  have n0 : w1.cell? ⟨w.heap.size, 0, none⟩ = some (.int .i64 f) := hn.cell rfl
  have n1 : w1.cell? ⟨w.heap.size, 1, none⟩ = some (.int .i64 r) := hn.cell rfl
  have f0 := (HM.out.more hb1).1.frozen o
  have f1 := (HM.out.more hb1).1.frozen (o + 1)
  have HS := Lib.hid ((HM.out.more hb1).set k HC.out (f, r) HP.out)
  have HG := Lib.hid (grown_two HB1.out b o (o + 1) (.int .i64 f) (.int .i64 r))
  rw [← HO.out] at HS
  clear hb1 HF hn
  go_wp2
  go_ret
  exact ⟨rfl, HS.out, HG.out⟩
end Go.Proofs.Ytlgohgjnocoadaa.Gm
