/- Package pte: the document's Get. -/
import Derived.Test.YtfifflepgfpjiaaBe
namespace Go.Proofs.Ytfifflepgfpjiaa.Pe
open Go.RowKit Ut
set_option linter.unusedVariables false
set_option maxRecDepth 100000
set_option maxHeartbeats 4000000

theorem quo_two (x : Nat) : (x : Int).tdiv 2 = ((x / 2 : Nat) : Int) := by rw [Int.tdiv_eq_ediv_of_nonneg (by omega)]; omega
theorem refGet_even (x : Nat) (hx : x < 4294967296) (h : x % 2 = 0) (w : World) :
    Calls Try.prog 10 #[.int .u32 x] w fun e w' => e = .returned (.tuple #[pteV false 0 0, .int .i64 4]) ∧ Below w.heap.size w w' := by
  have HB := Lib.hid (pte_below false 0 0 w)
  have ht : (x : Int) % 2 = 0 := by omega
  go_enter Try.func10, Try.ntmps10
  go_wp2
  exact bodyPost_ret (v := .tuple #[pteV false 0 0, .int .i64 4]) (by simp [results, Try.results10, go_sem]) rfl ⟨rfl, HB.out⟩
theorem refGet_odd (x R G z : Nat) (f : Int) (hx : x < 4294967296) (h : x % 2 = 1) (hR : rOf x = R) (hG : gOf x = G) (hz : 1 + 2 * R + 256 * G = z) (w : World) :
    Calls Try.prog 10 #[.int .u32 x] w fun e w' => e = .returned (.tuple #[if z = x then pteV true R G else pteV false 0 0, .int .i64 (if z = x then 0 else 5)]) ∧ Below w.heap.size w w' := by
  have b1 : R < 16 := by rw [← hR]; unfold rOf; omega
  have b2 : G < 32 := by rw [← hG]; unfold gOf; omega
  have e1 : (x : Int) / 2 % 16 = (R : Int) := by rw [← hR]; unfold rOf; omega
  have e2 : (x : Int) / 256 % 32 = (G : Int) := by rw [← hG]; unfold gOf; omega
  have ht : ¬ (x : Int) % 2 = 0 := by omega
  have ef : fitsB true R G = true := by unfold fitsB; simp; omega
  have P := Lib.hid (refPut_any true R G z 0 (by unfold putZ; rw [ef]; show wordN R G = z; unfold wordN; simpa using hz) (by unfold putE; rw [ef]; rfl))
  have HB0 := Lib.hid (pte_below false 0 0 w)
  have HB := Lib.hid (HB0.out.trans ((pte_below true R G (pteW false 0 0 w)).mono HB0.out.size))
  have HP0 := Lib.hid ((pte_at false 0 0 w).more (pte_below true R G (pteW false 0 0 w)))
  have HP1 : Hid (PteAt (pteW true R G (pteW false 0 0 w)) (w.heap.size + 1) true R G) := Lib.hid (by have := pte_at true R G (pteW false 0 0 w); simpa using this)
  have HSet : Hid (∀ (W : World) (j : Nat) (v : Value), Below w.heap.size w W → Below w.heap.size w (W.setCell ⟨w.heap.size, j, none⟩ v)) := Lib.hid fun W j v h => h.setCell (p := ⟨w.heap.size, j, none⟩) (by simp) _
  clear hR hG hz ef h
  by_cases hzx : z = x
  · rw [if_pos hzx, if_pos hzx]
    have e3 : (z : Int) = x := by omega
    go_enter Try.func10, Try.ntmps10
    go_wp2_with fail
    refine (P.out _).mono ?_
    rintro e w1 ⟨rfl, hb1⟩
    have hq0 := HP0.out.more hb1
    obtain ⟨r0, r1, r2⟩ := hq0.cells
    obtain ⟨s0, s1, s2⟩ := (HP1.out.more hb1).cells
    have f0 := hq0.frozen 0
    have f1 := hq0.frozen 1
    have f2 := hq0.frozen 2
    have hz0 := hq0.lt
    have HB1 := Lib.hid (HB.out.trans (hb1.mono HB.out.size))
    clear hb1 hq0
    go_wp2
    exact bodyPost_ret (v := .tuple #[pteV true R G, .int .i64 0]) (by simp [results, Try.results10, go_sem, r0, r1, r2]) rfl ⟨rfl, HSet.out _ _ _ (HSet.out _ _ _ (HSet.out _ _ _ HB1.out))⟩
  · rw [if_neg hzx, if_neg hzx]
    have e3 : ¬ (z : Int) = x := by omega
    go_enter Try.func10, Try.ntmps10
    go_wp2_with fail
    refine (P.out _).mono ?_
    rintro e w1 ⟨rfl, hb1⟩
    have hq0 := HP0.out.more hb1
    obtain ⟨r0, r1, r2⟩ := hq0.cells
    have f0 := hq0.frozen 0
    have f1 := hq0.frozen 1
    have f2 := hq0.frozen 2
    have hz0 := hq0.lt
    have HB1 := Lib.hid (HB.out.trans (hb1.mono HB.out.size))
    clear hb1 hq0
    go_wp2
    exact bodyPost_ret (v := .tuple #[pteV false 0 0, .int .i64 5]) (by simp [results, Try.results10, go_sem, r0, r1, r2]) rfl ⟨rfl, HSet.out _ _ _ (HSet.out _ _ _ (HSet.out _ _ _ HB1.out))⟩
theorem refGet_any (x : Nat) (hx : x < 4294967296) (f : Int) (hf : getF x = f) (w : World) :
    Calls Try.prog 10 #[.int .u32 x] w fun e w' => e = .returned (.tuple #[pteV (oF f) (rF f x) (gF f x), .int .i64 f]) ∧ Below w.heap.size w w' := by
  subst hf
  unfold getF
  by_cases h : x % 2 = 0
  · rw [if_pos h]; exact refGet_even x hx h w
  rw [if_neg h]
  have H := refGet_odd x (rOf x) (gOf x) _ 0 hx (by omega) rfl rfl rfl w
  by_cases h2 : 1 + 2 * rOf x + 256 * gOf x = x
  · rw [if_pos h2]; rw [if_pos h2, if_pos h2] at H; exact H
  · rw [if_neg h2]; rw [if_neg h2, if_neg h2] at H; exact H
end Go.Proofs.Ytfifflepgfpjiaa.Pe
