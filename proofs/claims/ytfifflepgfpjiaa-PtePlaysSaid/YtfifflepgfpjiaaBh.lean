/- Package pte: the document's Table and Leaf. -/
import Derived.Test.YtfifflepgfpjiaaBf
namespace Go.Proofs.Ytfifflepgfpjiaa.Pe
open Go.RowKit Ut
set_option linter.unusedVariables false
set_option maxRecDepth 100000
set_option maxHeartbeats 4000000

theorem refTable_fault (x : Nat) (hx : x < 4294967296) (f : Int) (hf : getF x = f) (h0 : ¬ f = 0) (w : World) :
    Calls Try.prog 12 #[.int .u32 x] w fun e w' => e = .returned (.tuple #[.int .i64 0, .int .i64 f]) ∧ Below w.heap.size w w' := by
  have G := Lib.hid (refGet_any x hx f hf)
  clear hf
  generalize oF f = o at G
  generalize rF f x = r at G
  generalize gF f x = g at G
  go_enter Try.func12, Try.ntmps12
  go_wp2_with fail
  refine (G.out _).mono ?_
  rintro e w1 ⟨rfl, hb1⟩
  have HB1 := Lib.hid (hb1.trans ((pte_below o r g w1).mono hb1.size))
  clear hb1
  go_wp2
  go_ret2
  exact ⟨rfl, HB1.out⟩
theorem refTable_by (x : Nat) (r : Nat) (g : Int) (G : Hid (∀ w, Calls Try.prog 10 #[.int .u32 x] w fun e w' => e = .returned (.tuple #[pteV true r g, .int .i64 0]) ∧ Below w.heap.size w w')) (w : World) :
    Calls Try.prog 12 #[.int .u32 x] w fun e w' => e = .returned (.tuple #[.int .i64 (if r = 0 then g else 0), .int .i64 (if r = 0 then 0 else 5)]) ∧ Below w.heap.size w w' := by
  by_cases h0 : r = 0
  · subst h0
    go_enter Try.func12, Try.ntmps12
    go_wp2_with fail
    refine (G.out _).mono ?_
    rintro e w1 ⟨rfl, hb1⟩
    have HB1 := Lib.hid (hb1.trans ((pte_below true (0 : Nat) g w1).mono hb1.size))
    clear hb1
    go_wp2
    go_ret2
    exact ⟨rfl, HB1.out⟩
  · rw [if_neg h0, if_neg h0]
    have h1 : ¬ (r : Int) = 0 := by omega
    go_enter Try.func12, Try.ntmps12
    go_wp2_with fail
    refine (G.out _).mono ?_
    rintro e w1 ⟨rfl, hb1⟩
    have HB1 := Lib.hid (hb1.trans ((pte_below true r g w1).mono hb1.size))
    clear hb1
    go_wp2
    go_ret2
    exact ⟨rfl, HB1.out⟩
theorem refTable_any (x : Nat) (hx : x < 4294967296) (z f : Int) (hz : gF (tabF x) x = z) (hf : tabF x = f) (w : World) :
    Calls Try.prog 12 #[.int .u32 x] w fun e w' => e = .returned (.tuple #[.int .i64 z, .int .i64 f]) ∧ Below w.heap.size w w' := by
  subst hz hf
  unfold tabF
  by_cases h : getF x = 0
  · rw [if_pos h]
    have H := refTable_by x (rOf x) _ (Lib.hid (refGet_any x hx 0 h)) w
    by_cases h0 : rOf x = 0
    · rw [if_pos h0]; rw [if_pos h0, if_pos h0] at H; exact H
    · rw [if_neg h0]; rw [if_neg h0, if_neg h0] at H; exact H
  · rw [if_neg h, show gF (getF x) x = 0 from if_neg h]
    exact refTable_fault x hx _ rfl h w

theorem refLeaf_fault (x : Nat) (hx : x < 4294967296) (f : Int) (hf : getF x = f) (h0 : ¬ f = 0) (w : World) :
    Calls Try.prog 14 #[.int .u32 x] w fun e w' => e = .returned (.tuple #[pteV false 0 0, .int .i64 f]) ∧ Below w.heap.size w w' := by
  have G := Lib.hid (refGet_any x hx f hf)
  rw [show oF f = false from decide_eq_false h0, show gF f x = 0 from if_neg h0, show rF f x = 0 from if_neg h0] at G
  have HB0 := Lib.hid (pte_below false 0 0 w)
  have HP0 := Lib.hid (pte_at false 0 0 w)
  have HBW : Hid (∀ (W : World) (o : Obj), Below w.heap.size w W → Below w.heap.size w (W.alloc o)) := Lib.hid fun W o h => h.alloc h.size _
  have HSet : Hid (∀ (W : World) (j : Nat) (v : Value), Below w.heap.size w W → Below w.heap.size w (W.setCell ⟨w.heap.size, j, none⟩ v)) := Lib.hid fun W j v h => h.setCell (p := ⟨w.heap.size, j, none⟩) (by simp) _
  clear hf
  go_enter Try.func14, Try.ntmps14
  go_wp2_with fail
  refine (G.out _).mono ?_
  rintro e w1 ⟨rfl, hb1⟩
  have hq0 := HP0.out.more hb1
  obtain ⟨r0, r1, r2⟩ := hq0.cells
  have f0 := hq0.frozen 0
  have f1 := hq0.frozen 1
  have f2 := hq0.frozen 2
  have hz0 := hq0.lt
  have HB1 := Lib.hid (HB0.out.trans (hb1.mono HB0.out.size))
  clear hb1 hq0
  go_wp2
  exact bodyPost_ret (v := .tuple #[pteV false 0 0, .int .i64 f]) (by simp [results, Try.results14, go_sem, r0, r1, r2, hz0]) rfl ⟨rfl, by (repeat (first | refine HBW.out _ _ ?_ | refine HSet.out _ _ _ ?_)); exact HB1.out⟩
theorem refLeaf_by (x : Nat) (r : Nat) (g : Int) (G : Hid (∀ w, Calls Try.prog 10 #[.int .u32 x] w fun e w' => e = .returned (.tuple #[pteV true r g, .int .i64 0]) ∧ Below w.heap.size w w')) (w : World) :
    Calls Try.prog 14 #[.int .u32 x] w fun e w' => e = .returned (.tuple #[if r % 8 = 0 then pteV false 0 0 else pteV true r g, .int .i64 (if r % 8 = 0 then 5 else 0)]) ∧ Below w.heap.size w w' := by
  have HB0 := Lib.hid (pte_below false 0 0 w)
  have HP0 := Lib.hid (pte_at false 0 0 w)
  have HBW : Hid (∀ (W : World) (o : Obj), Below w.heap.size w W → Below w.heap.size w (W.alloc o)) := Lib.hid fun W o h => h.alloc h.size _
  have HSet : Hid (∀ (W : World) (j : Nat) (v : Value), Below w.heap.size w W → Below w.heap.size w (W.setCell ⟨w.heap.size, j, none⟩ v)) := Lib.hid fun W j v h => h.setCell (p := ⟨w.heap.size, j, none⟩) (by simp) _
  by_cases h0 : r % 8 = 0
  · rw [if_pos h0, if_pos h0]
    have h1 : (r : Int) % 8 = 0 := by omega
    go_enter Try.func14, Try.ntmps14
    go_wp2_with fail
    refine (G.out _).mono ?_
    rintro e w1 ⟨rfl, hb1⟩
    have hq0 := HP0.out.more hb1
    obtain ⟨r0, r1, r2⟩ := hq0.cells
    have f0 := hq0.frozen 0
    have f1 := hq0.frozen 1
    have f2 := hq0.frozen 2
    have hz0 := hq0.lt
    have HB1 := Lib.hid (HB0.out.trans (hb1.mono HB0.out.size))
    clear hb1 hq0
    go_wp2
    exact bodyPost_ret (v := .tuple #[pteV false 0 0, .int .i64 5]) (by simp [results, Try.results14, go_sem, r0, r1, r2, hz0]) rfl ⟨rfl, by (repeat (first | refine HBW.out _ _ ?_ | refine HSet.out _ _ _ ?_)); exact HB1.out⟩
  · rw [if_neg h0, if_neg h0]
    have h1 : ¬ (r : Int) % 8 = 0 := by omega
    go_enter Try.func14, Try.ntmps14
    go_wp2_with fail
    refine (G.out _).mono ?_
    rintro e w1 ⟨rfl, hb1⟩
    have hq0 := HP0.out.more hb1
    obtain ⟨r0, r1, r2⟩ := hq0.cells
    have f0 := hq0.frozen 0
    have f1 := hq0.frozen 1
    have f2 := hq0.frozen 2
    have hz0 := hq0.lt
    have HB1 := Lib.hid (HB0.out.trans (hb1.mono HB0.out.size))
    clear hb1 hq0
    go_wp2
    exact bodyPost_ret (v := .tuple #[pteV true r g, .int .i64 0]) (by simp [results, Try.results14, go_sem, r0, r1, r2, hz0]) rfl ⟨rfl, by (repeat (first | refine HBW.out _ _ ?_ | refine HSet.out _ _ _ ?_)); exact HB1.out⟩
theorem refLeaf_any (x : Nat) (hx : x < 4294967296) (f : Int) (hf : leafF x = f) (w : World) :
    Calls Try.prog 14 #[.int .u32 x] w fun e w' => e = .returned (.tuple #[pteV (oF f) (rF f x) (gF f x), .int .i64 f]) ∧ Below w.heap.size w w' := by
  subst hf
  unfold leafF
  by_cases h : getF x = 0
  · rw [if_pos h]
    have H := refLeaf_by x (rOf x) _ (Lib.hid (refGet_any x hx 0 h)) w
    by_cases h0 : rOf x % 8 = 0
    · rw [if_pos h0]; rw [if_pos h0, if_pos h0] at H; exact H
    · rw [if_neg h0]; rw [if_neg h0, if_neg h0] at H; exact H
  · rw [if_neg h, show oF (getF x) = false from decide_eq_false h, show gF (getF x) x = 0 from if_neg h, show rF (getF x) x = 0 from if_neg h]
    exact refLeaf_fault x hx _ rfl h w
end Go.Proofs.Ytfifflepgfpjiaa.Pe
