/- Package pte: Table of both. -/
import Derived.Test.YtfifflepgfpjiaaBf
import Derived.Test.YtfifflepgfpjiaaBd
namespace Go.Proofs.Ytfifflepgfpjiaa.Pe
open Go.RowKit Ut
set_option linter.unusedVariables false
set_option maxRecDepth 100000
set_option maxHeartbeats 4000000

theorem any4 (x : Nat) : ([2, 4, 8, 16].any fun z => decide (x &&& z ≠ 0)) = decide (rOf x ≠ 0) := by
  have h : ((List.range 32).all fun y => ([2, 4, 8, 16].any fun z => decide (y &&& z ≠ 0)) == decide (y / 2 % 16 ≠ 0)) = true := by decide +kernel
  have h1 := List.all_eq_true.1 h (x % 32) (by simp; omega)
  rw [beq_iff_eq] at h1
  have e : rOf x = x % 32 / 2 % 16 := by unfold rOf; omega
  rw [e, ← h1]
  simp only [List.any_cons, List.any_nil]
  rw [and_low x 2 5 (by omega), and_low x 4 5 (by omega), and_low x 8 5 (by omega), and_low x 16 5 (by omega)]
theorem any3 (x : Nat) : ([2, 4, 8].any fun z => decide (x &&& z ≠ 0)) = decide (rOf x % 8 ≠ 0) := by
  have h : ((List.range 32).all fun y => ([2, 4, 8].any fun z => decide (y &&& z ≠ 0)) == decide (y / 2 % 16 % 8 ≠ 0)) = true := by decide +kernel
  have h1 := List.all_eq_true.1 h (x % 32) (by simp; omega)
  rw [beq_iff_eq] at h1
  have e : rOf x = x % 32 / 2 % 16 := by unfold rOf; omega
  rw [e, ← h1]
  simp only [List.any_cons, List.any_nil]
  rw [and_low x 2 5 (by omega), and_low x 4 5 (by omega), and_low x 8 5 (by omega)]
theorem words_at (w : World) (t : TypeId) (b : Nat) (hb : b = w.heap.size) (zs : List Nat) (n : Nat) (hn : zs.length = n) (hm : n ≤ 100) (hz : ∀ z ∈ zs, z < 4294967296) (cs : Array Value) (hc : cs = (zs.map fun z : Nat => Value.int .u32 (z : Int)).toArray) : WordsAt (w.alloc (.cells cs t)) (some ⟨b, 0, none⟩) n zs := by
  subst hb hc hn
  refine ⟨rfl, by omega, fun k hk => ⟨_, zs[k], rfl, List.getElem?_eq_getElem hk, hz _ (List.getElem_mem hk), ?_⟩⟩
  rw [add_plain]
  have h := heap_alloc_new w (.cells (zs.map fun z : Nat => Value.int .u32 (z : Int)).toArray t)
  unfold World.cell?
  rw [h]
  simp [hk]

theorem table_fault (x : Nat) (hx : x < 4294967296) (f : Int) (hf : getF x = f) (h0 : ¬ f = 0) (w : World) :
    Calls Try.prog 11 #[.int .u32 x] w fun e w' => e = .returned (.tuple #[.int .i64 0, .int .i64 f]) ∧ Below w.heap.size w w' := by
  have G := Lib.hid (get_any x hx f hf)
  clear hf
  generalize oF f = o at G
  generalize rF f x = r at G
  generalize gF f x = g at G
  go_enter Try.func11, Try.ntmps11
  go_wp2_with fail
  refine (G.out _).mono ?_
  rintro e w1 ⟨rfl, hb1⟩
  have HB1 := Lib.hid (hb1.trans ((pte_below o r g w1).mono hb1.size))
  clear hb1
  go_wp2
  go_ret2
  exact ⟨rfl, HB1.out⟩
theorem table_by (x : Nat) (hx : x < 4294967296) (r g : Int) (t : Bool) (G : Hid (∀ w, Calls Try.prog 9 #[.int .u32 x] w fun e w' => e = .returned (.tuple #[pteV true r g, .int .i64 0]) ∧ Below w.heap.size w w')) (ht : ([2, 4, 8, 16].any fun z => decide (x &&& z ≠ 0)) = t) (w : World) :
    Calls Try.prog 11 #[.int .u32 x] w fun e w' => e = .returned (.tuple #[.int .i64 (if t = true then 0 else g), .int .i64 (if t = true then 5 else 0)]) ∧ Below w.heap.size w w' := by
  have HA := Lib.hid ht
  have HBW : Hid (∀ (W : World) (o : Obj), Below w.heap.size w W → Below w.heap.size w (W.alloc o)) := Lib.hid fun W o h => h.alloc h.size _
  clear ht
  cases t
  all_goals
    go_enter Try.func11, Try.ntmps11
    go_wp2_with fail
    refine (G.out _).mono ?_
    rintro e w1 ⟨rfl, hb1⟩
    have HB1 := Lib.hid hb1
    clear hb1
    go_wp2_with fail
    refine (hasAny_any x hx _ 4 4 [2, 4, 8, 16] _ (words_at _ _ _ (by simp) _ 4 rfl (by omega) (by decide) _ rfl) _ HA.out).mono ?_
    rintro e w2 ⟨rfl, rfl⟩
    go_wp2
    go_ret2
    exact ⟨rfl, HBW.out _ _ (HBW.out _ _ HB1.out)⟩
theorem table_any (x : Nat) (hx : x < 4294967296) (z f : Int) (hz : gF (tabF x) x = z) (hf : tabF x = f) (w : World) :
    Calls Try.prog 11 #[.int .u32 x] w fun e w' => e = .returned (.tuple #[.int .i64 z, .int .i64 f]) ∧ Below w.heap.size w w' := by
  subst hz hf
  unfold tabF
  by_cases h : getF x = 0
  · rw [if_pos h]
    have H := table_by x hx _ _ _ (Lib.hid (get_any x hx 0 h)) rfl w
    rw [any4 x] at H
    by_cases h0 : rOf x = 0
    · rw [if_pos h0]
      simp only [h0, ne_eq, not_true_eq_false, decide_false] at H
      exact H
    · rw [if_neg h0]
      simp only [h0, ne_eq, not_false_eq_true, decide_true] at H
      exact H
  · rw [if_neg h, show gF (getF x) x = 0 from if_neg h]
    exact table_fault x hx _ rfl h w
theorem leaf_fault (x : Nat) (hx : x < 4294967296) (f : Int) (hf : getF x = f) (h0 : ¬ f = 0) (w : World) :
    Calls Try.prog 13 #[.int .u32 x] w fun e w' => e = .returned (.tuple #[pteV false 0 0, .int .i64 f]) ∧ Below w.heap.size w w' := by
  have G := Lib.hid (get_any x hx f hf)
  have HB0 := Lib.hid (pte_below false 0 0 w)
  have HP0 := Lib.hid (pte_at false 0 0 w)
  have HBW : Hid (∀ (W : World) (o : Obj), Below w.heap.size w W → Below w.heap.size w (W.alloc o)) := Lib.hid fun W o h => h.alloc h.size _
  have HSet : Hid (∀ (W : World) (j : Nat) (v : Value), Below w.heap.size w W → Below w.heap.size w (W.setCell ⟨w.heap.size, j, none⟩ v)) := Lib.hid fun W j v h => h.setCell (p := ⟨w.heap.size, j, none⟩) (by simp) _
  clear hf
  generalize oF f = o at G
  generalize rF f x = r at G
  generalize gF f x = g at G
  go_enter Try.func13, Try.ntmps13
  go_wp2_with fail
  refine (G.out _).mono ?_
  rintro e w1 ⟨rfl, hb1⟩
  have hq0 := HP0.out.more hb1
  obtain ⟨r0, r1, r2⟩ := hq0.cells
  have f0 := hq0.frozen 0
  have f1 := hq0.frozen 1
  have f2 := hq0.frozen 2
  have hz0 := hq0.lt
  have HB1 := Lib.hid (HB0.out.trans (hb1.mono HB0.out.size))
  clear hb1 hq0
  go_wp2
  exact bodyPost_ret (v := .tuple #[pteV false 0 0, .int .i64 f]) (by simp [results, Try.results13, go_sem, r0, r1, r2, hz0]) rfl ⟨rfl, by (repeat (first | refine HBW.out _ _ ?_ | refine HSet.out _ _ _ ?_)); exact HB1.out⟩
theorem leaf_by (x : Nat) (hx : x < 4294967296) (r g : Int) (t : Bool) (G : Hid (∀ w, Calls Try.prog 9 #[.int .u32 x] w fun e w' => e = .returned (.tuple #[pteV true r g, .int .i64 0]) ∧ Below w.heap.size w w')) (ht : ([2, 4, 8].any fun z => decide (x &&& z ≠ 0)) = t) (w : World) :
    Calls Try.prog 13 #[.int .u32 x] w fun e w' => e = .returned (.tuple #[if t = true then pteV true r g else pteV false 0 0, .int .i64 (if t = true then 0 else 5)]) ∧ Below w.heap.size w w' := by
  have HA := Lib.hid ht
  have HB0 := Lib.hid (pte_below false 0 0 w)
  have HP0 := Lib.hid (pte_at false 0 0 w)
  have HBW : Hid (∀ (W : World) (o : Obj), Below w.heap.size w W → Below w.heap.size w (W.alloc o)) := Lib.hid fun W o h => h.alloc h.size _
  have HSet : Hid (∀ (W : World) (j : Nat) (v : Value), Below w.heap.size w W → Below w.heap.size w (W.setCell ⟨w.heap.size, j, none⟩ v)) := Lib.hid fun W j v h => h.setCell (p := ⟨w.heap.size, j, none⟩) (by simp) _
  clear ht
  cases t
  all_goals
    go_enter Try.func13, Try.ntmps13
    go_wp2_with fail
    refine (G.out _).mono ?_
    rintro e w1 ⟨rfl, hb1⟩
    have hq0 := HP0.out.more hb1
    obtain ⟨r0, r1, r2⟩ := hq0.cells
    have f0 := hq0.frozen 0
    have f1 := hq0.frozen 1
    have f2 := hq0.frozen 2
    have hz0 := hq0.lt
    have HB1 := Lib.hid (HB0.out.trans (hb1.mono HB0.out.size))
    clear hb1 hq0
    go_wp2_with fail
    refine (hasAny_any x hx _ 3 3 [2, 4, 8] _ (words_at _ _ _ (by simp) _ 3 rfl (by omega) (by decide) _ rfl) _ HA.out).mono ?_
    rintro e w2 ⟨rfl, rfl⟩
    go_wp2
  · exact bodyPost_ret (v := .tuple #[pteV false 0 0, .int .i64 5]) (by simp [results, Try.results13, go_sem, r0, r1, r2, hz0]) rfl ⟨rfl, by (repeat (first | refine HBW.out _ _ ?_ | refine HSet.out _ _ _ ?_)); exact HB1.out⟩
  · exact bodyPost_ret (v := .tuple #[pteV true r g, .int .i64 0]) (by simp [results, Try.results13, go_sem, r0, r1, r2, hz0]) rfl ⟨rfl, by (repeat (first | refine HBW.out _ _ ?_ | refine HSet.out _ _ _ ?_)); exact HB1.out⟩
theorem leaf_any (x : Nat) (hx : x < 4294967296) (f : Int) (hf : leafF x = f) (w : World) :
    Calls Try.prog 13 #[.int .u32 x] w fun e w' => e = .returned (.tuple #[pteV (oF f) (rF f x) (gF f x), .int .i64 f]) ∧ Below w.heap.size w w' := by
  subst hf
  unfold leafF
  by_cases h : getF x = 0
  · rw [if_pos h]
    have H := leaf_by x hx _ _ _ (Lib.hid (get_any x hx 0 h)) rfl w
    rw [any3 x] at H
    by_cases h0 : rOf x % 8 = 0
    · rw [if_pos h0]
      simp only [h0, ne_eq, not_true_eq_false, decide_false] at H
      exact H
    · rw [if_neg h0]
      simp only [h0, ne_eq, not_false_eq_true, decide_true] at H
      exact H
  · rw [if_neg h, show oF (getF x) = false from decide_eq_false h, show gF (getF x) x = 0 from if_neg h, show rF (getF x) x = 0 from if_neg h]
    exact leaf_fault x hx _ rfl h w
end Go.Proofs.Ytfifflepgfpjiaa.Pe
