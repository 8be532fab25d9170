/- Several texts in one: Bf Bd Bg Zb Zc -/
import Derived.Test.YteaincdeoajkeaaGreatDoorZ18
import Derived.Test.YteaincdeoajkeaaGreatDoorZ17
import Derived.WalkMore
import Derived.Laws.EntriesVeiled
import Derived.Laws.Rows
import Derived.Great.Walk
section
/- Package pte: the document's Get. -/
namespace Go.Proofs.YteaincdeoajkeaaGreatDoor.Pe
open Go.RowKit Ut
set_option linter.unusedVariables false
set_option maxRecDepth 100000
set_option maxHeartbeats 4000000

theorem refGet_even (x : Nat) (hx : x < 4294967296) (h : x % 2 = 0) (w : World) :
  Calls Tryz.prog 123 #[.int .u32 x] w fun e w' => e = .returned (.tuple #[pteV false 0 0, .int .i64 4]) ∧ Below w.heap.size w w' := by
 have HB := Lib.hid (pte_below false 0 0 w)
 have ht : (x : Int) % 2 = 0 := by omega
 go_enter Tryz.func123, Tryz.ntmps123
 go_wp2
 exact bodyPost_ret (v := .tuple #[pteV false 0 0, .int .i64 4]) (by simp [results, Tryz.results123, go_sem]) rfl ⟨rfl, HB.out⟩
theorem refGet_odd (x R G z : Nat) (f : Int) (hx : x < 4294967296) (h : x % 2 = 1) (hR : rOf x = R) (hG : gOf x = G) (hz : 1 + 2 * R + 256 * G = z) (w : World) :
  Calls Tryz.prog 123 #[.int .u32 x] w fun e w' => e = .returned (.tuple #[if z = x then pteV true R G else pteV false 0 0, .int .i64 (if z = x then 0 else 5)]) ∧ Below w.heap.size w w' := by
 have b1 : R < 16 := by rw [← hR]; unfold rOf; omega
 have b2 : G < 32 := by rw [← hG]; unfold gOf; omega
 have e1 : (x : Int) / 2 % 16 = (R : Int) := by rw [← hR]; unfold rOf; omega
 have e2 : (x : Int) / 256 % 32 = (G : Int) := by rw [← hG]; unfold gOf; omega
 have ht : ¬ (x : Int) % 2 = 0 := by omega
 have ef : fitsB true R G = true := by unfold fitsB; simp; omega
 have P := Lib.hid (refPut_any true R G z 0 (by unfold putZ; rw [ef]; show wordN R G = z; unfold wordN; simpa using hz) (by unfold putE; rw [ef]; rfl))
 have HB0 := Lib.hid (pte_below false 0 0 w)
 have HB := Lib.hid (HB0.out.trans ((pte_below true R G (pteW false 0 0 w)).mono HB0.out.size))
 have HP0 := Lib.hid ((pte_at false 0 0 w).more (pte_below true R G (pteW false 0 0 w)))
 have HP1 : Hid (PteAt (pteW true R G (pteW false 0 0 w)) (w.heap.size + 1) true R G) := Lib.hid (by have := pte_at true R G (pteW false 0 0 w); simpa using this)
 have HSet : Hid (∀ (W : World) (j : Nat) (v : Value), Below w.heap.size w W → Below w.heap.size w (W.setCell ⟨w.heap.size, j, none⟩ v)) := Lib.hid fun W j v h => h.setCell (p := ⟨w.heap.size, j, none⟩) (by simp) _
 clear hR hG hz ef h
 by_cases hzx : z = x
 ·rw [if_pos hzx, if_pos hzx]
  have e3 : (z : Int) = x := by omega
  go_enter Tryz.func123, Tryz.ntmps123
  go_wp2_with fail
  refine (P.out _).mono ?_
  rintro e w1 ⟨rfl, hb1⟩
  have hq0 := HP0.out.more hb1
  obtain ⟨r0, r1, r2⟩ := hq0.cells
  obtain ⟨s0, s1, s2⟩ := (HP1.out.more hb1).cells
  have f0 := hq0.frozen 0
  have f1 := hq0.frozen 1
  have f2 := hq0.frozen 2
  have hz0 := hq0.lt
  have HB1 := Lib.hid (HB.out.trans (hb1.mono HB.out.size))
  clear hb1 hq0
  go_wp2
  exact bodyPost_ret (v := .tuple #[pteV true R G, .int .i64 0]) (by simp [results, Tryz.results123, go_sem, r0, r1, r2]) rfl ⟨rfl, HSet.out _ _ _ (HSet.out _ _ _ (HSet.out _ _ _ HB1.out))⟩
 ·rw [if_neg hzx, if_neg hzx]
  have e3 : ¬ (z : Int) = x := by omega
  go_enter Tryz.func123, Tryz.ntmps123
  go_wp2_with fail
  refine (P.out _).mono ?_
  rintro e w1 ⟨rfl, hb1⟩
  have hq0 := HP0.out.more hb1
  obtain ⟨r0, r1, r2⟩ := hq0.cells
  have f0 := hq0.frozen 0
  have f1 := hq0.frozen 1
  have f2 := hq0.frozen 2
  have hz0 := hq0.lt
  have HB1 := Lib.hid (HB.out.trans (hb1.mono HB.out.size))
  clear hb1 hq0
  go_wp2
  exact bodyPost_ret (v := .tuple #[pteV false 0 0, .int .i64 5]) (by simp [results, Tryz.results123, go_sem, r0, r1, r2]) rfl ⟨rfl, HSet.out _ _ _ (HSet.out _ _ _ (HSet.out _ _ _ HB1.out))⟩
theorem refGet_any (x : Nat) (hx : x < 4294967296) (f : Int) (hf : getF x = f) (w : World) :
  Calls Tryz.prog 123 #[.int .u32 x] w fun e w' => e = .returned (.tuple #[pteV (oF f) (rF f x) (gF f x), .int .i64 f]) ∧ Below w.heap.size w w' := by
 subst hf
 unfold getF
 by_cases h : x % 2 = 0
 ·rw [if_pos h]; exact refGet_even x hx h w
 rw [if_neg h]
 have H := refGet_odd x (rOf x) (gOf x) _ 0 hx (by omega) rfl rfl rfl w
 by_cases h2 : 1 + 2 * rOf x + 256 * gOf x = x
 ·rw [if_pos h2]; rw [if_pos h2, if_pos h2] at H; exact H
 ·rw [if_neg h2]; rw [if_neg h2, if_neg h2] at H; exact H
end Go.Proofs.YteaincdeoajkeaaGreatDoor.Pe
end
section
/- Package pte: hasAny, of a slice of words. -/
namespace Go.Proofs.YteaincdeoajkeaaGreatDoor.Pe
open Go.RowKit Ut
set_option linter.unusedVariables false
set_option maxRecDepth 100000
set_option maxHeartbeats 4000000

theorem any_step (x k z : Nat) (zs : List Nat) (hzk : zs[k]? = some z) (hf : ((zs.take k).any fun z => decide (x &&& z ≠ 0)) = false) (h0 : x &&& z = 0) : ((zs.take (k + 1)).any fun z => decide (x &&& z ≠ 0)) = false := by
 rw [List.take_add_one, hzk, List.any_append, hf]
 simp [h0]
theorem any_here (x k z : Nat) (zs : List Nat) (hzk : zs[k]? = some z) (h0 : ¬ x &&& z = 0) : (zs.any fun z => decide (x &&& z ≠ 0)) = true :=
 List.any_eq_true.2 ⟨z, List.mem_of_getElem? hzk, by simpa using h0⟩
/-- the slice at a of n words reads as zs -/
def WordsAt (w : World) (a : Option Addr) (n : Nat) (zs : List Nat) : Prop := zs.length = n ∧ n ≤ 9223372036854775807 ∧ ∀ k, k < n → ∃ y z, a = some y ∧ zs[k]? = some z ∧ z < 4294967296 ∧ w.cell? (y.add k) = some (.int .u32 (z : Int))
theorem hasAny_any (x : Nat) (hx : x < 4294967296) (a : Option Addr) (n cap : Nat) (zs : List Nat) (w : World) (hr : WordsAt w a n zs) (t : Bool) (ht : (zs.any fun z => decide (x &&& z ≠ 0)) = t) :
  Calls Tryz.prog 110 #[.int .u32 x, .slice a n cap] w fun e w' => e = .returned (.bool t) ∧ w = w' := by
 have hm := hr.2.1
 have HT := Lib.hid ht
 have HR := Lib.hid hr
 clear ht hr
 go_enter Tryz.func110, Tryz.ntmps110
 go_wp2
 go_loop [9] (fun i => ∃ k : Nat, k ≤ n ∧ i = .int .i64 k ∧ ((zs.take k).any fun z => decide (x &&& z ≠ 0)) = false) (fun i => n - (intOf i).toNat)
 case atStart => exact ⟨0, Nat.zero_le _, rfl, rfl⟩
 case round =>
  obtain ⟨k, hk, rfl, hf⟩ := hrel
  have HF := Lib.hid hf
  clear hf
  by_cases hlt : k < n
  ·obtain ⟨y, z, rfl, hzk, hzl, hc⟩ := HR.out.2.2 k hlt
   have hand := u32_and_nat x z hx hzl
   have HK := Lib.hid hzk
   clear hzk
   by_cases h0 : x &&& z = 0
   ·have htest : bits .and .u32 (x : Int) (z : Int) = 0 := by rw [hand, h0]; rfl
    have HS := Lib.hid (any_step x k z zs HK.out HF.out h0)
    clear hand h0
    go_wp2
    go_round
    case rel => exact ⟨k + 1, by omega, by go_num, HS.out⟩
    case measure => simp [intOf]; omega
   ·have htest : ¬ bits .and .u32 (x : Int) (z : Int) = 0 := by rw [hand]; omega
    have HS := Lib.hid (HT.out.symm.trans (any_here x k z zs HK.out h0))
    clear hand h0
    go_wp2
    go_ret
    exact ⟨by rw [HS.out]; rfl, rfl⟩
  ·have HS : Hid (t = false) := Lib.hid (by have h1 := HF.out; rw [List.take_of_length_le (by have := HR.out.1; omega)] at h1; exact HT.out.symm.trans h1)
   go_wp2
   go_ret
   exact ⟨by rw [HS.out]; rfl, rfl⟩
end Go.Proofs.YteaincdeoajkeaaGreatDoor.Pe
end
section
/- Package pte: Table of both. -/
namespace Go.Proofs.YteaincdeoajkeaaGreatDoor.Pe
open Go.RowKit Ut
set_option linter.unusedVariables false
set_option maxRecDepth 100000
set_option maxHeartbeats 4000000

theorem any4 (x : Nat) : ([2, 4, 8, 16].any fun z => decide (x &&& z ≠ 0)) = decide (rOf x ≠ 0) := by
 have h : ((List.range 32).all fun y => ([2, 4, 8, 16].any fun z => decide (y &&& z ≠ 0)) == decide (y / 2 % 16 ≠ 0)) = true := by decide +kernel
 have h1 := List.all_eq_true.1 h (x % 32) (by simp; omega)
 rw [beq_iff_eq] at h1
 have e : rOf x = x % 32 / 2 % 16 := by unfold rOf; omega
 rw [e, ← h1]
 simp only [List.any_cons, List.any_nil]
 rw [and_low x 2 5 (by omega), and_low x 4 5 (by omega), and_low x 8 5 (by omega), and_low x 16 5 (by omega)]
theorem any3 (x : Nat) : ([2, 4, 8].any fun z => decide (x &&& z ≠ 0)) = decide (rOf x % 8 ≠ 0) := by
 have h : ((List.range 32).all fun y => ([2, 4, 8].any fun z => decide (y &&& z ≠ 0)) == decide (y / 2 % 16 % 8 ≠ 0)) = true := by decide +kernel
 have h1 := List.all_eq_true.1 h (x % 32) (by simp; omega)
 rw [beq_iff_eq] at h1
 have e : rOf x = x % 32 / 2 % 16 := by unfold rOf; omega
 rw [e, ← h1]
 simp only [List.any_cons, List.any_nil]
 rw [and_low x 2 5 (by omega), and_low x 4 5 (by omega), and_low x 8 5 (by omega)]
theorem words_at (w : World) (t : TypeId) (b : Nat) (hb : b = w.heap.size) (zs : List Nat) (n : Nat) (hn : zs.length = n) (hm : n ≤ 100) (hz : ∀ z ∈ zs, z < 4294967296) (cs : Array Value) (hc : cs = (zs.map fun z : Nat => Value.int .u32 (z : Int)).toArray) : WordsAt (w.alloc (.cells cs t)) (some ⟨b, 0, none⟩) n zs := by
 subst hb hc hn
 refine ⟨rfl, by omega, fun k hk => ⟨_, zs[k], rfl, List.getElem?_eq_getElem hk, hz _ (List.getElem_mem hk), ?_⟩⟩
 rw [add_plain]
 have h := heap_alloc_new w (.cells (zs.map fun z : Nat => Value.int .u32 (z : Int)).toArray t)
 unfold World.cell?
 rw [h]
 simp [hk]

theorem table_fault (x : Nat) (hx : x < 4294967296) (f : Int) (hf : getF x = f) (h0 : ¬ f = 0) (w : World) :
  Calls Tryz.prog 104 #[.int .u32 x] w fun e w' => e = .returned (.tuple #[.int .i64 0, .int .i64 f]) ∧ Below w.heap.size w w' := by
 have G := Lib.hid (get_any x hx f hf)
 clear hf
 generalize oF f = o at G
 generalize rF f x = r at G
 generalize gF f x = g at G
 go_enter Tryz.func104, Tryz.ntmps104
 go_wp2_with fail
 refine (G.out _).mono ?_
 rintro e w1 ⟨rfl, hb1⟩
 have HB1 := Lib.hid (hb1.trans ((pte_below o r g w1).mono hb1.size))
 clear hb1
 go_wp2
 go_ret2
 exact ⟨rfl, HB1.out⟩
theorem table_by (x : Nat) (hx : x < 4294967296) (r g : Int) (t : Bool) (G : Hid (∀ w, Calls Tryz.prog 135 #[.int .u32 x] w fun e w' => e = .returned (.tuple #[pteV true r g, .int .i64 0]) ∧ Below w.heap.size w w')) (ht : ([2, 4, 8, 16].any fun z => decide (x &&& z ≠ 0)) = t) (w : World) :
  Calls Tryz.prog 104 #[.int .u32 x] w fun e w' => e = .returned (.tuple #[.int .i64 (if t = true then 0 else g), .int .i64 (if t = true then 5 else 0)]) ∧ Below w.heap.size w w' := by
 have HA := Lib.hid ht
 have HBW : Hid (∀ (W : World) (o : Obj), Below w.heap.size w W → Below w.heap.size w (W.alloc o)) := Lib.hid fun W o h => h.alloc h.size _
 clear ht
 cases t
 all_goals
  go_enter Tryz.func104, Tryz.ntmps104
  go_wp2_with fail
  refine (G.out _).mono ?_
  rintro e w1 ⟨rfl, hb1⟩
  have HB1 := Lib.hid hb1
  clear hb1
  go_wp2_with fail
  refine (hasAny_any x hx _ 4 4 [2, 4, 8, 16] _ (words_at _ _ _ (by simp) _ 4 rfl (by omega) (by decide) _ rfl) _ HA.out).mono ?_
  rintro e w2 ⟨rfl, rfl⟩
  go_wp2
  go_ret2
  exact ⟨rfl, HBW.out _ _ (HBW.out _ _ HB1.out)⟩
theorem table_any (x : Nat) (hx : x < 4294967296) (z f : Int) (hz : gF (tabF x) x = z) (hf : tabF x = f) (w : World) :
  Calls Tryz.prog 104 #[.int .u32 x] w fun e w' => e = .returned (.tuple #[.int .i64 z, .int .i64 f]) ∧ Below w.heap.size w w' := by
 subst hz hf
 unfold tabF
 by_cases h : getF x = 0
 ·rw [if_pos h]
  have H := table_by x hx _ _ _ (Lib.hid (get_any x hx 0 h)) rfl w
  rw [any4 x] at H
  by_cases h0 : rOf x = 0
  ·rw [if_pos h0]
   simp only [h0, ne_eq, not_true_eq_false, decide_false] at H
   exact H
  ·rw [if_neg h0]
   simp only [h0, ne_eq, not_false_eq_true, decide_true] at H
   exact H
 ·rw [if_neg h, show gF (getF x) x = 0 from if_neg h]
  exact table_fault x hx _ rfl h w
theorem leaf_fault (x : Nat) (hx : x < 4294967296) (f : Int) (hf : getF x = f) (h0 : ¬ f = 0) (w : World) :
  Calls Tryz.prog 106 #[.int .u32 x] w fun e w' => e = .returned (.tuple #[pteV false 0 0, .int .i64 f]) ∧ Below w.heap.size w w' := by
 have G := Lib.hid (get_any x hx f hf)
 have HB0 := Lib.hid (pte_below false 0 0 w)
 have HP0 := Lib.hid (pte_at false 0 0 w)
 have HBW : Hid (∀ (W : World) (o : Obj), Below w.heap.size w W → Below w.heap.size w (W.alloc o)) := Lib.hid fun W o h => h.alloc h.size _
 have HSet : Hid (∀ (W : World) (j : Nat) (v : Value), Below w.heap.size w W → Below w.heap.size w (W.setCell ⟨w.heap.size, j, none⟩ v)) := Lib.hid fun W j v h => h.setCell (p := ⟨w.heap.size, j, none⟩) (by simp) _
 clear hf
 generalize oF f = o at G
 generalize rF f x = r at G
 generalize gF f x = g at G
 go_enter Tryz.func106, Tryz.ntmps106
 go_wp2_with fail
 refine (G.out _).mono ?_
 rintro e w1 ⟨rfl, hb1⟩
 have hq0 := HP0.out.more hb1
 obtain ⟨r0, r1, r2⟩ := hq0.cells
 have f0 := hq0.frozen 0
 have f1 := hq0.frozen 1
 have f2 := hq0.frozen 2
 have hz0 := hq0.lt
 have HB1 := Lib.hid (HB0.out.trans (hb1.mono HB0.out.size))
 clear hb1 hq0
 go_wp2
 exact bodyPost_ret (v := .tuple #[pteV false 0 0, .int .i64 f]) (by simp [results, Tryz.results106, go_sem, r0, r1, r2, hz0]) rfl ⟨rfl, by (repeat (first | refine HBW.out _ _ ?_ | refine HSet.out _ _ _ ?_)); exact HB1.out⟩
theorem leaf_by (x : Nat) (hx : x < 4294967296) (r g : Int) (t : Bool) (G : Hid (∀ w, Calls Tryz.prog 135 #[.int .u32 x] w fun e w' => e = .returned (.tuple #[pteV true r g, .int .i64 0]) ∧ Below w.heap.size w w')) (ht : ([2, 4, 8].any fun z => decide (x &&& z ≠ 0)) = t) (w : World) :
  Calls Tryz.prog 106 #[.int .u32 x] w fun e w' => e = .returned (.tuple #[if t = true then pteV true r g else pteV false 0 0, .int .i64 (if t = true then 0 else 5)]) ∧ Below w.heap.size w w' := by
 have HA := Lib.hid ht
 have HB0 := Lib.hid (pte_below false 0 0 w)
 have HP0 := Lib.hid (pte_at false 0 0 w)
 have HBW : Hid (∀ (W : World) (o : Obj), Below w.heap.size w W → Below w.heap.size w (W.alloc o)) := Lib.hid fun W o h => h.alloc h.size _
 have HSet : Hid (∀ (W : World) (j : Nat) (v : Value), Below w.heap.size w W → Below w.heap.size w (W.setCell ⟨w.heap.size, j, none⟩ v)) := Lib.hid fun W j v h => h.setCell (p := ⟨w.heap.size, j, none⟩) (by simp) _
 clear ht
 cases t
 all_goals
  go_enter Tryz.func106, Tryz.ntmps106
  go_wp2_with fail
  refine (G.out _).mono ?_
  rintro e w1 ⟨rfl, hb1⟩
  have hq0 := HP0.out.more hb1
  obtain ⟨r0, r1, r2⟩ := hq0.cells
  have f0 := hq0.frozen 0
  have f1 := hq0.frozen 1
  have f2 := hq0.frozen 2
  have hz0 := hq0.lt
  have HB1 := Lib.hid (HB0.out.trans (hb1.mono HB0.out.size))
  clear hb1 hq0
  go_wp2_with fail
  refine (hasAny_any x hx _ 3 3 [2, 4, 8] _ (words_at _ _ _ (by simp) _ 3 rfl (by omega) (by decide) _ rfl) _ HA.out).mono ?_
  rintro e w2 ⟨rfl, rfl⟩
  go_wp2
 ·exact bodyPost_ret (v := .tuple #[pteV false 0 0, .int .i64 5]) (by simp [results, Tryz.results106, go_sem, r0, r1, r2, hz0]) rfl ⟨rfl, by (repeat (first | refine HBW.out _ _ ?_ | refine HSet.out _ _ _ ?_)); exact HB1.out⟩
 ·exact bodyPost_ret (v := .tuple #[pteV true r g, .int .i64 0]) (by simp [results, Tryz.results106, go_sem, r0, r1, r2, hz0]) rfl ⟨rfl, by (repeat (first | refine HBW.out _ _ ?_ | refine HSet.out _ _ _ ?_)); exact HB1.out⟩
theorem leaf_any (x : Nat) (hx : x < 4294967296) (f : Int) (hf : leafF x = f) (w : World) :
  Calls Tryz.prog 106 #[.int .u32 x] w fun e w' => e = .returned (.tuple #[pteV (oF f) (rF f x) (gF f x), .int .i64 f]) ∧ Below w.heap.size w w' := by
 subst hf
 unfold leafF
 by_cases h : getF x = 0
 ·rw [if_pos h]
  have H := leaf_by x hx _ _ _ (Lib.hid (get_any x hx 0 h)) rfl w
  rw [any3 x] at H
  by_cases h0 : rOf x % 8 = 0
  ·rw [if_pos h0]
   simp only [h0, ne_eq, not_true_eq_false, decide_false] at H
   exact H
  ·rw [if_neg h0]
   simp only [h0, ne_eq, not_false_eq_true, decide_true] at H
   exact H
 ·rw [if_neg h, show oF (getF x) = false from decide_eq_false h, show gF (getF x) x = 0 from if_neg h, show rF (getF x) x = 0 from if_neg h]
  exact leaf_fault x hx _ rfl h w
end Go.Proofs.YteaincdeoajkeaaGreatDoor.Pe
end
section
/- Package walk: what a walk comes to, plainly; the steps and what follows of an entry, as closures. -/
namespace Go.Proofs.YteaincdeoajkeaaGreatDoor.Wa
open Go.RowKit Go.Shelf Ut Oc Vw
set_option maxRecDepth 100000
set_option linter.unusedVariables false
set_option maxHeartbeats 4000000

/-- what a walk comes to -/
structure Stp where
 o : Bool
 r : Int
 g : Int
 f : Int
 rt : Int
 lf : Int
def Stp.cs (t : Stp) : List Value := [.bool t.o, .int .i64 t.r, .int .i64 t.g, .int .i64 t.f, .int .i64 t.rt, .int .i64 t.lf]
abbrev Stp.v (t : Stp) : Value := .agg #[.bool t.o, .int .i64 t.r, .int .i64 t.g, .int .i64 t.f, .int .i64 t.rt, .int .i64 t.lf]
def noneF (n : Nat) (L : List Gm.Pl) (p : Int) : Int := if hasT n L p = true then 0 else 3
/-- the root's word, what it says, the leaf's word -/
def rootW (n : Nat) (S : List Int) (L : List Gm.Pl) (p z : Int) : Nat := wordT n S L p (z / 1024).toNat
def rootF (n : Nat) (S : List Int) (L : List Gm.Pl) (p z : Int) : Int := Pe.tabF (rootW n S L p z)
def rootT (n : Nat) (S : List Int) (L : List Gm.Pl) (p z : Int) : Int := Pe.gF (rootF n S L p z) (rootW n S L p z)
def leafW (n : Nat) (S : List Int) (L : List Gm.Pl) (p z : Int) : Nat := wordT n S L (rootT n S L p z) (z / 64 % 16).toNat
def leafE (n : Nat) (S : List Int) (L : List Gm.Pl) (p z : Int) : Int := Pe.leafF (leafW n S L p z)
def st0 : Stp := ⟨false, 0, 0, 0, -1, -1⟩
def st1 (n : Nat) (L : List Gm.Pl) (p : Int) : Stp := ⟨false, 0, 0, noneF n L p, -1, -1⟩
def st2 (n : Nat) (S : List Int) (L : List Gm.Pl) (p z : Int) : Stp := ⟨false, 0, 0, rootF n S L p z, p, -1⟩
def st3 (n : Nat) (S : List Int) (L : List Gm.Pl) (p z : Int) : Stp := ⟨false, 0, 0, noneF n L (rootT n S L p z), p, -1⟩
def st4 (n : Nat) (S : List Int) (L : List Gm.Pl) (p z : Int) : Stp :=
 ⟨Pe.oF (leafE n S L p z), Pe.rF (leafE n S L p z) (leafW n S L p z), Pe.gF (leafE n S L p z) (leafW n S L p z), leafE n S L p z, p, rootT n S L p z⟩
def walkF (n : Nat) (S : List Int) (L : List Gm.Pl) (p z : Int) : Stp :=
 if 16384 ≤ z then ⟨false, 0, 0, 2, -1, -1⟩
 else if noneF n L p ≠ 0 then st1 n L p
 else if rootF n S L p z ≠ 0 then st2 n S L p z
 else if noneF n L (rootT n S L p z) ≠ 0 then st3 n S L p z
 else st4 n S L p z

section
variable {w : World} {b s m n bv bp bw bs : Nat} {S : List Int} {L : List Gm.Pl} {D : List Bool}
/-- what follows of a root's word -/
theorem take_root (x : Nat) (z f p0 : Int) (hx : x < 4294967296) (hz : Pe.gF (Pe.tabF x) x = z) (hf : Pe.tabF x = f) (hp : Blk w bp 3 [.int .i64 p0]) :
  Calls Tryz.prog 103 #[.int .u32 x, .pointer (some ⟨bp, 0, none⟩)] w fun e w' => e = .returned (.int .i64 f) ∧ Blk w' bp 3 [.int .i64 z] ∧ Kq [bp] w w' := by
 have HT := Lib.hid (Pe.table_any x hx z f hz hf w)
 have HP := Lib.hid hp
 clear hp hz hf
 go_enter Tryz.func103, Tryz.ntmps103
 go_wp2_with fail
 refine HT.out.mono ?_
 rintro e w1 ⟨rfl, hb1⟩
 have hp1 := HP.out.more hb1
 have HF := Lib.hid (hp1.set 0 (.int .i64 z))
 have HK := Lib.hid ((Kq.of_below (T := [bp]) hb1).setCell bp 0 (.int .i64 z) (.inl (by simp)))
 have fz := hp1.frozen 0
 have hlt := hp1.lt
 have c0 : w1.cell? ⟨bp, 0, none⟩ = some (.int .i64 p0) := hp1.cell rfl
 clear hb1 hp1 HT
 go_wp2
 go_ret
 exact ⟨rfl, HF.out, HK.out⟩
/-- .. of a leaf's -/
theorem take_leaf (x : Nat) (f : Int) (t : Stp) (hx : x < 4294967296) (hf : Pe.leafF x = f) (hs : Blk w bs 114 t.cs) :
  Calls Tryz.prog 105 #[.int .u32 x, .pointer (some ⟨bs, 0, none⟩)] w fun e w' => e = .returned (.int .i64 f) ∧ Blk w' bs 114 (⟨Pe.oF f, Pe.rF f x, Pe.gF f x, t.f, t.rt, t.lf⟩ : Stp).cs ∧ Kq [bs] w w' := by
 have HT := Lib.hid (Pe.leaf_any x hx f hf w)
 have HP := Lib.hid hs
 clear hs hf
 generalize Pe.oF f = o at HT ⊢
 generalize Pe.rF f x = r at HT ⊢
 generalize Pe.gF f x = g at HT ⊢
 go_enter Tryz.func105, Tryz.ntmps105
 go_wp2_with fail
 refine HT.out.mono ?_
 rintro e w1 ⟨rfl, hb1⟩
 have hp1 := HP.out.more hb1
 have HF := Lib.hid (((hp1.set 0 (.bool o)).set 1 (.int .i64 r)).set 2 (.int .i64 g))
 have HK := Lib.hid ((((Kq.of_below (T := [bs]) hb1).setCell bs 0 (.bool o) (.inl (by simp))).setCell bs 1 (.int .i64 r) (.inl (by simp))).setCell bs 2 (.int .i64 g) (.inl (by simp)))
 have f0 := hp1.frozen 0
 have f1 := hp1.frozen 1
 have f2 := hp1.frozen 2
 have hlt := hp1.lt
 have c0 : w1.cell? ⟨bs, 0, none⟩ = some (.bool t.o) := hp1.cell rfl
 have c1 : w1.cell? ⟨bs, 1, none⟩ = some (.int .i64 t.r) := hp1.cell rfl
 have c2 : w1.cell? ⟨bs, 2, none⟩ = some (.int .i64 t.g) := hp1.cell rfl
 clear hb1 hp1 HT
 go_wp2
 go_ret
 exact ⟨rfl, HF.out, HK.out⟩

/-- the first step: a word -/
theorem step_entry (p f : Int) (i u : Nat) (told take : Value) (u0 : Value) (hi : i < 16) (hf : noneF n L p = f) (hu : wordT n S L p i = u) (hP : PV w b s m n S L D) (hv : Blk w bv 25 [.pointer (some ⟨b, 0, none⟩)]) (hp : Blk w bp 3 [.int .i64 p]) (hw : Blk w bw 31 [u0]) (q : Addr) (ht : told = .pointer (some q)) (fn : Nat) (cs : Array Value) (htk : take = .func (.func fn) #[] cs) :
  Calls Tryz.prog 107 #[.agg #[.int .i64 i, told, take], .pointer (some ⟨bv, 0, none⟩), .pointer (some ⟨bp, 0, none⟩), .pointer (some ⟨bw, 0, none⟩)] w fun e w' => e = .returned (.int .i64 f) ∧ Blk w' bw 31 [.int .u32 u] ∧ Kq [bw] w w' := by
 subst ht htk
 have HB : Hid (Below w.heap.size w (w.alloc (.cells #[.int .i64 i, .pointer (some q), .func (.func fn) #[] cs] 197))) := Lib.hid ((Below.refl _ _).alloc (Nat.le_refl _) _)
 have HE := Lib.hid (entry_any (b := b) (s := s) (m := m) (n := n) (S := S) (L := L) (D := D) p i u _ hi rfl hu _ (hP.more HB.out))
 rw [show (if hasT n L p = true then 0 else 3 : Int) = f from hf] at HE
 have hv1 := hv.more HB.out
 have hp1 := hp.more HB.out
 have cv : (w.alloc (.cells #[.int .i64 i, .pointer (some q), .func (.func fn) #[] cs] 197)).cell? ⟨bv, 0, none⟩ = some (.pointer (some ⟨b, 0, none⟩)) := hv1.cell rfl
 have cp : (w.alloc (.cells #[.int .i64 i, .pointer (some q), .func (.func fn) #[] cs] 197)).cell? ⟨bp, 0, none⟩ = some (.int .i64 p) := hp1.cell rfl
 have cv0 : w.cell? ⟨bv, 0, none⟩ = some (.pointer (some ⟨b, 0, none⟩)) := hv.cell rfl
 have cp0 : w.cell? ⟨bp, 0, none⟩ = some (.int .i64 p) := hp.cell rfl
 have lv := hv.lt
 have lp := hp.lt
 have HW := Lib.hid hw
 clear hv hp hv1 hp1 hP hw hf hu
 go_enter Tryz.func107, Tryz.ntmps107
 go_wp2_with fail
 refine HE.out.mono ?_
 rintro e w1 ⟨rfl, hb1⟩
 have hbb := HB.out.trans (hb1.mono HB.out.size)
 have hw1 := HW.out.more hbb
 have HF := Lib.hid (hw1.set 0 (.int .u32 u))
 have HK := Lib.hid ((Kq.of_below (T := [bw]) hbb).setCell bw 0 (.int .u32 u) (.inl (by simp)))
 have fz := hw1.frozen 0
 have hlt := hw1.lt
 have c0 : w1.cell? ⟨bw, 0, none⟩ = some u0 := hw1.cell rfl
 clear hb1 hbb hw1 HE cv cp cv0 cp0 lv lp
 go_wp2
 go_ret
 exact ⟨rfl, HF.out, HK.out⟩

/-- the second step, for any function that takes it -/
theorem step_take (p f : Int) (i o u fn : Nat) (cs : Array Value) (t : Stp) (hen : ∀ (args : Array Value) (w : World), (callFunc fn args).run Tryz.prog w = .ok (.enter fn args) w)
  (hs : Blk w bs 114 t.cs) (hp : Blk w bp 3 [.int .i64 p]) (hw : Blk w bw 31 [.int .u32 u]) (h1 : bs ≠ bp) (h2 : bs ≠ bw) (v0 : Int) (ho : t.cs[o]? = some (.int .i64 v0))
  (Q : World → Prop) (hC : ∀ W, Blk W bs 114 (t.cs.set o (.int .i64 p)) → Blk W bp 3 [.int .i64 p] → Kq [bs] w W → Calls Tryz.prog fn (#[.int .u32 u] ++ cs) W fun e w' => e = .returned (.int .i64 f) ∧ Q w') :
  Calls Tryz.prog 109 #[.agg #[.int .i64 i, .pointer (some ⟨bs, o, none⟩), .func (.func fn) #[] cs], .pointer (some ⟨bp, 0, none⟩), .pointer (some ⟨bw, 0, none⟩)] w fun e w' => e = .returned (.int .i64 f) ∧ Q w' := by
 obtain ⟨W1, hW1⟩ : ∃ W1, W1 = w.alloc (.cells #[.int .i64 i, .pointer (some ⟨bs, o, none⟩), .func (.func fn) #[] cs] 197) := ⟨_, rfl⟩
 have hB : Below w.heap.size w W1 := by rw [hW1]; exact (Below.refl _ _).alloc (Nat.le_refl _) _
 have hT : Blk W1 w.heap.size 197 [.int .i64 i, .pointer (some ⟨bs, o, none⟩), .func (.func fn) #[] cs] := by rw [hW1]; exact Blk.new w _ _
 have hs1 := hs.more hB
 have hp1 := hp.more hB
 have hw1 := hw.more hB
 have k1 := (Kq.of_below (T := [bs]) hB).setCell bs o (.int .i64 p) (.inl (by simp))
 have hC2 := hC (W1.setCell ⟨bs, o, none⟩ (.int .i64 p)) (hs1.set o _) (hp.kq k1 (by simp; omega)) k1
 have HC := Lib.hid hC2
 have a0 : W1.cell? ⟨w.heap.size, 1, none⟩ = some (.pointer (some ⟨bs, o, none⟩)) := hT.cell rfl
 have cp : W1.cell? ⟨bp, 0, none⟩ = some (.int .i64 p) := hp1.cell rfl
 have fz := hs1.frozen o
 have lb := hs1.lt
 have cs0 := hs1.cell ho
 have lp := hp1.lt
 have lw := hw1.lt
 have lt0 := hT.lt
 have H1 := Lib.hid h1
 have b2 : (W1.setCell ⟨bs, o, none⟩ (.int .i64 p)).cell? ⟨w.heap.size, 2, none⟩ = some (.func (.func fn) #[] cs) := by
  have := hs.lt
  exact (hT.kq ((Kq.refl [bs] W1).setCell bs o (.int .i64 p) (.inl (by simp))) (by simp; omega)).cell rfl
 have b3 : (W1.setCell ⟨bs, o, none⟩ (.int .i64 p)).cell? ⟨bw, 0, none⟩ = some (.int .u32 u) := (hw.kq k1 (by simp; omega)).cell rfl
 obtain ⟨W2, hW2⟩ : ∃ W2, W2 = W1.setCell ⟨bs, o, none⟩ (.int .i64 p) := ⟨_, rfl⟩
 have HW1 := Lib.hid hW1
 have HW2 := Lib.hid hW2
 have l2 : w.heap.size < (W1.setCell ⟨bs, o, none⟩ (.int .i64 p)).heap.size := Nat.lt_of_lt_of_le lt0 (by simp)
 have l3 : bw < (W1.setCell ⟨bs, o, none⟩ (.int .i64 p)).heap.size := Nat.lt_of_lt_of_le lw (by simp)
 rw [← hW2] at HC b2 b3 l2 l3
 clear hW1 hW2 hs hp hw hC hC2 hs1 hp1 hw1 k1 hT hB h1 h2
 go_enter Tryz.func109, Tryz.ntmps109
 go_upto_region 1 with fail
 rw [← HW1.out]
 go_upto_region 2 with fail
 rw [← HW2.out]
 clear fz lb lp lt0 a0 cp cs0
 go_wp2_with fail
 refine HC.out.mono ?_
 rintro e w1 ⟨rfl, hq⟩
 have HQ := Lib.hid hq
 go_wp2
 go_ret
 exact ⟨rfl, HQ.out⟩
end
end Go.Proofs.YteaincdeoajkeaaGreatDoor.Wa
end
section
/- Package walk: Walk of the program: its blocks, what a step leaves; an address beyond all. -/
namespace Go.Proofs.YteaincdeoajkeaaGreatDoor.Wa
open Go.RowKit Go.Shelf Ut Oc Vw
set_option maxRecDepth 100000
set_option linter.unusedVariables false
set_option maxHeartbeats 4000000

def stz : Stp := ⟨false, 0, 0, 0, 0, 0⟩
theorem step_run (w : World) : Hid (∀ (ρ : Operand → Value) (o : Oper), o.op = .alloc 114 → ∀ n, w.heap.size = n → (execOp ρ o).run Tryz.prog w = .ok (.value (.pointer (some ⟨n, 0, none⟩))) (w.alloc (.cells stz.cs.toArray 114))) := Lib.hid fun ρ o ho n hn => by
 subst hn
 unfold execOp
 rw [ho]
 kernel_rfl
theorem size_stp (t : Stp) : (Tryz.prog.info? 114).map (·.size) = some t.cs.toArray.size := by kernel_rfl
theorem one_stp (t : Stp) : t.cs.toArray.all (·.oneCell') = true := by kernel_rfl

/-- the blocks that Walk makes ahead of all -/
theorem walk_new (a : Option Addr) (w : World) : ∃ V, V = (((w.alloc (.cells #[.pointer a] 25)).alloc (.cells #[.bool false, .int .i64 0, .int .i64 0, .int .i64 0, .int .i64 0, .int .i64 0] 114)).alloc (.cells stz.cs.toArray 114)).setRow (w.heap.size + 2) st0.cs.toArray ∧
  Below w.heap.size w V ∧ V.heap.size = w.heap.size + 3 ∧ Blk V w.heap.size 25 [.pointer a] ∧ Blk V (w.heap.size + 1) 114 stz.cs ∧ Blk V (w.heap.size + 2) 114 st0.cs := by
 refine ⟨_, rfl, ?_, ?_, ?_, ?_, ?_⟩
 ·exact below_setRow ((((Below.refl _ _).alloc (Nat.le_refl _) _).alloc (by simp) _).alloc (by simp; omega) _) (by omega) _
 ·simp [setRow_size]
 ·refine Blk.of_block ?_ (setRow_other _ _ _ _ (by omega))
  exact ((Blk.new w _ [.pointer a]).more ((Below.refl _ _).alloc (Nat.le_refl _) _)).more ((Below.refl _ _).alloc (Nat.le_refl _) _)
 ·refine Blk.of_block ?_ (setRow_other _ _ _ _ (by omega))
  have := (Blk.new (w.alloc (.cells #[.pointer a] 25)) 114 stz.cs).more ((Below.refl _ _).alloc (Nat.le_refl _) (.cells stz.cs.toArray 114))
  rwa [World.size_alloc] at this
 ·have := Blk.new ((w.alloc (.cells #[.pointer a] 25)).alloc (.cells #[.bool false, .int .i64 0, .int .i64 0, .int .i64 0, .int .i64 0, .int .i64 0] 114)) 114 stz.cs
  rw [World.size_alloc, World.size_alloc] at this
  exact this.row _

theorem walk_far (a : Option Addr) (p z : Int) (h0 : 16384 ≤ z) (h1 : z < 4294967296) (w : World) :
  Calls Tryz.prog 69 #[.pointer a, .int .i64 p, .int .u32 z] w fun e w' => e = .returned (Stp.v ⟨false, 0, 0, 2, -1, -1⟩) ∧ Below w.heap.size w w' := by
 have HR2 := step_run ((w.alloc (.cells #[.pointer a] 25)).alloc (.cells #[.bool false, .int .i64 0, .int .i64 0, .int .i64 0, .int .i64 0, .int .i64 0] 114))
 have HN2 : Hid (Blk (((w.alloc (.cells #[.pointer a] 25)).alloc (.cells #[.bool false, .int .i64 0, .int .i64 0, .int .i64 0, .int .i64 0, .int .i64 0] 114)).alloc (.cells stz.cs.toArray 114)) (w.heap.size + 2) 114 stz.cs) := Lib.hid (by
  have := Blk.new ((w.alloc (.cells #[.pointer a] 25)).alloc (.cells #[.bool false, .int .i64 0, .int .i64 0, .int .i64 0, .int .i64 0, .int .i64 0] 114)) 114 stz.cs
  rwa [World.size_alloc, World.size_alloc] at this)
 obtain ⟨V, hV, hB, hs, hv, hr, hn⟩ := walk_new a w
 have HV := Lib.hid hV
 have HR := Lib.hid hr
 have HN := Lib.hid hn
 have HBV := Lib.hid hB
 clear hV hB hs hv hr hn
 go_enter Tryz.func69, Tryz.ntmps69
 generalize hQQ : bodyPost _ _ _ = QQ
 have HQQ := Lib.hid hQQ
 clear hQQ
 go_upto_region 1 with fail
 go_step3
 go_upto_region 1 with fail
 refine wp_region_lit ?_
 refine wpList_buildTo rfl 114 _ rfl _ rfl st0.cs.toArray (by kernel_rfl) ?_
 refine Great.wpList_allocTo rfl (some 7) rfl (.pointer (some ⟨w.heap.size + 2, 0, none⟩)) (.cells stz.cs.toArray 114) (HR2.out _ _ rfl _ (by simp)) ?_
 refine wpList_store_rowTo rfl 114 _ _ rfl rfl (w.heap.size + 2) st0.cs.toArray (by kernel_rfl) (by kernel_rfl) 114 stz.cs.toArray HN2.out (size_stp _) rfl (one_stp _) ?_
 rw [show World.setRow _ (w.heap.size + 2) st0.cs.toArray = V from HV.out.symm]
 clear HR2 HN2 HV
 have f0 := HN.out.frozen 3
 have c0 : V.cell? ⟨w.heap.size + 2, 3, none⟩ = some (.int .i64 0) := HN.out.cell rfl
 have l0 := HN.out.lt
 simp only [Act.put, List.setIfInBounds_toArray, List.set_cons_succ, List.set_cons_zero]
 go_upto_region 4 with fail
 have HN3 : Hid (Blk (V.setCell ⟨w.heap.size + 2, 3, none⟩ (.int .i64 2)) (w.heap.size + 2) 114 (Stp.cs ⟨false, 0, 0, 2, -1, -1⟩)) := Lib.hid (HN.out.set 3 (.int .i64 2))
 have HR3 : Hid (Blk (V.setCell ⟨w.heap.size + 2, 3, none⟩ (.int .i64 2)) (w.heap.size + 1) 114 stz.cs) := Lib.hid (HR.out.of_block (Below.heap_setCell _ _ _ _ (by simp)))
 have HB3 : Hid (Below w.heap.size w (V.setCell ⟨w.heap.size + 2, 3, none⟩ (.int .i64 2))) := Lib.hid (HBV.out.setCell (p := ⟨w.heap.size + 2, 3, none⟩) (by simp) _)
 clear f0 c0 l0 HN HR HBV
 generalize V.setCell ⟨w.heap.size + 2, 3, none⟩ (.int .i64 2) = X at HN3 HR3 HB3 ⊢
 refine wp_region_lit ?_
 refine wpList_load_row rfl 114 _ rfl (w.heap.size + 2) rfl 114 (Stp.cs ⟨false, 0, 0, 2, -1, -1⟩).toArray (0, 0) _ HN3.out Tryz.underlying114 rfl (size_stp _) ?_
 refine wpList_store_rowTo rfl 114 _ _ rfl rfl (w.heap.size + 1) (Stp.cs ⟨false, 0, 0, 2, -1, -1⟩).toArray (by kernel_rfl) (by kernel_rfl) 114 stz.cs.toArray HR3.out (size_stp _) rfl (one_stp _) ?_
 have HR4 := Lib.hid (HR3.out.row (Stp.cs ⟨false, 0, 0, 2, -1, -1⟩))
 have HB4 := Lib.hid (below_setRow HB3.out (Nat.le_succ w.heap.size) (Stp.cs ⟨false, 0, 0, 2, -1, -1⟩).toArray)
 generalize World.setRow _ (w.heap.size + 1) (Stp.cs ⟨false, 0, 0, 2, -1, -1⟩).toArray = Y at HR4 HB4 ⊢
 simp only [Act.put, List.setIfInBounds_toArray, List.set_cons_succ, List.set_cons_zero]
 go_wp2
 rw [Exit.noGoto_ret, ← HQQ.out]
 exact bodyPost_ret (v := Stp.v ⟨false, 0, 0, 2, -1, -1⟩) (results_cell_row Tryz.results69 _ _ _ _ _ _ _ rfl HR4.out Tryz.underlying114 rfl (size_stp _)) rfl ⟨rfl, HB4.out⟩

end Go.Proofs.YteaincdeoajkeaaGreatDoor.Wa
end
