/- Several texts in one: Bh Zf Zh Im Io -/
import Derived.Test.YteaincdeoajkeaaGreatDoorZ19
import Derived.Test.YteaincdeoajkeaaGreatDoorZ20
import Derived.Test.YteaincdeoajkeaaGreatDoorZ21
import Derived.Test.YteaincdeoajkeaaGreatDoorZ17
import Derived.Test.YteaincdeoajkeaaGreatDoorZ23
section
/- Package pte: the document's Table and Leaf. -/
namespace Go.Proofs.YteaincdeoajkeaaGreatDoor.Pe
open Go.RowKit Ut
set_option linter.unusedVariables false
set_option maxRecDepth 100000
set_option maxHeartbeats 4000000

theorem refTable_fault (x : Nat) (hx : x < 4294967296) (f : Int) (hf : getF x = f) (h0 : ¬ f = 0) (w : World) :
  Calls Tryz.prog 82 #[.int .u32 x] w fun e w' => e = .returned (.tuple #[.int .i64 0, .int .i64 f]) ∧ Below w.heap.size w w' := by
 have G := Lib.hid (refGet_any x hx f hf)
 clear hf
 generalize oF f = o at G
 generalize rF f x = r at G
 generalize gF f x = g at G
 go_enter Tryz.func82, Tryz.ntmps82
 go_wp2_with fail
 refine (G.out _).mono ?_
 rintro e w1 ⟨rfl, hb1⟩
 have HB1 := Lib.hid (hb1.trans ((pte_below o r g w1).mono hb1.size))
 clear hb1
 go_wp2
 go_ret2
 exact ⟨rfl, HB1.out⟩
theorem refTable_by (x : Nat) (r : Nat) (g : Int) (G : Hid (∀ w, Calls Tryz.prog 123 #[.int .u32 x] w fun e w' => e = .returned (.tuple #[pteV true r g, .int .i64 0]) ∧ Below w.heap.size w w')) (w : World) :
  Calls Tryz.prog 82 #[.int .u32 x] w fun e w' => e = .returned (.tuple #[.int .i64 (if r = 0 then g else 0), .int .i64 (if r = 0 then 0 else 5)]) ∧ Below w.heap.size w w' := by
 by_cases h0 : r = 0
 ·subst h0
  go_enter Tryz.func82, Tryz.ntmps82
  go_wp2_with fail
  refine (G.out _).mono ?_
  rintro e w1 ⟨rfl, hb1⟩
  have HB1 := Lib.hid (hb1.trans ((pte_below true (0 : Nat) g w1).mono hb1.size))
  clear hb1
  go_wp2
  go_ret2
  exact ⟨rfl, HB1.out⟩
 ·rw [if_neg h0, if_neg h0]
  have h1 : ¬ (r : Int) = 0 := by omega
  go_enter Tryz.func82, Tryz.ntmps82
  go_wp2_with fail
  refine (G.out _).mono ?_
  rintro e w1 ⟨rfl, hb1⟩
  have HB1 := Lib.hid (hb1.trans ((pte_below true r g w1).mono hb1.size))
  clear hb1
  go_wp2
  go_ret2
  exact ⟨rfl, HB1.out⟩
theorem refTable_any (x : Nat) (hx : x < 4294967296) (z f : Int) (hz : gF (tabF x) x = z) (hf : tabF x = f) (w : World) :
  Calls Tryz.prog 82 #[.int .u32 x] w fun e w' => e = .returned (.tuple #[.int .i64 z, .int .i64 f]) ∧ Below w.heap.size w w' := by
 subst hz hf
 unfold tabF
 by_cases h : getF x = 0
 ·rw [if_pos h]
  have H := refTable_by x (rOf x) _ (Lib.hid (refGet_any x hx 0 h)) w
  by_cases h0 : rOf x = 0
  ·rw [if_pos h0]; rw [if_pos h0, if_pos h0] at H; exact H
  ·rw [if_neg h0]; rw [if_neg h0, if_neg h0] at H; exact H
 ·rw [if_neg h, show gF (getF x) x = 0 from if_neg h]
  exact refTable_fault x hx _ rfl h w

theorem refLeaf_fault (x : Nat) (hx : x < 4294967296) (f : Int) (hf : getF x = f) (h0 : ¬ f = 0) (w : World) :
  Calls Tryz.prog 83 #[.int .u32 x] w fun e w' => e = .returned (.tuple #[pteV false 0 0, .int .i64 f]) ∧ Below w.heap.size w w' := by
 have G := Lib.hid (refGet_any x hx f hf)
 rw [show oF f = false from decide_eq_false h0, show gF f x = 0 from if_neg h0, show rF f x = 0 from if_neg h0] at G
 have HB0 := Lib.hid (pte_below false 0 0 w)
 have HP0 := Lib.hid (pte_at false 0 0 w)
 have HBW : Hid (∀ (W : World) (o : Obj), Below w.heap.size w W → Below w.heap.size w (W.alloc o)) := Lib.hid fun W o h => h.alloc h.size _
 have HSet : Hid (∀ (W : World) (j : Nat) (v : Value), Below w.heap.size w W → Below w.heap.size w (W.setCell ⟨w.heap.size, j, none⟩ v)) := Lib.hid fun W j v h => h.setCell (p := ⟨w.heap.size, j, none⟩) (by simp) _
 clear hf
 go_enter Tryz.func83, Tryz.ntmps83
 go_wp2_with fail
 refine (G.out _).mono ?_
 rintro e w1 ⟨rfl, hb1⟩
 have hq0 := HP0.out.more hb1
 obtain ⟨r0, r1, r2⟩ := hq0.cells
 have f0 := hq0.frozen 0
 have f1 := hq0.frozen 1
 have f2 := hq0.frozen 2
 have hz0 := hq0.lt
 have HB1 := Lib.hid (HB0.out.trans (hb1.mono HB0.out.size))
 clear hb1 hq0
 go_wp2
 exact bodyPost_ret (v := .tuple #[pteV false 0 0, .int .i64 f]) (by simp [results, Tryz.results83, go_sem, r0, r1, r2, hz0]) rfl ⟨rfl, by (repeat (first | refine HBW.out _ _ ?_ | refine HSet.out _ _ _ ?_)); exact HB1.out⟩
theorem refLeaf_by (x : Nat) (r : Nat) (g : Int) (G : Hid (∀ w, Calls Tryz.prog 123 #[.int .u32 x] w fun e w' => e = .returned (.tuple #[pteV true r g, .int .i64 0]) ∧ Below w.heap.size w w')) (w : World) :
  Calls Tryz.prog 83 #[.int .u32 x] w fun e w' => e = .returned (.tuple #[if r % 8 = 0 then pteV false 0 0 else pteV true r g, .int .i64 (if r % 8 = 0 then 5 else 0)]) ∧ Below w.heap.size w w' := by
 have HB0 := Lib.hid (pte_below false 0 0 w)
 have HP0 := Lib.hid (pte_at false 0 0 w)
 have HBW : Hid (∀ (W : World) (o : Obj), Below w.heap.size w W → Below w.heap.size w (W.alloc o)) := Lib.hid fun W o h => h.alloc h.size _
 have HSet : Hid (∀ (W : World) (j : Nat) (v : Value), Below w.heap.size w W → Below w.heap.size w (W.setCell ⟨w.heap.size, j, none⟩ v)) := Lib.hid fun W j v h => h.setCell (p := ⟨w.heap.size, j, none⟩) (by simp) _
 by_cases h0 : r % 8 = 0
 ·rw [if_pos h0, if_pos h0]
  have h1 : (r : Int) % 8 = 0 := by omega
  go_enter Tryz.func83, Tryz.ntmps83
  go_wp2_with fail
  refine (G.out _).mono ?_
  rintro e w1 ⟨rfl, hb1⟩
  have hq0 := HP0.out.more hb1
  obtain ⟨r0, r1, r2⟩ := hq0.cells
  have f0 := hq0.frozen 0
  have f1 := hq0.frozen 1
  have f2 := hq0.frozen 2
  have hz0 := hq0.lt
  have HB1 := Lib.hid (HB0.out.trans (hb1.mono HB0.out.size))
  clear hb1 hq0
  go_wp2
  exact bodyPost_ret (v := .tuple #[pteV false 0 0, .int .i64 5]) (by simp [results, Tryz.results83, go_sem, r0, r1, r2, hz0]) rfl ⟨rfl, by (repeat (first | refine HBW.out _ _ ?_ | refine HSet.out _ _ _ ?_)); exact HB1.out⟩
 ·rw [if_neg h0, if_neg h0]
  have h1 : ¬ (r : Int) % 8 = 0 := by omega
  go_enter Tryz.func83, Tryz.ntmps83
  go_wp2_with fail
  refine (G.out _).mono ?_
  rintro e w1 ⟨rfl, hb1⟩
  have hq0 := HP0.out.more hb1
  obtain ⟨r0, r1, r2⟩ := hq0.cells
  have f0 := hq0.frozen 0
  have f1 := hq0.frozen 1
  have f2 := hq0.frozen 2
  have hz0 := hq0.lt
  have HB1 := Lib.hid (HB0.out.trans (hb1.mono HB0.out.size))
  clear hb1 hq0
  go_wp2
  exact bodyPost_ret (v := .tuple #[pteV true r g, .int .i64 0]) (by simp [results, Tryz.results83, go_sem, r0, r1, r2, hz0]) rfl ⟨rfl, by (repeat (first | refine HBW.out _ _ ?_ | refine HSet.out _ _ _ ?_)); exact HB1.out⟩
theorem refLeaf_any (x : Nat) (hx : x < 4294967296) (f : Int) (hf : leafF x = f) (w : World) :
  Calls Tryz.prog 83 #[.int .u32 x] w fun e w' => e = .returned (.tuple #[pteV (oF f) (rF f x) (gF f x), .int .i64 f]) ∧ Below w.heap.size w w' := by
 subst hf
 unfold leafF
 by_cases h : getF x = 0
 ·rw [if_pos h]
  have H := refLeaf_by x (rOf x) _ (Lib.hid (refGet_any x hx 0 h)) w
  by_cases h0 : rOf x % 8 = 0
  ·rw [if_pos h0]; rw [if_pos h0, if_pos h0] at H; exact H
  ·rw [if_neg h0]; rw [if_neg h0, if_neg h0] at H; exact H
 ·rw [if_neg h, show oF (getF x) = false from decide_eq_false h, show gF (getF x) x = 0 from if_neg h, show rF (getF x) x = 0 from if_neg h]
  exact refLeaf_fault x hx _ rfl h w
end Go.Proofs.YteaincdeoajkeaaGreatDoor.Pe
end
section
/- Package walk: the document's Walk. -/
namespace Go.Proofs.YteaincdeoajkeaaGreatDoor.Wa
open Go.RowKit Go.Shelf Ut Oc Vw
set_option maxRecDepth 100000
set_option linter.unusedVariables false
set_option maxHeartbeats 4000000

/-- the document's walk stands at t -/
structure RS (w W : World) (t : Stp) : Prop where
 b : Below w.heap.size w W
 r : Blk W w.heap.size 114 stz.cs
 s : Blk W (w.heap.size + 1) 114 t.cs
theorem RS.more {w W W' : World} {t : Stp} (h : RS w W t) (hb : Below W.heap.size W W') : RS w W' t := ⟨h.b.trans (hb.mono h.b.size), h.r.more hb, h.s.more hb⟩
theorem RS.set {w W : World} {t : Stp} (h : RS w W t) (j : Nat) (v : Value) (t' : Stp) (e : t.cs.set j v = t'.cs) : RS w (W.setCell ⟨w.heap.size + 1, j, none⟩ v) t' :=
 ⟨h.b.setCell (p := ⟨w.heap.size + 1, j, none⟩) (by simp) _, h.r.of_block (Below.heap_setCell _ _ _ _ (by simp)), e ▸ h.s.set j v⟩
theorem ref_new (w : World) : ∃ V, V = ((w.alloc (.cells #[.bool false, .int .i64 0, .int .i64 0, .int .i64 0, .int .i64 0, .int .i64 0] 114)).alloc (.cells stz.cs.toArray 114)).setRow (w.heap.size + 1) st0.cs.toArray ∧ RS w V st0 := by
 refine ⟨_, rfl, ?_, ?_, ?_⟩
 ·exact below_setRow (((Below.refl _ _).alloc (Nat.le_refl _) _).alloc (by simp) _) (by omega) _
 ·refine Blk.of_block ?_ (setRow_other _ _ _ _ (by omega))
  exact (Blk.new w _ [.bool false, .int .i64 0, .int .i64 0, .int .i64 0, .int .i64 0, .int .i64 0]).more ((Below.refl _ _).alloc (Nat.le_refl _) _)
 ·have := Blk.new (w.alloc (.cells #[.bool false, .int .i64 0, .int .i64 0, .int .i64 0, .int .i64 0, .int .i64 0] 114)) 114 stz.cs
  rw [World.size_alloc] at this
  exact this.row _

theorem refWalk_far (a : Option Addr) (p z : Int) (R : Stp) (h0 : 16384 ≤ z) (h1 : z < 4294967296) (hR : R = ⟨false, 0, 0, 2, -1, -1⟩) (w : World) :
  Calls Tryz.prog 43 #[.pointer a, .int .i64 p, .int .u32 z] w fun e w' => e = .returned R.v ∧ Below w.heap.size w w' := by
 have HRR := Lib.hid hR
 clear hR
 have HR2 := step_run (w.alloc (.cells #[.bool false, .int .i64 0, .int .i64 0, .int .i64 0, .int .i64 0, .int .i64 0] 114))
 have HN2 : Hid (Blk ((w.alloc (.cells #[.bool false, .int .i64 0, .int .i64 0, .int .i64 0, .int .i64 0, .int .i64 0] 114)).alloc (.cells stz.cs.toArray 114)) (w.heap.size + 1) 114 stz.cs) := Lib.hid (by
  have := Blk.new (w.alloc (.cells #[.bool false, .int .i64 0, .int .i64 0, .int .i64 0, .int .i64 0, .int .i64 0] 114)) 114 stz.cs
  rwa [World.size_alloc] at this)
 obtain ⟨V, hV, hS⟩ := ref_new w
 have HV := Lib.hid hV
 have HS := Lib.hid hS
 clear hV hS
 go_enter Tryz.func43, Tryz.ntmps43
 generalize hQQ : bodyPost _ _ _ = QQ
 have HQQ := Lib.hid hQQ
 clear hQQ
 go_upto_region 1 with fail
 refine wp_region_lit ?_
 refine wpList_buildTo rfl 114 _ rfl _ rfl st0.cs.toArray (by kernel_rfl) ?_
 refine Great.wpList_allocTo rfl (some 7) rfl (.pointer (some ⟨w.heap.size + 1, 0, none⟩)) (.cells stz.cs.toArray 114) (HR2.out _ _ rfl _ (by simp)) ?_
 refine wpList_store_rowTo rfl 114 _ _ rfl rfl (w.heap.size + 1) st0.cs.toArray (by kernel_rfl) (by kernel_rfl) 114 stz.cs.toArray HN2.out (size_stp _) rfl (one_stp _) ?_
 rw [show World.setRow _ (w.heap.size + 1) st0.cs.toArray = V from HV.out.symm]
 clear HR2 HN2 HV
 simp only [Act.put, List.setIfInBounds_toArray, List.set_cons_succ, List.set_cons_zero]
 have f3 := HS.out.s.frozen 3
 have c3 := HS.out.s.cell (j := 3) rfl
 have l0 := HS.out.s.lt
 go_upto_region 4 with fail
 have HX := Lib.hid (HS.out.set 3 (.int .i64 2) ⟨false, 0, 0, 2, -1, -1⟩ rfl)
 generalize World.setCell _ ⟨w.heap.size + 1, 3, none⟩ _ = X at HX ⊢
 refine wp_region_lit ?_
 refine wpList_load_row rfl 114 _ rfl (w.heap.size + 1) rfl 114 (Stp.cs ⟨false, 0, 0, 2, -1, -1⟩).toArray (0, 0) _ HX.out.s Tryz.underlying114 rfl (size_stp _) ?_
 refine wpList_store_rowTo rfl 114 _ _ rfl rfl w.heap.size (Stp.cs ⟨false, 0, 0, 2, -1, -1⟩).toArray (by kernel_rfl) (by kernel_rfl) 114 stz.cs.toArray HX.out.r (size_stp _) rfl (one_stp _) ?_
 have HR4 := Lib.hid (HX.out.r.row (Stp.cs ⟨false, 0, 0, 2, -1, -1⟩))
 have HB4 := Lib.hid (below_setRow HX.out.b (Nat.le_refl w.heap.size) (Stp.cs ⟨false, 0, 0, 2, -1, -1⟩).toArray)
 generalize World.setRow _ w.heap.size (Stp.cs ⟨false, 0, 0, 2, -1, -1⟩).toArray = Y at HR4 HB4 ⊢
 simp only [Act.put, List.setIfInBounds_toArray, List.set_cons_succ, List.set_cons_zero]
 go_wp2
 rw [← HQQ.out, HRR.out]
 exact bodyPost_ret (v := Stp.v ⟨false, 0, 0, 2, -1, -1⟩) (results_cell_row Tryz.results43 _ _ _ _ _ _ _ rfl HR4.out Tryz.underlying114 rfl (size_stp _)) rfl ⟨rfl, HB4.out⟩

section
variable {g bt B q n gv cap : Nat} {S : List Int} {L : List Gm.Pl} {D : List Bool}
theorem refWalk_in (p z : Int) (R : Stp) (h0 : 0 ≤ z) (h1 : z < 16384) (hR : walkF n S L p z = R) (w : World) (hP : DV w g bt B q n gv cap S L D) :
  Calls Tryz.prog 43 #[.pointer (some ⟨g, 0, none⟩), .int .i64 p, .int .u32 z] w fun e w' => e = .returned R.v ∧ Below w.heap.size w w' := by
 have hs1 := hP.s1
 obtain ⟨x, hx⟩ : ∃ x, rootW n S L p z = x := ⟨_, rfl⟩
 obtain ⟨t1, ht1⟩ : ∃ f, hasT n L p = f := ⟨_, rfl⟩
 obtain ⟨f2, hf2⟩ : ∃ f, rootF n S L p z = f := ⟨_, rfl⟩
 obtain ⟨T, hT⟩ : ∃ f, rootT n S L p z = f := ⟨_, rfl⟩
 obtain ⟨y, hy⟩ : ∃ x, leafW n S L p z = x := ⟨_, rfl⟩
 obtain ⟨f4, hf4⟩ : ∃ f, leafE n S L p z = f := ⟨_, rfl⟩
 obtain ⟨t3, ht3⟩ : ∃ f, hasT n L T = f := ⟨_, rfl⟩
 unfold walkF st1 st2 st3 st4 noneF at hR
 rw [if_neg (by omega), hT, ht1, hf2, ht3, hy, hf4] at hR
 have hxl : x < 4294967296 := by rw [← hx]; exact wordT_lt hs1 _ _
 have hyl : y < 4294967296 := by rw [← hy]; exact wordT_lt hs1 _ _
 unfold rootF at hf2
 rw [hx] at hf2
 unfold rootT at hT
 rw [hx, show rootF n S L p z = Pe.tabF x by unfold rootF; rw [hx]] at hT
 unfold leafE at hf4
 rw [hy] at hf4
 unfold rootW at hx
 unfold leafW at hy
 rw [show rootT n S L p z = T by unfold rootT rootF rootW; rw [hx]; exact hT] at hy
 have C1 : Hid (∀ W, Below w.heap.size w W → Calls Tryz.prog 81 #[.pointer (some ⟨g, 0, none⟩), .int .i64 p, .int .u32 (z / 1024)] W fun e w' => e = .returned (.tuple #[.int .u32 x, .bool t1]) ∧ Below W.heap.size W w') := Lib.hid fun W hW => by
  have := refTab_any p (z / 1024).toNat x t1 (by omega) ht1 hx W (hP.more hW)
  rwa [show (((z / 1024).toNat : Nat) : Int) = z / 1024 by omega] at this
 have C2 : Hid (∀ W, Calls Tryz.prog 82 #[.int .u32 x] W fun e w' => e = .returned (.tuple #[.int .i64 T, .int .i64 f2]) ∧ Below W.heap.size W w') := Lib.hid fun W => Pe.refTable_any x hxl T f2 hT hf2 W
 have C3 : Hid (∀ W, Below w.heap.size w W → Calls Tryz.prog 81 #[.pointer (some ⟨g, 0, none⟩), .int .i64 T, .int .u32 (z / 64 % 16)] W fun e w' => e = .returned (.tuple #[.int .u32 y, .bool t3]) ∧ Below W.heap.size W w') := Lib.hid fun W hW => by
  have := refTab_any T (z / 64 % 16).toNat y t3 (by omega) ht3 hy W (hP.more hW)
  rwa [show (((z / 64 % 16).toNat : Nat) : Int) = z / 64 % 16 by omega] at this
 have C4 : Hid (∀ W, Calls Tryz.prog 83 #[.int .u32 y] W fun e w' => e = .returned (.tuple #[Pe.pteV (Pe.oF f4) (Pe.rF f4 y) (Pe.gF f4 y), .int .i64 f4]) ∧ Below W.heap.size W w') := Lib.hid fun W => Pe.refLeaf_any y hyl f4 hf4 W
 have HR0 := Lib.hid hR.symm
 clear hP hs1 hx ht1 hf2 hT hy hf4 ht3 hR hxl hyl
 have HR2 := step_run (w.alloc (.cells #[.bool false, .int .i64 0, .int .i64 0, .int .i64 0, .int .i64 0, .int .i64 0] 114))
 have HN2 : Hid (Blk ((w.alloc (.cells #[.bool false, .int .i64 0, .int .i64 0, .int .i64 0, .int .i64 0, .int .i64 0] 114)).alloc (.cells stz.cs.toArray 114)) (w.heap.size + 1) 114 stz.cs) := Lib.hid (by
  have := Blk.new (w.alloc (.cells #[.bool false, .int .i64 0, .int .i64 0, .int .i64 0, .int .i64 0, .int .i64 0] 114)) 114 stz.cs
  rwa [World.size_alloc] at this)
 obtain ⟨V, hV, hS⟩ := ref_new w
 have HV := Lib.hid hV
 have HS := Lib.hid hS
 clear hV hS
 go_enter Tryz.func43, Tryz.ntmps43
 generalize hQQ : bodyPost _ _ _ = QQ
 have HQQ := Lib.hid hQQ
 clear hQQ
 go_upto_region 1 with fail
 refine wp_region_lit ?_
 refine wpList_buildTo rfl 114 _ rfl _ rfl st0.cs.toArray (by kernel_rfl) ?_
 refine Great.wpList_allocTo rfl (some 7) rfl (.pointer (some ⟨w.heap.size + 1, 0, none⟩)) (.cells stz.cs.toArray 114) (HR2.out _ _ rfl _ (by simp)) ?_
 refine wpList_store_rowTo rfl 114 _ _ rfl rfl (w.heap.size + 1) st0.cs.toArray (by kernel_rfl) (by kernel_rfl) 114 stz.cs.toArray HN2.out (size_stp _) rfl (one_stp _) ?_
 rw [show World.setRow _ (w.heap.size + 1) st0.cs.toArray = V from HV.out.symm]
 clear HR2 HN2 HV
 simp only [Act.put, List.setIfInBounds_toArray, List.set_cons_succ, List.set_cons_zero]
 go_wp2_with fail
 refine (C1.out V HS.out.b).mono ?_
 rintro e w1 ⟨rfl, hb1⟩
 have HS1 := Lib.hid (HS.out.more hb1)
 clear hb1 HS C1
 cases t1
 ·have HRR : Hid (R = ⟨false, 0, 0, 3, -1, -1⟩) := Lib.hid HR0.out
  clear HR0 C2 C3 C4
  have f3 := HS1.out.s.frozen 3
  have c3 := HS1.out.s.cell (j := 3) rfl
  have l0 := HS1.out.s.lt
  go_upto_region 8 with fail
  have HX := Lib.hid (HS1.out.set 3 (.int .i64 3) ⟨false, 0, 0, 3, -1, -1⟩ rfl)
  generalize World.setCell _ ⟨w.heap.size + 1, 3, none⟩ _ = X at HX ⊢
  refine wp_region_lit ?_
  refine wpList_load_row rfl 114 _ rfl (w.heap.size + 1) rfl 114 (Stp.cs ⟨false, 0, 0, 3, -1, -1⟩).toArray (0, 0) _ HX.out.s Tryz.underlying114 rfl (size_stp _) ?_
  refine wpList_store_rowTo rfl 114 _ _ rfl rfl w.heap.size (Stp.cs ⟨false, 0, 0, 3, -1, -1⟩).toArray (by kernel_rfl) (by kernel_rfl) 114 stz.cs.toArray HX.out.r (size_stp _) rfl (one_stp _) ?_
  have HR4 := Lib.hid (HX.out.r.row (Stp.cs ⟨false, 0, 0, 3, -1, -1⟩))
  have HB4 := Lib.hid (below_setRow HX.out.b (Nat.le_refl w.heap.size) (Stp.cs ⟨false, 0, 0, 3, -1, -1⟩).toArray)
  generalize World.setRow _ w.heap.size (Stp.cs ⟨false, 0, 0, 3, -1, -1⟩).toArray = Y at HR4 HB4 ⊢
  simp only [Act.put, List.setIfInBounds_toArray, List.set_cons_succ, List.set_cons_zero]
  go_wp2
  rw [← HQQ.out, HRR.out]
  exact bodyPost_ret (v := Stp.v ⟨false, 0, 0, 3, -1, -1⟩) (results_cell_row Tryz.results43 _ _ _ _ _ _ _ rfl HR4.out Tryz.underlying114 rfl (size_stp _)) rfl ⟨rfl, HB4.out⟩
 have f4_ := HS1.out.s.frozen 4
 have c4_ := HS1.out.s.cell (j := 4) rfl
 have l0 := HS1.out.s.lt
 go_upto_region 10 with fail
 have HS2 := Lib.hid (HS1.out.set 4 (.int .i64 p) ⟨false, 0, 0, 0, p, -1⟩ rfl)
 clear f4_ c4_ l0 HS1
 generalize World.setCell _ ⟨w.heap.size + 1, 4, none⟩ _ = w2 at HS2 ⊢
 go_wp2_with fail
 refine (C2.out w2).mono ?_
 rintro e w3 ⟨rfl, hb⟩
 have HS3 := Lib.hid (HS2.out.more hb)
 clear hb HS2 C2
 by_cases hz : f2 = 0
 ·have hz2 : (f2 != 0) = false := by simp [hz]
  have hR2 := HR0.out
  rw [if_neg (by simp), if_neg (by simp [hz])] at hR2
  have HR1 := Lib.hid hR2
  clear hR2 HR0
  go_wp2_with fail
  refine (C3.out w3 HS3.out.b).mono ?_
  rintro e w4 ⟨rfl, hb⟩
  have HS4 := Lib.hid (HS3.out.more hb)
  clear hb HS3 C3 hz hz2
  cases t3
  ·have HRR : Hid (R = ⟨false, 0, 0, 3, p, -1⟩) := Lib.hid HR1.out
   clear HR1 C4
   have f3 := HS4.out.s.frozen 3
   have c3 := HS4.out.s.cell (j := 3) rfl
   have l0 := HS4.out.s.lt
   go_upto_region 17 with fail
   have HX := Lib.hid (HS4.out.set 3 (.int .i64 3) ⟨false, 0, 0, 3, p, -1⟩ rfl)
   generalize World.setCell _ ⟨w.heap.size + 1, 3, none⟩ _ = X at HX ⊢
   refine wp_region_lit ?_
   refine wpList_load_row rfl 114 _ rfl (w.heap.size + 1) rfl 114 (Stp.cs ⟨false, 0, 0, 3, p, -1⟩).toArray (0, 0) _ HX.out.s Tryz.underlying114 rfl (size_stp _) ?_
   refine wpList_store_rowTo rfl 114 _ _ rfl rfl w.heap.size (Stp.cs ⟨false, 0, 0, 3, p, -1⟩).toArray (by kernel_rfl) (by kernel_rfl) 114 stz.cs.toArray HX.out.r (size_stp _) rfl (one_stp _) ?_
   have HR4 := Lib.hid (HX.out.r.row (Stp.cs ⟨false, 0, 0, 3, p, -1⟩))
   have HB4 := Lib.hid (below_setRow HX.out.b (Nat.le_refl w.heap.size) (Stp.cs ⟨false, 0, 0, 3, p, -1⟩).toArray)
   generalize World.setRow _ w.heap.size (Stp.cs ⟨false, 0, 0, 3, p, -1⟩).toArray = Y at HR4 HB4 ⊢
   simp only [Act.put, List.setIfInBounds_toArray, List.set_cons_succ, List.set_cons_zero]
   go_wp2
   rw [← HQQ.out, HRR.out]
   exact bodyPost_ret (v := Stp.v ⟨false, 0, 0, 3, p, -1⟩) (results_cell_row Tryz.results43 _ _ _ _ _ _ _ rfl HR4.out Tryz.underlying114 rfl (size_stp _)) rfl ⟨rfl, HB4.out⟩
  have HRR : Hid (R = ⟨Pe.oF f4, Pe.rF f4 y, Pe.gF f4 y, f4, p, T⟩) := Lib.hid HR1.out
  clear HR1
  generalize Pe.oF f4 = o at C4 HRR
  generalize Pe.rF f4 y = r at C4 HRR
  generalize Pe.gF f4 y = gg at C4 HRR
  have f5 := HS4.out.s.frozen 5
  have c5 := HS4.out.s.cell (j := 5) rfl
  have l0 := HS4.out.s.lt
  go_upto_region 19 with fail
  have HS5 := Lib.hid (HS4.out.set 5 (.int .i64 T) ⟨false, 0, 0, 0, p, T⟩ rfl)
  clear f5 c5 l0 HS4
  generalize World.setCell _ ⟨w.heap.size + 1, 5, none⟩ _ = w5 at HS5 ⊢
  go_wp2_with fail
  refine (C4.out w5).mono ?_
  rintro e w6 ⟨rfl, hb⟩
  have hs6 := HS5.out.more hb
  have hq6 : w.heap.size + 1 < w6.heap.size := hs6.s.lt
  have HS6 : Hid (RS w (w6.alloc (.cells #[.bool o, .int .i64 r, .int .i64 gg] 112)) ⟨false, 0, 0, 0, p, T⟩) := Lib.hid (hs6.more ((Below.refl _ _).alloc (Nat.le_refl _) _))
  have HN6 : Hid (Blk (w6.alloc (.cells #[.bool o, .int .i64 r, .int .i64 gg] 112)) w6.heap.size 112 [.bool o, .int .i64 r, .int .i64 gg]) := Lib.hid (Blk.new w6 _ _)
  clear hb HS5 C4 hs6
  go_upto_region 20 with fail
  generalize w6.alloc (.cells #[.bool o, .int .i64 r, .int .i64 gg] 112) = w7 at HS6 HN6 ⊢
  generalize w6.heap.size = pb at HN6 hq6 ⊢
  have g0 := HN6.out.cell (j := 0) rfl
  have g1 := HN6.out.cell (j := 1) rfl
  have g2 := HN6.out.cell (j := 2) rfl
  have gl := HN6.out.lt
  have f0 := HS6.out.s.frozen 0
  have c0 := HS6.out.s.cell (j := 0) rfl
  have f1 := HS6.out.s.frozen 1
  have c1 := HS6.out.s.cell (j := 1) rfl
  have f2_ := HS6.out.s.frozen 2
  have c2 := HS6.out.s.cell (j := 2) rfl
  have l0 := HS6.out.s.lt
  go_upto_region 21 with fail
  have HS7 := Lib.hid (((HS6.out.set 0 (.bool o) ⟨o, 0, 0, 0, p, T⟩ rfl).set 1 (.int .i64 r) ⟨o, r, 0, 0, p, T⟩ rfl).set 2 (.int .i64 gg) ⟨o, r, gg, 0, p, T⟩ rfl)
  clear g0 g1 g2 gl f0 c0 f1 c1 f2_ c2 l0 HS6 HN6
  generalize World.setCell _ ⟨w.heap.size + 1, 2, none⟩ _ = w8 at HS7 ⊢
  have f3 := HS7.out.s.frozen 3
  have c3 := HS7.out.s.cell (j := 3) rfl
  have l0 := HS7.out.s.lt
  go_upto_region 22 with fail
  have HX := Lib.hid (HS7.out.set 3 (.int .i64 f4) ⟨o, r, gg, f4, p, T⟩ rfl)
  generalize World.setCell _ ⟨w.heap.size + 1, 3, none⟩ _ = X at HX ⊢
  refine wp_region_lit ?_
  refine wpList_load_row rfl 114 _ rfl (w.heap.size + 1) rfl 114 (Stp.cs ⟨o, r, gg, f4, p, T⟩).toArray (0, 0) _ HX.out.s Tryz.underlying114 rfl (size_stp _) ?_
  refine wpList_store_rowTo rfl 114 _ _ rfl rfl w.heap.size (Stp.cs ⟨o, r, gg, f4, p, T⟩).toArray (by kernel_rfl) (by kernel_rfl) 114 stz.cs.toArray HX.out.r (size_stp _) rfl (one_stp _) ?_
  have HR4 := Lib.hid (HX.out.r.row (Stp.cs ⟨o, r, gg, f4, p, T⟩))
  have HB4 := Lib.hid (below_setRow HX.out.b (Nat.le_refl w.heap.size) (Stp.cs ⟨o, r, gg, f4, p, T⟩).toArray)
  generalize World.setRow _ w.heap.size (Stp.cs ⟨o, r, gg, f4, p, T⟩).toArray = Y at HR4 HB4 ⊢
  simp only [Act.put, List.setIfInBounds_toArray, List.set_cons_succ, List.set_cons_zero]
  go_wp2
  rw [← HQQ.out, HRR.out]
  exact bodyPost_ret (v := Stp.v ⟨o, r, gg, f4, p, T⟩) (results_cell_row Tryz.results43 _ _ _ _ _ _ _ rfl HR4.out Tryz.underlying114 rfl (size_stp _)) rfl ⟨rfl, HB4.out⟩
 ·have hz2 : (f2 != 0) = true := by simp [hz]
  have hR2 := HR0.out
  rw [if_neg (by simp), if_pos hz] at hR2
  have HRR := Lib.hid hR2
  clear hR2 HR0 C3 C4
  have f3 := HS3.out.s.frozen 3
  have c3 := HS3.out.s.cell (j := 3) rfl
  have l0 := HS3.out.s.lt
  go_upto_region 13 with fail
  have HX := Lib.hid (HS3.out.set 3 (.int .i64 f2) ⟨false, 0, 0, f2, p, -1⟩ rfl)
  generalize World.setCell _ ⟨w.heap.size + 1, 3, none⟩ _ = X at HX ⊢
  refine wp_region_lit ?_
  refine wpList_load_row rfl 114 _ rfl (w.heap.size + 1) rfl 114 (Stp.cs ⟨false, 0, 0, f2, p, -1⟩).toArray (0, 0) _ HX.out.s Tryz.underlying114 rfl (size_stp _) ?_
  refine wpList_store_rowTo rfl 114 _ _ rfl rfl w.heap.size (Stp.cs ⟨false, 0, 0, f2, p, -1⟩).toArray (by kernel_rfl) (by kernel_rfl) 114 stz.cs.toArray HX.out.r (size_stp _) rfl (one_stp _) ?_
  have HR4 := Lib.hid (HX.out.r.row (Stp.cs ⟨false, 0, 0, f2, p, -1⟩))
  have HB4 := Lib.hid (below_setRow HX.out.b (Nat.le_refl w.heap.size) (Stp.cs ⟨false, 0, 0, f2, p, -1⟩).toArray)
  generalize World.setRow _ w.heap.size (Stp.cs ⟨false, 0, 0, f2, p, -1⟩).toArray = Y at HR4 HB4 ⊢
  simp only [Act.put, List.setIfInBounds_toArray, List.set_cons_succ, List.set_cons_zero]
  go_wp2
  rw [← HQQ.out, HRR.out]
  exact bodyPost_ret (v := Stp.v ⟨false, 0, 0, f2, p, -1⟩) (results_cell_row Tryz.results43 _ _ _ _ _ _ _ rfl HR4.out Tryz.underlying114 rfl (size_stp _)) rfl ⟨rfl, HB4.out⟩
theorem refWalk_any (p z : Int) (R : Stp) (h0 : 0 ≤ z) (h1 : z < 4294967296) (hR : walkF n S L p z = R) (w : World) (hP : DV w g bt B q n gv cap S L D) :
  Calls Tryz.prog 43 #[.pointer (some ⟨g, 0, none⟩), .int .i64 p, .int .u32 z] w fun e w' => e = .returned R.v ∧ Below w.heap.size w w' := by
 by_cases h : z < 16384
 ·exact refWalk_in p z R h0 h hR w hP
 ·have e : R = ⟨false, 0, 0, 2, -1, -1⟩ := by
   rw [← hR]
   unfold walkF
   rw [if_pos (by omega)]
  exact refWalk_far _ p z R (by omega) h1 e w
end
end Go.Proofs.YteaincdeoajkeaaGreatDoor.Wa
end
section
/- Package walk: the document's Find. -/
namespace Go.Proofs.YteaincdeoajkeaaGreatDoor.Wa
open Go.RowKit Go.Shelf Ut Oc Vw
set_option maxRecDepth 100000
set_option linter.unusedVariables false
set_option maxHeartbeats 4000000

section
variable {g bt B q n gv cap : Nat} {S : List Int} {L : List Gm.Pl} {D : List Bool}
theorem refFind_off (rt z k c : Int) (us : Bool) (h : Int × Int × Int) (h0 : 0 ≤ z) (h1 : z < 4294967296) (hc : findF n L z 1 k = c) (hh : hitF n L z 1 k = h) (w : World) (hP : DV w g bt B q n gv cap S L D) :
  Calls Tryz.prog 10 #[.pointer (some ⟨g, 0, none⟩), .agg #[.bool false, .int .i64 rt, .bool us], .int .u32 z, .int .i64 k] w fun e w' => e = .returned (.tuple #[hitV h, .int .i64 c]) ∧ Below w.heap.size w w' := by
 have HS : Hid (FS w ((w.alloc (.cells #[.bool false, .int .i64 rt, .bool us] 30)).alloc (.cells #[.int .i64 0, .int .i64 0, .int .i64 0, .bool false] 36)) false rt us) := Lib.hid (fs_new w false rt us)
 have CF : Hid (∀ W, Below w.heap.size w W → Calls Tryz.prog 42 #[.pointer (some ⟨g, 0, none⟩), .int .u32 z, .int .i64 1, .int .i64 k] W fun e w' => e = .returned (.tuple #[hitV h, .int .i64 c]) ∧ Below W.heap.size W w') := Lib.hid fun W hW => Vw.refFind_any z 1 k c h h0 h1 hc hh W (hP.more hW)
 clear hP hc hh
 go_enter Tryz.func10, Tryz.ntmps10
 go_wp2_with fail
 refine (CF.out _ HS.out.b).mono ?_
 rintro e w1 ⟨rfl, hb1⟩
 have HS1 := Lib.hid (HS.out.more hb1)
 clear hb1 HS CF
 have q0 := HS1.out.ht
 obtain ⟨r0, r1, r2, r3⟩ := HAt.cells q0
 have f0 := q0.frozen 0
 have f1 := q0.frozen 1
 have f2 := q0.frozen 2
 have f3 := q0.frozen 3
 have hlt := q0.lt
 clear q0
 have HB9 := Lib.hid HS1.out.b
 have HSet : Hid (∀ (X : World) (j : Nat) (v : Value), Below w.heap.size w X → Below w.heap.size w (X.setCell ⟨w.heap.size + 1, j, none⟩ v)) := Lib.hid fun X j v h => h.setCell (p := ⟨w.heap.size + 1, j, none⟩) (by simp) _
 clear HS1
 obtain ⟨ha, hb, hc⟩ := h
 unfold hitV
 go_wp2
 exact bodyPost_ret (v := .tuple #[hitV (ha, hb, hc), .int .i64 c]) (by simp [results, Tryz.results10, go_sem, r0, r1, r2, r3, hitV]) rfl ⟨rfl, by (repeat (first | refine HSet.out _ _ _ ?_)); exact HB9.out⟩

theorem refFind_fault (rt z k : Int) (us : Bool) (R : Stp) (h0 : 0 ≤ z) (h1 : z < 4294967296) (hR : walkF n S L rt z = R) (hf : R.f ≠ 0) (w : World) (hP : DV w g bt B q n gv cap S L D) :
  Calls Tryz.prog 10 #[.pointer (some ⟨g, 0, none⟩), .agg #[.bool true, .int .i64 rt, .bool us], .int .u32 z, .int .i64 k] w fun e w' => e = .returned (.tuple #[hitV (0, 0, 0), .int .i64 R.f]) ∧ Below w.heap.size w w' := by
 have HS : Hid (FS w ((w.alloc (.cells #[.bool true, .int .i64 rt, .bool us] 30)).alloc (.cells #[.int .i64 0, .int .i64 0, .int .i64 0, .bool false] 36)) true rt us) := Lib.hid (fs_new w true rt us)
 have CW : Hid (∀ W, Below w.heap.size w W → Calls Tryz.prog 43 #[.pointer (some ⟨g, 0, none⟩), .int .i64 rt, .int .u32 z] W fun e w' => e = .returned R.v ∧ Below W.heap.size W w') := Lib.hid fun W hW => refWalk_any rt z R h0 h1 hR W (hP.more hW)
 clear hP hR
 go_enter Tryz.func10, Tryz.ntmps10
 go_wp2_with fail
 refine (CW.out _ HS.out.b).mono ?_
 rintro e w1 ⟨rfl, hb1⟩
 have HS1 := Lib.hid (HS.out.more hb1)
 have HR2 := step_run w1
 have HN1 : Hid (Blk (w1.alloc (.cells stz.cs.toArray 114)) w1.heap.size 114 stz.cs) := Lib.hid (Blk.new w1 _ _)
 clear hb1 HS CW
 go_simp
 rename_i hK
 refine hK _ _ ?_
 clear hK
 refine Great.wpList_allocTo rfl (some 10) rfl (.pointer (some ⟨w1.heap.size, 0, none⟩)) (.cells stz.cs.toArray 114) (HR2.out _ _ rfl _ rfl) ?_
 refine wpList_store_rowTo rfl 114 _ _ rfl rfl w1.heap.size R.cs.toArray (by kernel_rfl) (by kernel_rfl) 114 stz.cs.toArray HN1.out (size_stp _) rfl (one_stp _) ?_
 have hbw := below_setRow ((Below.refl w1.heap.size w1).alloc (Nat.le_refl _) (.cells stz.cs.toArray 114)) (Nat.le_refl w1.heap.size) R.cs.toArray
 have HS2 := Lib.hid (HS1.out.more hbw)
 have HN2 := Lib.hid (HN1.out.row R.cs)
 have HNE : Hid (w.heap.size + 1 < w1.heap.size) := Lib.hid HS1.out.ht.lt
 clear hbw HS1 HN1 HR2
 generalize World.setRow _ w1.heap.size R.cs.toArray = w2 at HS2 HN2 ⊢
 generalize w1.heap.size = sb at HN2 HNE ⊢
 simp only [Act.put, List.setIfInBounds_toArray, List.set_cons_succ, List.set_cons_zero]
 have q0 := HS2.out.ht
 obtain ⟨r0, r1, r2, r3⟩ := HAt.cells q0
 have f0 := q0.frozen 0
 have f1 := q0.frozen 1
 have f2 := q0.frozen 2
 have f3 := q0.frozen 3
 have hlt := q0.lt
 clear q0
 have HB9 := Lib.hid HS2.out.b
 have HSet : Hid (∀ (X : World) (j : Nat) (v : Value), Below w.heap.size w X → Below w.heap.size w (X.setCell ⟨w.heap.size + 1, j, none⟩ v)) := Lib.hid fun X j v h => h.setCell (p := ⟨w.heap.size + 1, j, none⟩) (by simp) _
 have g3 := HN2.out.cell (j := 3) rfl
 have gl := HN2.out.lt
 clear HS2 HN2
 obtain ⟨o, r, g, f, ro, lf⟩ := R
 dsimp only at g3 hf ⊢
 have hf2 : (f != 0) = true := by simp [hf]
 have n1 : ¬ sb = w.heap.size + 1 := by have := HNE.out; omega
 have n2 : ¬ w.heap.size + 1 = sb := by have := HNE.out; omega
 go_wp2
 go_region
 go_wp2
 exact bodyPost_ret (v := .tuple #[hitV (0, 0, 0), .int .i64 f]) (by simp [results, Tryz.results10, go_sem, r0, r1, r2, r3, hitV]) rfl ⟨rfl, by refine Below.drew ?_; (repeat (first | refine HSet.out _ _ _ ?_)); exact HB9.out⟩

theorem refFind_perm (rt z k : Int) (us : Bool) (R : Stp) (h0 : 0 ≤ z) (h1 : z < 4294967296) (hR : walkF n S L rt z = R) (hf : R.f = 0) (ha : Pe.alwB R.o R.r k us = false) (w : World) (hP : DV w g bt B q n gv cap S L D) :
  Calls Tryz.prog 10 #[.pointer (some ⟨g, 0, none⟩), .agg #[.bool true, .int .i64 rt, .bool us], .int .u32 z, .int .i64 k] w fun e w' => e = .returned (.tuple #[hitV (0, 0, 0), .int .i64 6]) ∧ Below w.heap.size w w' := by
 have HS : Hid (FS w ((w.alloc (.cells #[.bool true, .int .i64 rt, .bool us] 30)).alloc (.cells #[.int .i64 0, .int .i64 0, .int .i64 0, .bool false] 36)) true rt us) := Lib.hid (fs_new w true rt us)
 have CW : Hid (∀ W, Below w.heap.size w W → Calls Tryz.prog 43 #[.pointer (some ⟨g, 0, none⟩), .int .i64 rt, .int .u32 z] W fun e w' => e = .returned R.v ∧ Below W.heap.size W w') := Lib.hid fun W hW => refWalk_any rt z R h0 h1 hR W (hP.more hW)
 have CA : Hid (∀ W, Calls Tryz.prog 44 #[Pe.pteV R.o R.r R.g, .int .i64 k, .bool us] W fun e w' => e = .returned (.bool false) ∧ Below W.heap.size W w') := Lib.hid fun W => Pe.refAllows_any R.o R.r R.g k us false ha W
 clear hP hR ha
 go_enter Tryz.func10, Tryz.ntmps10
 go_wp2_with fail
 refine (CW.out _ HS.out.b).mono ?_
 rintro e w1 ⟨rfl, hb1⟩
 have HS1 := Lib.hid (HS.out.more hb1)
 have HR2 := step_run w1
 have HN1 : Hid (Blk (w1.alloc (.cells stz.cs.toArray 114)) w1.heap.size 114 stz.cs) := Lib.hid (Blk.new w1 _ _)
 clear hb1 HS CW
 go_simp
 rename_i hK
 refine hK _ _ ?_
 clear hK
 refine Great.wpList_allocTo rfl (some 10) rfl (.pointer (some ⟨w1.heap.size, 0, none⟩)) (.cells stz.cs.toArray 114) (HR2.out _ _ rfl _ rfl) ?_
 refine wpList_store_rowTo rfl 114 _ _ rfl rfl w1.heap.size R.cs.toArray (by kernel_rfl) (by kernel_rfl) 114 stz.cs.toArray HN1.out (size_stp _) rfl (one_stp _) ?_
 have hbw := below_setRow ((Below.refl w1.heap.size w1).alloc (Nat.le_refl _) (.cells stz.cs.toArray 114)) (Nat.le_refl w1.heap.size) R.cs.toArray
 have HS2 := Lib.hid (HS1.out.more hbw)
 have HN2 := Lib.hid (HN1.out.row R.cs)
 have HNE : Hid (w.heap.size + 1 < w1.heap.size) := Lib.hid HS1.out.ht.lt
 clear hbw HS1 HN1 HR2
 generalize World.setRow _ w1.heap.size R.cs.toArray = w2 at HS2 HN2 ⊢
 generalize w1.heap.size = sb at HN2 HNE ⊢
 simp only [Act.put, List.setIfInBounds_toArray, List.set_cons_succ, List.set_cons_zero]
 have g0 := HN2.out.cell (j := 0) rfl
 have g1 := HN2.out.cell (j := 1) rfl
 have g2 := HN2.out.cell (j := 2) rfl
 have g3 := HN2.out.cell (j := 3) rfl
 have gl := HN2.out.lt
 have m2 := HS2.out.md.cell (j := 2) rfl
 have ml := HS2.out.md.lt
 obtain ⟨o, r, g, f, ro, lf⟩ := R
 dsimp only at g0 g1 g2 g3 hf CA ⊢
 subst hf
 go_wp2_with fail
 refine (CA.out _).mono ?_
 rintro e w3 ⟨rfl, hb3⟩
 have HS3 := Lib.hid (HS2.out.more hb3)
 clear hb3 HS2 HN2 CA g0 g1 g2 g3 gl m2 ml
 have q0 := HS3.out.ht
 obtain ⟨r0, r1, r2, r3⟩ := HAt.cells q0
 have f0 := q0.frozen 0
 have f1 := q0.frozen 1
 have f2 := q0.frozen 2
 have f3 := q0.frozen 3
 have hlt := q0.lt
 clear q0
 have HB9 := Lib.hid HS3.out.b
 have HSet : Hid (∀ (X : World) (j : Nat) (v : Value), Below w.heap.size w X → Below w.heap.size w (X.setCell ⟨w.heap.size + 1, j, none⟩ v)) := Lib.hid fun X j v h => h.setCell (p := ⟨w.heap.size + 1, j, none⟩) (by simp) _
 clear HS3
 go_wp2
 exact bodyPost_ret (v := .tuple #[hitV (0, 0, 0), .int .i64 6]) (by simp [results, Tryz.results10, go_sem, r0, r1, r2, r3, hitV]) rfl ⟨rfl, by (repeat (first | refine HSet.out _ _ _ ?_)); exact HB9.out⟩

theorem refFind_found (rt z k c : Int) (us : Bool) (R : Stp) (h : Int × Int × Int) (h0 : 0 ≤ z) (h1 : z < 4294967296) (hR : walkF n S L rt z = R) (hf : R.f = 0) (hg0 : 0 ≤ R.g) (hg1 : R.g < 32) (ha : Pe.alwB R.o R.r k us = true) (hc : findF n L (R.g * 64 + z % 64) 1 k = c) (hh : hitF n L (R.g * 64 + z % 64) 1 k = h) (w : World) (hP : DV w g bt B q n gv cap S L D) :
  Calls Tryz.prog 10 #[.pointer (some ⟨g, 0, none⟩), .agg #[.bool true, .int .i64 rt, .bool us], .int .u32 z, .int .i64 k] w fun e w' => e = .returned (.tuple #[hitV h, .int .i64 c]) ∧ Below w.heap.size w w' := by
 have HS : Hid (FS w ((w.alloc (.cells #[.bool true, .int .i64 rt, .bool us] 30)).alloc (.cells #[.int .i64 0, .int .i64 0, .int .i64 0, .bool false] 36)) true rt us) := Lib.hid (fs_new w true rt us)
 have CW : Hid (∀ W, Below w.heap.size w W → Calls Tryz.prog 43 #[.pointer (some ⟨g, 0, none⟩), .int .i64 rt, .int .u32 z] W fun e w' => e = .returned R.v ∧ Below W.heap.size W w') := Lib.hid fun W hW => refWalk_any rt z R h0 h1 hR W (hP.more hW)
 have CA : Hid (∀ W, Calls Tryz.prog 44 #[Pe.pteV R.o R.r R.g, .int .i64 k, .bool us] W fun e w' => e = .returned (.bool true) ∧ Below W.heap.size W w') := Lib.hid fun W => Pe.refAllows_any R.o R.r R.g k us true ha W
 have CF : Hid (∀ W, Below w.heap.size w W → Calls Tryz.prog 42 #[.pointer (some ⟨g, 0, none⟩), .int .u32 (R.g * 64 + z % 64), .int .i64 1, .int .i64 k] W fun e w' => e = .returned (.tuple #[hitV h, .int .i64 c]) ∧ Below W.heap.size W w') := Lib.hid fun W hW => Vw.refFind_any (R.g * 64 + z % 64) 1 k c h (by omega) (by omega) hc hh W (hP.more hW)
 clear hP hR ha hc hh
 go_enter Tryz.func10, Tryz.ntmps10
 go_wp2_with fail
 refine (CW.out _ HS.out.b).mono ?_
 rintro e w1 ⟨rfl, hb1⟩
 have HS1 := Lib.hid (HS.out.more hb1)
 have HR2 := step_run w1
 have HN1 : Hid (Blk (w1.alloc (.cells stz.cs.toArray 114)) w1.heap.size 114 stz.cs) := Lib.hid (Blk.new w1 _ _)
 clear hb1 HS CW
 go_simp
 rename_i hK
 refine hK _ _ ?_
 clear hK
 refine Great.wpList_allocTo rfl (some 10) rfl (.pointer (some ⟨w1.heap.size, 0, none⟩)) (.cells stz.cs.toArray 114) (HR2.out _ _ rfl _ rfl) ?_
 refine wpList_store_rowTo rfl 114 _ _ rfl rfl w1.heap.size R.cs.toArray (by kernel_rfl) (by kernel_rfl) 114 stz.cs.toArray HN1.out (size_stp _) rfl (one_stp _) ?_
 have hbw := below_setRow ((Below.refl w1.heap.size w1).alloc (Nat.le_refl _) (.cells stz.cs.toArray 114)) (Nat.le_refl w1.heap.size) R.cs.toArray
 have HS2 := Lib.hid (HS1.out.more hbw)
 have HN2 := Lib.hid (HN1.out.row R.cs)
 have HNE : Hid (w.heap.size + 1 < w1.heap.size) := Lib.hid HS1.out.ht.lt
 clear hbw HS1 HN1 HR2
 generalize World.setRow _ w1.heap.size R.cs.toArray = w2 at HS2 HN2 ⊢
 generalize w1.heap.size = sb at HN2 HNE ⊢
 simp only [Act.put, List.setIfInBounds_toArray, List.set_cons_succ, List.set_cons_zero]
 have g0 := HN2.out.cell (j := 0) rfl
 have g1 := HN2.out.cell (j := 1) rfl
 have g2 := HN2.out.cell (j := 2) rfl
 have g3 := HN2.out.cell (j := 3) rfl
 have gl := HN2.out.lt
 have m2 := HS2.out.md.cell (j := 2) rfl
 have ml := HS2.out.md.lt
 obtain ⟨o, r, g, f, ro, lf⟩ := R
 dsimp only at g0 g1 g2 g3 hf hg0 hg1 CA CF ⊢
 subst hf
 go_wp2_with fail
 refine (CA.out _).mono ?_
 rintro e w3 ⟨rfl, hb3⟩
 have HS3 := Lib.hid (HS2.out.more hb3)
 have HN3 := Lib.hid (HN2.out.more hb3)
 clear hb3 HS2 HN2 CA g0 g1 g2 g3 gl m2 ml
 have g2 := HN3.out.cell (j := 2) rfl
 have gl := HN3.out.lt
 dsimp only at g2
 go_wp2_with fail
 refine (CF.out _ HS3.out.b).mono ?_
 rintro e w4 ⟨rfl, hb4⟩
 have HS4 := Lib.hid (HS3.out.more hb4)
 clear hb4 HS3 HN3 CF g2 gl
 have q0 := HS4.out.ht
 obtain ⟨r0, r1, r2, r3⟩ := HAt.cells q0
 have f0 := q0.frozen 0
 have f1 := q0.frozen 1
 have f2 := q0.frozen 2
 have f3 := q0.frozen 3
 have hlt := q0.lt
 clear q0
 have HB9 := Lib.hid HS4.out.b
 have HSet : Hid (∀ (X : World) (j : Nat) (v : Value), Below w.heap.size w X → Below w.heap.size w (X.setCell ⟨w.heap.size + 1, j, none⟩ v)) := Lib.hid fun X j v h => h.setCell (p := ⟨w.heap.size + 1, j, none⟩) (by simp) _
 clear HS4
 obtain ⟨ha, hb, hc⟩ := h
 unfold hitV
 go_wp2
 exact bodyPost_ret (v := .tuple #[hitV (ha, hb, hc), .int .i64 c]) (by simp [results, Tryz.results10, go_sem, r0, r1, r2, r3, hitV]) rfl ⟨rfl, by (repeat (first | refine HSet.out _ _ _ ?_)); exact HB9.out⟩

theorem refFind_any (on us : Bool) (rt z k c : Int) (h : Int × Int × Int) (h0 : 0 ≤ z) (h1 : z < 4294967296) (hc : (locF n S L on rt us z k).2 = c) (hh : (locF n S L on rt us z k).1 = h) (w : World) (hP : DV w g bt B q n gv cap S L D) :
  Calls Tryz.prog 10 #[.pointer (some ⟨g, 0, none⟩), .agg #[.bool on, .int .i64 rt, .bool us], .int .u32 z, .int .i64 k] w fun e w' => e = .returned (.tuple #[hitV h, .int .i64 c]) ∧ Below w.heap.size w w' := by
 subst hc hh
 unfold locF
 cases on
 ·exact refFind_off rt z k _ us _ h0 h1 rfl rfl w hP
 ·rw [if_neg (by decide)]
  by_cases hf : (walkF n S L rt z).f = 0
  ·rw [if_neg (fun e => e hf)]
   by_cases ha : Pe.alwB (walkF n S L rt z).o (walkF n S L rt z).r k us = true
   ·rw [if_neg (by simp [ha])]
    have hg := walkF_page hf
    exact refFind_found rt z k _ us _ _ h0 h1 rfl hf hg.1 hg.2 ha rfl rfl w hP
   ·rw [if_pos (by simpa using ha)]
    exact refFind_perm rt z k us _ h0 h1 rfl hf (by simpa using ha) w hP
  ·rw [if_pos hf]
   exact refFind_fault rt z k us _ h0 h1 rfl hf w hP
end
end Go.Proofs.YteaincdeoajkeaaGreatDoor.Wa
end
section
/- Stage 20, plainly: what Load and Save by an address say; the document's Load, Save (hermitageref20). -/
namespace Go.Proofs.YteaincdeoajkeaaGreatDoor.Mm
open Go.RowKit Go.Shelf Ut Oc Vw Wa
set_option maxRecDepth 100000
set_option linter.unusedVariables false
set_option maxHeartbeats 4000000

/-- may so many bytes lie there; the number at a hit; the bytes behind one that is saved -/
def okZ (wd z : Int) : Bool := isW wd && (z % wd == 0)
def ldU (S : List Int) (h : Int × Int × Int) (wd : Int) : Int := num (((Fr.frameL S h.2.1.toNat).drop h.2.2.toNat).take wd.toNat)
def svL (S : List Int) (h : Int × Int × Int) (wd x : Int) : List Int := Fr.layF S h.2.1.toNat (putZ (Fr.frameL S h.2.1.toNat) h.2.2.toNat wd.toNat x)
def ld20 (n : Nat) (S : List Int) (L : List Gm.Pl) (on : Bool) (rt : Int) (us : Bool) (z wd k : Int) : Int × Int :=
 if okZ wd z = true then (if (locF n S L on rt us z k).2 = 0 then (ldU S (locF n S L on rt us z k).1 wd, 0) else (0, (locF n S L on rt us z k).2)) else (0, 1)
def sc20 (n : Nat) (S : List Int) (L : List Gm.Pl) (on : Bool) (rt : Int) (us : Bool) (z wd : Int) : Int :=
 if okZ wd z = true then (locF n S L on rt us z 2).2 else 1
def ss20 (n : Nat) (S : List Int) (L : List Gm.Pl) (on : Bool) (rt : Int) (us : Bool) (z wd x : Int) : List Int :=
 if okZ wd z = true then (if (locF n S L on rt us z 2).2 = 0 then svL S (locF n S L on rt us z 2).1 wd x else S) else S
/-- a hit's page, frame, place -/
theorem loc_hit {n : Nat} {S : List Int} {L : List Gm.Pl} {on us : Bool} {rt z k : Int} (hL : Gm.Okay L) (h0 : 0 ≤ z) (hz : (locF n S L on rt us z k).2 = 0) :
  ∃ j f o : Nat, (locF n S L on rt us z k).1 = ((j : Int), (f : Int), (o : Int)) ∧ j < 12 ∧ f < n ∧ f < 32 ∧ (o : Int) = z % 64 ∧ o < 64 := by
 unfold locF at hz ⊢
 by_cases c1 : on = false
 ·rw [if_pos c1] at hz ⊢
  obtain ⟨M, j, f, o, H, hh⟩ := find_zero hL h0 hz
  exact ⟨j, f, o, hh, H.j12, H.fn, H.f32, H.ho.symm, by have := H.ho; omega⟩
 ·rw [if_neg c1] at hz ⊢
  by_cases c2 : (walkF n S L rt z).f ≠ 0
  ·rw [if_pos c2] at hz
   exact absurd hz c2
  ·rw [if_neg c2] at hz ⊢
   by_cases c3 : Pe.alwB (walkF n S L rt z).o (walkF n S L rt z).r k us = false
   ·rw [if_pos c3] at hz
    exact absurd hz (by decide)
   ·rw [if_neg c3] at hz ⊢
    obtain ⟨g0, g1⟩ := walkF_page (Decidable.not_not.1 c2)
    obtain ⟨M, j, f, o, H, hh⟩ := find_zero hL (by omega) hz
    exact ⟨j, f, o, hh, H.j12, H.fn, H.f32, by have := H.ho; omega, by have := H.ho; omega⟩
theorem okZ_cases (wd z : Int) (h0 : 0 ≤ z) : (okZ wd z = false ∧ isW wd = false) ∨ (wd = 2 ∧ okZ wd z = false ∧ (z % 2 != 0) = true) ∨ (wd = 4 ∧ okZ wd z = false ∧ (z % 4 != 0) = true) ∨ (wd = 1 ∧ okZ wd z = true) ∨ (wd = 2 ∧ okZ wd z = true ∧ (z % 2 != 0) = false) ∨ (wd = 4 ∧ okZ wd z = true ∧ (z % 4 != 0) = false) := by
 unfold okZ
 cases hw : isW wd with
 | false => exact .inl ⟨rfl, rfl⟩
 | true =>
  have hw2 := hw
  unfold isW at hw2
  simp at hw2
  rcases (show wd = 1 ∨ wd = 2 ∨ wd = 4 by omega) with rfl | rfl | rfl
  ·exact .inr (.inr (.inr (.inl ⟨rfl, by simp [Int.emod_one]⟩)))
  ·by_cases h : z % 2 = 0
   ·exact .inr (.inr (.inr (.inr (.inl ⟨rfl, by simp [h], by simp [h]⟩))))
   ·exact .inr (.inl ⟨rfl, by simp [h], by simp [h]⟩)
  ·by_cases h : z % 4 = 0
   ·exact .inr (.inr (.inr (.inr (.inr ⟨rfl, by simp [h], by simp [h]⟩))))
   ·exact .inr (.inr (.inl ⟨rfl, by simp [h], by simp [h]⟩))
theorem ok_fit {wd z : Int} {o : Nat} (h0 : 0 ≤ z) (h : okZ wd z = true) (ho : (o : Int) = z % 64) : ∃ M : Nat, wd = M ∧ isW (M : Int) = true ∧ o + M ≤ 64 := by
 rcases okZ_cases wd z h0 with ⟨h1, _⟩ | ⟨_, h1, _⟩ | ⟨_, h1, _⟩ | ⟨rfl, _⟩ | ⟨rfl, _, h2⟩ | ⟨rfl, _, h2⟩
 ·rw [h1] at h; cases h
 ·rw [h1] at h; cases h
 ·rw [h1] at h; cases h
 ·exact ⟨1, rfl, by decide, by omega⟩
 ·exact ⟨2, rfl, by decide, by simp at h2; omega⟩
 ·exact ⟨4, rfl, by decide, by simp at h2; omega⟩
section
variable {g bt B q n gv cap : Nat} {S : List Int} {L : List Gm.Pl} {D : List Bool}
theorem refLoad20_bad (on us : Bool) (rt z wd k : Int) (h0 : 0 ≤ z) (h1 : z < 4294967296) (hb : okZ wd z = false) (w : World) :
  Calls Tryz.prog 12 #[.pointer (some ⟨g, 0, none⟩), .agg #[.bool on, .int .i64 rt, .bool us], .int .u32 z, .int .i64 wd, .int .i64 k] w fun e w' => e = .returned (.tuple #[.int .u32 0, .int .i64 1]) ∧ Below w.heap.size w w' := by
 have HB : Hid (Below w.heap.size w (w.alloc (.cells #[.bool on, .int .i64 rt, .bool us] 30))) := Lib.hid ((Below.refl _ _).alloc (Nat.le_refl _) _)
 rcases okZ_cases wd z h0 with ⟨_, hw⟩ | ⟨rfl, _, d0⟩ | ⟨rfl, _, d0⟩ | ⟨_, h2⟩ | ⟨_, h2, _⟩ | ⟨_, h2, _⟩
 ·unfold isW at hw
  simp at hw
  have e1 : ¬ wd = 1 := by omega
  have e2 : ¬ wd = 2 := by omega
  have e4 : ¬ wd = 4 := by omega
  clear hw hb
  go_enter Tryz.func12, Tryz.ntmps12
  go_wp2
  go_ret2
  exact ⟨rfl, HB.out⟩
 ·clear hb
  go_enter Tryz.func12, Tryz.ntmps12
  go_wp2
  go_ret2
  exact ⟨rfl, HB.out⟩
 ·clear hb
  go_enter Tryz.func12, Tryz.ntmps12
  go_wp2
  go_ret2
  exact ⟨rfl, HB.out⟩
 all_goals rw [h2] at hb; cases hb
theorem refSave20_bad (on us : Bool) (rt z wd x : Int) (h0 : 0 ≤ z) (h1 : z < 4294967296) (hb : okZ wd z = false) (w : World) :
  Calls Tryz.prog 19 #[.pointer (some ⟨g, 0, none⟩), .agg #[.bool on, .int .i64 rt, .bool us], .int .u32 z, .int .i64 wd, .int .u32 x] w fun e w' => e = .returned (.int .i64 1) ∧ Below w.heap.size w w' := by
 have HB : Hid (Below w.heap.size w (w.alloc (.cells #[.bool on, .int .i64 rt, .bool us] 30))) := Lib.hid ((Below.refl _ _).alloc (Nat.le_refl _) _)
 rcases okZ_cases wd z h0 with ⟨_, hw⟩ | ⟨rfl, _, d0⟩ | ⟨rfl, _, d0⟩ | ⟨_, h2⟩ | ⟨_, h2, _⟩ | ⟨_, h2, _⟩
 ·unfold isW at hw
  simp at hw
  have e1 : ¬ wd = 1 := by omega
  have e2 : ¬ wd = 2 := by omega
  have e4 : ¬ wd = 4 := by omega
  clear hw hb
  go_enter Tryz.func19, Tryz.ntmps19
  go_wp2
  go_ret
  exact ⟨rfl, HB.out⟩
 ·clear hb
  go_enter Tryz.func19, Tryz.ntmps19
  go_wp2
  go_ret
  exact ⟨rfl, HB.out⟩
 ·clear hb
  go_enter Tryz.func19, Tryz.ntmps19
  go_wp2
  go_ret
  exact ⟨rfl, HB.out⟩
 all_goals rw [h2] at hb; cases hb
/-- the width's test says yes: what the walk is told -/
theorem okZ_yes {wd z : Int} (h0 : 0 ≤ z) (h : okZ wd z = true) : wd = 1 ∨ (wd = 2 ∧ (z % 2 != 0) = false) ∨ (wd = 4 ∧ (z % 4 != 0) = false) := by
 rcases okZ_cases wd z h0 with ⟨h1, _⟩ | ⟨_, h1, _⟩ | ⟨_, h1, _⟩ | ⟨e, _⟩ | ⟨e, _, h2⟩ | ⟨e, _, h2⟩
 ·rw [h1] at h; cases h
 ·rw [h1] at h; cases h
 ·rw [h1] at h; cases h
 ·exact .inl e
 ·exact .inr (.inl ⟨e, h2⟩)
 ·exact .inr (.inr ⟨e, h2⟩)
theorem refLoad20_flt (on us : Bool) (rt z wd k c : Int) (h : Int × Int × Int) (h0 : 0 ≤ z) (h1 : z < 4294967296) (hk : okZ wd z = true) (hc : (locF n S L on rt us z k).2 = c) (hz : ¬ c = 0) (hh : (locF n S L on rt us z k).1 = h) (w : World) (hP : DV w g bt B q n gv cap S L D) :
  Calls Tryz.prog 12 #[.pointer (some ⟨g, 0, none⟩), .agg #[.bool on, .int .i64 rt, .bool us], .int .u32 z, .int .i64 wd, .int .i64 k] w fun e w' => e = .returned (.tuple #[.int .u32 0, .int .i64 c]) ∧ Below w.heap.size w w' := by
 have HB : Hid (Below w.heap.size w (w.alloc (.cells #[.bool on, .int .i64 rt, .bool us] 30))) := Lib.hid ((Below.refl _ _).alloc (Nat.le_refl _) _)
 have HF := Lib.hid (Wa.refFind_any on us rt z k c h h0 h1 hc hh _ (hP.more HB.out))
 have z0 : (c == 0) = false := by simpa using hz
 have hy := okZ_yes h0 hk
 clear hP hc hz hh hk
 obtain ⟨ha, hb, hd⟩ := h
 unfold hitV at HF
 dsimp only at HF
 rcases hy with rfl | ⟨rfl, d0⟩ | ⟨rfl, d0⟩
 all_goals
  go_enter Tryz.func12, Tryz.ntmps12
  go_wp2_with fail
  refine HF.out.mono ?_
  rintro e w1 ⟨rfl, hb1⟩
  have HB1 := Lib.hid (HB.out.trans (hb1.mono HB.out.size))
  have HB2 : Hid (Below w.heap.size w (w1.alloc (.cells #[.int .i64 ha, .int .i64 hb, .int .i64 hd, .bool false] 36))) := Lib.hid (HB1.out.alloc HB1.out.size _)
  clear hb1
  go_wp2
  go_ret2
  exact ⟨rfl, HB2.out⟩
theorem refSave20_flt (on us : Bool) (rt z wd x c : Int) (h : Int × Int × Int) (h0 : 0 ≤ z) (h1 : z < 4294967296) (hk : okZ wd z = true) (hc : (locF n S L on rt us z 2).2 = c) (hz : ¬ c = 0) (hh : (locF n S L on rt us z 2).1 = h) (w : World) (hP : DV w g bt B q n gv cap S L D) :
  Calls Tryz.prog 19 #[.pointer (some ⟨g, 0, none⟩), .agg #[.bool on, .int .i64 rt, .bool us], .int .u32 z, .int .i64 wd, .int .u32 x] w fun e w' => e = .returned (.int .i64 c) ∧ Below w.heap.size w w' := by
 have HB : Hid (Below w.heap.size w (w.alloc (.cells #[.bool on, .int .i64 rt, .bool us] 30))) := Lib.hid ((Below.refl _ _).alloc (Nat.le_refl _) _)
 have HF := Lib.hid (Wa.refFind_any on us rt z 2 c h h0 h1 hc hh _ (hP.more HB.out))
 have z0 : (c == 0) = false := by simpa using hz
 have hy := okZ_yes h0 hk
 clear hP hc hz hh hk
 obtain ⟨ha, hb, hd⟩ := h
 unfold hitV at HF
 dsimp only at HF
 rcases hy with rfl | ⟨rfl, d0⟩ | ⟨rfl, d0⟩
 all_goals
  go_enter Tryz.func19, Tryz.ntmps19
  go_wp2_with fail
  refine HF.out.mono ?_
  rintro e w1 ⟨rfl, hb1⟩
  have HB1 := Lib.hid (HB.out.trans (hb1.mono HB.out.size))
  have HB2 : Hid (Below w.heap.size w (w1.alloc (.cells #[.int .i64 ha, .int .i64 hb, .int .i64 hd, .bool false] 36))) := Lib.hid (HB1.out.alloc HB1.out.size _)
  clear hb1
  go_wp2
  go_ret
  exact ⟨rfl, HB2.out⟩
theorem refLoad20_ok (on us : Bool) (rt z wd k : Int) (h0 : 0 ≤ z) (h1 : z < 4294967296) (hk : okZ wd z = true) (hc : (locF n S L on rt us z k).2 = 0) (w : World) (hP : DV w g bt B q n gv cap S L D) :
  Calls Tryz.prog 12 #[.pointer (some ⟨g, 0, none⟩), .agg #[.bool on, .int .i64 rt, .bool us], .int .u32 z, .int .i64 wd, .int .i64 k] w fun e w' => e = .returned (.tuple #[.int .u32 (ldU S (locF n S L on rt us z k).1 wd), .int .i64 0]) ∧ Below w.heap.size w w' := by
 have HB : Hid (Below w.heap.size w (w.alloc (.cells #[.bool on, .int .i64 rt, .bool us] 30))) := Lib.hid ((Below.refl _ _).alloc (Nat.le_refl _) _)
 obtain ⟨j, f, o, hh, _, fn, f32, ho, _⟩ := loc_hit hP.mp.2 h0 hc
 obtain ⟨M, hM, hw, hfit⟩ := ok_fit h0 hk ho
 have HF := Lib.hid (Wa.refFind_any on us rt z k 0 _ h0 h1 hc hh _ (hP.more HB.out))
 obtain ⟨u, hu⟩ : ∃ u, ldU S (locF n S L on rt us z k).1 wd = u := ⟨_, rfl⟩
 have HL : Hid (∀ W, DV W g bt B q n gv cap S L D → Calls Tryz.prog 47 #[.pointer (some ⟨bt, 0, none⟩), .int .i64 f, .int .i64 o, .int .i64 wd] W fun e w' => e = .returned (.tuple #[.int .u32 u, .int .i64 0]) ∧ W = w') := Lib.hid fun W hW => by
  obtain ⟨vs, hs⟩ := hW.st
  have := Fr.refLoad_in hs fn hw hfit
  rw [Fr.fr_at S fn, ← hM] at this
  rw [hh] at hu
  unfold ldU at hu
  rw [hM] at hu
  rw [← hu]
  exact this
 rw [hu]
 have HP := Lib.hid hP
 have hy := okZ_yes h0 hk
 have hle : ∀ X, Below w.heap.size w X → g < X.heap.size := fun X h => Nat.lt_of_lt_of_le hP.lt h.size
 have HLE := Lib.hid hle
 clear hP hc hh hk hu hM hw hfit hle ho fn f32
 generalize (j : Int) = J at HF
 generalize (f : Int) = F at HF HL
 generalize (o : Int) = O at HF HL
 unfold hitV at HF
 dsimp only at HF
 rcases hy with rfl | ⟨rfl, d0⟩ | ⟨rfl, d0⟩
 ·go_enter Tryz.func12, Tryz.ntmps12
  go_wp2_with fail
  refine HF.out.mono ?_
  rintro e w1 ⟨rfl, hb1⟩
  have HB1 := Lib.hid (HB.out.trans (hb1.mono HB.out.size))
  have HB2 : Hid (Below w.heap.size w (w1.alloc (.cells #[.int .i64 J, .int .i64 F, .int .i64 O, .bool false] 36))) := Lib.hid (HB1.out.alloc HB1.out.size _)
  have HN : Hid (Blk (w1.alloc (.cells #[.int .i64 J, .int .i64 F, .int .i64 O, .bool false] 36)) w1.heap.size 36 [.int .i64 J, .int .i64 F, .int .i64 O, .bool false]) := Lib.hid (Blk.new w1 _ _)
  clear hb1 HF HB1
  go_upto_region 6 with fail
  generalize w1.alloc (.cells #[.int .i64 J, .int .i64 F, .int .i64 O, .bool false] 36) = V at HB2 HN ⊢
  generalize w1.heap.size = hb at HN ⊢
  have HV := Lib.hid (HP.out.more HB2.out)
  have c0 := HV.out.cell0
  have n1 := HN.out.cell (j := 1) rfl
  have n2 := HN.out.cell (j := 2) rfl
  have b0 := HLE.out V HB2.out
  have b1 := HN.out.lt
  have HLD : Hid (∀ W, Below V.heap.size V W → Calls Tryz.prog 47 #[.pointer (some ⟨bt, 0, none⟩), .int .i64 F, .int .i64 O, .int .i64 1] W fun e w' => e = .returned (.tuple #[.int .u32 u, .int .i64 0]) ∧ W = w') := Lib.hid fun W hW => HL.out W (HV.out.more hW)
  apply wp_region_auto [45, 46, 47, 48, 49, 50, 51, 52, 53, 54, 44, 55, 56, 14] [_, _, _, _, _, _, _, _, _, _, _, _, _, _] (fun W' => Below V.heap.size V W')
  case hm => kernel_rfl
  case hT => intro y; simp only [setAll, List.setIfInBounds_toArray, List.set_cons_succ, List.set_cons_zero]; exact rfl
  case hok => kernel_rfl
  case hn => decide
  case hw => exact (Below.refl _ _).drew
  case hs =>
   refine auto_op 45 [] (by kernel_rfl) (fun y w' HW hd K hK => ?_) ?_
   ·go_simp
    refine hK _ _ ?_ ?_ HW
    ·simp [upd]
    ·exact rfl
   refine auto_op 46 [0] (by kernel_rfl) (fun y w' HW hd K hK => ?_) ?_
   ·have e0 := hd_nth (hd 0 (by simp)) rfl
    go_simp
    refine hK _ _ ?_ ?_ HW
    ·simp [upd, e0]
    ·exact rfl
   refine auto_op 47 [1] (by kernel_rfl) (fun y w' HW hd K hK => ?_) ?_
   ·have e1 := hd_nth (hd 1 (by simp)) rfl
    go_simp
    refine hK _ _ ?_ ?_ HW
    ·simp [upd, e1]
    ·exact rfl
   refine auto_op 48 [2] (by kernel_rfl) (fun y w' HW hd K hK => ?_) ?_
   ·have e2 := hd_nth (hd 2 (by simp)) rfl
    have hcl : ∀ p : Addr, p.block < V.heap.size → w'.cell? p = V.cell? p := fun p hp => HW.cell hp
    go_simp
    refine hK _ _ ?_ ?_ HW
    ·simp [upd, e2]
    ·exact rfl
   refine auto_op 49 [] (by kernel_rfl) (fun y w' HW hd K hK => ?_) ?_
   ·go_simp
    refine hK _ _ ?_ ?_ HW
    ·simp [upd]
    ·exact rfl
   refine auto_op 50 [4] (by kernel_rfl) (fun y w' HW hd K hK => ?_) ?_
   ·have e4 := hd_nth (hd 4 (by simp)) rfl
    have hcl : ∀ p : Addr, p.block < V.heap.size → w'.cell? p = V.cell? p := fun p hp => HW.cell hp
    go_simp
    refine hK _ _ ?_ ?_ HW
    ·simp [upd, e4]
    ·exact rfl
   refine auto_op 51 [] (by kernel_rfl) (fun y w' HW hd K hK => ?_) ?_
   ·go_simp
    refine hK _ _ ?_ ?_ HW
    ·simp [upd]
    ·exact rfl
   refine auto_op 52 [6] (by kernel_rfl) (fun y w' HW hd K hK => ?_) ?_
   ·have e6 := hd_nth (hd 6 (by simp)) rfl
    have hcl : ∀ p : Addr, p.block < V.heap.size → w'.cell? p = V.cell? p := fun p hp => HW.cell hp
    go_simp
    refine hK _ _ ?_ ?_ HW
    ·simp [upd, e6]
    ·exact rfl
   refine auto_op 53 [] (by kernel_rfl) (fun y w' HW hd K hK => ?_) ?_
   ·go_simp
    refine hK _ _ ?_ ?_ HW
    ·simp [upd]
    ·exact rfl
   refine auto_op 54 [3, 5, 7, 8] (by kernel_rfl) (fun y w' HW hd K hK => ?_) ?_
   ·have e3 := hd_nth (hd 3 (by simp)) rfl
    have e5 := hd_nth (hd 5 (by simp)) rfl
    have e7 := hd_nth (hd 7 (by simp)) rfl
    have e8 := hd_nth (hd 8 (by simp)) rfl
    go_simp
    refine (HLD.out _ HW).mono ?_
    rintro e w3 ⟨rfl, rfl⟩
    refine hK _ _ ?_ ?_ HW
    ·simp [upd, e3, e5, e7, e8]
    ·exact rfl
   refine auto_op 44 [9] (by kernel_rfl) (fun y w' HW hd K hK => ?_) ?_
   ·have e9 := hd_nth (hd 9 (by simp)) rfl
    go_simp
    refine hK _ _ ?_ ?_ HW
    ·simp [upd, e9]
    ·exact rfl
   refine auto_op 55 [10] (by kernel_rfl) (fun y w' HW hd K hK => ?_) ?_
   ·have e10 := hd_nth (hd 10 (by simp)) rfl
    go_simp
    refine hK _ _ ?_ ?_ HW
    ·simp [upd, e10]
    ·exact rfl
   refine auto_op 56 [10] (by kernel_rfl) (fun y w' HW hd K hK => ?_) ?_
   ·have e10 := hd_nth (hd 10 (by simp)) rfl
    go_simp
    refine hK _ _ ?_ ?_ HW
    ·simp [upd, e10]
    ·exact rfl
   refine auto_op 14 [11, 9, 0, 1, 2, 3, 4, 5, 6, 7, 8, 9, 10, 11] (by kernel_rfl) (fun y w' HW hd K hK => ?_) ?_
   ·have e0 := hd_nth (hd 0 (by simp)) rfl
    have e1 := hd_nth (hd 1 (by simp)) rfl
    have e2 := hd_nth (hd 2 (by simp)) rfl
    have e3 := hd_nth (hd 3 (by simp)) rfl
    have e4 := hd_nth (hd 4 (by simp)) rfl
    have e5 := hd_nth (hd 5 (by simp)) rfl
    have e6 := hd_nth (hd 6 (by simp)) rfl
    have e7 := hd_nth (hd 7 (by simp)) rfl
    have e8 := hd_nth (hd 8 (by simp)) rfl
    have e9 := hd_nth (hd 9 (by simp)) rfl
    have e10 := hd_nth (hd 10 (by simp)) rfl
    have e11 := hd_nth (hd 11 (by simp)) rfl
    go_simp
    refine hK _ _ ?_ ?_ HW
    ·simp [upd, e0, e1, e2, e3, e4, e5, e6, e7, e8, e9, e10, e11]
    ·exact rfl
   refine auto_last fun y w' HW hd K hK => ?_
   have e0 := hd_nth (hd 0 (by omega)) rfl
   have e1 := hd_nth (hd 1 (by omega)) rfl
   have e2 := hd_nth (hd 2 (by omega)) rfl
   have e3 := hd_nth (hd 3 (by omega)) rfl
   have e4 := hd_nth (hd 4 (by omega)) rfl
   have e5 := hd_nth (hd 5 (by omega)) rfl
   have e6 := hd_nth (hd 6 (by omega)) rfl
   have e7 := hd_nth (hd 7 (by omega)) rfl
   have e8 := hd_nth (hd 8 (by omega)) rfl
   have e9 := hd_nth (hd 9 (by omega)) rfl
   have e10 := hd_nth (hd 10 (by omega)) rfl
   have e11 := hd_nth (hd 11 (by omega)) rfl
   have e12 := hd_nth (hd 12 (by omega)) rfl
   have e13 := hd_nth (hd 13 (by omega)) rfl
   go_simp
   refine hK _ _ ?_
   clear hd hK K e0 e1 e2 e3 e4 e5 e6 e7 e8 e9 e10 e11 e12 e13
   have HB9 := Lib.hid (HB2.out.trans (HW.mono HB2.out.size))
   clear HW
   go_wp2
   go_ret2
   exact ⟨rfl, HB9.out⟩
 ·go_enter Tryz.func12, Tryz.ntmps12
  go_wp2_with fail
  refine HF.out.mono ?_
  rintro e w1 ⟨rfl, hb1⟩
  have HB1 := Lib.hid (HB.out.trans (hb1.mono HB.out.size))
  have HB2 : Hid (Below w.heap.size w (w1.alloc (.cells #[.int .i64 J, .int .i64 F, .int .i64 O, .bool false] 36))) := Lib.hid (HB1.out.alloc HB1.out.size _)
  have HN : Hid (Blk (w1.alloc (.cells #[.int .i64 J, .int .i64 F, .int .i64 O, .bool false] 36)) w1.heap.size 36 [.int .i64 J, .int .i64 F, .int .i64 O, .bool false]) := Lib.hid (Blk.new w1 _ _)
  clear hb1 HF HB1
  go_upto_region 6 with fail
  generalize w1.alloc (.cells #[.int .i64 J, .int .i64 F, .int .i64 O, .bool false] 36) = V at HB2 HN ⊢
  generalize w1.heap.size = hb at HN ⊢
  have HV := Lib.hid (HP.out.more HB2.out)
  have c0 := HV.out.cell0
  have n1 := HN.out.cell (j := 1) rfl
  have n2 := HN.out.cell (j := 2) rfl
  have b0 := HLE.out V HB2.out
  have b1 := HN.out.lt
  have HLD : Hid (∀ W, Below V.heap.size V W → Calls Tryz.prog 47 #[.pointer (some ⟨bt, 0, none⟩), .int .i64 F, .int .i64 O, .int .i64 2] W fun e w' => e = .returned (.tuple #[.int .u32 u, .int .i64 0]) ∧ W = w') := Lib.hid fun W hW => HL.out W (HV.out.more hW)
  apply wp_region_auto [45, 46, 47, 48, 49, 50, 51, 52, 53, 54, 44, 55, 56, 14] [_, _, _, _, _, _, _, _, _, _, _, _, _, _] (fun W' => Below V.heap.size V W')
  case hm => kernel_rfl
  case hT => intro y; simp only [setAll, List.setIfInBounds_toArray, List.set_cons_succ, List.set_cons_zero]; exact rfl
  case hok => kernel_rfl
  case hn => decide
  case hw => exact (Below.refl _ _).drew
  case hs =>
   refine auto_op 45 [] (by kernel_rfl) (fun y w' HW hd K hK => ?_) ?_
   ·go_simp
    refine hK _ _ ?_ ?_ HW
    ·simp [upd]
    ·exact rfl
   refine auto_op 46 [0] (by kernel_rfl) (fun y w' HW hd K hK => ?_) ?_
   ·have e0 := hd_nth (hd 0 (by simp)) rfl
    go_simp
    refine hK _ _ ?_ ?_ HW
    ·simp [upd, e0]
    ·exact rfl
   refine auto_op 47 [1] (by kernel_rfl) (fun y w' HW hd K hK => ?_) ?_
   ·have e1 := hd_nth (hd 1 (by simp)) rfl
    go_simp
    refine hK _ _ ?_ ?_ HW
    ·simp [upd, e1]
    ·exact rfl
   refine auto_op 48 [2] (by kernel_rfl) (fun y w' HW hd K hK => ?_) ?_
   ·have e2 := hd_nth (hd 2 (by simp)) rfl
    have hcl : ∀ p : Addr, p.block < V.heap.size → w'.cell? p = V.cell? p := fun p hp => HW.cell hp
    go_simp
    refine hK _ _ ?_ ?_ HW
    ·simp [upd, e2]
    ·exact rfl
   refine auto_op 49 [] (by kernel_rfl) (fun y w' HW hd K hK => ?_) ?_
   ·go_simp
    refine hK _ _ ?_ ?_ HW
    ·simp [upd]
    ·exact rfl
   refine auto_op 50 [4] (by kernel_rfl) (fun y w' HW hd K hK => ?_) ?_
   ·have e4 := hd_nth (hd 4 (by simp)) rfl
    have hcl : ∀ p : Addr, p.block < V.heap.size → w'.cell? p = V.cell? p := fun p hp => HW.cell hp
    go_simp
    refine hK _ _ ?_ ?_ HW
    ·simp [upd, e4]
    ·exact rfl
   refine auto_op 51 [] (by kernel_rfl) (fun y w' HW hd K hK => ?_) ?_
   ·go_simp
    refine hK _ _ ?_ ?_ HW
    ·simp [upd]
    ·exact rfl
   refine auto_op 52 [6] (by kernel_rfl) (fun y w' HW hd K hK => ?_) ?_
   ·have e6 := hd_nth (hd 6 (by simp)) rfl
    have hcl : ∀ p : Addr, p.block < V.heap.size → w'.cell? p = V.cell? p := fun p hp => HW.cell hp
    go_simp
    refine hK _ _ ?_ ?_ HW
    ·simp [upd, e6]
    ·exact rfl
   refine auto_op 53 [] (by kernel_rfl) (fun y w' HW hd K hK => ?_) ?_
   ·go_simp
    refine hK _ _ ?_ ?_ HW
    ·simp [upd]
    ·exact rfl
   refine auto_op 54 [3, 5, 7, 8] (by kernel_rfl) (fun y w' HW hd K hK => ?_) ?_
   ·have e3 := hd_nth (hd 3 (by simp)) rfl
    have e5 := hd_nth (hd 5 (by simp)) rfl
    have e7 := hd_nth (hd 7 (by simp)) rfl
    have e8 := hd_nth (hd 8 (by simp)) rfl
    go_simp
    refine (HLD.out _ HW).mono ?_
    rintro e w3 ⟨rfl, rfl⟩
    refine hK _ _ ?_ ?_ HW
    ·simp [upd, e3, e5, e7, e8]
    ·exact rfl
   refine auto_op 44 [9] (by kernel_rfl) (fun y w' HW hd K hK => ?_) ?_
   ·have e9 := hd_nth (hd 9 (by simp)) rfl
    go_simp
    refine hK _ _ ?_ ?_ HW
    ·simp [upd, e9]
    ·exact rfl
   refine auto_op 55 [10] (by kernel_rfl) (fun y w' HW hd K hK => ?_) ?_
   ·have e10 := hd_nth (hd 10 (by simp)) rfl
    go_simp
    refine hK _ _ ?_ ?_ HW
    ·simp [upd, e10]
    ·exact rfl
   refine auto_op 56 [10] (by kernel_rfl) (fun y w' HW hd K hK => ?_) ?_
   ·have e10 := hd_nth (hd 10 (by simp)) rfl
    go_simp
    refine hK _ _ ?_ ?_ HW
    ·simp [upd, e10]
    ·exact rfl
   refine auto_op 14 [11, 9, 0, 1, 2, 3, 4, 5, 6, 7, 8, 9, 10, 11] (by kernel_rfl) (fun y w' HW hd K hK => ?_) ?_
   ·have e0 := hd_nth (hd 0 (by simp)) rfl
    have e1 := hd_nth (hd 1 (by simp)) rfl
    have e2 := hd_nth (hd 2 (by simp)) rfl
    have e3 := hd_nth (hd 3 (by simp)) rfl
    have e4 := hd_nth (hd 4 (by simp)) rfl
    have e5 := hd_nth (hd 5 (by simp)) rfl
    have e6 := hd_nth (hd 6 (by simp)) rfl
    have e7 := hd_nth (hd 7 (by simp)) rfl
    have e8 := hd_nth (hd 8 (by simp)) rfl
    have e9 := hd_nth (hd 9 (by simp)) rfl
    have e10 := hd_nth (hd 10 (by simp)) rfl
    have e11 := hd_nth (hd 11 (by simp)) rfl
    go_simp
    refine hK _ _ ?_ ?_ HW
    ·simp [upd, e0, e1, e2, e3, e4, e5, e6, e7, e8, e9, e10, e11]
    ·exact rfl
   refine auto_last fun y w' HW hd K hK => ?_
   have e0 := hd_nth (hd 0 (by omega)) rfl
   have e1 := hd_nth (hd 1 (by omega)) rfl
   have e2 := hd_nth (hd 2 (by omega)) rfl
   have e3 := hd_nth (hd 3 (by omega)) rfl
   have e4 := hd_nth (hd 4 (by omega)) rfl
   have e5 := hd_nth (hd 5 (by omega)) rfl
   have e6 := hd_nth (hd 6 (by omega)) rfl
   have e7 := hd_nth (hd 7 (by omega)) rfl
   have e8 := hd_nth (hd 8 (by omega)) rfl
   have e9 := hd_nth (hd 9 (by omega)) rfl
   have e10 := hd_nth (hd 10 (by omega)) rfl
   have e11 := hd_nth (hd 11 (by omega)) rfl
   have e12 := hd_nth (hd 12 (by omega)) rfl
   have e13 := hd_nth (hd 13 (by omega)) rfl
   go_simp
   refine hK _ _ ?_
   clear hd hK K e0 e1 e2 e3 e4 e5 e6 e7 e8 e9 e10 e11 e12 e13
   have HB9 := Lib.hid (HB2.out.trans (HW.mono HB2.out.size))
   clear HW
   go_wp2
   go_ret2
   exact ⟨rfl, HB9.out⟩
 ·go_enter Tryz.func12, Tryz.ntmps12
  go_wp2_with fail
  refine HF.out.mono ?_
  rintro e w1 ⟨rfl, hb1⟩
  have HB1 := Lib.hid (HB.out.trans (hb1.mono HB.out.size))
  have HB2 : Hid (Below w.heap.size w (w1.alloc (.cells #[.int .i64 J, .int .i64 F, .int .i64 O, .bool false] 36))) := Lib.hid (HB1.out.alloc HB1.out.size _)
  have HN : Hid (Blk (w1.alloc (.cells #[.int .i64 J, .int .i64 F, .int .i64 O, .bool false] 36)) w1.heap.size 36 [.int .i64 J, .int .i64 F, .int .i64 O, .bool false]) := Lib.hid (Blk.new w1 _ _)
  clear hb1 HF HB1
  go_upto_region 6 with fail
  generalize w1.alloc (.cells #[.int .i64 J, .int .i64 F, .int .i64 O, .bool false] 36) = V at HB2 HN ⊢
  generalize w1.heap.size = hb at HN ⊢
  have HV := Lib.hid (HP.out.more HB2.out)
  have c0 := HV.out.cell0
  have n1 := HN.out.cell (j := 1) rfl
  have n2 := HN.out.cell (j := 2) rfl
  have b0 := HLE.out V HB2.out
  have b1 := HN.out.lt
  have HLD : Hid (∀ W, Below V.heap.size V W → Calls Tryz.prog 47 #[.pointer (some ⟨bt, 0, none⟩), .int .i64 F, .int .i64 O, .int .i64 4] W fun e w' => e = .returned (.tuple #[.int .u32 u, .int .i64 0]) ∧ W = w') := Lib.hid fun W hW => HL.out W (HV.out.more hW)
  apply wp_region_auto [45, 46, 47, 48, 49, 50, 51, 52, 53, 54, 44, 55, 56, 14] [_, _, _, _, _, _, _, _, _, _, _, _, _, _] (fun W' => Below V.heap.size V W')
  case hm => kernel_rfl
  case hT => intro y; simp only [setAll, List.setIfInBounds_toArray, List.set_cons_succ, List.set_cons_zero]; exact rfl
  case hok => kernel_rfl
  case hn => decide
  case hw => exact (Below.refl _ _).drew
  case hs =>
   refine auto_op 45 [] (by kernel_rfl) (fun y w' HW hd K hK => ?_) ?_
   ·go_simp
    refine hK _ _ ?_ ?_ HW
    ·simp [upd]
    ·exact rfl
   refine auto_op 46 [0] (by kernel_rfl) (fun y w' HW hd K hK => ?_) ?_
   ·have e0 := hd_nth (hd 0 (by simp)) rfl
    go_simp
    refine hK _ _ ?_ ?_ HW
    ·simp [upd, e0]
    ·exact rfl
   refine auto_op 47 [1] (by kernel_rfl) (fun y w' HW hd K hK => ?_) ?_
   ·have e1 := hd_nth (hd 1 (by simp)) rfl
    go_simp
    refine hK _ _ ?_ ?_ HW
    ·simp [upd, e1]
    ·exact rfl
   refine auto_op 48 [2] (by kernel_rfl) (fun y w' HW hd K hK => ?_) ?_
   ·have e2 := hd_nth (hd 2 (by simp)) rfl
    have hcl : ∀ p : Addr, p.block < V.heap.size → w'.cell? p = V.cell? p := fun p hp => HW.cell hp
    go_simp
    refine hK _ _ ?_ ?_ HW
    ·simp [upd, e2]
    ·exact rfl
   refine auto_op 49 [] (by kernel_rfl) (fun y w' HW hd K hK => ?_) ?_
   ·go_simp
    refine hK _ _ ?_ ?_ HW
    ·simp [upd]
    ·exact rfl
   refine auto_op 50 [4] (by kernel_rfl) (fun y w' HW hd K hK => ?_) ?_
   ·have e4 := hd_nth (hd 4 (by simp)) rfl
    have hcl : ∀ p : Addr, p.block < V.heap.size → w'.cell? p = V.cell? p := fun p hp => HW.cell hp
    go_simp
    refine hK _ _ ?_ ?_ HW
    ·simp [upd, e4]
    ·exact rfl
   refine auto_op 51 [] (by kernel_rfl) (fun y w' HW hd K hK => ?_) ?_
   ·go_simp
    refine hK _ _ ?_ ?_ HW
    ·simp [upd]
    ·exact rfl
   refine auto_op 52 [6] (by kernel_rfl) (fun y w' HW hd K hK => ?_) ?_
   ·have e6 := hd_nth (hd 6 (by simp)) rfl
    have hcl : ∀ p : Addr, p.block < V.heap.size → w'.cell? p = V.cell? p := fun p hp => HW.cell hp
    go_simp
    refine hK _ _ ?_ ?_ HW
    ·simp [upd, e6]
    ·exact rfl
   refine auto_op 53 [] (by kernel_rfl) (fun y w' HW hd K hK => ?_) ?_
   ·go_simp
    refine hK _ _ ?_ ?_ HW
    ·simp [upd]
    ·exact rfl
   refine auto_op 54 [3, 5, 7, 8] (by kernel_rfl) (fun y w' HW hd K hK => ?_) ?_
   ·have e3 := hd_nth (hd 3 (by simp)) rfl
    have e5 := hd_nth (hd 5 (by simp)) rfl
    have e7 := hd_nth (hd 7 (by simp)) rfl
    have e8 := hd_nth (hd 8 (by simp)) rfl
    go_simp
    refine (HLD.out _ HW).mono ?_
    rintro e w3 ⟨rfl, rfl⟩
    refine hK _ _ ?_ ?_ HW
    ·simp [upd, e3, e5, e7, e8]
    ·exact rfl
   refine auto_op 44 [9] (by kernel_rfl) (fun y w' HW hd K hK => ?_) ?_
   ·have e9 := hd_nth (hd 9 (by simp)) rfl
    go_simp
    refine hK _ _ ?_ ?_ HW
    ·simp [upd, e9]
    ·exact rfl
   refine auto_op 55 [10] (by kernel_rfl) (fun y w' HW hd K hK => ?_) ?_
   ·have e10 := hd_nth (hd 10 (by simp)) rfl
    go_simp
    refine hK _ _ ?_ ?_ HW
    ·simp [upd, e10]
    ·exact rfl
   refine auto_op 56 [10] (by kernel_rfl) (fun y w' HW hd K hK => ?_) ?_
   ·have e10 := hd_nth (hd 10 (by simp)) rfl
    go_simp
    refine hK _ _ ?_ ?_ HW
    ·simp [upd, e10]
    ·exact rfl
   refine auto_op 14 [11, 9, 0, 1, 2, 3, 4, 5, 6, 7, 8, 9, 10, 11] (by kernel_rfl) (fun y w' HW hd K hK => ?_) ?_
   ·have e0 := hd_nth (hd 0 (by simp)) rfl
    have e1 := hd_nth (hd 1 (by simp)) rfl
    have e2 := hd_nth (hd 2 (by simp)) rfl
    have e3 := hd_nth (hd 3 (by simp)) rfl
    have e4 := hd_nth (hd 4 (by simp)) rfl
    have e5 := hd_nth (hd 5 (by simp)) rfl
    have e6 := hd_nth (hd 6 (by simp)) rfl
    have e7 := hd_nth (hd 7 (by simp)) rfl
    have e8 := hd_nth (hd 8 (by simp)) rfl
    have e9 := hd_nth (hd 9 (by simp)) rfl
    have e10 := hd_nth (hd 10 (by simp)) rfl
    have e11 := hd_nth (hd 11 (by simp)) rfl
    go_simp
    refine hK _ _ ?_ ?_ HW
    ·simp [upd, e0, e1, e2, e3, e4, e5, e6, e7, e8, e9, e10, e11]
    ·exact rfl
   refine auto_last fun y w' HW hd K hK => ?_
   have e0 := hd_nth (hd 0 (by omega)) rfl
   have e1 := hd_nth (hd 1 (by omega)) rfl
   have e2 := hd_nth (hd 2 (by omega)) rfl
   have e3 := hd_nth (hd 3 (by omega)) rfl
   have e4 := hd_nth (hd 4 (by omega)) rfl
   have e5 := hd_nth (hd 5 (by omega)) rfl
   have e6 := hd_nth (hd 6 (by omega)) rfl
   have e7 := hd_nth (hd 7 (by omega)) rfl
   have e8 := hd_nth (hd 8 (by omega)) rfl
   have e9 := hd_nth (hd 9 (by omega)) rfl
   have e10 := hd_nth (hd 10 (by omega)) rfl
   have e11 := hd_nth (hd 11 (by omega)) rfl
   have e12 := hd_nth (hd 12 (by omega)) rfl
   have e13 := hd_nth (hd 13 (by omega)) rfl
   go_simp
   refine hK _ _ ?_
   clear hd hK K e0 e1 e2 e3 e4 e5 e6 e7 e8 e9 e10 e11 e12 e13
   have HB9 := Lib.hid (HB2.out.trans (HW.mono HB2.out.size))
   clear HW
   go_wp2
   go_ret2
   exact ⟨rfl, HB9.out⟩
theorem refLoad20_any (on us : Bool) (rt z wd k u c : Int) (h0 : 0 ≤ z) (h1 : z < 4294967296) (hr : ld20 n S L on rt us z wd k = (u, c)) (w : World) (hP : DV w g bt B q n gv cap S L D) :
  Calls Tryz.prog 12 #[.pointer (some ⟨g, 0, none⟩), .agg #[.bool on, .int .i64 rt, .bool us], .int .u32 z, .int .i64 wd, .int .i64 k] w fun e w' => e = .returned (.tuple #[.int .u32 u, .int .i64 c]) ∧ Below w.heap.size w w' := by
 unfold ld20 at hr
 cases hk : okZ wd z with
 | false =>
  rw [hk, if_neg (by decide)] at hr
  injection hr with e1 e2
  subst e1 e2
  exact refLoad20_bad on us rt z wd k h0 h1 hk w
 | true =>
  rw [hk, if_pos rfl] at hr
  by_cases hc : (locF n S L on rt us z k).2 = 0
  ·rw [if_pos hc] at hr
   injection hr with e1 e2
   subst e1 e2
   exact refLoad20_ok on us rt z wd k h0 h1 hk hc w hP
  ·rw [if_neg hc] at hr
   injection hr with e1 e2
   subst e1 e2
   exact refLoad20_flt on us rt z wd k _ _ h0 h1 hk rfl hc rfl w hP
theorem refSave20_ok (on us : Bool) (rt z wd x : Int) (h0 : 0 ≤ z) (h1 : z < 4294967296) (hx0 : 0 ≤ x) (hx1 : x < 4294967296) (hk : okZ wd z = true) (hc : (locF n S L on rt us z 2).2 = 0) (w : World) (hP : DV w g bt B q n gv cap S L D) :
  Calls Tryz.prog 19 #[.pointer (some ⟨g, 0, none⟩), .agg #[.bool on, .int .i64 rt, .bool us], .int .u32 z, .int .i64 wd, .int .u32 x] w fun e w' => e = .returned (.int .i64 0) ∧ DV w' g bt B q n gv cap (svL S (locF n S L on rt us z 2).1 wd x) L D ∧ Kq [gv] w w' := by
 have HB : Hid (Below w.heap.size w (w.alloc (.cells #[.bool on, .int .i64 rt, .bool us] 30))) := Lib.hid ((Below.refl _ _).alloc (Nat.le_refl _) _)
 obtain ⟨j, f, o, hh, _, fn, f32, ho, _⟩ := loc_hit hP.mp.2 h0 hc
 obtain ⟨M, hM, hw, hfit⟩ := ok_fit h0 hk ho
 have HF := Lib.hid (Wa.refFind_any on us rt z 2 0 _ h0 h1 hc hh _ (hP.more HB.out))
 obtain ⟨S', hS'⟩ : ∃ S', svL S (locF n S L on rt us z 2).1 wd x = S' := ⟨_, rfl⟩
 have HL : Hid (∀ W, DV W g bt B q n gv cap S L D → Calls Tryz.prog 54 #[.pointer (some ⟨bt, 0, none⟩), .int .i64 f, .int .i64 o, .int .i64 wd, .int .u32 x] W fun e w' => e = .returned (.int .i64 0) ∧ DV w' g bt B q n gv cap S' L D ∧ W.grownBy w' (some gv)) := Lib.hid fun W hW => by
  have hpl := load_len hW.s0 f32 hfit x
  rw [hh] at hS'
  have hS2 : Fr.layF S f (putZ (Fr.frameL S f) o M x) = S' := by
   rw [← hS']
   unfold svL
   rw [hM]
   simp
  obtain ⟨vs, hs⟩ := hW.st
  have := Fr.refSave_own hs fn hw hfit hx0 hx1
  rw [← hM] at this
  refine this.mono fun e w' ⟨he, ⟨vs', h'⟩, hg⟩ => ⟨he, hW.saved ⟨vs', ?_⟩ ?_ ?_ hg, hg⟩
  ·rw [Fr.fr_at S fn, Fr.fr_lay hW.s0 fn hW.n32 hpl, hS2] at h'
   exact h'
  ·rw [← hS2]
   exact Fr.length_layF hW.s0 f32 hpl
  ·rw [← hS2]
   exact Fr.layF_bytes hW.s1 f (putZ_bytes (Fr.frameL_bytes hW.s1 f) o M x)
 rw [hS']
 have HP := Lib.hid hP
 have hy := okZ_yes h0 hk
 have HGB : Hid (gv < w.heap.size) := Lib.hid hP.gvB.2
 clear hP hc hh hk hS' hM hw hfit ho fn f32 hx0 hx1
 generalize (j : Int) = J at HF
 generalize (f : Int) = F at HF HL
 generalize (o : Int) = O at HF HL
 unfold hitV at HF
 dsimp only at HF
 rcases hy with rfl | ⟨rfl, d0⟩ | ⟨rfl, d0⟩
 all_goals
  go_enter Tryz.func19, Tryz.ntmps19
  go_wp2_with fail
  refine HF.out.mono ?_
  rintro e w1 ⟨rfl, hb1⟩
  have HB1 := Lib.hid (HB.out.trans (hb1.mono HB.out.size))
  have HB2 : Hid (Below w.heap.size w (w1.alloc (.cells #[.int .i64 J, .int .i64 F, .int .i64 O, .bool false] 36))) := Lib.hid (HB1.out.alloc HB1.out.size _)
  have HN : Hid (Blk (w1.alloc (.cells #[.int .i64 J, .int .i64 F, .int .i64 O, .bool false] 36)) w1.heap.size 36 [.int .i64 J, .int .i64 F, .int .i64 O, .bool false]) := Lib.hid (Blk.new w1 _ _)
  clear hb1 HF HB1
  go_upto_region 5 with fail
  generalize w1.alloc (.cells #[.int .i64 J, .int .i64 F, .int .i64 O, .bool false] 36) = V at HB2 HN ⊢
  generalize w1.heap.size = hb at HN ⊢
  have HV := Lib.hid (HP.out.more HB2.out)
  have c0 := HV.out.cell0
  have n1 := HN.out.cell (j := 1) rfl
  have n2 := HN.out.cell (j := 2) rfl
  go_still_tail 10, (by kernel_rfl)
  change wpList _ _ _ _ _ V.drew
  have HV2 : Hid (DV V.drew g bt B q n gv cap S L D) := Lib.hid (HV.out.more (Below.refl _ _).drew)
  have HB3 : Hid (Below w.heap.size w V.drew) := Lib.hid HB2.out.drew
  clear c0 n1 n2 HV HN HB2
  generalize V.drew = V2 at HV2 HB3 ⊢
  go_wp2_with fail
  refine (HL.out _ HV2.out).mono ?_
  rintro e w3 ⟨rfl, hv3, hg3⟩
  have HV3 := Lib.hid hv3
  have HK3 : Hid (Kq [gv] w w3) := Lib.hid ((Kq.of_below HB3.out).trans (Kq.of_grown hg3 (by simp)))
  clear hv3 hg3 HV2 HB3
  go_wp2
  go_ret
  exact ⟨rfl, HV3.out, HK3.out⟩
theorem refSave20_any (on us : Bool) (rt z wd x c : Int) (S' : List Int) (h0 : 0 ≤ z) (h1 : z < 4294967296) (hx0 : 0 ≤ x) (hx1 : x < 4294967296) (hc : sc20 n S L on rt us z wd = c) (hS : ss20 n S L on rt us z wd x = S') (w : World) (hP : DV w g bt B q n gv cap S L D) :
  Calls Tryz.prog 19 #[.pointer (some ⟨g, 0, none⟩), .agg #[.bool on, .int .i64 rt, .bool us], .int .u32 z, .int .i64 wd, .int .u32 x] w fun e w' => e = .returned (.int .i64 c) ∧ DV w' g bt B q n gv cap S' L D ∧ Kq [gv] w w' := by
 subst hc hS
 unfold sc20 ss20
 cases hk : okZ wd z with
 | false =>
  rw [if_neg (by decide), if_neg (by decide)]
  exact (refSave20_bad on us rt z wd x h0 h1 hk w).mono fun e w' ⟨h2, h3⟩ => ⟨h2, hP.more h3, Kq.of_below h3⟩
 | true =>
  rw [if_pos rfl, if_pos rfl]
  by_cases hc : (locF n S L on rt us z 2).2 = 0
  ·rw [if_pos hc, hc]
   exact refSave20_ok on us rt z wd x h0 h1 hx0 hx1 hk hc w hP
  ·rw [if_neg hc]
   exact (refSave20_flt on us rt z wd x _ _ h0 h1 hk rfl hc rfl w hP).mono fun e w' ⟨h2, h3⟩ => ⟨h2, hP.more h3, Kq.of_below h3⟩
end
end Go.Proofs.YteaincdeoajkeaaGreatDoor.Mm
end
section
/- Stage 20: what the program is to keep (MmuC: to be shown of the program that lands); both sides' memory in one world (MZ), and what each act leaves of it. -/
namespace Go.Proofs.YteaincdeoajkeaaGreatDoor.Mm
open Go.RowKit Go.Shelf Ut Oc Vw Wa
set_option maxRecDepth 100000
set_option linter.unusedVariables false
set_option maxHeartbeats 4000000

/-- where law20's pages lie; a map whose pages lie there, those that are there -/
def placeP (p : Int) : Gm.Pl := (11 - p, 3 - 2 * (p / 9))
def Lay (L : List Gm.Pl) : Prop := Gm.Okay L ∧ ∀ i : Nat, i < 12 → Gm.plN L i = (0, 0) ∨ Gm.plN L i = placeP i
/-- what none of the document's rows begins with -/
def notRow : Value → Prop
 | .int .u8 _ => False
 | .slice _ _ _ => False
 | _ => True
/-- blocks below the document's, or that begin otherwise than its rows: the document's memory stays -/
theorem dv_kqN {w w' : World} {g bt B q n gv cap : Nat} {S : List Int} {L : List Gm.Pl} {D : List Bool} {T : List Nat} (h : DV w g bt B q n gv cap S L D) (k : Kq T w w') (hg : g ∉ T) (hq : q ∉ T)
  (hT : ∀ x ∈ T, x < B ∨ ∃ v, w.cell? ⟨x, 0, none⟩ = some v ∧ notRow v) : DV w' g bt B q n gv cap S L D := by
 obtain ⟨vs, h1⟩ := h.st
 refine ⟨h.blk.kq k hg, ⟨vs, ?_⟩, ⟨h.mp.1.kq k hq, h.mp.2⟩, h.len, h.pos, h.s0, h.s1, h.n32, h.bq, h.qg⟩
 have hn := h.pos
 have hno : ∀ x v, B ≤ x → w.cell? ⟨x, 0, none⟩ = some v → ¬ notRow v → x ∉ T := fun x v hx hc h2 hm => by
  rcases hT x hm with h | ⟨u, h, h3⟩
  ·omega
  ·rw [hc] at h; injection h with h; subst h; exact h2 h3
 have hbt : bt ∉ T := hno bt _ h1.lo h1.cell0 (fun e => e)
 have hgB := (h1.own.lt gv rfl).1
 have hgl := (h1.own.lt gv rfl).2
 obtain ⟨g0, c0, hg0, _⟩ := h1.at_ 0 hn
 have hgv : gv ∉ T := hno gv _ hgB hg0 (fun e => e)
 refine ⟨(k.block bt h1.lt hbt).trans h1.box, h1.lo, ?_, h1.len, fun i hi => ?_, h1.bytes, fun e => by omega⟩
 ·refine ⟨h1.own.1, ?_⟩
  rcases h1.own.2 with ⟨e, _⟩ | ⟨g, c, cur, e, hb, hg, rest⟩
  ·cases e
  ·refine .inr ⟨g, c, cur, e, hb, ?_, rest⟩
   injection e with e
   injection e with e
   injection e with e
   subst e
   exact (k.block gv hgl hgv).trans hg
 ·obtain ⟨g, c, hv, hB, h2, h3, h4⟩ := h1.rows i hi
  refine ⟨g, c, hv, hB, h2, h3, h4.1, fun j hj => ?_⟩
  have hgT : g ∉ T := by
   obtain ⟨x, e, _, hc⟩ := h4.2 0 (by omega)
   injection e with e
   subst e
   rw [add_plain] at hc
   exact hno g _ hB hc (fun e => e)
  obtain ⟨x, e, hx, hc⟩ := h4.2 j hj
  injection e with e
  subst e
  refine ⟨_, rfl, Nat.lt_of_lt_of_le hx k.size, ?_⟩
  rw [World.cell?_of_block (w := w)]
  ·exact hc
  ·rw [block_of_add]
   exact k.block g hx hgT

/-- a slice of records of k integers that the call made -/
def Recs20 (k : Nat) (W w' : World) (v : Value) (xs : List (List Int)) : Prop := ∃ a c, v = .slice a xs.length c ∧ IRow k w' a xs ∧ ∀ y, a = some y → W.heap.size ≤ y.block
abbrev hitX (h : Int × Int × Int) (f : Bool) : Value := .agg #[.int .i64 h.1, .int .i64 h.2.1, .int .i64 h.2.2, .bool f]
abbrev modeV (on : Bool) (rt : Int) (us : Bool) : Value := .agg #[.bool on, .int .i64 rt, .bool us]
/-- what is remembered lies where the map says, with no right of its own; tb says which pages are tables -/
def HeldP (L : List Gm.Pl) (tb : Int → Bool) (κ : List (List Int)) : Prop := ∀ x ∈ κ, ∃ kr kp ep ef er : Int, x = [kr, kp, ep, ef, er] ∧ Gm.thB (Gm.atP L ep) = true ∧ (Gm.atP L ep).1 = ef ∧
 ((bits .and .i64 er 2 == 0) = false → (bits .and .i64 (Gm.atP L ep).2 2 == 0) = false ∧ tb ep = false) ∧ ((bits .and .i64 er 1 == 0) = false → (bits .and .i64 (Gm.atP L ep).2 1 == 0) = false) ∧ ((bits .and .i64 er 4 == 0) = false → ep < 8)
/-- the program's predicate: world, the Mmu's block, what turns of it, the view's blocks, the guest's bytes, its map, what is remembered, which pages are tables -/
structure PMt where
 /-- blocks below this one never turn; what holds of them (package variables), if anything -/
 nb : Nat
 G : World → Prop
 P : World → Nat → List Nat → Nat → Nat → Nat → List Int → List Gm.Pl → List (List Int) → (Int → Bool) → Prop
/-- an act left bytes S and map L, in blocks of T or new ones -/
structure StepM (PM : PMt) (W W' : World) (u : Nat) (T : List Nat) (b s m : Nat) (S : List Int) (L : List Gm.Pl) : Prop where
 ex : ∃ T' κ tb, PM.P W' u T' b s m S L κ tb ∧ ∀ x ∈ T', x ∈ T ∨ W.heap.size ≤ x
 kq : Kq (b :: s :: T) W W'
/-- what the program is to keep -/
structure MmuC (PM : PMt) : Prop where
 lt : ∀ {W u T b s m S L κ tb}, PM.P W u T b s m S L κ tb → ∀ x ∈ T, x < W.heap.size
 tag : ∀ {W u T b s m S L κ tb}, PM.P W u T b s m S L κ tb → ∀ x ∈ T, ∃ v, W.cell? ⟨x, 0, none⟩ = some v ∧ notRow v
 pv : ∀ {W u T b s m S L κ tb}, PM.P W u T b s m S L κ tb → ∃ D, PV W b s m 12 S L D
 gb : ∀ {W W'}, PM.G W → Below PM.nb W W' → PM.G W'
 kq : ∀ {W W' u T b s m S L κ tb X}, PM.P W u T b s m S L κ tb → Kq X W W' → (∀ x ∈ b :: s :: m :: T, x ∉ X) → (∀ x ∈ X, PM.nb ≤ x) → PM.P W' u T b s m S L κ tb
 held : ∀ {W u T b s m S L κ tb}, PM.P W u T b s m S L κ tb → HeldP L tb κ
 new : ∀ {W b s m S L D} (r : Int), PM.G W → PM.nb ≤ s → Lay L → PV W b s m 12 S L D → 0 ≤ r → r ≤ 4 → Calls Tryz.prog 22 #[.pointer (some ⟨b, 0, none⟩), .int .i64 r] W fun e w' => (∃ u, e = .returned (.tuple #[.pointer (some ⟨u, 0, none⟩), .int .i64 0]) ∧ Hid (∃ T tb, PM.P w' u T b s m S L [] tb ∧ ∀ x ∈ T, W.heap.size ≤ x)) ∧ Kq [b] W w'
 find : ∀ {W u T b s m S L κ tb} (on us : Bool) (rt z k : Int), PM.P W u T b s m S L κ tb → 0 ≤ z → z < 4294967296 →
  Calls Tryz.prog 9 #[.pointer (some ⟨u, 0, none⟩), modeV on rt us, .int .u32 z, .int .i64 k] W fun e w' => (∃ fast, e = .returned (.tuple #[hitX (locF 12 S L on rt us z k).1 fast, .int .i64 (locF 12 S L on rt us z k).2]) ∧ (fast = true → on = true ∧ (locF 12 S L on rt us z k).2 = 0)) ∧ Hid (StepM PM W w' u T b s m S L)
 twice : ∀ {W u T b s m S L tb} (rt z : Int) (us : Bool), PM.P W u T b s m S L [] tb → 0 ≤ z → z < 4294967296 → (locF 12 S L true rt us z 1).2 = 0 →
  Calls Tryz.prog 9 #[.pointer (some ⟨u, 0, none⟩), modeV true rt us, .int .u32 z, .int .i64 1] W fun e w' => e = .returned (.tuple #[hitX (locF 12 S L true rt us z 1).1 false, .int .i64 0]) ∧
   Hid (∀ V, Below w'.heap.size w' V → Calls Tryz.prog 9 #[.pointer (some ⟨u, 0, none⟩), modeV true rt us, .int .u32 z, .int .i64 1] V fun e w'' => e = .returned (.tuple #[hitX (locF 12 S L true rt us z 1).1 true, .int .i64 0]) ∧ ∃ Y, Kq Y V w'' ∧ ∀ y ∈ Y, y ∈ b :: s :: T ∨ (W.heap.size ≤ y ∧ y < w'.heap.size)) ∧ Kq (b :: s :: T) W w'
 load : ∀ {W u T b s m S L κ tb} (on us : Bool) (rt z wd k : Int), PM.P W u T b s m S L κ tb → 0 ≤ z → z < 4294967296 →
  Calls Tryz.prog 11 #[.pointer (some ⟨u, 0, none⟩), modeV on rt us, .int .u32 z, .int .i64 wd, .int .i64 k] W fun e w' => e = .returned (.tuple #[.int .u32 (ld20 12 S L on rt us z wd k).1, .int .i64 (ld20 12 S L on rt us z wd k).2]) ∧ Hid (StepM PM W w' u T b s m S L)
 save : ∀ {W u T b s m S L κ tb} (on us : Bool) (rt z wd x : Int), PM.P W u T b s m S L κ tb → 0 ≤ z → z < 4294967296 → 0 ≤ x → x < 4294967296 →
  Calls Tryz.prog 18 #[.pointer (some ⟨u, 0, none⟩), modeV on rt us, .int .u32 z, .int .i64 wd, .int .u32 x] W fun e w' => e = .returned (.int .i64 (sc20 12 S L on rt us z wd)) ∧ Hid (StepM PM W w' u T b s m (ss20 12 S L on rt us z wd x) L)
 vsave : ∀ {W W' u T b s m S L κ tb D D'} (z wd x : Int), PM.P W u T b s m S L κ tb → PV W b s m 12 S L D → 0 ≤ z → saveD 12 L D z wd = D' → PV W' b s m 12 (saveS 12 S L z wd x) L D' → Kq [s, b] W W' → PM.P W' u T b s m (saveS 12 S L z wd x) L κ tb
 gone : ∀ {W V u T b s m S L κ tb X} (p : Int), PM.P W u T b s m S L κ tb → Kq X W V → (∀ x ∈ b :: s :: T, x ∉ X) → (∀ x ∈ X, PM.nb ≤ x) → Gm.MAt V m (Gm.drL L p) → 0 ≤ p → p < 12 →
  Calls Tryz.prog 23 #[.pointer (some ⟨u, 0, none⟩), .int .i64 p] V fun e w' => e = .returned (.int .i64 0) ∧ Hid (StepM PM V w' u T b s m S (Gm.drL L p))
 set : ∀ {W V u T b s m S L κ tb X} (p : Int), PM.P W u T b s m S L κ tb → Kq X W V → (∀ x ∈ b :: s :: T, x ∉ X) → (∀ x ∈ X, PM.nb ≤ x) → Gm.MAt V m (Gm.setL L p (placeP p)) → 0 ≤ p → p < 12 → ∃ κ tb, PM.P V u T b s m S (Gm.setL L p (placeP p)) κ tb
 flush : ∀ {W u T b s m S L κ tb}, PM.P W u T b s m S L κ tb → Calls Tryz.prog 24 #[.pointer (some ⟨u, 0, none⟩)] W fun e w' => (∃ n, e = .returned (.int .i64 n)) ∧ Hid (StepM PM W w' u T b s m S L)
 kept : ∀ {W u T b s m S L κ tb}, PM.P W u T b s m S L κ tb → Calls Tryz.prog 14 #[.pointer (some ⟨u, 0, none⟩)] W fun e w' => (∃ v, e = .returned v ∧ Hid (∃ T' κ' tb', PM.P w' u T' b s m S L κ' tb' ∧ Recs20 5 W w' v κ' ∧ κ'.length ≤ 1000 ∧ (∀ y n c, v = .slice (some y) n c → y.block ∉ T') ∧ ∀ x ∈ T', x ∈ T ∨ W.heap.size ≤ x)) ∧ Kq (b :: s :: T) W w'
 table : ∀ {W u T b s m S L κ tb} (p : Int), PM.P W u T b s m S L κ tb → Calls Tryz.prog 17 #[.pointer (some ⟨u, 0, none⟩), .int .i64 p] W fun e w' => (∃ t, e = .returned (.bool t) ∧ (t = true → tb p = true)) ∧ Hid (∃ T' κ' tb', PM.P w' u T' b s m S L κ' tb' ∧ (∀ p, tb' p = true → tb p = true) ∧ ∀ x ∈ T', x ∈ T ∨ W.heap.size ≤ x) ∧ Kq (b :: s :: T) W w'

/-- block numbers: the Mmu's, the view's, the document's -/
structure BK where
 u : Nat
 b : Nat
 s : Nat
 m : Nat
 g : Nat
 bt : Nat
 B : Nat
 q : Nat
 gv : Nat
 cap : Nat
structure BKo (n0 : Nat) (K : BK) : Prop where
 ws : n0 ≤ K.s
 sm : K.s < K.m
 mB : K.m < K.B
 Bq : K.B ≤ K.q
 qb : K.q < K.b
 bg : K.b < K.g
 gvl : K.B ≤ K.gv
 gvg : K.gv < K.g
 bgv : K.b ≠ K.gv
/-- both sides' memory; the blocks of X have stayed as they were in V -/
structure MZT (PM : PMt) (V : World) (X : List Nat) (w0 w : World) (K : BK) (T : List Nat) (κ : List (List Int)) (tb : Int → Bool) (Sp : List Int) (Lp : List Gm.Pl) (Sd : List Int) (Ld : List Gm.Pl) : Prop where
 pm : PM.P w K.u T K.b K.s K.m Sp Lp κ tb
 tT : ∀ t ∈ T, K.g < t ∧ t ∉ X
 dv : ∃ D, DV w K.g K.bt K.B K.q 12 K.gv K.cap Sd Ld D
 o : BKo w0.heap.size K
 nb : PM.nb ≤ w0.heap.size
 st : ∀ x ∈ X, K.g < x ∧ x < w.heap.size ∧ w.heap[x]? = V.heap[x]?
 b : Below w0.heap.size w0 w
def MZ (PM : PMt) (V : World) (X : List Nat) (w0 w : World) (K : BK) (Sp : List Int) (Lp : List Gm.Pl) (Sd : List Int) (Ld : List Gm.Pl) : Prop := ∃ T κ tb, MZT PM V X w0 w K T κ tb Sp Lp Sd Ld
/-- .. with the tables known -/
def MZB (PM : PMt) (V : World) (X : List Nat) (w0 w : World) (K : BK) (tb : Int → Bool) (Sp : List Int) (Lp : List Gm.Pl) (Sd : List Int) (Ld : List Gm.Pl) : Prop := ∃ T κ, MZT PM V X w0 w K T κ tb Sp Lp Sd Ld
/-- a page was dropped from the program's map, and nothing else was done about it yet -/
structure MZd (PM : PMt) (V : World) (X : List Nat) (w0 w : World) (K : BK) (p : Int) (Sp : List Int) (Lp : List Gm.Pl) (Sd : List Int) (Ld : List Gm.Pl) : Prop where
 ex : ∃ W T κ tb, PM.P W K.u T K.b K.s K.m Sp Lp κ tb ∧ (∀ t ∈ T, K.g < t ∧ t ∉ X) ∧ Kq [K.m, K.q] W w
 mp : Gm.MAt w K.m (Gm.drL Lp p)
 dv : ∃ D, DV w K.g K.bt K.B K.q 12 K.gv K.cap Sd Ld D
 o : BKo w0.heap.size K
 nb : PM.nb ≤ w0.heap.size
 st : ∀ x ∈ X, K.g < x ∧ x < w.heap.size ∧ w.heap[x]? = V.heap[x]?
 b : Below w0.heap.size w0 w
section
variable {PM : PMt} (C : MmuC PM) {V U w0 w w' : World} {X Y T T' : List Nat} {K : BK} {κ : List (List Int)} {tb : Int → Bool} {Sp Sp' Sd Sd' : List Int} {Lp Lp' Ld Ld' : List Gm.Pl}
theorem MZT.glt (h : MZT PM V X w0 w K T κ tb Sp Lp Sd Ld) : K.g < w.heap.size := h.dv.elim fun _ h => h.lt
theorem MZB.mz (h : MZB PM V X w0 w K tb Sp Lp Sd Ld) : MZ PM V X w0 w K Sp Lp Sd Ld := h.elim fun T h => h.elim fun κ h => ⟨T, κ, tb, h⟩
theorem MZ.glt (h : MZ PM V X w0 w K Sp Lp Sd Ld) : K.g < w.heap.size := h.elim fun _ h => h.elim fun _ h => h.elim fun _ h => h.glt
theorem MZ.nb (h : MZ PM V X w0 w K Sp Lp Sd Ld) : PM.nb ≤ w0.heap.size := h.elim fun _ h => h.elim fun _ h => h.elim fun _ h => h.nb
theorem MZ.b (h : MZ PM V X w0 w K Sp Lp Sd Ld) : Below w0.heap.size w0 w := h.elim fun _ h => h.elim fun _ h => h.elim fun _ h => h.b
theorem MZ.dv (h : MZ PM V X w0 w K Sp Lp Sd Ld) : ∃ D, DV w K.g K.bt K.B K.q 12 K.gv K.cap Sd Ld D := h.elim fun _ h => h.elim fun _ h => h.elim fun _ h => h.dv
theorem MZ.st (h : MZ PM V X w0 w K Sp Lp Sd Ld) : ∀ x ∈ X, K.g < x ∧ x < w.heap.size ∧ w.heap[x]? = V.heap[x]? := h.elim fun _ h => h.elim fun _ h => h.elim fun _ h => h.st
theorem MZ.blk (h : MZ PM V X w0 w K Sp Lp Sd Ld) {x : Nat} {t : TypeId} {cs : List Value} (hx : x ∈ X) (hb : Blk V x t cs) : Blk w x t cs := hb.of_block (h.st x hx).2.2
include C
theorem MZT.step (h : MZT PM V X w0 w K T κ tb Sp Lp Sd Ld) {κ' : List (List Int)} {tb' : Int → Bool} (hp : PM.P w' K.u T' K.b K.s K.m Sp' Lp' κ' tb') (hT : ∀ x ∈ T', x ∈ T ∨ w.heap.size ≤ x) (hk : Kq (K.b :: K.s :: T) w w') : MZT PM V X w0 w' K T' κ' tb' Sp' Lp' Sd Ld := by
 have o := h.o
 have h1 := o.ws
 have h2 := o.sm
 have h3 := o.mB
 have h4 := o.Bq
 have h5 := o.qb
 have h6 := o.bg
 have hgl := h.glt
 obtain ⟨D, hd⟩ := h.dv
 obtain ⟨Dp, hpv⟩ := C.pv h.pm
 have hgT : K.g ∉ K.b :: K.s :: T := by
  simp only [List.mem_cons, not_or]
  exact ⟨by omega, by omega, fun hm => by have := (h.tT _ hm).1; omega⟩
 have hqT : K.q ∉ K.b :: K.s :: T := by
  simp only [List.mem_cons, not_or]
  exact ⟨by omega, by omega, fun hm => by have := (h.tT _ hm).1; omega⟩
 refine ⟨hp, fun t ht => ?_, ⟨D, dv_kqN hd hk hgT hqT fun x hx => ?_⟩, o, h.nb, fun x hx => ?_, h.b.trans (hk.under (fun y hy => ?_) h.b.size)⟩
 ·rcases hT t ht with h7 | h7
  ·exact h.tT t h7
  ·exact ⟨by omega, fun hm => by have := (h.st t hm).2.1; omega⟩
 ·rcases List.mem_cons.1 hx with rfl | hx
  ·exact .inr ⟨_, hpv.cell0, trivial⟩
  rcases List.mem_cons.1 hx with rfl | hx
  ·exact .inl (by omega)
  ·exact .inr (C.tag h.pm x hx)
 ·obtain ⟨s1, s2, s3⟩ := h.st x hx
  refine ⟨s1, Nat.lt_of_lt_of_le s2 hk.size, (hk.block x s2 ?_).trans s3⟩
  simp only [List.mem_cons, not_or]
  exact ⟨by omega, by omega, fun hm => (h.tT x hm).2 hx⟩
 ·rcases List.mem_cons.1 hy with rfl | hy
  ·omega
  rcases List.mem_cons.1 hy with rfl | hy
  ·omega
  ·have := (h.tT y hy).1
   omega
theorem MZT.stepM (h : MZT PM V X w0 w K T κ tb Sp Lp Sd Ld) (hs : StepM PM w w' K.u T K.b K.s K.m Sp' Lp') : MZ PM V X w0 w' K Sp' Lp' Sd Ld := by
 obtain ⟨T', κ', tb', hp, hT⟩ := hs.ex
 exact ⟨T', κ', tb', h.step C hp hT hs.kq⟩
/-- the document's side did something -/
theorem MZ.doc (h : MZ PM V X w0 w K Sp Lp Sd Ld) (hd : ∃ D, DV w' K.g K.bt K.B K.q 12 K.gv K.cap Sd' Ld' D) (hk : Kq [K.gv, K.g, K.q] w w') : MZ PM V X w0 w' K Sp Lp Sd' Ld' := by
 obtain ⟨T, κ, tb, h⟩ := h
 have o := h.o
 have h1 := o.ws
 have h2 := o.sm
 have h3 := o.mB
 have h4 := o.Bq
 have h5 := o.qb
 have h6 := o.bg
 have h7 := o.gvl
 have h8 := o.gvg
 have h9 := o.bgv
 have h0 := h.nb
 refine ⟨T, κ, tb, C.kq h.pm hk (fun x hx => ?_) (fun x hx => by
  simp only [List.mem_cons, List.not_mem_nil, or_false] at hx
  omega), h.tT, hd, o, h.nb, fun x hx => ?_, h.b.trans (hk.under (fun y hy => ?_) h.b.size)⟩
 ·simp only [List.mem_cons, List.not_mem_nil, or_false, not_or]
  rcases List.mem_cons.1 hx with rfl | hx
  ·omega
  rcases List.mem_cons.1 hx with rfl | hx
  ·omega
  rcases List.mem_cons.1 hx with rfl | hx
  ·omega
  ·have := (h.tT x hx).1
   omega
 ·obtain ⟨s1, s2, s3⟩ := h.st x hx
  refine ⟨s1, Nat.lt_of_lt_of_le s2 hk.size, (hk.block x s2 ?_).trans s3⟩
  simp only [List.mem_cons, List.not_mem_nil, or_false, not_or]
  omega
 ·simp only [List.mem_cons, List.not_mem_nil, or_false] at hy
  omega
theorem MZT.more (h : MZT PM V X w0 w K T κ tb Sp Lp Sd Ld) (hb : Below w.heap.size w w') : MZT PM V X w0 w' K T κ tb Sp Lp Sd Ld :=
 ⟨C.kq h.pm (X := []) (Kq.of_below hb) (fun _ _ => by simp) (fun _ hx => absurd hx (by simp)), h.tT, h.dv.elim fun D hd => ⟨D, hd.more hb⟩, h.o, h.nb, fun x hx => by
  obtain ⟨s1, s2, s3⟩ := h.st x hx
  exact ⟨s1, Nat.lt_of_lt_of_le s2 hb.size, (hb.block x s2).trans s3⟩, h.b.trans (hb.mono h.b.size)⟩
theorem MZ.more (h : MZ PM V X w0 w K Sp Lp Sd Ld) (hb : Below w.heap.size w w') : MZ PM V X w0 w' K Sp Lp Sd Ld := by
 obtain ⟨T, κ, tb, h⟩ := h
 exact ⟨T, κ, tb, h.more C hb⟩
theorem MZB.more (h : MZB PM V X w0 w K tb Sp Lp Sd Ld) (hb : Below w.heap.size w w') : MZB PM V X w0 w' K tb Sp Lp Sd Ld := by
 obtain ⟨T, κ, h⟩ := h
 exact ⟨T, κ, h.more C hb⟩
/-- new blocks to be kept from here on -/
theorem MZ.enter (h : MZ PM V X w0 w K Sp Lp Sd Ld) (hb : Below w.heap.size w U) (Y : List Nat) (hY : ∀ y ∈ Y, w.heap.size ≤ y ∧ y < U.heap.size) : MZ PM U (Y ++ X) w0 U K Sp Lp Sd Ld := by
 obtain ⟨T, κ, tb, h⟩ := h
 have h1 := h.more C hb
 have hgl := h.glt
 refine ⟨T, κ, tb, h1.pm, fun t ht => ⟨(h1.tT t ht).1, fun hm => ?_⟩, h1.dv, h1.o, h1.nb, fun x hx => ?_, h1.b⟩
 ·rcases List.mem_append.1 hm with hm | hm
  ·have := (hY t hm).1
   have := C.lt h.pm t ht
   omega
  ·exact (h1.tT t ht).2 hm
 ·rcases List.mem_append.1 hx with hx | hx
  ·have := hY x hx
   exact ⟨by omega, this.2, rfl⟩
  ·obtain ⟨s1, s2, s3⟩ := h1.st x hx
   exact ⟨s1, s2, rfl⟩
omit C in
theorem MZ.leave (h : MZ PM V X w0 w K Sp Lp Sd Ld) (hb : Below w.heap.size w U) (h' : MZ PM U (Y ++ X) w0 w' K Sp' Lp' Sd' Ld') : MZ PM V X w0 w' K Sp' Lp' Sd' Ld' := by
 have hst := h.st
 obtain ⟨T, κ, tb, h'⟩ := h'
 refine ⟨T, κ, tb, h'.pm, fun t ht => ⟨(h'.tT t ht).1, fun hm => (h'.tT t ht).2 (List.mem_append_right _ hm)⟩, h'.dv, h'.o, h'.nb, fun x hx => ?_, h'.b⟩
 obtain ⟨s1, s2, s3⟩ := h'.st x (List.mem_append_right _ hx)
 obtain ⟨t1, t2, t3⟩ := hst x hx
 exact ⟨s1, s2, s3.trans ((hb.block x t2).trans t3)⟩
end
end Go.Proofs.YteaincdeoajkeaaGreatDoor.Mm
end
