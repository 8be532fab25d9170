/- Several texts in one: Bh Zf -/
import Derived.Test.YtoafonbplbblpaaZ29
import Derived.Test.YtoafonbplbblpaaZ31
section
/- Package pte: the document's Table and Leaf. -/
namespace Go.Proofs.Ytoafonbplbblpaa.Pe
open Go.RowKit Ut
set_option linter.unusedVariables false
set_option maxRecDepth 100000
set_option maxHeartbeats 4000000

theorem refTable_fault (x : Nat) (hx : x < 4294967296) (f : Int) (hf : getF x = f) (h0 : ¬ f = 0) (w : World) :
    Calls Try.prog 38 #[.int .u32 x] w fun e w' => e = .returned (.tuple #[.int .i64 0, .int .i64 f]) ∧ Below w.heap.size w w' := by
  have G := Lib.hid (refGet_any x hx f hf)
  clear hf
  generalize oF f = o at G
  generalize rF f x = r at G
  generalize gF f x = g at G
  go_enter Try.func38, Try.ntmps38
  go_wp2_with fail
  refine (G.out _).mono ?_
  rintro e w1 ⟨rfl, hb1⟩
  have HB1 := Lib.hid (hb1.trans ((pte_below o r g w1).mono hb1.size))
  clear hb1
  go_wp2
  go_ret2
  exact ⟨rfl, HB1.out⟩
theorem refTable_by (x : Nat) (r : Nat) (g : Int) (G : Hid (∀ w, Calls Try.prog 61 #[.int .u32 x] w fun e w' => e = .returned (.tuple #[pteV true r g, .int .i64 0]) ∧ Below w.heap.size w w')) (w : World) :
    Calls Try.prog 38 #[.int .u32 x] w fun e w' => e = .returned (.tuple #[.int .i64 (if r = 0 then g else 0), .int .i64 (if r = 0 then 0 else 5)]) ∧ Below w.heap.size w w' := by
  by_cases h0 : r = 0
  · subst h0
    go_enter Try.func38, Try.ntmps38
    go_wp2_with fail
    refine (G.out _).mono ?_
    rintro e w1 ⟨rfl, hb1⟩
    have HB1 := Lib.hid (hb1.trans ((pte_below true (0 : Nat) g w1).mono hb1.size))
    clear hb1
    go_wp2
    go_ret2
    exact ⟨rfl, HB1.out⟩
  · rw [if_neg h0, if_neg h0]
    have h1 : ¬ (r : Int) = 0 := by omega
    go_enter Try.func38, Try.ntmps38
    go_wp2_with fail
    refine (G.out _).mono ?_
    rintro e w1 ⟨rfl, hb1⟩
    have HB1 := Lib.hid (hb1.trans ((pte_below true r g w1).mono hb1.size))
    clear hb1
    go_wp2
    go_ret2
    exact ⟨rfl, HB1.out⟩
theorem refTable_any (x : Nat) (hx : x < 4294967296) (z f : Int) (hz : gF (tabF x) x = z) (hf : tabF x = f) (w : World) :
    Calls Try.prog 38 #[.int .u32 x] w fun e w' => e = .returned (.tuple #[.int .i64 z, .int .i64 f]) ∧ Below w.heap.size w w' := by
  subst hz hf
  unfold tabF
  by_cases h : getF x = 0
  · rw [if_pos h]
    have H := refTable_by x (rOf x) _ (Lib.hid (refGet_any x hx 0 h)) w
    by_cases h0 : rOf x = 0
    · rw [if_pos h0]; rw [if_pos h0, if_pos h0] at H; exact H
    · rw [if_neg h0]; rw [if_neg h0, if_neg h0] at H; exact H
  · rw [if_neg h, show gF (getF x) x = 0 from if_neg h]
    exact refTable_fault x hx _ rfl h w

theorem refLeaf_fault (x : Nat) (hx : x < 4294967296) (f : Int) (hf : getF x = f) (h0 : ¬ f = 0) (w : World) :
    Calls Try.prog 39 #[.int .u32 x] w fun e w' => e = .returned (.tuple #[pteV false 0 0, .int .i64 f]) ∧ Below w.heap.size w w' := by
  have G := Lib.hid (refGet_any x hx f hf)
  rw [show oF f = false from decide_eq_false h0, show gF f x = 0 from if_neg h0, show rF f x = 0 from if_neg h0] at G
  have HB0 := Lib.hid (pte_below false 0 0 w)
  have HP0 := Lib.hid (pte_at false 0 0 w)
  have HBW : Hid (∀ (W : World) (o : Obj), Below w.heap.size w W → Below w.heap.size w (W.alloc o)) := Lib.hid fun W o h => h.alloc h.size _
  have HSet : Hid (∀ (W : World) (j : Nat) (v : Value), Below w.heap.size w W → Below w.heap.size w (W.setCell ⟨w.heap.size, j, none⟩ v)) := Lib.hid fun W j v h => h.setCell (p := ⟨w.heap.size, j, none⟩) (by simp) _
  clear hf
  go_enter Try.func39, Try.ntmps39
  go_wp2_with fail
  refine (G.out _).mono ?_
  rintro e w1 ⟨rfl, hb1⟩
  have hq0 := HP0.out.more hb1
  obtain ⟨r0, r1, r2⟩ := hq0.cells
  have f0 := hq0.frozen 0
  have f1 := hq0.frozen 1
  have f2 := hq0.frozen 2
  have hz0 := hq0.lt
  have HB1 := Lib.hid (HB0.out.trans (hb1.mono HB0.out.size))
  clear hb1 hq0
  go_wp2
  exact bodyPost_ret (v := .tuple #[pteV false 0 0, .int .i64 f]) (by simp [results, Try.results39, go_sem, r0, r1, r2, hz0]) rfl ⟨rfl, by (repeat (first | refine HBW.out _ _ ?_ | refine HSet.out _ _ _ ?_)); exact HB1.out⟩
theorem refLeaf_by (x : Nat) (r : Nat) (g : Int) (G : Hid (∀ w, Calls Try.prog 61 #[.int .u32 x] w fun e w' => e = .returned (.tuple #[pteV true r g, .int .i64 0]) ∧ Below w.heap.size w w')) (w : World) :
    Calls Try.prog 39 #[.int .u32 x] w fun e w' => e = .returned (.tuple #[if r % 8 = 0 then pteV false 0 0 else pteV true r g, .int .i64 (if r % 8 = 0 then 5 else 0)]) ∧ Below w.heap.size w w' := by
  have HB0 := Lib.hid (pte_below false 0 0 w)
  have HP0 := Lib.hid (pte_at false 0 0 w)
  have HBW : Hid (∀ (W : World) (o : Obj), Below w.heap.size w W → Below w.heap.size w (W.alloc o)) := Lib.hid fun W o h => h.alloc h.size _
  have HSet : Hid (∀ (W : World) (j : Nat) (v : Value), Below w.heap.size w W → Below w.heap.size w (W.setCell ⟨w.heap.size, j, none⟩ v)) := Lib.hid fun W j v h => h.setCell (p := ⟨w.heap.size, j, none⟩) (by simp) _
  by_cases h0 : r % 8 = 0
  · rw [if_pos h0, if_pos h0]
    have h1 : (r : Int) % 8 = 0 := by omega
    go_enter Try.func39, Try.ntmps39
    go_wp2_with fail
    refine (G.out _).mono ?_
    rintro e w1 ⟨rfl, hb1⟩
    have hq0 := HP0.out.more hb1
    obtain ⟨r0, r1, r2⟩ := hq0.cells
    have f0 := hq0.frozen 0
    have f1 := hq0.frozen 1
    have f2 := hq0.frozen 2
    have hz0 := hq0.lt
    have HB1 := Lib.hid (HB0.out.trans (hb1.mono HB0.out.size))
    clear hb1 hq0
    go_wp2
    exact bodyPost_ret (v := .tuple #[pteV false 0 0, .int .i64 5]) (by simp [results, Try.results39, go_sem, r0, r1, r2, hz0]) rfl ⟨rfl, by (repeat (first | refine HBW.out _ _ ?_ | refine HSet.out _ _ _ ?_)); exact HB1.out⟩
  · rw [if_neg h0, if_neg h0]
    have h1 : ¬ (r : Int) % 8 = 0 := by omega
    go_enter Try.func39, Try.ntmps39
    go_wp2_with fail
    refine (G.out _).mono ?_
    rintro e w1 ⟨rfl, hb1⟩
    have hq0 := HP0.out.more hb1
    obtain ⟨r0, r1, r2⟩ := hq0.cells
    have f0 := hq0.frozen 0
    have f1 := hq0.frozen 1
    have f2 := hq0.frozen 2
    have hz0 := hq0.lt
    have HB1 := Lib.hid (HB0.out.trans (hb1.mono HB0.out.size))
    clear hb1 hq0
    go_wp2
    exact bodyPost_ret (v := .tuple #[pteV true r g, .int .i64 0]) (by simp [results, Try.results39, go_sem, r0, r1, r2, hz0]) rfl ⟨rfl, by (repeat (first | refine HBW.out _ _ ?_ | refine HSet.out _ _ _ ?_)); exact HB1.out⟩
theorem refLeaf_any (x : Nat) (hx : x < 4294967296) (f : Int) (hf : leafF x = f) (w : World) :
    Calls Try.prog 39 #[.int .u32 x] w fun e w' => e = .returned (.tuple #[pteV (oF f) (rF f x) (gF f x), .int .i64 f]) ∧ Below w.heap.size w w' := by
  subst hf
  unfold leafF
  by_cases h : getF x = 0
  · rw [if_pos h]
    have H := refLeaf_by x (rOf x) _ (Lib.hid (refGet_any x hx 0 h)) w
    by_cases h0 : rOf x % 8 = 0
    · rw [if_pos h0]; rw [if_pos h0, if_pos h0] at H; exact H
    · rw [if_neg h0]; rw [if_neg h0, if_neg h0] at H; exact H
  · rw [if_neg h, show oF (getF x) = false from decide_eq_false h, show gF (getF x) x = 0 from if_neg h, show rF (getF x) x = 0 from if_neg h]
    exact refLeaf_fault x hx _ rfl h w
end Go.Proofs.Ytoafonbplbblpaa.Pe
end
section
/- Package walk: the document's Walk. -/
namespace Go.Proofs.Ytoafonbplbblpaa.Wa
open Go.RowKit Go.Shelf Ut Oc Vw
set_option maxRecDepth 100000
set_option linter.unusedVariables false
set_option maxHeartbeats 4000000

/-- the document's walk stands at t -/
structure RS (w W : World) (t : Stp) : Prop where
  b : Below w.heap.size w W
  r : Blk W w.heap.size 40 stz.cs
  s : Blk W (w.heap.size + 1) 40 t.cs
theorem RS.more {w W W' : World} {t : Stp} (h : RS w W t) (hb : Below W.heap.size W W') : RS w W' t := ⟨h.b.trans (hb.mono h.b.size), h.r.more hb, h.s.more hb⟩
theorem RS.set {w W : World} {t : Stp} (h : RS w W t) (j : Nat) (v : Value) (t' : Stp) (e : t.cs.set j v = t'.cs) : RS w (W.setCell ⟨w.heap.size + 1, j, none⟩ v) t' :=
  ⟨h.b.setCell (p := ⟨w.heap.size + 1, j, none⟩) (by simp) _, h.r.of_block (Below.heap_setCell _ _ _ _ (by simp)), e ▸ h.s.set j v⟩
theorem ref_new (w : World) : ∃ V, V = ((w.alloc (.cells #[.bool false, .int .i64 0, .int .i64 0, .int .i64 0, .int .i64 0, .int .i64 0] 40)).alloc (.cells stz.cs.toArray 40)).setRow (w.heap.size + 1) st0.cs.toArray ∧ RS w V st0 := by
  refine ⟨_, rfl, ?_, ?_, ?_⟩
  · exact below_setRow (((Below.refl _ _).alloc (Nat.le_refl _) _).alloc (by simp) _) (by omega) _
  · refine Blk.of_block ?_ (setRow_other _ _ _ _ (by omega))
    exact (Blk.new w _ [.bool false, .int .i64 0, .int .i64 0, .int .i64 0, .int .i64 0, .int .i64 0]).more ((Below.refl _ _).alloc (Nat.le_refl _) _)
  · have := Blk.new (w.alloc (.cells #[.bool false, .int .i64 0, .int .i64 0, .int .i64 0, .int .i64 0, .int .i64 0] 40)) 40 stz.cs
    rw [World.size_alloc] at this
    exact this.row _

theorem refWalk_far (a : Option Addr) (p z : Int) (R : Stp) (h0 : 16384 ≤ z) (h1 : z < 4294967296) (hR : R = ⟨false, 0, 0, 2, -1, -1⟩) (w : World) :
    Calls Try.prog 11 #[.pointer a, .int .i64 p, .int .u32 z] w fun e w' => e = .returned R.v ∧ Below w.heap.size w w' := by
  have HRR := Lib.hid hR
  clear hR
  have HR2 := step_run (w.alloc (.cells #[.bool false, .int .i64 0, .int .i64 0, .int .i64 0, .int .i64 0, .int .i64 0] 40))
  have HN2 : Hid (Blk ((w.alloc (.cells #[.bool false, .int .i64 0, .int .i64 0, .int .i64 0, .int .i64 0, .int .i64 0] 40)).alloc (.cells stz.cs.toArray 40)) (w.heap.size + 1) 40 stz.cs) := Lib.hid (by
    have := Blk.new (w.alloc (.cells #[.bool false, .int .i64 0, .int .i64 0, .int .i64 0, .int .i64 0, .int .i64 0] 40)) 40 stz.cs
    rwa [World.size_alloc] at this)
  obtain ⟨V, hV, hS⟩ := ref_new w
  have HV := Lib.hid hV
  have HS := Lib.hid hS
  clear hV hS
  go_enter Try.func11, Try.ntmps11
  generalize hQQ : bodyPost _ _ _ = QQ
  have HQQ := Lib.hid hQQ
  clear hQQ
  go_upto_region 1 with fail
  refine wp_region_lit ?_
  refine wpList_buildTo rfl 40 _ rfl _ rfl st0.cs.toArray (by kernel_rfl) ?_
  refine Great.wpList_allocTo rfl (some 7) rfl (.pointer (some ⟨w.heap.size + 1, 0, none⟩)) (.cells stz.cs.toArray 40) (HR2.out _ _ rfl _ (by simp)) ?_
  refine wpList_store_rowTo rfl 40 _ _ rfl rfl (w.heap.size + 1) st0.cs.toArray (by kernel_rfl) (by kernel_rfl) 40 stz.cs.toArray HN2.out (size_stp _) rfl (one_stp _) ?_
  rw [show World.setRow _ (w.heap.size + 1) st0.cs.toArray = V from HV.out.symm]
  clear HR2 HN2 HV
  simp only [Act.put, List.setIfInBounds_toArray, List.set_cons_succ, List.set_cons_zero]
  have f3 := HS.out.s.frozen 3
  have c3 := HS.out.s.cell (j := 3) rfl
  have l0 := HS.out.s.lt
  go_upto_region 4 with fail
  have HX := Lib.hid (HS.out.set 3 (.int .i64 2) ⟨false, 0, 0, 2, -1, -1⟩ rfl)
  generalize World.setCell _ ⟨w.heap.size + 1, 3, none⟩ _ = X at HX ⊢
  refine wp_region_lit ?_
  refine wpList_load_row rfl 40 _ rfl (w.heap.size + 1) rfl 40 (Stp.cs ⟨false, 0, 0, 2, -1, -1⟩).toArray (0, 0) _ HX.out.s Try.underlying40 rfl (size_stp _) ?_
  refine wpList_store_rowTo rfl 40 _ _ rfl rfl w.heap.size (Stp.cs ⟨false, 0, 0, 2, -1, -1⟩).toArray (by kernel_rfl) (by kernel_rfl) 40 stz.cs.toArray HX.out.r (size_stp _) rfl (one_stp _) ?_
  have HR4 := Lib.hid (HX.out.r.row (Stp.cs ⟨false, 0, 0, 2, -1, -1⟩))
  have HB4 := Lib.hid (below_setRow HX.out.b (Nat.le_refl w.heap.size) (Stp.cs ⟨false, 0, 0, 2, -1, -1⟩).toArray)
  generalize World.setRow _ w.heap.size (Stp.cs ⟨false, 0, 0, 2, -1, -1⟩).toArray = Y at HR4 HB4 ⊢
  simp only [Act.put, List.setIfInBounds_toArray, List.set_cons_succ, List.set_cons_zero]
  go_wp2
  rw [← HQQ.out, HRR.out]
  exact bodyPost_ret (v := Stp.v ⟨false, 0, 0, 2, -1, -1⟩) (results_cell_row Try.results11 _ _ _ _ _ _ _ rfl HR4.out Try.underlying40 rfl (size_stp _)) rfl ⟨rfl, HB4.out⟩

section
variable {g bt B q n gv cap : Nat} {S : List Int} {L : List Gm.Pl} {D : List Bool}
theorem refWalk_in (p z : Int) (R : Stp) (h0 : 0 ≤ z) (h1 : z < 16384) (hR : walkF n S L p z = R) (w : World) (hP : DV w g bt B q n gv cap S L D) :
    Calls Try.prog 11 #[.pointer (some ⟨g, 0, none⟩), .int .i64 p, .int .u32 z] w fun e w' => e = .returned R.v ∧ Below w.heap.size w w' := by
  have hs1 := hP.s1
  obtain ⟨x, hx⟩ : ∃ x, rootW n S L p z = x := ⟨_, rfl⟩
  obtain ⟨t1, ht1⟩ : ∃ f, hasT n L p = f := ⟨_, rfl⟩
  obtain ⟨f2, hf2⟩ : ∃ f, rootF n S L p z = f := ⟨_, rfl⟩
  obtain ⟨T, hT⟩ : ∃ f, rootT n S L p z = f := ⟨_, rfl⟩
  obtain ⟨y, hy⟩ : ∃ x, leafW n S L p z = x := ⟨_, rfl⟩
  obtain ⟨f4, hf4⟩ : ∃ f, leafE n S L p z = f := ⟨_, rfl⟩
  obtain ⟨t3, ht3⟩ : ∃ f, hasT n L T = f := ⟨_, rfl⟩
  unfold walkF st1 st2 st3 st4 noneF at hR
  rw [if_neg (by omega), hT, ht1, hf2, ht3, hy, hf4] at hR
  have hxl : x < 4294967296 := by rw [← hx]; exact wordT_lt hs1 _ _
  have hyl : y < 4294967296 := by rw [← hy]; exact wordT_lt hs1 _ _
  unfold rootF at hf2
  rw [hx] at hf2
  unfold rootT at hT
  rw [hx, show rootF n S L p z = Pe.tabF x by unfold rootF; rw [hx]] at hT
  unfold leafE at hf4
  rw [hy] at hf4
  unfold rootW at hx
  unfold leafW at hy
  rw [show rootT n S L p z = T by unfold rootT rootF rootW; rw [hx]; exact hT] at hy
  have C1 : Hid (∀ W, Below w.heap.size w W → Calls Try.prog 37 #[.pointer (some ⟨g, 0, none⟩), .int .i64 p, .int .u32 (z / 1024)] W fun e w' => e = .returned (.tuple #[.int .u32 x, .bool t1]) ∧ Below W.heap.size W w') := Lib.hid fun W hW => by
    have := refTab_any p (z / 1024).toNat x t1 (by omega) ht1 hx W (hP.more hW)
    rwa [show (((z / 1024).toNat : Nat) : Int) = z / 1024 by omega] at this
  have C2 : Hid (∀ W, Calls Try.prog 38 #[.int .u32 x] W fun e w' => e = .returned (.tuple #[.int .i64 T, .int .i64 f2]) ∧ Below W.heap.size W w') := Lib.hid fun W => Pe.refTable_any x hxl T f2 hT hf2 W
  have C3 : Hid (∀ W, Below w.heap.size w W → Calls Try.prog 37 #[.pointer (some ⟨g, 0, none⟩), .int .i64 T, .int .u32 (z / 64 % 16)] W fun e w' => e = .returned (.tuple #[.int .u32 y, .bool t3]) ∧ Below W.heap.size W w') := Lib.hid fun W hW => by
    have := refTab_any T (z / 64 % 16).toNat y t3 (by omega) ht3 hy W (hP.more hW)
    rwa [show (((z / 64 % 16).toNat : Nat) : Int) = z / 64 % 16 by omega] at this
  have C4 : Hid (∀ W, Calls Try.prog 39 #[.int .u32 y] W fun e w' => e = .returned (.tuple #[Pe.pteV (Pe.oF f4) (Pe.rF f4 y) (Pe.gF f4 y), .int .i64 f4]) ∧ Below W.heap.size W w') := Lib.hid fun W => Pe.refLeaf_any y hyl f4 hf4 W
  have HR0 := Lib.hid hR.symm
  clear hP hs1 hx ht1 hf2 hT hy hf4 ht3 hR hxl hyl
  have HR2 := step_run (w.alloc (.cells #[.bool false, .int .i64 0, .int .i64 0, .int .i64 0, .int .i64 0, .int .i64 0] 40))
  have HN2 : Hid (Blk ((w.alloc (.cells #[.bool false, .int .i64 0, .int .i64 0, .int .i64 0, .int .i64 0, .int .i64 0] 40)).alloc (.cells stz.cs.toArray 40)) (w.heap.size + 1) 40 stz.cs) := Lib.hid (by
    have := Blk.new (w.alloc (.cells #[.bool false, .int .i64 0, .int .i64 0, .int .i64 0, .int .i64 0, .int .i64 0] 40)) 40 stz.cs
    rwa [World.size_alloc] at this)
  obtain ⟨V, hV, hS⟩ := ref_new w
  have HV := Lib.hid hV
  have HS := Lib.hid hS
  clear hV hS
  go_enter Try.func11, Try.ntmps11
  generalize hQQ : bodyPost _ _ _ = QQ
  have HQQ := Lib.hid hQQ
  clear hQQ
  go_upto_region 1 with fail
  refine wp_region_lit ?_
  refine wpList_buildTo rfl 40 _ rfl _ rfl st0.cs.toArray (by kernel_rfl) ?_
  refine Great.wpList_allocTo rfl (some 7) rfl (.pointer (some ⟨w.heap.size + 1, 0, none⟩)) (.cells stz.cs.toArray 40) (HR2.out _ _ rfl _ (by simp)) ?_
  refine wpList_store_rowTo rfl 40 _ _ rfl rfl (w.heap.size + 1) st0.cs.toArray (by kernel_rfl) (by kernel_rfl) 40 stz.cs.toArray HN2.out (size_stp _) rfl (one_stp _) ?_
  rw [show World.setRow _ (w.heap.size + 1) st0.cs.toArray = V from HV.out.symm]
  clear HR2 HN2 HV
  simp only [Act.put, List.setIfInBounds_toArray, List.set_cons_succ, List.set_cons_zero]
  go_wp2_with fail
  refine (C1.out V HS.out.b).mono ?_
  rintro e w1 ⟨rfl, hb1⟩
  have HS1 := Lib.hid (HS.out.more hb1)
  clear hb1 HS C1
  cases t1
  · have HRR : Hid (R = ⟨false, 0, 0, 3, -1, -1⟩) := Lib.hid HR0.out
    clear HR0 C2 C3 C4
    have f3 := HS1.out.s.frozen 3
    have c3 := HS1.out.s.cell (j := 3) rfl
    have l0 := HS1.out.s.lt
    go_upto_region 8 with fail
    have HX := Lib.hid (HS1.out.set 3 (.int .i64 3) ⟨false, 0, 0, 3, -1, -1⟩ rfl)
    generalize World.setCell _ ⟨w.heap.size + 1, 3, none⟩ _ = X at HX ⊢
    refine wp_region_lit ?_
    refine wpList_load_row rfl 40 _ rfl (w.heap.size + 1) rfl 40 (Stp.cs ⟨false, 0, 0, 3, -1, -1⟩).toArray (0, 0) _ HX.out.s Try.underlying40 rfl (size_stp _) ?_
    refine wpList_store_rowTo rfl 40 _ _ rfl rfl w.heap.size (Stp.cs ⟨false, 0, 0, 3, -1, -1⟩).toArray (by kernel_rfl) (by kernel_rfl) 40 stz.cs.toArray HX.out.r (size_stp _) rfl (one_stp _) ?_
    have HR4 := Lib.hid (HX.out.r.row (Stp.cs ⟨false, 0, 0, 3, -1, -1⟩))
    have HB4 := Lib.hid (below_setRow HX.out.b (Nat.le_refl w.heap.size) (Stp.cs ⟨false, 0, 0, 3, -1, -1⟩).toArray)
    generalize World.setRow _ w.heap.size (Stp.cs ⟨false, 0, 0, 3, -1, -1⟩).toArray = Y at HR4 HB4 ⊢
    simp only [Act.put, List.setIfInBounds_toArray, List.set_cons_succ, List.set_cons_zero]
    go_wp2
    rw [← HQQ.out, HRR.out]
    exact bodyPost_ret (v := Stp.v ⟨false, 0, 0, 3, -1, -1⟩) (results_cell_row Try.results11 _ _ _ _ _ _ _ rfl HR4.out Try.underlying40 rfl (size_stp _)) rfl ⟨rfl, HB4.out⟩
  have f4_ := HS1.out.s.frozen 4
  have c4_ := HS1.out.s.cell (j := 4) rfl
  have l0 := HS1.out.s.lt
  go_upto_region 10 with fail
  have HS2 := Lib.hid (HS1.out.set 4 (.int .i64 p) ⟨false, 0, 0, 0, p, -1⟩ rfl)
  clear f4_ c4_ l0 HS1
  generalize World.setCell _ ⟨w.heap.size + 1, 4, none⟩ _ = w2 at HS2 ⊢
  go_wp2_with fail
  refine (C2.out w2).mono ?_
  rintro e w3 ⟨rfl, hb⟩
  have HS3 := Lib.hid (HS2.out.more hb)
  clear hb HS2 C2
  by_cases hz : f2 = 0
  · have hz2 : (f2 != 0) = false := by simp [hz]
    have hR2 := HR0.out
    rw [if_neg (by simp), if_neg (by simp [hz])] at hR2
    have HR1 := Lib.hid hR2
    clear hR2 HR0
    go_wp2_with fail
    refine (C3.out w3 HS3.out.b).mono ?_
    rintro e w4 ⟨rfl, hb⟩
    have HS4 := Lib.hid (HS3.out.more hb)
    clear hb HS3 C3 hz hz2
    cases t3
    · have HRR : Hid (R = ⟨false, 0, 0, 3, p, -1⟩) := Lib.hid HR1.out
      clear HR1 C4
      have f3 := HS4.out.s.frozen 3
      have c3 := HS4.out.s.cell (j := 3) rfl
      have l0 := HS4.out.s.lt
      go_upto_region 17 with fail
      have HX := Lib.hid (HS4.out.set 3 (.int .i64 3) ⟨false, 0, 0, 3, p, -1⟩ rfl)
      generalize World.setCell _ ⟨w.heap.size + 1, 3, none⟩ _ = X at HX ⊢
      refine wp_region_lit ?_
      refine wpList_load_row rfl 40 _ rfl (w.heap.size + 1) rfl 40 (Stp.cs ⟨false, 0, 0, 3, p, -1⟩).toArray (0, 0) _ HX.out.s Try.underlying40 rfl (size_stp _) ?_
      refine wpList_store_rowTo rfl 40 _ _ rfl rfl w.heap.size (Stp.cs ⟨false, 0, 0, 3, p, -1⟩).toArray (by kernel_rfl) (by kernel_rfl) 40 stz.cs.toArray HX.out.r (size_stp _) rfl (one_stp _) ?_
      have HR4 := Lib.hid (HX.out.r.row (Stp.cs ⟨false, 0, 0, 3, p, -1⟩))
      have HB4 := Lib.hid (below_setRow HX.out.b (Nat.le_refl w.heap.size) (Stp.cs ⟨false, 0, 0, 3, p, -1⟩).toArray)
      generalize World.setRow _ w.heap.size (Stp.cs ⟨false, 0, 0, 3, p, -1⟩).toArray = Y at HR4 HB4 ⊢
      simp only [Act.put, List.setIfInBounds_toArray, List.set_cons_succ, List.set_cons_zero]
      go_wp2
      rw [← HQQ.out, HRR.out]
      exact bodyPost_ret (v := Stp.v ⟨false, 0, 0, 3, p, -1⟩) (results_cell_row Try.results11 _ _ _ _ _ _ _ rfl HR4.out Try.underlying40 rfl (size_stp _)) rfl ⟨rfl, HB4.out⟩
    have HRR : Hid (R = ⟨Pe.oF f4, Pe.rF f4 y, Pe.gF f4 y, f4, p, T⟩) := Lib.hid HR1.out
    clear HR1
    generalize Pe.oF f4 = o at C4 HRR
    generalize Pe.rF f4 y = r at C4 HRR
    generalize Pe.gF f4 y = gg at C4 HRR
    have f5 := HS4.out.s.frozen 5
    have c5 := HS4.out.s.cell (j := 5) rfl
    have l0 := HS4.out.s.lt
    go_upto_region 19 with fail
    have HS5 := Lib.hid (HS4.out.set 5 (.int .i64 T) ⟨false, 0, 0, 0, p, T⟩ rfl)
    clear f5 c5 l0 HS4
    generalize World.setCell _ ⟨w.heap.size + 1, 5, none⟩ _ = w5 at HS5 ⊢
    go_wp2_with fail
    refine (C4.out w5).mono ?_
    rintro e w6 ⟨rfl, hb⟩
    have hs6 := HS5.out.more hb
    have hq6 : w.heap.size + 1 < w6.heap.size := hs6.s.lt
    have HS6 : Hid (RS w (w6.alloc (.cells #[.bool o, .int .i64 r, .int .i64 gg] 38)) ⟨false, 0, 0, 0, p, T⟩) := Lib.hid (hs6.more ((Below.refl _ _).alloc (Nat.le_refl _) _))
    have HN6 : Hid (Blk (w6.alloc (.cells #[.bool o, .int .i64 r, .int .i64 gg] 38)) w6.heap.size 38 [.bool o, .int .i64 r, .int .i64 gg]) := Lib.hid (Blk.new w6 _ _)
    clear hb HS5 C4 hs6
    go_upto_region 20 with fail
    generalize w6.alloc (.cells #[.bool o, .int .i64 r, .int .i64 gg] 38) = w7 at HS6 HN6 ⊢
    generalize w6.heap.size = pb at HN6 hq6 ⊢
    have g0 := HN6.out.cell (j := 0) rfl
    have g1 := HN6.out.cell (j := 1) rfl
    have g2 := HN6.out.cell (j := 2) rfl
    have gl := HN6.out.lt
    have f0 := HS6.out.s.frozen 0
    have c0 := HS6.out.s.cell (j := 0) rfl
    have f1 := HS6.out.s.frozen 1
    have c1 := HS6.out.s.cell (j := 1) rfl
    have f2_ := HS6.out.s.frozen 2
    have c2 := HS6.out.s.cell (j := 2) rfl
    have l0 := HS6.out.s.lt
    go_upto_region 21 with fail
    have HS7 := Lib.hid (((HS6.out.set 0 (.bool o) ⟨o, 0, 0, 0, p, T⟩ rfl).set 1 (.int .i64 r) ⟨o, r, 0, 0, p, T⟩ rfl).set 2 (.int .i64 gg) ⟨o, r, gg, 0, p, T⟩ rfl)
    clear g0 g1 g2 gl f0 c0 f1 c1 f2_ c2 l0 HS6 HN6
    generalize World.setCell _ ⟨w.heap.size + 1, 2, none⟩ _ = w8 at HS7 ⊢
    have f3 := HS7.out.s.frozen 3
    have c3 := HS7.out.s.cell (j := 3) rfl
    have l0 := HS7.out.s.lt
    go_upto_region 22 with fail
    have HX := Lib.hid (HS7.out.set 3 (.int .i64 f4) ⟨o, r, gg, f4, p, T⟩ rfl)
    generalize World.setCell _ ⟨w.heap.size + 1, 3, none⟩ _ = X at HX ⊢
    refine wp_region_lit ?_
    refine wpList_load_row rfl 40 _ rfl (w.heap.size + 1) rfl 40 (Stp.cs ⟨o, r, gg, f4, p, T⟩).toArray (0, 0) _ HX.out.s Try.underlying40 rfl (size_stp _) ?_
    refine wpList_store_rowTo rfl 40 _ _ rfl rfl w.heap.size (Stp.cs ⟨o, r, gg, f4, p, T⟩).toArray (by kernel_rfl) (by kernel_rfl) 40 stz.cs.toArray HX.out.r (size_stp _) rfl (one_stp _) ?_
    have HR4 := Lib.hid (HX.out.r.row (Stp.cs ⟨o, r, gg, f4, p, T⟩))
    have HB4 := Lib.hid (below_setRow HX.out.b (Nat.le_refl w.heap.size) (Stp.cs ⟨o, r, gg, f4, p, T⟩).toArray)
    generalize World.setRow _ w.heap.size (Stp.cs ⟨o, r, gg, f4, p, T⟩).toArray = Y at HR4 HB4 ⊢
    simp only [Act.put, List.setIfInBounds_toArray, List.set_cons_succ, List.set_cons_zero]
    go_wp2
    rw [← HQQ.out, HRR.out]
    exact bodyPost_ret (v := Stp.v ⟨o, r, gg, f4, p, T⟩) (results_cell_row Try.results11 _ _ _ _ _ _ _ rfl HR4.out Try.underlying40 rfl (size_stp _)) rfl ⟨rfl, HB4.out⟩
  · have hz2 : (f2 != 0) = true := by simp [hz]
    have hR2 := HR0.out
    rw [if_neg (by simp), if_pos hz] at hR2
    have HRR := Lib.hid hR2
    clear hR2 HR0 C3 C4
    have f3 := HS3.out.s.frozen 3
    have c3 := HS3.out.s.cell (j := 3) rfl
    have l0 := HS3.out.s.lt
    go_upto_region 13 with fail
    have HX := Lib.hid (HS3.out.set 3 (.int .i64 f2) ⟨false, 0, 0, f2, p, -1⟩ rfl)
    generalize World.setCell _ ⟨w.heap.size + 1, 3, none⟩ _ = X at HX ⊢
    refine wp_region_lit ?_
    refine wpList_load_row rfl 40 _ rfl (w.heap.size + 1) rfl 40 (Stp.cs ⟨false, 0, 0, f2, p, -1⟩).toArray (0, 0) _ HX.out.s Try.underlying40 rfl (size_stp _) ?_
    refine wpList_store_rowTo rfl 40 _ _ rfl rfl w.heap.size (Stp.cs ⟨false, 0, 0, f2, p, -1⟩).toArray (by kernel_rfl) (by kernel_rfl) 40 stz.cs.toArray HX.out.r (size_stp _) rfl (one_stp _) ?_
    have HR4 := Lib.hid (HX.out.r.row (Stp.cs ⟨false, 0, 0, f2, p, -1⟩))
    have HB4 := Lib.hid (below_setRow HX.out.b (Nat.le_refl w.heap.size) (Stp.cs ⟨false, 0, 0, f2, p, -1⟩).toArray)
    generalize World.setRow _ w.heap.size (Stp.cs ⟨false, 0, 0, f2, p, -1⟩).toArray = Y at HR4 HB4 ⊢
    simp only [Act.put, List.setIfInBounds_toArray, List.set_cons_succ, List.set_cons_zero]
    go_wp2
    rw [← HQQ.out, HRR.out]
    exact bodyPost_ret (v := Stp.v ⟨false, 0, 0, f2, p, -1⟩) (results_cell_row Try.results11 _ _ _ _ _ _ _ rfl HR4.out Try.underlying40 rfl (size_stp _)) rfl ⟨rfl, HB4.out⟩
theorem refWalk_any (p z : Int) (R : Stp) (h0 : 0 ≤ z) (h1 : z < 4294967296) (hR : walkF n S L p z = R) (w : World) (hP : DV w g bt B q n gv cap S L D) :
    Calls Try.prog 11 #[.pointer (some ⟨g, 0, none⟩), .int .i64 p, .int .u32 z] w fun e w' => e = .returned R.v ∧ Below w.heap.size w w' := by
  by_cases h : z < 16384
  · exact refWalk_in p z R h0 h hR w hP
  · have e : R = ⟨false, 0, 0, 2, -1, -1⟩ := by
      rw [← hR]
      unfold walkF
      rw [if_pos (by omega)]
    exact refWalk_far _ p z R (by omega) h1 e w
end
end Go.Proofs.Ytoafonbplbblpaa.Wa
end
