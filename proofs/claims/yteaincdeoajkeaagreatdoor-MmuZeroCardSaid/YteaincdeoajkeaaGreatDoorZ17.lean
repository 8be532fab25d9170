/- Several texts in one: Zf Bi Zi Zh -/
import Derived.Test.YteaincdeoajkeaaGreatDoorZ16
import Derived.Test.YteaincdeoajkeaaGreatDoorZ15
section
/- Package walk: the document's Walk. -/
namespace Go.Proofs.YteaincdeoajkeaaGreatDoor.Wa
open Go.RowKit Go.Shelf Ut Oc Vw
set_option maxRecDepth 100000
set_option linter.unusedVariables false
set_option maxHeartbeats 4000000

/-- the document's walk stands at t -/
structure RS (w W : World) (t : Stp) : Prop where
  b : Below w.heap.size w W
  r : Blk W w.heap.size 114 stz.cs
  s : Blk W (w.heap.size + 1) 114 t.cs
theorem RS.more {w W W' : World} {t : Stp} (h : RS w W t) (hb : Below W.heap.size W W') : RS w W' t := ⟨h.b.trans (hb.mono h.b.size), h.r.more hb, h.s.more hb⟩
theorem RS.set {w W : World} {t : Stp} (h : RS w W t) (j : Nat) (v : Value) (t' : Stp) (e : t.cs.set j v = t'.cs) : RS w (W.setCell ⟨w.heap.size + 1, j, none⟩ v) t' :=
  ⟨h.b.setCell (p := ⟨w.heap.size + 1, j, none⟩) (by simp) _, h.r.of_block (Below.heap_setCell _ _ _ _ (by simp)), e ▸ h.s.set j v⟩
theorem ref_new (w : World) : ∃ V, V = ((w.alloc (.cells #[.bool false, .int .i64 0, .int .i64 0, .int .i64 0, .int .i64 0, .int .i64 0] 114)).alloc (.cells stz.cs.toArray 114)).setRow (w.heap.size + 1) st0.cs.toArray ∧ RS w V st0 := by
  refine ⟨_, rfl, ?_, ?_, ?_⟩
  · exact below_setRow (((Below.refl _ _).alloc (Nat.le_refl _) _).alloc (by simp) _) (by omega) _
  · refine Blk.of_block ?_ (setRow_other _ _ _ _ (by omega))
    exact (Blk.new w _ [.bool false, .int .i64 0, .int .i64 0, .int .i64 0, .int .i64 0, .int .i64 0]).more ((Below.refl _ _).alloc (Nat.le_refl _) _)
  · have := Blk.new (w.alloc (.cells #[.bool false, .int .i64 0, .int .i64 0, .int .i64 0, .int .i64 0, .int .i64 0] 114)) 114 stz.cs
    rw [World.size_alloc] at this
    exact this.row _

theorem refWalk_far (a : Option Addr) (p z : Int) (R : Stp) (h0 : 16384 ≤ z) (h1 : z < 4294967296) (hR : R = ⟨false, 0, 0, 2, -1, -1⟩) (w : World) :
    Calls Tryz.prog 43 #[.pointer a, .int .i64 p, .int .u32 z] w fun e w' => e = .returned R.v ∧ Below w.heap.size w w' := by
  have HRR := Lib.hid hR
  clear hR
  have HR2 := step_run (w.alloc (.cells #[.bool false, .int .i64 0, .int .i64 0, .int .i64 0, .int .i64 0, .int .i64 0] 114))
  have HN2 : Hid (Blk ((w.alloc (.cells #[.bool false, .int .i64 0, .int .i64 0, .int .i64 0, .int .i64 0, .int .i64 0] 114)).alloc (.cells stz.cs.toArray 114)) (w.heap.size + 1) 114 stz.cs) := Lib.hid (by
    have := Blk.new (w.alloc (.cells #[.bool false, .int .i64 0, .int .i64 0, .int .i64 0, .int .i64 0, .int .i64 0] 114)) 114 stz.cs
    rwa [World.size_alloc] at this)
  obtain ⟨V, hV, hS⟩ := ref_new w
  have HV := Lib.hid hV
  have HS := Lib.hid hS
  clear hV hS
  go_enter Tryz.func43, Tryz.ntmps43
  generalize hQQ : bodyPost _ _ _ = QQ
  have HQQ := Lib.hid hQQ
  clear hQQ
  go_upto_region 1 with fail
  refine wp_region_lit ?_
  refine wpList_buildTo rfl 114 _ rfl _ rfl st0.cs.toArray (by kernel_rfl) ?_
  refine Great.wpList_allocTo rfl (some 7) rfl (.pointer (some ⟨w.heap.size + 1, 0, none⟩)) (.cells stz.cs.toArray 114) (HR2.out _ _ rfl _ (by simp)) ?_
  refine wpList_store_rowTo rfl 114 _ _ rfl rfl (w.heap.size + 1) st0.cs.toArray (by kernel_rfl) (by kernel_rfl) 114 stz.cs.toArray HN2.out (size_stp _) rfl (one_stp _) ?_
  rw [show World.setRow _ (w.heap.size + 1) st0.cs.toArray = V from HV.out.symm]
  clear HR2 HN2 HV
  simp only [Act.put, List.setIfInBounds_toArray, List.set_cons_succ, List.set_cons_zero]
  have f3 := HS.out.s.frozen 3
  have c3 := HS.out.s.cell (j := 3) rfl
  have l0 := HS.out.s.lt
  go_upto_region 4 with fail
  have HX := Lib.hid (HS.out.set 3 (.int .i64 2) ⟨false, 0, 0, 2, -1, -1⟩ rfl)
  generalize World.setCell _ ⟨w.heap.size + 1, 3, none⟩ _ = X at HX ⊢
  refine wp_region_lit ?_
  refine wpList_load_row rfl 114 _ rfl (w.heap.size + 1) rfl 114 (Stp.cs ⟨false, 0, 0, 2, -1, -1⟩).toArray (0, 0) _ HX.out.s Tryz.underlying114 rfl (size_stp _) ?_
  refine wpList_store_rowTo rfl 114 _ _ rfl rfl w.heap.size (Stp.cs ⟨false, 0, 0, 2, -1, -1⟩).toArray (by kernel_rfl) (by kernel_rfl) 114 stz.cs.toArray HX.out.r (size_stp _) rfl (one_stp _) ?_
  have HR4 := Lib.hid (HX.out.r.row (Stp.cs ⟨false, 0, 0, 2, -1, -1⟩))
  have HB4 := Lib.hid (below_setRow HX.out.b (Nat.le_refl w.heap.size) (Stp.cs ⟨false, 0, 0, 2, -1, -1⟩).toArray)
  generalize World.setRow _ w.heap.size (Stp.cs ⟨false, 0, 0, 2, -1, -1⟩).toArray = Y at HR4 HB4 ⊢
  simp only [Act.put, List.setIfInBounds_toArray, List.set_cons_succ, List.set_cons_zero]
  go_wp2
  rw [← HQQ.out, HRR.out]
  exact bodyPost_ret (v := Stp.v ⟨false, 0, 0, 2, -1, -1⟩) (results_cell_row Tryz.results43 _ _ _ _ _ _ _ rfl HR4.out Tryz.underlying114 rfl (size_stp _)) rfl ⟨rfl, HB4.out⟩

section
variable {g bt B q n gv cap : Nat} {S : List Int} {L : List Gm.Pl} {D : List Bool}
theorem refWalk_in (p z : Int) (R : Stp) (h0 : 0 ≤ z) (h1 : z < 16384) (hR : walkF n S L p z = R) (w : World) (hP : DV w g bt B q n gv cap S L D) :
    Calls Tryz.prog 43 #[.pointer (some ⟨g, 0, none⟩), .int .i64 p, .int .u32 z] w fun e w' => e = .returned R.v ∧ Below w.heap.size w w' := by
  have hs1 := hP.s1
  obtain ⟨x, hx⟩ : ∃ x, rootW n S L p z = x := ⟨_, rfl⟩
  obtain ⟨t1, ht1⟩ : ∃ f, hasT n L p = f := ⟨_, rfl⟩
  obtain ⟨f2, hf2⟩ : ∃ f, rootF n S L p z = f := ⟨_, rfl⟩
  obtain ⟨T, hT⟩ : ∃ f, rootT n S L p z = f := ⟨_, rfl⟩
  obtain ⟨y, hy⟩ : ∃ x, leafW n S L p z = x := ⟨_, rfl⟩
  obtain ⟨f4, hf4⟩ : ∃ f, leafE n S L p z = f := ⟨_, rfl⟩
  obtain ⟨t3, ht3⟩ : ∃ f, hasT n L T = f := ⟨_, rfl⟩
  unfold walkF st1 st2 st3 st4 noneF at hR
  rw [if_neg (by omega), hT, ht1, hf2, ht3, hy, hf4] at hR
  have hxl : x < 4294967296 := by rw [← hx]; exact wordT_lt hs1 _ _
  have hyl : y < 4294967296 := by rw [← hy]; exact wordT_lt hs1 _ _
  unfold rootF at hf2
  rw [hx] at hf2
  unfold rootT at hT
  rw [hx, show rootF n S L p z = Pe.tabF x by unfold rootF; rw [hx]] at hT
  unfold leafE at hf4
  rw [hy] at hf4
  unfold rootW at hx
  unfold leafW at hy
  rw [show rootT n S L p z = T by unfold rootT rootF rootW; rw [hx]; exact hT] at hy
  have C1 : Hid (∀ W, Below w.heap.size w W → Calls Tryz.prog 81 #[.pointer (some ⟨g, 0, none⟩), .int .i64 p, .int .u32 (z / 1024)] W fun e w' => e = .returned (.tuple #[.int .u32 x, .bool t1]) ∧ Below W.heap.size W w') := Lib.hid fun W hW => by
    have := refTab_any p (z / 1024).toNat x t1 (by omega) ht1 hx W (hP.more hW)
    rwa [show (((z / 1024).toNat : Nat) : Int) = z / 1024 by omega] at this
  have C2 : Hid (∀ W, Calls Tryz.prog 82 #[.int .u32 x] W fun e w' => e = .returned (.tuple #[.int .i64 T, .int .i64 f2]) ∧ Below W.heap.size W w') := Lib.hid fun W => Pe.refTable_any x hxl T f2 hT hf2 W
  have C3 : Hid (∀ W, Below w.heap.size w W → Calls Tryz.prog 81 #[.pointer (some ⟨g, 0, none⟩), .int .i64 T, .int .u32 (z / 64 % 16)] W fun e w' => e = .returned (.tuple #[.int .u32 y, .bool t3]) ∧ Below W.heap.size W w') := Lib.hid fun W hW => by
    have := refTab_any T (z / 64 % 16).toNat y t3 (by omega) ht3 hy W (hP.more hW)
    rwa [show (((z / 64 % 16).toNat : Nat) : Int) = z / 64 % 16 by omega] at this
  have C4 : Hid (∀ W, Calls Tryz.prog 83 #[.int .u32 y] W fun e w' => e = .returned (.tuple #[Pe.pteV (Pe.oF f4) (Pe.rF f4 y) (Pe.gF f4 y), .int .i64 f4]) ∧ Below W.heap.size W w') := Lib.hid fun W => Pe.refLeaf_any y hyl f4 hf4 W
  have HR0 := Lib.hid hR.symm
  clear hP hs1 hx ht1 hf2 hT hy hf4 ht3 hR hxl hyl
  have HR2 := step_run (w.alloc (.cells #[.bool false, .int .i64 0, .int .i64 0, .int .i64 0, .int .i64 0, .int .i64 0] 114))
  have HN2 : Hid (Blk ((w.alloc (.cells #[.bool false, .int .i64 0, .int .i64 0, .int .i64 0, .int .i64 0, .int .i64 0] 114)).alloc (.cells stz.cs.toArray 114)) (w.heap.size + 1) 114 stz.cs) := Lib.hid (by
    have := Blk.new (w.alloc (.cells #[.bool false, .int .i64 0, .int .i64 0, .int .i64 0, .int .i64 0, .int .i64 0] 114)) 114 stz.cs
    rwa [World.size_alloc] at this)
  obtain ⟨V, hV, hS⟩ := ref_new w
  have HV := Lib.hid hV
  have HS := Lib.hid hS
  clear hV hS
  go_enter Tryz.func43, Tryz.ntmps43
  generalize hQQ : bodyPost _ _ _ = QQ
  have HQQ := Lib.hid hQQ
  clear hQQ
  go_upto_region 1 with fail
  refine wp_region_lit ?_
  refine wpList_buildTo rfl 114 _ rfl _ rfl st0.cs.toArray (by kernel_rfl) ?_
  refine Great.wpList_allocTo rfl (some 7) rfl (.pointer (some ⟨w.heap.size + 1, 0, none⟩)) (.cells stz.cs.toArray 114) (HR2.out _ _ rfl _ (by simp)) ?_
  refine wpList_store_rowTo rfl 114 _ _ rfl rfl (w.heap.size + 1) st0.cs.toArray (by kernel_rfl) (by kernel_rfl) 114 stz.cs.toArray HN2.out (size_stp _) rfl (one_stp _) ?_
  rw [show World.setRow _ (w.heap.size + 1) st0.cs.toArray = V from HV.out.symm]
  clear HR2 HN2 HV
  simp only [Act.put, List.setIfInBounds_toArray, List.set_cons_succ, List.set_cons_zero]
  go_wp2_with fail
  refine (C1.out V HS.out.b).mono ?_
  rintro e w1 ⟨rfl, hb1⟩
  have HS1 := Lib.hid (HS.out.more hb1)
  clear hb1 HS C1
  cases t1
  · have HRR : Hid (R = ⟨false, 0, 0, 3, -1, -1⟩) := Lib.hid HR0.out
    clear HR0 C2 C3 C4
    have f3 := HS1.out.s.frozen 3
    have c3 := HS1.out.s.cell (j := 3) rfl
    have l0 := HS1.out.s.lt
    go_upto_region 8 with fail
    have HX := Lib.hid (HS1.out.set 3 (.int .i64 3) ⟨false, 0, 0, 3, -1, -1⟩ rfl)
    generalize World.setCell _ ⟨w.heap.size + 1, 3, none⟩ _ = X at HX ⊢
    refine wp_region_lit ?_
    refine wpList_load_row rfl 114 _ rfl (w.heap.size + 1) rfl 114 (Stp.cs ⟨false, 0, 0, 3, -1, -1⟩).toArray (0, 0) _ HX.out.s Tryz.underlying114 rfl (size_stp _) ?_
    refine wpList_store_rowTo rfl 114 _ _ rfl rfl w.heap.size (Stp.cs ⟨false, 0, 0, 3, -1, -1⟩).toArray (by kernel_rfl) (by kernel_rfl) 114 stz.cs.toArray HX.out.r (size_stp _) rfl (one_stp _) ?_
    have HR4 := Lib.hid (HX.out.r.row (Stp.cs ⟨false, 0, 0, 3, -1, -1⟩))
    have HB4 := Lib.hid (below_setRow HX.out.b (Nat.le_refl w.heap.size) (Stp.cs ⟨false, 0, 0, 3, -1, -1⟩).toArray)
    generalize World.setRow _ w.heap.size (Stp.cs ⟨false, 0, 0, 3, -1, -1⟩).toArray = Y at HR4 HB4 ⊢
    simp only [Act.put, List.setIfInBounds_toArray, List.set_cons_succ, List.set_cons_zero]
    go_wp2
    rw [← HQQ.out, HRR.out]
    exact bodyPost_ret (v := Stp.v ⟨false, 0, 0, 3, -1, -1⟩) (results_cell_row Tryz.results43 _ _ _ _ _ _ _ rfl HR4.out Tryz.underlying114 rfl (size_stp _)) rfl ⟨rfl, HB4.out⟩
  have f4_ := HS1.out.s.frozen 4
  have c4_ := HS1.out.s.cell (j := 4) rfl
  have l0 := HS1.out.s.lt
  go_upto_region 10 with fail
  have HS2 := Lib.hid (HS1.out.set 4 (.int .i64 p) ⟨false, 0, 0, 0, p, -1⟩ rfl)
  clear f4_ c4_ l0 HS1
  generalize World.setCell _ ⟨w.heap.size + 1, 4, none⟩ _ = w2 at HS2 ⊢
  go_wp2_with fail
  refine (C2.out w2).mono ?_
  rintro e w3 ⟨rfl, hb⟩
  have HS3 := Lib.hid (HS2.out.more hb)
  clear hb HS2 C2
  by_cases hz : f2 = 0
  · have hz2 : (f2 != 0) = false := by simp [hz]
    have hR2 := HR0.out
    rw [if_neg (by simp), if_neg (by simp [hz])] at hR2
    have HR1 := Lib.hid hR2
    clear hR2 HR0
    go_wp2_with fail
    refine (C3.out w3 HS3.out.b).mono ?_
    rintro e w4 ⟨rfl, hb⟩
    have HS4 := Lib.hid (HS3.out.more hb)
    clear hb HS3 C3 hz hz2
    cases t3
    · have HRR : Hid (R = ⟨false, 0, 0, 3, p, -1⟩) := Lib.hid HR1.out
      clear HR1 C4
      have f3 := HS4.out.s.frozen 3
      have c3 := HS4.out.s.cell (j := 3) rfl
      have l0 := HS4.out.s.lt
      go_upto_region 17 with fail
      have HX := Lib.hid (HS4.out.set 3 (.int .i64 3) ⟨false, 0, 0, 3, p, -1⟩ rfl)
      generalize World.setCell _ ⟨w.heap.size + 1, 3, none⟩ _ = X at HX ⊢
      refine wp_region_lit ?_
      refine wpList_load_row rfl 114 _ rfl (w.heap.size + 1) rfl 114 (Stp.cs ⟨false, 0, 0, 3, p, -1⟩).toArray (0, 0) _ HX.out.s Tryz.underlying114 rfl (size_stp _) ?_
      refine wpList_store_rowTo rfl 114 _ _ rfl rfl w.heap.size (Stp.cs ⟨false, 0, 0, 3, p, -1⟩).toArray (by kernel_rfl) (by kernel_rfl) 114 stz.cs.toArray HX.out.r (size_stp _) rfl (one_stp _) ?_
      have HR4 := Lib.hid (HX.out.r.row (Stp.cs ⟨false, 0, 0, 3, p, -1⟩))
      have HB4 := Lib.hid (below_setRow HX.out.b (Nat.le_refl w.heap.size) (Stp.cs ⟨false, 0, 0, 3, p, -1⟩).toArray)
      generalize World.setRow _ w.heap.size (Stp.cs ⟨false, 0, 0, 3, p, -1⟩).toArray = Y at HR4 HB4 ⊢
      simp only [Act.put, List.setIfInBounds_toArray, List.set_cons_succ, List.set_cons_zero]
      go_wp2
      rw [← HQQ.out, HRR.out]
      exact bodyPost_ret (v := Stp.v ⟨false, 0, 0, 3, p, -1⟩) (results_cell_row Tryz.results43 _ _ _ _ _ _ _ rfl HR4.out Tryz.underlying114 rfl (size_stp _)) rfl ⟨rfl, HB4.out⟩
    have HRR : Hid (R = ⟨Pe.oF f4, Pe.rF f4 y, Pe.gF f4 y, f4, p, T⟩) := Lib.hid HR1.out
    clear HR1
    generalize Pe.oF f4 = o at C4 HRR
    generalize Pe.rF f4 y = r at C4 HRR
    generalize Pe.gF f4 y = gg at C4 HRR
    have f5 := HS4.out.s.frozen 5
    have c5 := HS4.out.s.cell (j := 5) rfl
    have l0 := HS4.out.s.lt
    go_upto_region 19 with fail
    have HS5 := Lib.hid (HS4.out.set 5 (.int .i64 T) ⟨false, 0, 0, 0, p, T⟩ rfl)
    clear f5 c5 l0 HS4
    generalize World.setCell _ ⟨w.heap.size + 1, 5, none⟩ _ = w5 at HS5 ⊢
    go_wp2_with fail
    refine (C4.out w5).mono ?_
    rintro e w6 ⟨rfl, hb⟩
    have hs6 := HS5.out.more hb
    have hq6 : w.heap.size + 1 < w6.heap.size := hs6.s.lt
    have HS6 : Hid (RS w (w6.alloc (.cells #[.bool o, .int .i64 r, .int .i64 gg] 112)) ⟨false, 0, 0, 0, p, T⟩) := Lib.hid (hs6.more ((Below.refl _ _).alloc (Nat.le_refl _) _))
    have HN6 : Hid (Blk (w6.alloc (.cells #[.bool o, .int .i64 r, .int .i64 gg] 112)) w6.heap.size 112 [.bool o, .int .i64 r, .int .i64 gg]) := Lib.hid (Blk.new w6 _ _)
    clear hb HS5 C4 hs6
    go_upto_region 20 with fail
    generalize w6.alloc (.cells #[.bool o, .int .i64 r, .int .i64 gg] 112) = w7 at HS6 HN6 ⊢
    generalize w6.heap.size = pb at HN6 hq6 ⊢
    have g0 := HN6.out.cell (j := 0) rfl
    have g1 := HN6.out.cell (j := 1) rfl
    have g2 := HN6.out.cell (j := 2) rfl
    have gl := HN6.out.lt
    have f0 := HS6.out.s.frozen 0
    have c0 := HS6.out.s.cell (j := 0) rfl
    have f1 := HS6.out.s.frozen 1
    have c1 := HS6.out.s.cell (j := 1) rfl
    have f2_ := HS6.out.s.frozen 2
    have c2 := HS6.out.s.cell (j := 2) rfl
    have l0 := HS6.out.s.lt
    go_upto_region 21 with fail
    have HS7 := Lib.hid (((HS6.out.set 0 (.bool o) ⟨o, 0, 0, 0, p, T⟩ rfl).set 1 (.int .i64 r) ⟨o, r, 0, 0, p, T⟩ rfl).set 2 (.int .i64 gg) ⟨o, r, gg, 0, p, T⟩ rfl)
    clear g0 g1 g2 gl f0 c0 f1 c1 f2_ c2 l0 HS6 HN6
    generalize World.setCell _ ⟨w.heap.size + 1, 2, none⟩ _ = w8 at HS7 ⊢
    have f3 := HS7.out.s.frozen 3
    have c3 := HS7.out.s.cell (j := 3) rfl
    have l0 := HS7.out.s.lt
    go_upto_region 22 with fail
    have HX := Lib.hid (HS7.out.set 3 (.int .i64 f4) ⟨o, r, gg, f4, p, T⟩ rfl)
    generalize World.setCell _ ⟨w.heap.size + 1, 3, none⟩ _ = X at HX ⊢
    refine wp_region_lit ?_
    refine wpList_load_row rfl 114 _ rfl (w.heap.size + 1) rfl 114 (Stp.cs ⟨o, r, gg, f4, p, T⟩).toArray (0, 0) _ HX.out.s Tryz.underlying114 rfl (size_stp _) ?_
    refine wpList_store_rowTo rfl 114 _ _ rfl rfl w.heap.size (Stp.cs ⟨o, r, gg, f4, p, T⟩).toArray (by kernel_rfl) (by kernel_rfl) 114 stz.cs.toArray HX.out.r (size_stp _) rfl (one_stp _) ?_
    have HR4 := Lib.hid (HX.out.r.row (Stp.cs ⟨o, r, gg, f4, p, T⟩))
    have HB4 := Lib.hid (below_setRow HX.out.b (Nat.le_refl w.heap.size) (Stp.cs ⟨o, r, gg, f4, p, T⟩).toArray)
    generalize World.setRow _ w.heap.size (Stp.cs ⟨o, r, gg, f4, p, T⟩).toArray = Y at HR4 HB4 ⊢
    simp only [Act.put, List.setIfInBounds_toArray, List.set_cons_succ, List.set_cons_zero]
    go_wp2
    rw [← HQQ.out, HRR.out]
    exact bodyPost_ret (v := Stp.v ⟨o, r, gg, f4, p, T⟩) (results_cell_row Tryz.results43 _ _ _ _ _ _ _ rfl HR4.out Tryz.underlying114 rfl (size_stp _)) rfl ⟨rfl, HB4.out⟩
  · have hz2 : (f2 != 0) = true := by simp [hz]
    have hR2 := HR0.out
    rw [if_neg (by simp), if_pos hz] at hR2
    have HRR := Lib.hid hR2
    clear hR2 HR0 C3 C4
    have f3 := HS3.out.s.frozen 3
    have c3 := HS3.out.s.cell (j := 3) rfl
    have l0 := HS3.out.s.lt
    go_upto_region 13 with fail
    have HX := Lib.hid (HS3.out.set 3 (.int .i64 f2) ⟨false, 0, 0, f2, p, -1⟩ rfl)
    generalize World.setCell _ ⟨w.heap.size + 1, 3, none⟩ _ = X at HX ⊢
    refine wp_region_lit ?_
    refine wpList_load_row rfl 114 _ rfl (w.heap.size + 1) rfl 114 (Stp.cs ⟨false, 0, 0, f2, p, -1⟩).toArray (0, 0) _ HX.out.s Tryz.underlying114 rfl (size_stp _) ?_
    refine wpList_store_rowTo rfl 114 _ _ rfl rfl w.heap.size (Stp.cs ⟨false, 0, 0, f2, p, -1⟩).toArray (by kernel_rfl) (by kernel_rfl) 114 stz.cs.toArray HX.out.r (size_stp _) rfl (one_stp _) ?_
    have HR4 := Lib.hid (HX.out.r.row (Stp.cs ⟨false, 0, 0, f2, p, -1⟩))
    have HB4 := Lib.hid (below_setRow HX.out.b (Nat.le_refl w.heap.size) (Stp.cs ⟨false, 0, 0, f2, p, -1⟩).toArray)
    generalize World.setRow _ w.heap.size (Stp.cs ⟨false, 0, 0, f2, p, -1⟩).toArray = Y at HR4 HB4 ⊢
    simp only [Act.put, List.setIfInBounds_toArray, List.set_cons_succ, List.set_cons_zero]
    go_wp2
    rw [← HQQ.out, HRR.out]
    exact bodyPost_ret (v := Stp.v ⟨false, 0, 0, f2, p, -1⟩) (results_cell_row Tryz.results43 _ _ _ _ _ _ _ rfl HR4.out Tryz.underlying114 rfl (size_stp _)) rfl ⟨rfl, HB4.out⟩
theorem refWalk_any (p z : Int) (R : Stp) (h0 : 0 ≤ z) (h1 : z < 4294967296) (hR : walkF n S L p z = R) (w : World) (hP : DV w g bt B q n gv cap S L D) :
    Calls Tryz.prog 43 #[.pointer (some ⟨g, 0, none⟩), .int .i64 p, .int .u32 z] w fun e w' => e = .returned R.v ∧ Below w.heap.size w w' := by
  by_cases h : z < 16384
  · exact refWalk_in p z R h0 h hR w hP
  · have e : R = ⟨false, 0, 0, 2, -1, -1⟩ := by
      rw [← hR]
      unfold walkF
      rw [if_pos (by omega)]
    exact refWalk_far _ p z R (by omega) h1 e w
end
end Go.Proofs.YteaincdeoajkeaaGreatDoor.Wa
end
section
/- Package pte: the document's Allows; awake. -/
namespace Go.Proofs.YteaincdeoajkeaaGreatDoor.Pe
open Go.RowKit Ut
set_option linter.unusedVariables false
set_option maxRecDepth 100000
set_option maxHeartbeats 4000000

theorem and_zero (r : Int) (c : Nat) (hc : c < 16) (t : Bool) (ht : bitB r c = t) : (bits .and .i64 r (c : Int) == 0) = !t := by
  rw [i64_and_low r c hc, ← ht, Bool.eq_iff_iff]
  unfold bitB
  simp
theorem refAllows_none (r g k : Int) (u : Bool) (w : World) :
    Calls Tryz.prog 44 #[pteV false r g, .int .i64 k, .bool u] w fun e w' => e = .returned (.bool false) ∧ Below w.heap.size w w' := by
  have HB := Lib.hid (pte_below false r g w)
  go_enter Tryz.func44, Tryz.ntmps44
  go_wp2
  go_ret
  exact ⟨rfl, HB.out⟩
theorem refAllows_user (r g k : Int) (h : bitB r 8 = false) (w : World) :
    Calls Tryz.prog 44 #[pteV true r g, .int .i64 k, .bool true] w fun e w' => e = .returned (.bool false) ∧ Below w.heap.size w w' := by
  have HB := Lib.hid (pte_below true r g w)
  have h1 := and_zero r 8 (by omega) _ h
  have h2 : bits .and .i64 r 8 = 0 := by simpa using h1
  clear h h1
  go_enter Tryz.func44, Tryz.ntmps44
  go_wp2
  go_ret
  exact ⟨rfl, HB.out⟩
theorem refAllows_kind (r g k : Int) (u t : Bool) (h : u = true → bitB r 8 = true) (ht : bitB r (kindN k) = t) (w : World) :
    Calls Tryz.prog 44 #[pteV true r g, .int .i64 k, .bool u] w fun e w' => e = .returned (.bool t) ∧ Below w.heap.size w w' := by
  have HB := Lib.hid (pte_below true r g w)
  have h2 : u = true → ¬ bits .and .i64 r 8 = 0 := fun hu => by have h1 := and_zero r 8 (by omega) _ (h hu); simpa using h1
  clear h
  unfold kindN at ht
  by_cases k0 : k = 0
  · subst k0
    rw [if_pos rfl] at ht
    have h1 := and_zero r 4 (by omega) _ ht
    clear ht
    cases u <;> cases t
    all_goals
      simp at h1 h2
      go_enter Tryz.func44, Tryz.ntmps44
      go_wp2
      go_ret
      exact ⟨by first | rfl | exact congrArg (fun b => Ending.returned (.bool b)) (bne_iff_ne.2 h1), HB.out⟩
  rw [if_neg k0] at ht
  by_cases k1 : k = 1
  · subst k1
    rw [if_pos rfl] at ht
    have h1 := and_zero r 1 (by omega) _ ht
    clear ht
    cases u <;> cases t
    all_goals
      simp at h1 h2
      go_enter Tryz.func44, Tryz.ntmps44
      go_wp2
      go_ret
      exact ⟨by first | rfl | exact congrArg (fun b => Ending.returned (.bool b)) (bne_iff_ne.2 h1), HB.out⟩
  rw [if_neg k1] at ht
  by_cases k2 : k = 2
  · subst k2
    rw [if_pos rfl] at ht
    have h1 := and_zero r 2 (by omega) _ ht
    clear ht
    cases u <;> cases t
    all_goals
      simp at h1 h2
      go_enter Tryz.func44, Tryz.ntmps44
      go_wp2
      go_ret
      exact ⟨by first | rfl | exact congrArg (fun b => Ending.returned (.bool b)) (bne_iff_ne.2 h1), HB.out⟩
  rw [if_neg k2] at ht
  obtain rfl : t = false := by rw [← ht]; unfold bitB; simp
  clear ht
  cases u
  all_goals
    simp at h2
    go_enter Tryz.func44, Tryz.ntmps44
    go_wp2
    go_ret
    exact ⟨rfl, HB.out⟩
theorem refAllows_any (o : Bool) (r g k : Int) (u t : Bool) (ht : alwB o r k u = t) (w : World) :
    Calls Tryz.prog 44 #[pteV o r g, .int .i64 k, .bool u] w fun e w' => e = .returned (.bool t) ∧ Below w.heap.size w w' := by
  subst ht
  unfold alwB
  cases o
  · exact refAllows_none r g k u w
  · cases u
    · rw [show (true && bitB r (kindN k) && (!false || bitB r 8)) = bitB r (kindN k) by simp]
      exact refAllows_kind r g k false _ (fun h => by cases h) rfl w
    · cases h8 : bitB r 8
      · rw [show (true && bitB r (kindN k) && (!true || false)) = false by simp]
        exact refAllows_user r g k h8 w
      · rw [show (true && bitB r (kindN k) && (!true || true)) = bitB r (kindN k) by simp]
        exact refAllows_kind r g k true _ (fun _ => h8) rfl w
/-- what goes on from the world in which a walk began -/
theorem keep {f : Nat} {args : Array Value} {v : Value} {w0 w : World} (hb : Below w0.heap.size w0 w) (h : Calls Tryz.prog f args w fun e w' => e = .returned v ∧ Below w.heap.size w w') : Calls Tryz.prog f args w fun e w' => e = .returned v ∧ Below w0.heap.size w0 w' :=
  h.mono fun e w' ⟨he, hb'⟩ => ⟨he, hb.trans (hb'.mono hb.size)⟩
end Go.Proofs.YteaincdeoajkeaaGreatDoor.Pe
end
section
/- Package walk: where an access lies, plainly; Find's own blocks. -/
namespace Go.Proofs.YteaincdeoajkeaaGreatDoor.Wa
open Go.RowKit Go.Shelf Ut Oc Vw
set_option maxRecDepth 100000
set_option linter.unusedVariables false
set_option maxHeartbeats 4000000

/-- where an access lies, and why it can't be -/
def locF (n : Nat) (S : List Int) (L : List Gm.Pl) (on : Bool) (rt : Int) (us : Bool) (z k : Int) : (Int × Int × Int) × Int :=
  if on = false then (hitF n L z 1 k, findF n L z 1 k)
  else if (walkF n S L rt z).f ≠ 0 then ((0, 0, 0), (walkF n S L rt z).f)
  else if Pe.alwB (walkF n S L rt z).o (walkF n S L rt z).r k us = false then ((0, 0, 0), 6)
  else (hitF n L ((walkF n S L rt z).g * 64 + z % 64) 1 k, findF n L ((walkF n S L rt z).g * 64 + z % 64) 1 k)
theorem walkF_zero {n : Nat} {S : List Int} {L : List Gm.Pl} {p z : Int} (h : (walkF n S L p z).f = 0) : ¬ 16384 ≤ z ∧ noneF n L p = 0 ∧ rootF n S L p z = 0 ∧ noneF n L (rootT n S L p z) = 0 ∧ leafE n S L p z = 0 ∧ walkF n S L p z = st4 n S L p z := by
  unfold walkF at h ⊢
  by_cases h0 : 16384 ≤ z
  · rw [if_pos h0] at h; exact absurd h (by decide)
  rw [if_neg h0] at h ⊢
  by_cases h1 : noneF n L p = 0
  · rw [if_neg (fun e => e h1)] at h ⊢
    by_cases h2 : rootF n S L p z = 0
    · rw [if_neg (fun e => e h2)] at h ⊢
      by_cases h3 : noneF n L (rootT n S L p z) = 0
      · rw [if_neg (fun e => e h3)] at h ⊢
        exact ⟨h0, h1, h2, h3, h, rfl⟩
      · rw [if_pos h3] at h; exact absurd h h3
    · rw [if_pos h2] at h; exact absurd h h2
  · rw [if_pos h1] at h; exact absurd h h1
theorem walkF_page {n : Nat} {S : List Int} {L : List Gm.Pl} {p z : Int} (h : (walkF n S L p z).f = 0) : 0 ≤ (walkF n S L p z).g ∧ (walkF n S L p z).g < 32 := by
  obtain ⟨_, _, _, _, h4, e⟩ := walkF_zero h
  rw [e]
  show 0 ≤ Pe.gF (leafE n S L p z) _ ∧ Pe.gF (leafE n S L p z) _ < 32
  unfold Pe.gF Pe.gOf
  rw [if_pos h4]
  omega
/-- Find's own blocks -/
structure FS (w W : World) (on : Bool) (rt : Int) (us : Bool) : Prop where
  b : Below w.heap.size w W
  md : Blk W w.heap.size 30 [.bool on, .int .i64 rt, .bool us]
  ht : Blk W (w.heap.size + 1) 36 (hitC (0, 0, 0))
theorem FS.more {w W W' : World} {on us : Bool} {rt : Int} (h : FS w W on rt us) (hb : Below W.heap.size W W') : FS w W' on rt us := ⟨h.b.trans (hb.mono h.b.size), h.md.more hb, h.ht.more hb⟩
theorem fs_new (w : World) (on : Bool) (rt : Int) (us : Bool) : FS w ((w.alloc (.cells #[.bool on, .int .i64 rt, .bool us] 30)).alloc (.cells #[.int .i64 0, .int .i64 0, .int .i64 0, .bool false] 36)) on rt us := by
  refine ⟨((Below.refl _ _).alloc (Nat.le_refl _) _).alloc (by simp) _, (Blk.new w _ [.bool on, .int .i64 rt, .bool us]).more ((Below.refl _ _).alloc (Nat.le_refl _) _), ?_⟩
  have := Blk.new (w.alloc (.cells #[.bool on, .int .i64 rt, .bool us] 30)) 36 [.int .i64 0, .int .i64 0, .int .i64 0, .bool false]
  rwa [World.size_alloc] at this

end Go.Proofs.YteaincdeoajkeaaGreatDoor.Wa
end
section
/- Package walk: the document's Find. -/
namespace Go.Proofs.YteaincdeoajkeaaGreatDoor.Wa
open Go.RowKit Go.Shelf Ut Oc Vw
set_option maxRecDepth 100000
set_option linter.unusedVariables false
set_option maxHeartbeats 4000000

section
variable {g bt B q n gv cap : Nat} {S : List Int} {L : List Gm.Pl} {D : List Bool}
theorem refFind_off (rt z k c : Int) (us : Bool) (h : Int × Int × Int) (h0 : 0 ≤ z) (h1 : z < 4294967296) (hc : findF n L z 1 k = c) (hh : hitF n L z 1 k = h) (w : World) (hP : DV w g bt B q n gv cap S L D) :
    Calls Tryz.prog 10 #[.pointer (some ⟨g, 0, none⟩), .agg #[.bool false, .int .i64 rt, .bool us], .int .u32 z, .int .i64 k] w fun e w' => e = .returned (.tuple #[hitV h, .int .i64 c]) ∧ Below w.heap.size w w' := by
  have HS : Hid (FS w ((w.alloc (.cells #[.bool false, .int .i64 rt, .bool us] 30)).alloc (.cells #[.int .i64 0, .int .i64 0, .int .i64 0, .bool false] 36)) false rt us) := Lib.hid (fs_new w false rt us)
  have CF : Hid (∀ W, Below w.heap.size w W → Calls Tryz.prog 42 #[.pointer (some ⟨g, 0, none⟩), .int .u32 z, .int .i64 1, .int .i64 k] W fun e w' => e = .returned (.tuple #[hitV h, .int .i64 c]) ∧ Below W.heap.size W w') := Lib.hid fun W hW => Vw.refFind_any z 1 k c h h0 h1 hc hh W (hP.more hW)
  clear hP hc hh
  go_enter Tryz.func10, Tryz.ntmps10
  go_wp2_with fail
  refine (CF.out _ HS.out.b).mono ?_
  rintro e w1 ⟨rfl, hb1⟩
  have HS1 := Lib.hid (HS.out.more hb1)
  clear hb1 HS CF
  have q0 := HS1.out.ht
  obtain ⟨r0, r1, r2, r3⟩ := HAt.cells q0
  have f0 := q0.frozen 0
  have f1 := q0.frozen 1
  have f2 := q0.frozen 2
  have f3 := q0.frozen 3
  have hlt := q0.lt
  clear q0
  have HB9 := Lib.hid HS1.out.b
  have HSet : Hid (∀ (X : World) (j : Nat) (v : Value), Below w.heap.size w X → Below w.heap.size w (X.setCell ⟨w.heap.size + 1, j, none⟩ v)) := Lib.hid fun X j v h => h.setCell (p := ⟨w.heap.size + 1, j, none⟩) (by simp) _
  clear HS1
  obtain ⟨ha, hb, hc⟩ := h
  unfold hitV
  go_wp2
  exact bodyPost_ret (v := .tuple #[hitV (ha, hb, hc), .int .i64 c]) (by simp [results, Tryz.results10, go_sem, r0, r1, r2, r3, hitV]) rfl ⟨rfl, by (repeat (first | refine HSet.out _ _ _ ?_)); exact HB9.out⟩

theorem refFind_fault (rt z k : Int) (us : Bool) (R : Stp) (h0 : 0 ≤ z) (h1 : z < 4294967296) (hR : walkF n S L rt z = R) (hf : R.f ≠ 0) (w : World) (hP : DV w g bt B q n gv cap S L D) :
    Calls Tryz.prog 10 #[.pointer (some ⟨g, 0, none⟩), .agg #[.bool true, .int .i64 rt, .bool us], .int .u32 z, .int .i64 k] w fun e w' => e = .returned (.tuple #[hitV (0, 0, 0), .int .i64 R.f]) ∧ Below w.heap.size w w' := by
  have HS : Hid (FS w ((w.alloc (.cells #[.bool true, .int .i64 rt, .bool us] 30)).alloc (.cells #[.int .i64 0, .int .i64 0, .int .i64 0, .bool false] 36)) true rt us) := Lib.hid (fs_new w true rt us)
  have CW : Hid (∀ W, Below w.heap.size w W → Calls Tryz.prog 43 #[.pointer (some ⟨g, 0, none⟩), .int .i64 rt, .int .u32 z] W fun e w' => e = .returned R.v ∧ Below W.heap.size W w') := Lib.hid fun W hW => refWalk_any rt z R h0 h1 hR W (hP.more hW)
  clear hP hR
  go_enter Tryz.func10, Tryz.ntmps10
  go_wp2_with fail
  refine (CW.out _ HS.out.b).mono ?_
  rintro e w1 ⟨rfl, hb1⟩
  have HS1 := Lib.hid (HS.out.more hb1)
  have HR2 := step_run w1
  have HN1 : Hid (Blk (w1.alloc (.cells stz.cs.toArray 114)) w1.heap.size 114 stz.cs) := Lib.hid (Blk.new w1 _ _)
  clear hb1 HS CW
  go_simp
  rename_i hK
  refine hK _ _ ?_
  clear hK
  refine Great.wpList_allocTo rfl (some 10) rfl (.pointer (some ⟨w1.heap.size, 0, none⟩)) (.cells stz.cs.toArray 114) (HR2.out _ _ rfl _ rfl) ?_
  refine wpList_store_rowTo rfl 114 _ _ rfl rfl w1.heap.size R.cs.toArray (by kernel_rfl) (by kernel_rfl) 114 stz.cs.toArray HN1.out (size_stp _) rfl (one_stp _) ?_
  have hbw := below_setRow ((Below.refl w1.heap.size w1).alloc (Nat.le_refl _) (.cells stz.cs.toArray 114)) (Nat.le_refl w1.heap.size) R.cs.toArray
  have HS2 := Lib.hid (HS1.out.more hbw)
  have HN2 := Lib.hid (HN1.out.row R.cs)
  have HNE : Hid (w.heap.size + 1 < w1.heap.size) := Lib.hid HS1.out.ht.lt
  clear hbw HS1 HN1 HR2
  generalize World.setRow _ w1.heap.size R.cs.toArray = w2 at HS2 HN2 ⊢
  generalize w1.heap.size = sb at HN2 HNE ⊢
  simp only [Act.put, List.setIfInBounds_toArray, List.set_cons_succ, List.set_cons_zero]
  have q0 := HS2.out.ht
  obtain ⟨r0, r1, r2, r3⟩ := HAt.cells q0
  have f0 := q0.frozen 0
  have f1 := q0.frozen 1
  have f2 := q0.frozen 2
  have f3 := q0.frozen 3
  have hlt := q0.lt
  clear q0
  have HB9 := Lib.hid HS2.out.b
  have HSet : Hid (∀ (X : World) (j : Nat) (v : Value), Below w.heap.size w X → Below w.heap.size w (X.setCell ⟨w.heap.size + 1, j, none⟩ v)) := Lib.hid fun X j v h => h.setCell (p := ⟨w.heap.size + 1, j, none⟩) (by simp) _
  have g3 := HN2.out.cell (j := 3) rfl
  have gl := HN2.out.lt
  clear HS2 HN2
  obtain ⟨o, r, g, f, ro, lf⟩ := R
  dsimp only at g3 hf ⊢
  have hf2 : (f != 0) = true := by simp [hf]
  have n1 : ¬ sb = w.heap.size + 1 := by have := HNE.out; omega
  have n2 : ¬ w.heap.size + 1 = sb := by have := HNE.out; omega
  go_wp2
  go_region
  go_wp2
  exact bodyPost_ret (v := .tuple #[hitV (0, 0, 0), .int .i64 f]) (by simp [results, Tryz.results10, go_sem, r0, r1, r2, r3, hitV]) rfl ⟨rfl, by refine Below.drew ?_; (repeat (first | refine HSet.out _ _ _ ?_)); exact HB9.out⟩

theorem refFind_perm (rt z k : Int) (us : Bool) (R : Stp) (h0 : 0 ≤ z) (h1 : z < 4294967296) (hR : walkF n S L rt z = R) (hf : R.f = 0) (ha : Pe.alwB R.o R.r k us = false) (w : World) (hP : DV w g bt B q n gv cap S L D) :
    Calls Tryz.prog 10 #[.pointer (some ⟨g, 0, none⟩), .agg #[.bool true, .int .i64 rt, .bool us], .int .u32 z, .int .i64 k] w fun e w' => e = .returned (.tuple #[hitV (0, 0, 0), .int .i64 6]) ∧ Below w.heap.size w w' := by
  have HS : Hid (FS w ((w.alloc (.cells #[.bool true, .int .i64 rt, .bool us] 30)).alloc (.cells #[.int .i64 0, .int .i64 0, .int .i64 0, .bool false] 36)) true rt us) := Lib.hid (fs_new w true rt us)
  have CW : Hid (∀ W, Below w.heap.size w W → Calls Tryz.prog 43 #[.pointer (some ⟨g, 0, none⟩), .int .i64 rt, .int .u32 z] W fun e w' => e = .returned R.v ∧ Below W.heap.size W w') := Lib.hid fun W hW => refWalk_any rt z R h0 h1 hR W (hP.more hW)
  have CA : Hid (∀ W, Calls Tryz.prog 44 #[Pe.pteV R.o R.r R.g, .int .i64 k, .bool us] W fun e w' => e = .returned (.bool false) ∧ Below W.heap.size W w') := Lib.hid fun W => Pe.refAllows_any R.o R.r R.g k us false ha W
  clear hP hR ha
  go_enter Tryz.func10, Tryz.ntmps10
  go_wp2_with fail
  refine (CW.out _ HS.out.b).mono ?_
  rintro e w1 ⟨rfl, hb1⟩
  have HS1 := Lib.hid (HS.out.more hb1)
  have HR2 := step_run w1
  have HN1 : Hid (Blk (w1.alloc (.cells stz.cs.toArray 114)) w1.heap.size 114 stz.cs) := Lib.hid (Blk.new w1 _ _)
  clear hb1 HS CW
  go_simp
  rename_i hK
  refine hK _ _ ?_
  clear hK
  refine Great.wpList_allocTo rfl (some 10) rfl (.pointer (some ⟨w1.heap.size, 0, none⟩)) (.cells stz.cs.toArray 114) (HR2.out _ _ rfl _ rfl) ?_
  refine wpList_store_rowTo rfl 114 _ _ rfl rfl w1.heap.size R.cs.toArray (by kernel_rfl) (by kernel_rfl) 114 stz.cs.toArray HN1.out (size_stp _) rfl (one_stp _) ?_
  have hbw := below_setRow ((Below.refl w1.heap.size w1).alloc (Nat.le_refl _) (.cells stz.cs.toArray 114)) (Nat.le_refl w1.heap.size) R.cs.toArray
  have HS2 := Lib.hid (HS1.out.more hbw)
  have HN2 := Lib.hid (HN1.out.row R.cs)
  have HNE : Hid (w.heap.size + 1 < w1.heap.size) := Lib.hid HS1.out.ht.lt
  clear hbw HS1 HN1 HR2
  generalize World.setRow _ w1.heap.size R.cs.toArray = w2 at HS2 HN2 ⊢
  generalize w1.heap.size = sb at HN2 HNE ⊢
  simp only [Act.put, List.setIfInBounds_toArray, List.set_cons_succ, List.set_cons_zero]
  have g0 := HN2.out.cell (j := 0) rfl
  have g1 := HN2.out.cell (j := 1) rfl
  have g2 := HN2.out.cell (j := 2) rfl
  have g3 := HN2.out.cell (j := 3) rfl
  have gl := HN2.out.lt
  have m2 := HS2.out.md.cell (j := 2) rfl
  have ml := HS2.out.md.lt
  obtain ⟨o, r, g, f, ro, lf⟩ := R
  dsimp only at g0 g1 g2 g3 hf CA ⊢
  subst hf
  go_wp2_with fail
  refine (CA.out _).mono ?_
  rintro e w3 ⟨rfl, hb3⟩
  have HS3 := Lib.hid (HS2.out.more hb3)
  clear hb3 HS2 HN2 CA g0 g1 g2 g3 gl m2 ml
  have q0 := HS3.out.ht
  obtain ⟨r0, r1, r2, r3⟩ := HAt.cells q0
  have f0 := q0.frozen 0
  have f1 := q0.frozen 1
  have f2 := q0.frozen 2
  have f3 := q0.frozen 3
  have hlt := q0.lt
  clear q0
  have HB9 := Lib.hid HS3.out.b
  have HSet : Hid (∀ (X : World) (j : Nat) (v : Value), Below w.heap.size w X → Below w.heap.size w (X.setCell ⟨w.heap.size + 1, j, none⟩ v)) := Lib.hid fun X j v h => h.setCell (p := ⟨w.heap.size + 1, j, none⟩) (by simp) _
  clear HS3
  go_wp2
  exact bodyPost_ret (v := .tuple #[hitV (0, 0, 0), .int .i64 6]) (by simp [results, Tryz.results10, go_sem, r0, r1, r2, r3, hitV]) rfl ⟨rfl, by (repeat (first | refine HSet.out _ _ _ ?_)); exact HB9.out⟩

theorem refFind_found (rt z k c : Int) (us : Bool) (R : Stp) (h : Int × Int × Int) (h0 : 0 ≤ z) (h1 : z < 4294967296) (hR : walkF n S L rt z = R) (hf : R.f = 0) (hg0 : 0 ≤ R.g) (hg1 : R.g < 32) (ha : Pe.alwB R.o R.r k us = true) (hc : findF n L (R.g * 64 + z % 64) 1 k = c) (hh : hitF n L (R.g * 64 + z % 64) 1 k = h) (w : World) (hP : DV w g bt B q n gv cap S L D) :
    Calls Tryz.prog 10 #[.pointer (some ⟨g, 0, none⟩), .agg #[.bool true, .int .i64 rt, .bool us], .int .u32 z, .int .i64 k] w fun e w' => e = .returned (.tuple #[hitV h, .int .i64 c]) ∧ Below w.heap.size w w' := by
  have HS : Hid (FS w ((w.alloc (.cells #[.bool true, .int .i64 rt, .bool us] 30)).alloc (.cells #[.int .i64 0, .int .i64 0, .int .i64 0, .bool false] 36)) true rt us) := Lib.hid (fs_new w true rt us)
  have CW : Hid (∀ W, Below w.heap.size w W → Calls Tryz.prog 43 #[.pointer (some ⟨g, 0, none⟩), .int .i64 rt, .int .u32 z] W fun e w' => e = .returned R.v ∧ Below W.heap.size W w') := Lib.hid fun W hW => refWalk_any rt z R h0 h1 hR W (hP.more hW)
  have CA : Hid (∀ W, Calls Tryz.prog 44 #[Pe.pteV R.o R.r R.g, .int .i64 k, .bool us] W fun e w' => e = .returned (.bool true) ∧ Below W.heap.size W w') := Lib.hid fun W => Pe.refAllows_any R.o R.r R.g k us true ha W
  have CF : Hid (∀ W, Below w.heap.size w W → Calls Tryz.prog 42 #[.pointer (some ⟨g, 0, none⟩), .int .u32 (R.g * 64 + z % 64), .int .i64 1, .int .i64 k] W fun e w' => e = .returned (.tuple #[hitV h, .int .i64 c]) ∧ Below W.heap.size W w') := Lib.hid fun W hW => Vw.refFind_any (R.g * 64 + z % 64) 1 k c h (by omega) (by omega) hc hh W (hP.more hW)
  clear hP hR ha hc hh
  go_enter Tryz.func10, Tryz.ntmps10
  go_wp2_with fail
  refine (CW.out _ HS.out.b).mono ?_
  rintro e w1 ⟨rfl, hb1⟩
  have HS1 := Lib.hid (HS.out.more hb1)
  have HR2 := step_run w1
  have HN1 : Hid (Blk (w1.alloc (.cells stz.cs.toArray 114)) w1.heap.size 114 stz.cs) := Lib.hid (Blk.new w1 _ _)
  clear hb1 HS CW
  go_simp
  rename_i hK
  refine hK _ _ ?_
  clear hK
  refine Great.wpList_allocTo rfl (some 10) rfl (.pointer (some ⟨w1.heap.size, 0, none⟩)) (.cells stz.cs.toArray 114) (HR2.out _ _ rfl _ rfl) ?_
  refine wpList_store_rowTo rfl 114 _ _ rfl rfl w1.heap.size R.cs.toArray (by kernel_rfl) (by kernel_rfl) 114 stz.cs.toArray HN1.out (size_stp _) rfl (one_stp _) ?_
  have hbw := below_setRow ((Below.refl w1.heap.size w1).alloc (Nat.le_refl _) (.cells stz.cs.toArray 114)) (Nat.le_refl w1.heap.size) R.cs.toArray
  have HS2 := Lib.hid (HS1.out.more hbw)
  have HN2 := Lib.hid (HN1.out.row R.cs)
  have HNE : Hid (w.heap.size + 1 < w1.heap.size) := Lib.hid HS1.out.ht.lt
  clear hbw HS1 HN1 HR2
  generalize World.setRow _ w1.heap.size R.cs.toArray = w2 at HS2 HN2 ⊢
  generalize w1.heap.size = sb at HN2 HNE ⊢
  simp only [Act.put, List.setIfInBounds_toArray, List.set_cons_succ, List.set_cons_zero]
  have g0 := HN2.out.cell (j := 0) rfl
  have g1 := HN2.out.cell (j := 1) rfl
  have g2 := HN2.out.cell (j := 2) rfl
  have g3 := HN2.out.cell (j := 3) rfl
  have gl := HN2.out.lt
  have m2 := HS2.out.md.cell (j := 2) rfl
  have ml := HS2.out.md.lt
  obtain ⟨o, r, g, f, ro, lf⟩ := R
  dsimp only at g0 g1 g2 g3 hf hg0 hg1 CA CF ⊢
  subst hf
  go_wp2_with fail
  refine (CA.out _).mono ?_
  rintro e w3 ⟨rfl, hb3⟩
  have HS3 := Lib.hid (HS2.out.more hb3)
  have HN3 := Lib.hid (HN2.out.more hb3)
  clear hb3 HS2 HN2 CA g0 g1 g2 g3 gl m2 ml
  have g2 := HN3.out.cell (j := 2) rfl
  have gl := HN3.out.lt
  dsimp only at g2
  go_wp2_with fail
  refine (CF.out _ HS3.out.b).mono ?_
  rintro e w4 ⟨rfl, hb4⟩
  have HS4 := Lib.hid (HS3.out.more hb4)
  clear hb4 HS3 HN3 CF g2 gl
  have q0 := HS4.out.ht
  obtain ⟨r0, r1, r2, r3⟩ := HAt.cells q0
  have f0 := q0.frozen 0
  have f1 := q0.frozen 1
  have f2 := q0.frozen 2
  have f3 := q0.frozen 3
  have hlt := q0.lt
  clear q0
  have HB9 := Lib.hid HS4.out.b
  have HSet : Hid (∀ (X : World) (j : Nat) (v : Value), Below w.heap.size w X → Below w.heap.size w (X.setCell ⟨w.heap.size + 1, j, none⟩ v)) := Lib.hid fun X j v h => h.setCell (p := ⟨w.heap.size + 1, j, none⟩) (by simp) _
  clear HS4
  obtain ⟨ha, hb, hc⟩ := h
  unfold hitV
  go_wp2
  exact bodyPost_ret (v := .tuple #[hitV (ha, hb, hc), .int .i64 c]) (by simp [results, Tryz.results10, go_sem, r0, r1, r2, r3, hitV]) rfl ⟨rfl, by (repeat (first | refine HSet.out _ _ _ ?_)); exact HB9.out⟩

theorem refFind_any (on us : Bool) (rt z k c : Int) (h : Int × Int × Int) (h0 : 0 ≤ z) (h1 : z < 4294967296) (hc : (locF n S L on rt us z k).2 = c) (hh : (locF n S L on rt us z k).1 = h) (w : World) (hP : DV w g bt B q n gv cap S L D) :
    Calls Tryz.prog 10 #[.pointer (some ⟨g, 0, none⟩), .agg #[.bool on, .int .i64 rt, .bool us], .int .u32 z, .int .i64 k] w fun e w' => e = .returned (.tuple #[hitV h, .int .i64 c]) ∧ Below w.heap.size w w' := by
  subst hc hh
  unfold locF
  cases on
  · exact refFind_off rt z k _ us _ h0 h1 rfl rfl w hP
  · rw [if_neg (by decide)]
    by_cases hf : (walkF n S L rt z).f = 0
    · rw [if_neg (fun e => e hf)]
      by_cases ha : Pe.alwB (walkF n S L rt z).o (walkF n S L rt z).r k us = true
      · rw [if_neg (by simp [ha])]
        have hg := walkF_page hf
        exact refFind_found rt z k _ us _ _ h0 h1 rfl hf hg.1 hg.2 ha rfl rfl w hP
      · rw [if_pos (by simpa using ha)]
        exact refFind_perm rt z k us _ h0 h1 rfl hf (by simpa using ha) w hP
    · rw [if_pos hf]
      exact refFind_fault rt z k us _ h0 h1 rfl hf w hP
end
end Go.Proofs.YteaincdeoajkeaaGreatDoor.Wa
end
