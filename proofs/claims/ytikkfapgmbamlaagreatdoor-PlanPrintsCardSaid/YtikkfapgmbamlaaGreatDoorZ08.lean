/- Several texts in one: Ed -/
import Derived.Test.YtikkfapgmbamlaaGreatDoorZ07
section
/- plan: a record is laid into a configuration that grows: put. -/
namespace Go.Proofs.YtikkfapgmbamlaaGreatDoor.Pl
open Go.RowKit Ut
set_option linter.unusedVariables false

theorem info_guest : (Tryz.prog.info? 59).map (fun i => (i.zero, i.size, i.bytes)) = some (some (.agg #[.int .i64 0, .int .i64 0, .int .i64 0]), 3, 24) := by kernel_rfl
theorem info_range : (Tryz.prog.info? 61).map (fun i => (i.zero, i.size, i.bytes)) = some (some (.agg #[.int .i64 0, .int .i64 0, .int .i64 0]), 3, 24) := by kernel_rfl
theorem info_port : (Tryz.prog.info? 63).map (fun i => (i.zero, i.size, i.bytes)) = some (some (.agg #[.int .i64 0, .int .i64 0]), 2, 16) := by kernel_rfl
theorem info_ring : (Tryz.prog.info? 65).map (fun i => (i.zero, i.size, i.bytes)) = some (some (.agg #[.int .i64 0, .int .i64 0]), 2, 16) := by kernel_rfl
theorem info_slot : (Tryz.prog.info? 67).map (fun i => (i.zero, i.size, i.bytes)) = some (some (.agg #[.int .i64 0, .int .i64 0]), 2, 16) := by kernel_rfl
set_option maxHeartbeats 1000000 in
set_option maxRecDepth 100000 in
theorem put_1 (v0 v1 v2 : Int) (p : PC) (b : Nat) (vg vr vp vn vs : Value) (B : Nat) (w : World) (hB : B ≤ w.heap.size) (h : BoxP w B b p vg vr vp vn vs) (hn : p.gs.length ≤ 1000000) :
    Calls Tryz.prog 57 #[.agg #[.int .i64 1, .int .i64 v0, .int .i64 v1, .int .i64 v2], .pointer (some ⟨b, 0, none⟩)] w fun e w' => e = .returned (.tuple #[]) ∧ (∃ vg', BoxP w' B b (p.put 1 [v0, v1, v2]) vg' vr vp vn vs) ∧ Below B w w' ∧ KeptS b w w' := by
  obtain ⟨i0, hi, hz0, hz1, hz2⟩ := info_parts info_guest
  go_enter Tryz.func57, Tryz.ntmps57
  go_wp2
  obtain ⟨W, hW⟩ : ∃ W, ((w.alloc (.cells #[.int .i64 1, .int .i64 v0, .int .i64 v1, .int .i64 v2] 46)).alloc (.cells #[.int .i64 v0, .int .i64 v1, .int .i64 v2] 44)) = W := ⟨_, rfl⟩
  have hbW : Below w.heap.size w W := hW ▸ ((Below.refl _ _).alloc (Nat.le_refl _) _).alloc (by simp) _
  have hk : W.heap[w.heap.size + 1]? = some (.cells [.int .i64 v0, .int .i64 v1, .int .i64 v2].toArray 44 (0, 0)) := hW ▸ heap_alloc2_new _ _ _
  have hP := h.below hbW
  have hBW := Nat.le_trans hB hbW.size
  rw [hW]
  clear hW h
  have hown := hP.og
  have hlt : ∀ q, vg.ownBlock = some q → B ≤ q ∧ q < W.heap.size := fun q hq => World.ownsRow.lt hown.1 q hq
  have HX := hP.box
  have hBb := hP.hB
  have HP := Lib.hid hP
  clear hP
  apply wp_region_app [18, 19, 20, 21, 22, 23, 24, 25, 26, 27, 28, 29, 30, 31, 32, 33] [_, _, _, _, _, _, _, _, _, _, _, _, undef, undef, _, _] (⟨W, B, 59, 3, vg, p.gs, [v0, v1, v2]⟩ : AppOf) 13
  case hXW => rfl
  case hBW => exact hBW
  case hown => exact hown
  case hm => kernel_rfl
  case hT => intro y; simp only [setAll, List.setIfInBounds_toArray, List.set_cons_succ, List.set_cons_zero]; exact rfl
  case hok => kernel_rfl
  case hn => decide
  case hs =>
    refine app_op 18 [] (by kernel_rfl) (by decide) (by decide) (fun p y w' HW hd K hK => ?_) ?_
    · go_simp
      refine hK _ ?_ ?_
      · simp [upd]
      · exact rfl
    refine app_op 19 [] (by kernel_rfl) (by decide) (by decide) (fun p y w' HW hd K hK => ?_) ?_
    · go_simp
      refine hK _ ?_ ?_
      · simp [upd]
      · exact rfl
    refine app_op 20 [1] (by kernel_rfl) (by decide) (by decide) (fun p y w' HW hd K hK => ?_) ?_
    · have e1 := appR_nth (hd 1 (by simp)) (by decide) (by decide) rfl
      go_simp
      refine hK _ ?_ ?_
      · simp [upd, e1]
      · exact rfl
    refine app_op 21 [2] (by kernel_rfl) (by decide) (by decide) (fun p y w' HW hd K hK => ?_) ?_
    · have e2 := appR_nth (hd 2 (by simp)) (by decide) (by decide) rfl
      go_simp
      refine hK _ ?_ ?_
      · simp [upd, e2]
      · exact rfl
    refine app_op 22 [3] (by kernel_rfl) (by decide) (by decide) (fun p y w' HW hd K hK => ?_) ?_
    · have e3 := appR_nth (hd 3 (by simp)) (by decide) (by decide) rfl
      have hcl : Kept 59 W w' := HW.2.1
      obtain ⟨c0, f0⟩ := box_cell (hcl.2 _ _ _ _ (by decide) hk) 0 _ rfl
      obtain ⟨c1, f1⟩ := box_cell (hcl.2 _ _ _ _ (by decide) hk) 1 _ rfl
      obtain ⟨c2, f2⟩ := box_cell (hcl.2 _ _ _ _ (by decide) hk) 2 _ rfl
      obtain ⟨cb, fb⟩ := box_cell (hcl.2 _ _ _ _ (by decide) HX) 1 _ rfl
      clear hcl
      go_simp
      refine hK _ ?_ ?_
      · simp [upd, e3]
      · exact rfl
    refine app_op 23 [] (by kernel_rfl) (by decide) (by decide) (fun p y w' HW hd K hK => ?_) ?_
    · go_simp
      refine hK _ ?_ ?_
      · simp [upd]
      · exact rfl
    refine app_op 24 [5] (by kernel_rfl) (by decide) (by decide) (fun p y w' HW hd K hK => ?_) ?_
    · have e5 := appR_nth (hd 5 (by simp)) (by decide) (by decide) rfl
      have hcl : Kept 59 W w' := HW.2.1
      obtain ⟨c0, f0⟩ := box_cell (hcl.2 _ _ _ _ (by decide) hk) 0 _ rfl
      obtain ⟨c1, f1⟩ := box_cell (hcl.2 _ _ _ _ (by decide) hk) 1 _ rfl
      obtain ⟨c2, f2⟩ := box_cell (hcl.2 _ _ _ _ (by decide) hk) 2 _ rfl
      obtain ⟨cb, fb⟩ := box_cell (hcl.2 _ _ _ _ (by decide) HX) 1 _ rfl
      clear hcl
      go_simp
      refine hK _ ?_ ?_
      · simp [upd, e5]
      · exact rfl
    refine app_op 25 [] (by kernel_rfl) (by decide) (by decide) (fun p y w' HW hd K hK => ?_) ?_
    · go_simp
      refine hK _ ?_ ?_
      · simp [upd]
      · exact rfl
    refine app_op 26 [7] (by kernel_rfl) (by decide) (by decide) (fun p y w' HW hd K hK => ?_) ?_
    · have e7 := appR_nth (hd 7 (by simp)) (by decide) (by decide) rfl
      have hcl : Kept 59 W w' := HW.2.1
      obtain ⟨c0, f0⟩ := box_cell (hcl.2 _ _ _ _ (by decide) hk) 0 _ rfl
      obtain ⟨c1, f1⟩ := box_cell (hcl.2 _ _ _ _ (by decide) hk) 1 _ rfl
      obtain ⟨c2, f2⟩ := box_cell (hcl.2 _ _ _ _ (by decide) hk) 2 _ rfl
      obtain ⟨cb, fb⟩ := box_cell (hcl.2 _ _ _ _ (by decide) HX) 1 _ rfl
      clear hcl
      go_simp
      refine hK _ ?_ ?_
      · simp [upd, e7]
      · exact rfl
    refine app_op 27 [] (by kernel_rfl) (by decide) (by decide) (fun p y w' HW hd K hK => ?_) ?_
    · go_simp
      refine hK _ ?_ ?_
      · simp [upd]
      · exact rfl
    refine app_op 28 [9] (by kernel_rfl) (by decide) (by decide) (fun p y w' HW hd K hK => ?_) ?_
    · have e9 := appR_nth (hd 9 (by simp)) (by decide) (by decide) rfl
      have hcl : Kept 59 W w' := HW.2.1
      obtain ⟨c0, f0⟩ := box_cell (hcl.2 _ _ _ _ (by decide) hk) 0 _ rfl
      obtain ⟨c1, f1⟩ := box_cell (hcl.2 _ _ _ _ (by decide) hk) 1 _ rfl
      obtain ⟨c2, f2⟩ := box_cell (hcl.2 _ _ _ _ (by decide) hk) 2 _ rfl
      obtain ⟨cb, fb⟩ := box_cell (hcl.2 _ _ _ _ (by decide) HX) 1 _ rfl
      clear hcl
      go_simp
      refine hK _ ?_ ?_
      · simp [upd, e9]
      · exact rfl
    refine app_op 29 [6, 8, 10] (by kernel_rfl) (by decide) (by decide) (fun p y w' HW hd K hK => ?_) ?_
    · have e6 := appR_nth (hd 6 (by simp)) (by decide) (by decide) rfl
      have e8 := appR_nth (hd 8 (by simp)) (by decide) (by decide) rfl
      have e10 := appR_nth (hd 10 (by simp)) (by decide) (by decide) rfl
      go_simp
      refine hK _ ?_ ?_
      · simp [upd, e6, e8, e10]
      · exact rfl
    refine app_build 30 [11] (by kernel_rfl) (by decide) (.cells #[.int .i64 v0, .int .i64 v1, .int .i64 v2] 59) _ rfl hBW (fun p y w' HW hd K hK => ?_) ?_
    · have e11 := appR_nth (hd 11 (by simp)) (by decide) (by decide) rfl
      go_simp
      refine hK _ ?_ ?_
      · simp [upd, e11]
      · exact rfl
    refine app_append 22 30 22 i0 _ 24 4 12 (by kernel_rfl) rfl rfl Tryz.underlying22 hi hz0 hz1 hz2 rfl (Nat.zero_lt_succ _) rfl ⟨by decide, by decide⟩ rfl rfl (fun _ => rfl) (fun _ => rfl) (fun _ _ => rfl) (by show p.gs.length + 1 ≤ _; omega) (by decide) hBW hlt ?_
    refine app_op 32 [0, 0, 1, 2, 3, 4, 5, 6, 7, 8, 9, 10, 11, 12, 13] (by kernel_rfl) (by decide) (by decide) (fun p y w' HW hd K hK => ?_) ?_
    · have e0 := appR_nth (hd 0 (by simp)) (by decide) (by decide) rfl
      have e1 := appR_nth (hd 1 (by simp)) (by decide) (by decide) rfl
      have e2 := appR_nth (hd 2 (by simp)) (by decide) (by decide) rfl
      have e3 := appR_nth (hd 3 (by simp)) (by decide) (by decide) rfl
      have e4 := appR_nth (hd 4 (by simp)) (by decide) (by decide) rfl
      have e5 := appR_nth (hd 5 (by simp)) (by decide) (by decide) rfl
      have e6 := appR_nth (hd 6 (by simp)) (by decide) (by decide) rfl
      have e7 := appR_nth (hd 7 (by simp)) (by decide) (by decide) rfl
      have e8 := appR_nth (hd 8 (by simp)) (by decide) (by decide) rfl
      have e9 := appR_nth (hd 9 (by simp)) (by decide) (by decide) rfl
      have e10 := appR_nth (hd 10 (by simp)) (by decide) (by decide) rfl
      have e11 := appR_nth (hd 11 (by simp)) (by decide) (by decide) rfl
      go_simp
      refine hK _ ?_ ?_
      · simp [upd, e0, e1, e2, e3, e4, e5, e6, e7, e8, e9, e10, e11]
      · exact rfl
    refine app_op 33 [14, 0, 1, 2, 3, 4, 5, 6, 7, 8, 9, 10, 11, 12, 13] (by kernel_rfl) (by decide) (by decide) (fun p y w' HW hd K hK => ?_) ?_
    · have e0 := appR_nth (hd 0 (by simp)) (by decide) (by decide) rfl
      have e1 := appR_nth (hd 1 (by simp)) (by decide) (by decide) rfl
      have e2 := appR_nth (hd 2 (by simp)) (by decide) (by decide) rfl
      have e3 := appR_nth (hd 3 (by simp)) (by decide) (by decide) rfl
      have e4 := appR_nth (hd 4 (by simp)) (by decide) (by decide) rfl
      have e5 := appR_nth (hd 5 (by simp)) (by decide) (by decide) rfl
      have e6 := appR_nth (hd 6 (by simp)) (by decide) (by decide) rfl
      have e7 := appR_nth (hd 7 (by simp)) (by decide) (by decide) rfl
      have e8 := appR_nth (hd 8 (by simp)) (by decide) (by decide) rfl
      have e9 := appR_nth (hd 9 (by simp)) (by decide) (by decide) rfl
      have e10 := appR_nth (hd 10 (by simp)) (by decide) (by decide) rfl
      have e11 := appR_nth (hd 11 (by simp)) (by decide) (by decide) rfl
      have e14 := appR_nth (hd 14 (by simp)) (by decide) (by decide) rfl
      go_simp
      refine hK _ ?_ ?_
      · simp [upd, e0, e1, e2, e3, e4, e5, e6, e7, e8, e9, e10, e11, e14]
      · exact rfl
    refine app_last (fun y w' HW hd K hK => ?_) (by decide)
    have e0 := appR_nth (hd 0 (by omega)) (by decide) (by decide) rfl
    have e1 := appR_nth (hd 1 (by omega)) (by decide) (by decide) rfl
    have e2 := appR_nth (hd 2 (by omega)) (by decide) (by decide) rfl
    have e3 := appR_nth (hd 3 (by omega)) (by decide) (by decide) rfl
    have e4 := appR_nth (hd 4 (by omega)) (by decide) (by decide) rfl
    have e5 := appR_nth (hd 5 (by omega)) (by decide) (by decide) rfl
    have e6 := appR_nth (hd 6 (by omega)) (by decide) (by decide) rfl
    have e7 := appR_nth (hd 7 (by omega)) (by decide) (by decide) rfl
    have e8 := appR_nth (hd 8 (by omega)) (by decide) (by decide) rfl
    have e9 := appR_nth (hd 9 (by omega)) (by decide) (by decide) rfl
    have e10 := appR_nth (hd 10 (by omega)) (by decide) (by decide) rfl
    have e11 := appR_nth (hd 11 (by omega)) (by decide) (by decide) rfl
    have e14 := appR_nth (hd 14 (by omega)) (by decide) (by decide) rfl
    have e15 := appR_nth (hd 15 (by omega)) (by decide) (by decide) rfl
    have eA : OwnT _ w' _ _ (y 13) _ := hd 13 (by omega)
    have hA : OwnT 3 w' B 59 (y 13) (p.gs ++ [[v0, v1, v2]]) := eA
    obtain ⟨g, cap, ey⟩ := OwnT.form hA
    have hkp : Kept 59 W w' := HW.2.1
    have hbx := hkp.2 _ _ _ _ (by decide) HX
    obtain ⟨cb, fb⟩ := box_cell hbx 1 _ rfl
    rw [ey] at hA
    have HA := Lib.hid hA
    have H1 : Hid (Below B W w') := Lib.hid HW.1
    have H2 := Lib.hid hkp
    clear hkp
    have H3 := Lib.hid hbx
    clear hA eA hbx HW HX hown hlt hk
    go_simp
    refine hK _ _ ?_
    clear hd hK K
    go_wp2
    go_end0
    exact ⟨rfl, ⟨_, HP.out.set1 H2.out HA.out⟩, ((hbW.mono hB).trans H1.out).setCell hBb _, (KeptS.of_below hbW).trans ((KeptS.of_kept H2.out (by decide)).trans KeptS.setCell)⟩
set_option maxHeartbeats 1000000 in
set_option maxRecDepth 100000 in
theorem put_2 (v0 v1 v2 : Int) (p : PC) (b : Nat) (vg vr vp vn vs : Value) (B : Nat) (w : World) (hB : B ≤ w.heap.size) (h : BoxP w B b p vg vr vp vn vs) (hn : p.rs.length ≤ 1000000) :
    Calls Tryz.prog 57 #[.agg #[.int .i64 2, .int .i64 v0, .int .i64 v1, .int .i64 v2], .pointer (some ⟨b, 0, none⟩)] w fun e w' => e = .returned (.tuple #[]) ∧ (∃ vr', BoxP w' B b (p.put 2 [v0, v1, v2]) vg vr' vp vn vs) ∧ Below B w w' ∧ KeptS b w w' := by
  obtain ⟨i0, hi, hz0, hz1, hz2⟩ := info_parts info_range
  go_enter Tryz.func57, Tryz.ntmps57
  go_wp2
  obtain ⟨W, hW⟩ : ∃ W, ((w.alloc (.cells #[.int .i64 2, .int .i64 v0, .int .i64 v1, .int .i64 v2] 46)).alloc (.cells #[.int .i64 v0, .int .i64 v1, .int .i64 v2] 44)) = W := ⟨_, rfl⟩
  have hbW : Below w.heap.size w W := hW ▸ ((Below.refl _ _).alloc (Nat.le_refl _) _).alloc (by simp) _
  have hk : W.heap[w.heap.size + 1]? = some (.cells [.int .i64 v0, .int .i64 v1, .int .i64 v2].toArray 44 (0, 0)) := hW ▸ heap_alloc2_new _ _ _
  have hP := h.below hbW
  have hBW := Nat.le_trans hB hbW.size
  rw [hW]
  clear hW h
  have hown := hP.or
  have hlt : ∀ q, vr.ownBlock = some q → B ≤ q ∧ q < W.heap.size := fun q hq => World.ownsRow.lt hown.1 q hq
  have HX := hP.box
  have hBb := hP.hB
  have HP := Lib.hid hP
  clear hP
  apply wp_region_app [36, 37, 38, 39, 40, 41, 42, 43, 44, 45, 46, 47, 48, 49, 50, 51] [_, _, _, _, _, _, _, _, _, _, _, _, undef, undef, _, _] (⟨W, B, 61, 3, vr, p.rs, [v0, v1, v2]⟩ : AppOf) 13
  case hXW => rfl
  case hBW => exact hBW
  case hown => exact hown
  case hm => kernel_rfl
  case hT => intro y; simp only [setAll, List.setIfInBounds_toArray, List.set_cons_succ, List.set_cons_zero]; exact rfl
  case hok => kernel_rfl
  case hn => decide
  case hs =>
    refine app_op 36 [] (by kernel_rfl) (by decide) (by decide) (fun p y w' HW hd K hK => ?_) ?_
    · go_simp
      refine hK _ ?_ ?_
      · simp [upd]
      · exact rfl
    refine app_op 37 [] (by kernel_rfl) (by decide) (by decide) (fun p y w' HW hd K hK => ?_) ?_
    · go_simp
      refine hK _ ?_ ?_
      · simp [upd]
      · exact rfl
    refine app_op 38 [1] (by kernel_rfl) (by decide) (by decide) (fun p y w' HW hd K hK => ?_) ?_
    · have e1 := appR_nth (hd 1 (by simp)) (by decide) (by decide) rfl
      go_simp
      refine hK _ ?_ ?_
      · simp [upd, e1]
      · exact rfl
    refine app_op 39 [2] (by kernel_rfl) (by decide) (by decide) (fun p y w' HW hd K hK => ?_) ?_
    · have e2 := appR_nth (hd 2 (by simp)) (by decide) (by decide) rfl
      go_simp
      refine hK _ ?_ ?_
      · simp [upd, e2]
      · exact rfl
    refine app_op 40 [3] (by kernel_rfl) (by decide) (by decide) (fun p y w' HW hd K hK => ?_) ?_
    · have e3 := appR_nth (hd 3 (by simp)) (by decide) (by decide) rfl
      have hcl : Kept 61 W w' := HW.2.1
      obtain ⟨c0, f0⟩ := box_cell (hcl.2 _ _ _ _ (by decide) hk) 0 _ rfl
      obtain ⟨c1, f1⟩ := box_cell (hcl.2 _ _ _ _ (by decide) hk) 1 _ rfl
      obtain ⟨c2, f2⟩ := box_cell (hcl.2 _ _ _ _ (by decide) hk) 2 _ rfl
      obtain ⟨cb, fb⟩ := box_cell (hcl.2 _ _ _ _ (by decide) HX) 2 _ rfl
      clear hcl
      go_simp
      refine hK _ ?_ ?_
      · simp [upd, e3]
      · exact rfl
    refine app_op 41 [] (by kernel_rfl) (by decide) (by decide) (fun p y w' HW hd K hK => ?_) ?_
    · go_simp
      refine hK _ ?_ ?_
      · simp [upd]
      · exact rfl
    refine app_op 42 [5] (by kernel_rfl) (by decide) (by decide) (fun p y w' HW hd K hK => ?_) ?_
    · have e5 := appR_nth (hd 5 (by simp)) (by decide) (by decide) rfl
      have hcl : Kept 61 W w' := HW.2.1
      obtain ⟨c0, f0⟩ := box_cell (hcl.2 _ _ _ _ (by decide) hk) 0 _ rfl
      obtain ⟨c1, f1⟩ := box_cell (hcl.2 _ _ _ _ (by decide) hk) 1 _ rfl
      obtain ⟨c2, f2⟩ := box_cell (hcl.2 _ _ _ _ (by decide) hk) 2 _ rfl
      obtain ⟨cb, fb⟩ := box_cell (hcl.2 _ _ _ _ (by decide) HX) 2 _ rfl
      clear hcl
      go_simp
      refine hK _ ?_ ?_
      · simp [upd, e5]
      · exact rfl
    refine app_op 43 [] (by kernel_rfl) (by decide) (by decide) (fun p y w' HW hd K hK => ?_) ?_
    · go_simp
      refine hK _ ?_ ?_
      · simp [upd]
      · exact rfl
    refine app_op 44 [7] (by kernel_rfl) (by decide) (by decide) (fun p y w' HW hd K hK => ?_) ?_
    · have e7 := appR_nth (hd 7 (by simp)) (by decide) (by decide) rfl
      have hcl : Kept 61 W w' := HW.2.1
      obtain ⟨c0, f0⟩ := box_cell (hcl.2 _ _ _ _ (by decide) hk) 0 _ rfl
      obtain ⟨c1, f1⟩ := box_cell (hcl.2 _ _ _ _ (by decide) hk) 1 _ rfl
      obtain ⟨c2, f2⟩ := box_cell (hcl.2 _ _ _ _ (by decide) hk) 2 _ rfl
      obtain ⟨cb, fb⟩ := box_cell (hcl.2 _ _ _ _ (by decide) HX) 2 _ rfl
      clear hcl
      go_simp
      refine hK _ ?_ ?_
      · simp [upd, e7]
      · exact rfl
    refine app_op 45 [] (by kernel_rfl) (by decide) (by decide) (fun p y w' HW hd K hK => ?_) ?_
    · go_simp
      refine hK _ ?_ ?_
      · simp [upd]
      · exact rfl
    refine app_op 46 [9] (by kernel_rfl) (by decide) (by decide) (fun p y w' HW hd K hK => ?_) ?_
    · have e9 := appR_nth (hd 9 (by simp)) (by decide) (by decide) rfl
      have hcl : Kept 61 W w' := HW.2.1
      obtain ⟨c0, f0⟩ := box_cell (hcl.2 _ _ _ _ (by decide) hk) 0 _ rfl
      obtain ⟨c1, f1⟩ := box_cell (hcl.2 _ _ _ _ (by decide) hk) 1 _ rfl
      obtain ⟨c2, f2⟩ := box_cell (hcl.2 _ _ _ _ (by decide) hk) 2 _ rfl
      obtain ⟨cb, fb⟩ := box_cell (hcl.2 _ _ _ _ (by decide) HX) 2 _ rfl
      clear hcl
      go_simp
      refine hK _ ?_ ?_
      · simp [upd, e9]
      · exact rfl
    refine app_op 47 [6, 8, 10] (by kernel_rfl) (by decide) (by decide) (fun p y w' HW hd K hK => ?_) ?_
    · have e6 := appR_nth (hd 6 (by simp)) (by decide) (by decide) rfl
      have e8 := appR_nth (hd 8 (by simp)) (by decide) (by decide) rfl
      have e10 := appR_nth (hd 10 (by simp)) (by decide) (by decide) rfl
      go_simp
      refine hK _ ?_ ?_
      · simp [upd, e6, e8, e10]
      · exact rfl
    refine app_build 48 [11] (by kernel_rfl) (by decide) (.cells #[.int .i64 v0, .int .i64 v1, .int .i64 v2] 61) _ rfl hBW (fun p y w' HW hd K hK => ?_) ?_
    · have e11 := appR_nth (hd 11 (by simp)) (by decide) (by decide) rfl
      go_simp
      refine hK _ ?_ ?_
      · simp [upd, e11]
      · exact rfl
    refine app_append 40 48 23 i0 _ 24 4 12 (by kernel_rfl) rfl rfl Tryz.underlying23 hi hz0 hz1 hz2 rfl (Nat.zero_lt_succ _) rfl ⟨by decide, by decide⟩ rfl rfl (fun _ => rfl) (fun _ => rfl) (fun _ _ => rfl) (by show p.rs.length + 1 ≤ _; omega) (by decide) hBW hlt ?_
    refine app_op 50 [0, 0, 1, 2, 3, 4, 5, 6, 7, 8, 9, 10, 11, 12, 13] (by kernel_rfl) (by decide) (by decide) (fun p y w' HW hd K hK => ?_) ?_
    · have e0 := appR_nth (hd 0 (by simp)) (by decide) (by decide) rfl
      have e1 := appR_nth (hd 1 (by simp)) (by decide) (by decide) rfl
      have e2 := appR_nth (hd 2 (by simp)) (by decide) (by decide) rfl
      have e3 := appR_nth (hd 3 (by simp)) (by decide) (by decide) rfl
      have e4 := appR_nth (hd 4 (by simp)) (by decide) (by decide) rfl
      have e5 := appR_nth (hd 5 (by simp)) (by decide) (by decide) rfl
      have e6 := appR_nth (hd 6 (by simp)) (by decide) (by decide) rfl
      have e7 := appR_nth (hd 7 (by simp)) (by decide) (by decide) rfl
      have e8 := appR_nth (hd 8 (by simp)) (by decide) (by decide) rfl
      have e9 := appR_nth (hd 9 (by simp)) (by decide) (by decide) rfl
      have e10 := appR_nth (hd 10 (by simp)) (by decide) (by decide) rfl
      have e11 := appR_nth (hd 11 (by simp)) (by decide) (by decide) rfl
      go_simp
      refine hK _ ?_ ?_
      · simp [upd, e0, e1, e2, e3, e4, e5, e6, e7, e8, e9, e10, e11]
      · exact rfl
    refine app_op 51 [14, 0, 1, 2, 3, 4, 5, 6, 7, 8, 9, 10, 11, 12, 13] (by kernel_rfl) (by decide) (by decide) (fun p y w' HW hd K hK => ?_) ?_
    · have e0 := appR_nth (hd 0 (by simp)) (by decide) (by decide) rfl
      have e1 := appR_nth (hd 1 (by simp)) (by decide) (by decide) rfl
      have e2 := appR_nth (hd 2 (by simp)) (by decide) (by decide) rfl
      have e3 := appR_nth (hd 3 (by simp)) (by decide) (by decide) rfl
      have e4 := appR_nth (hd 4 (by simp)) (by decide) (by decide) rfl
      have e5 := appR_nth (hd 5 (by simp)) (by decide) (by decide) rfl
      have e6 := appR_nth (hd 6 (by simp)) (by decide) (by decide) rfl
      have e7 := appR_nth (hd 7 (by simp)) (by decide) (by decide) rfl
      have e8 := appR_nth (hd 8 (by simp)) (by decide) (by decide) rfl
      have e9 := appR_nth (hd 9 (by simp)) (by decide) (by decide) rfl
      have e10 := appR_nth (hd 10 (by simp)) (by decide) (by decide) rfl
      have e11 := appR_nth (hd 11 (by simp)) (by decide) (by decide) rfl
      have e14 := appR_nth (hd 14 (by simp)) (by decide) (by decide) rfl
      go_simp
      refine hK _ ?_ ?_
      · simp [upd, e0, e1, e2, e3, e4, e5, e6, e7, e8, e9, e10, e11, e14]
      · exact rfl
    refine app_last (fun y w' HW hd K hK => ?_) (by decide)
    have e0 := appR_nth (hd 0 (by omega)) (by decide) (by decide) rfl
    have e1 := appR_nth (hd 1 (by omega)) (by decide) (by decide) rfl
    have e2 := appR_nth (hd 2 (by omega)) (by decide) (by decide) rfl
    have e3 := appR_nth (hd 3 (by omega)) (by decide) (by decide) rfl
    have e4 := appR_nth (hd 4 (by omega)) (by decide) (by decide) rfl
    have e5 := appR_nth (hd 5 (by omega)) (by decide) (by decide) rfl
    have e6 := appR_nth (hd 6 (by omega)) (by decide) (by decide) rfl
    have e7 := appR_nth (hd 7 (by omega)) (by decide) (by decide) rfl
    have e8 := appR_nth (hd 8 (by omega)) (by decide) (by decide) rfl
    have e9 := appR_nth (hd 9 (by omega)) (by decide) (by decide) rfl
    have e10 := appR_nth (hd 10 (by omega)) (by decide) (by decide) rfl
    have e11 := appR_nth (hd 11 (by omega)) (by decide) (by decide) rfl
    have e14 := appR_nth (hd 14 (by omega)) (by decide) (by decide) rfl
    have e15 := appR_nth (hd 15 (by omega)) (by decide) (by decide) rfl
    have eA : OwnT _ w' _ _ (y 13) _ := hd 13 (by omega)
    have hA : OwnT 3 w' B 61 (y 13) (p.rs ++ [[v0, v1, v2]]) := eA
    obtain ⟨g, cap, ey⟩ := OwnT.form hA
    have hkp : Kept 61 W w' := HW.2.1
    have hbx := hkp.2 _ _ _ _ (by decide) HX
    obtain ⟨cb, fb⟩ := box_cell hbx 2 _ rfl
    rw [ey] at hA
    have HA := Lib.hid hA
    have H1 : Hid (Below B W w') := Lib.hid HW.1
    have H2 := Lib.hid hkp
    clear hkp
    have H3 := Lib.hid hbx
    clear hA eA hbx HW HX hown hlt hk
    go_simp
    refine hK _ _ ?_
    clear hd hK K
    go_wp2
    go_end0
    exact ⟨rfl, ⟨_, HP.out.set2 H2.out HA.out⟩, ((hbW.mono hB).trans H1.out).setCell hBb _, (KeptS.of_below hbW).trans ((KeptS.of_kept H2.out (by decide)).trans KeptS.setCell)⟩
set_option maxHeartbeats 1000000 in
set_option maxRecDepth 100000 in
theorem put_3 (v0 v1 v2 : Int) (p : PC) (b : Nat) (vg vr vp vn vs : Value) (B : Nat) (w : World) (hB : B ≤ w.heap.size) (h : BoxP w B b p vg vr vp vn vs) (hn : p.ps.length ≤ 1000000) :
    Calls Tryz.prog 57 #[.agg #[.int .i64 3, .int .i64 v0, .int .i64 v1, .int .i64 v2], .pointer (some ⟨b, 0, none⟩)] w fun e w' => e = .returned (.tuple #[]) ∧ (∃ vp', BoxP w' B b (p.put 3 [v0, v1]) vg vr vp' vn vs) ∧ Below B w w' ∧ KeptS b w w' := by
  obtain ⟨i0, hi, hz0, hz1, hz2⟩ := info_parts info_port
  go_enter Tryz.func57, Tryz.ntmps57
  go_wp2
  obtain ⟨W, hW⟩ : ∃ W, ((w.alloc (.cells #[.int .i64 3, .int .i64 v0, .int .i64 v1, .int .i64 v2] 46)).alloc (.cells #[.int .i64 v0, .int .i64 v1, .int .i64 v2] 44)) = W := ⟨_, rfl⟩
  have hbW : Below w.heap.size w W := hW ▸ ((Below.refl _ _).alloc (Nat.le_refl _) _).alloc (by simp) _
  have hk : W.heap[w.heap.size + 1]? = some (.cells [.int .i64 v0, .int .i64 v1, .int .i64 v2].toArray 44 (0, 0)) := hW ▸ heap_alloc2_new _ _ _
  have hP := h.below hbW
  have hBW := Nat.le_trans hB hbW.size
  rw [hW]
  clear hW h
  have hown := hP.op
  have hlt : ∀ q, vp.ownBlock = some q → B ≤ q ∧ q < W.heap.size := fun q hq => World.ownsRow.lt hown.1 q hq
  have HX := hP.box
  have hBb := hP.hB
  have HP := Lib.hid hP
  clear hP
  apply wp_region_app [54, 55, 56, 57, 58, 59, 60, 61, 62, 63, 64, 65, 66, 67] [_, _, _, _, _, _, _, _, _, _, undef, undef, _, _] (⟨W, B, 63, 2, vp, p.ps, [v0, v1]⟩ : AppOf) 11
  case hXW => rfl
  case hBW => exact hBW
  case hown => exact hown
  case hm => kernel_rfl
  case hT => intro y; simp only [setAll, List.setIfInBounds_toArray, List.set_cons_succ, List.set_cons_zero]; exact rfl
  case hok => kernel_rfl
  case hn => decide
  case hs =>
    refine app_op 54 [] (by kernel_rfl) (by decide) (by decide) (fun p y w' HW hd K hK => ?_) ?_
    · go_simp
      refine hK _ ?_ ?_
      · simp [upd]
      · exact rfl
    refine app_op 55 [] (by kernel_rfl) (by decide) (by decide) (fun p y w' HW hd K hK => ?_) ?_
    · go_simp
      refine hK _ ?_ ?_
      · simp [upd]
      · exact rfl
    refine app_op 56 [1] (by kernel_rfl) (by decide) (by decide) (fun p y w' HW hd K hK => ?_) ?_
    · have e1 := appR_nth (hd 1 (by simp)) (by decide) (by decide) rfl
      go_simp
      refine hK _ ?_ ?_
      · simp [upd, e1]
      · exact rfl
    refine app_op 57 [2] (by kernel_rfl) (by decide) (by decide) (fun p y w' HW hd K hK => ?_) ?_
    · have e2 := appR_nth (hd 2 (by simp)) (by decide) (by decide) rfl
      go_simp
      refine hK _ ?_ ?_
      · simp [upd, e2]
      · exact rfl
    refine app_op 58 [3] (by kernel_rfl) (by decide) (by decide) (fun p y w' HW hd K hK => ?_) ?_
    · have e3 := appR_nth (hd 3 (by simp)) (by decide) (by decide) rfl
      have hcl : Kept 63 W w' := HW.2.1
      obtain ⟨c0, f0⟩ := box_cell (hcl.2 _ _ _ _ (by decide) hk) 0 _ rfl
      obtain ⟨c1, f1⟩ := box_cell (hcl.2 _ _ _ _ (by decide) hk) 1 _ rfl
      obtain ⟨cb, fb⟩ := box_cell (hcl.2 _ _ _ _ (by decide) HX) 3 _ rfl
      clear hcl
      go_simp
      refine hK _ ?_ ?_
      · simp [upd, e3]
      · exact rfl
    refine app_op 59 [] (by kernel_rfl) (by decide) (by decide) (fun p y w' HW hd K hK => ?_) ?_
    · go_simp
      refine hK _ ?_ ?_
      · simp [upd]
      · exact rfl
    refine app_op 60 [5] (by kernel_rfl) (by decide) (by decide) (fun p y w' HW hd K hK => ?_) ?_
    · have e5 := appR_nth (hd 5 (by simp)) (by decide) (by decide) rfl
      have hcl : Kept 63 W w' := HW.2.1
      obtain ⟨c0, f0⟩ := box_cell (hcl.2 _ _ _ _ (by decide) hk) 0 _ rfl
      obtain ⟨c1, f1⟩ := box_cell (hcl.2 _ _ _ _ (by decide) hk) 1 _ rfl
      obtain ⟨cb, fb⟩ := box_cell (hcl.2 _ _ _ _ (by decide) HX) 3 _ rfl
      clear hcl
      go_simp
      refine hK _ ?_ ?_
      · simp [upd, e5]
      · exact rfl
    refine app_op 61 [] (by kernel_rfl) (by decide) (by decide) (fun p y w' HW hd K hK => ?_) ?_
    · go_simp
      refine hK _ ?_ ?_
      · simp [upd]
      · exact rfl
    refine app_op 62 [7] (by kernel_rfl) (by decide) (by decide) (fun p y w' HW hd K hK => ?_) ?_
    · have e7 := appR_nth (hd 7 (by simp)) (by decide) (by decide) rfl
      have hcl : Kept 63 W w' := HW.2.1
      obtain ⟨c0, f0⟩ := box_cell (hcl.2 _ _ _ _ (by decide) hk) 0 _ rfl
      obtain ⟨c1, f1⟩ := box_cell (hcl.2 _ _ _ _ (by decide) hk) 1 _ rfl
      obtain ⟨cb, fb⟩ := box_cell (hcl.2 _ _ _ _ (by decide) HX) 3 _ rfl
      clear hcl
      go_simp
      refine hK _ ?_ ?_
      · simp [upd, e7]
      · exact rfl
    refine app_op 63 [6, 8] (by kernel_rfl) (by decide) (by decide) (fun p y w' HW hd K hK => ?_) ?_
    · have e6 := appR_nth (hd 6 (by simp)) (by decide) (by decide) rfl
      have e8 := appR_nth (hd 8 (by simp)) (by decide) (by decide) rfl
      go_simp
      refine hK _ ?_ ?_
      · simp [upd, e6, e8]
      · exact rfl
    refine app_build 64 [9] (by kernel_rfl) (by decide) (.cells #[.int .i64 v0, .int .i64 v1] 63) _ rfl hBW (fun p y w' HW hd K hK => ?_) ?_
    · have e9 := appR_nth (hd 9 (by simp)) (by decide) (by decide) rfl
      go_simp
      refine hK _ ?_ ?_
      · simp [upd, e9]
      · exact rfl
    refine app_append 58 64 24 i0 _ 16 4 10 (by kernel_rfl) rfl rfl Tryz.underlying24 hi hz0 hz1 hz2 rfl (Nat.zero_lt_succ _) rfl ⟨by decide, by decide⟩ rfl rfl (fun _ => rfl) (fun _ => rfl) (fun _ _ => rfl) (by show p.ps.length + 1 ≤ _; omega) (by decide) hBW hlt ?_
    refine app_op 66 [0, 0, 1, 2, 3, 4, 5, 6, 7, 8, 9, 10, 11] (by kernel_rfl) (by decide) (by decide) (fun p y w' HW hd K hK => ?_) ?_
    · have e0 := appR_nth (hd 0 (by simp)) (by decide) (by decide) rfl
      have e1 := appR_nth (hd 1 (by simp)) (by decide) (by decide) rfl
      have e2 := appR_nth (hd 2 (by simp)) (by decide) (by decide) rfl
      have e3 := appR_nth (hd 3 (by simp)) (by decide) (by decide) rfl
      have e4 := appR_nth (hd 4 (by simp)) (by decide) (by decide) rfl
      have e5 := appR_nth (hd 5 (by simp)) (by decide) (by decide) rfl
      have e6 := appR_nth (hd 6 (by simp)) (by decide) (by decide) rfl
      have e7 := appR_nth (hd 7 (by simp)) (by decide) (by decide) rfl
      have e8 := appR_nth (hd 8 (by simp)) (by decide) (by decide) rfl
      have e9 := appR_nth (hd 9 (by simp)) (by decide) (by decide) rfl
      go_simp
      refine hK _ ?_ ?_
      · simp [upd, e0, e1, e2, e3, e4, e5, e6, e7, e8, e9]
      · exact rfl
    refine app_op 67 [12, 0, 1, 2, 3, 4, 5, 6, 7, 8, 9, 10, 11] (by kernel_rfl) (by decide) (by decide) (fun p y w' HW hd K hK => ?_) ?_
    · have e0 := appR_nth (hd 0 (by simp)) (by decide) (by decide) rfl
      have e1 := appR_nth (hd 1 (by simp)) (by decide) (by decide) rfl
      have e2 := appR_nth (hd 2 (by simp)) (by decide) (by decide) rfl
      have e3 := appR_nth (hd 3 (by simp)) (by decide) (by decide) rfl
      have e4 := appR_nth (hd 4 (by simp)) (by decide) (by decide) rfl
      have e5 := appR_nth (hd 5 (by simp)) (by decide) (by decide) rfl
      have e6 := appR_nth (hd 6 (by simp)) (by decide) (by decide) rfl
      have e7 := appR_nth (hd 7 (by simp)) (by decide) (by decide) rfl
      have e8 := appR_nth (hd 8 (by simp)) (by decide) (by decide) rfl
      have e9 := appR_nth (hd 9 (by simp)) (by decide) (by decide) rfl
      have e12 := appR_nth (hd 12 (by simp)) (by decide) (by decide) rfl
      go_simp
      refine hK _ ?_ ?_
      · simp [upd, e0, e1, e2, e3, e4, e5, e6, e7, e8, e9, e12]
      · exact rfl
    refine app_last (fun y w' HW hd K hK => ?_) (by decide)
    have e0 := appR_nth (hd 0 (by omega)) (by decide) (by decide) rfl
    have e1 := appR_nth (hd 1 (by omega)) (by decide) (by decide) rfl
    have e2 := appR_nth (hd 2 (by omega)) (by decide) (by decide) rfl
    have e3 := appR_nth (hd 3 (by omega)) (by decide) (by decide) rfl
    have e4 := appR_nth (hd 4 (by omega)) (by decide) (by decide) rfl
    have e5 := appR_nth (hd 5 (by omega)) (by decide) (by decide) rfl
    have e6 := appR_nth (hd 6 (by omega)) (by decide) (by decide) rfl
    have e7 := appR_nth (hd 7 (by omega)) (by decide) (by decide) rfl
    have e8 := appR_nth (hd 8 (by omega)) (by decide) (by decide) rfl
    have e9 := appR_nth (hd 9 (by omega)) (by decide) (by decide) rfl
    have e12 := appR_nth (hd 12 (by omega)) (by decide) (by decide) rfl
    have e13 := appR_nth (hd 13 (by omega)) (by decide) (by decide) rfl
    have eA : OwnT _ w' _ _ (y 11) _ := hd 11 (by omega)
    have hA : OwnT 2 w' B 63 (y 11) (p.ps ++ [[v0, v1]]) := eA
    obtain ⟨g, cap, ey⟩ := OwnT.form hA
    have hkp : Kept 63 W w' := HW.2.1
    have hbx := hkp.2 _ _ _ _ (by decide) HX
    obtain ⟨cb, fb⟩ := box_cell hbx 3 _ rfl
    rw [ey] at hA
    have HA := Lib.hid hA
    have H1 : Hid (Below B W w') := Lib.hid HW.1
    have H2 := Lib.hid hkp
    clear hkp
    have H3 := Lib.hid hbx
    clear hA eA hbx HW HX hown hlt hk
    go_simp
    refine hK _ _ ?_
    clear hd hK K
    go_wp2
    go_end0
    exact ⟨rfl, ⟨_, HP.out.set3 H2.out HA.out⟩, ((hbW.mono hB).trans H1.out).setCell hBb _, (KeptS.of_below hbW).trans ((KeptS.of_kept H2.out (by decide)).trans KeptS.setCell)⟩
set_option maxHeartbeats 1000000 in
set_option maxRecDepth 100000 in
theorem put_4 (v0 v1 v2 : Int) (p : PC) (b : Nat) (vg vr vp vn vs : Value) (B : Nat) (w : World) (hB : B ≤ w.heap.size) (h : BoxP w B b p vg vr vp vn vs) (hn : p.ns.length ≤ 1000000) :
    Calls Tryz.prog 57 #[.agg #[.int .i64 4, .int .i64 v0, .int .i64 v1, .int .i64 v2], .pointer (some ⟨b, 0, none⟩)] w fun e w' => e = .returned (.tuple #[]) ∧ (∃ vn', BoxP w' B b (p.put 4 [v0, v1]) vg vr vp vn' vs) ∧ Below B w w' ∧ KeptS b w w' := by
  obtain ⟨i0, hi, hz0, hz1, hz2⟩ := info_parts info_ring
  go_enter Tryz.func57, Tryz.ntmps57
  go_wp2
  obtain ⟨W, hW⟩ : ∃ W, ((w.alloc (.cells #[.int .i64 4, .int .i64 v0, .int .i64 v1, .int .i64 v2] 46)).alloc (.cells #[.int .i64 v0, .int .i64 v1, .int .i64 v2] 44)) = W := ⟨_, rfl⟩
  have hbW : Below w.heap.size w W := hW ▸ ((Below.refl _ _).alloc (Nat.le_refl _) _).alloc (by simp) _
  have hk : W.heap[w.heap.size + 1]? = some (.cells [.int .i64 v0, .int .i64 v1, .int .i64 v2].toArray 44 (0, 0)) := hW ▸ heap_alloc2_new _ _ _
  have hP := h.below hbW
  have hBW := Nat.le_trans hB hbW.size
  rw [hW]
  clear hW h
  have hown := hP.on
  have hlt : ∀ q, vn.ownBlock = some q → B ≤ q ∧ q < W.heap.size := fun q hq => World.ownsRow.lt hown.1 q hq
  have HX := hP.box
  have hBb := hP.hB
  have HP := Lib.hid hP
  clear hP
  apply wp_region_app [70, 71, 72, 73, 74, 75, 76, 77, 78, 79, 80, 81, 82, 83] [_, _, _, _, _, _, _, _, _, _, undef, undef, _, _] (⟨W, B, 65, 2, vn, p.ns, [v0, v1]⟩ : AppOf) 11
  case hXW => rfl
  case hBW => exact hBW
  case hown => exact hown
  case hm => kernel_rfl
  case hT => intro y; simp only [setAll, List.setIfInBounds_toArray, List.set_cons_succ, List.set_cons_zero]; exact rfl
  case hok => kernel_rfl
  case hn => decide
  case hs =>
    refine app_op 70 [] (by kernel_rfl) (by decide) (by decide) (fun p y w' HW hd K hK => ?_) ?_
    · go_simp
      refine hK _ ?_ ?_
      · simp [upd]
      · exact rfl
    refine app_op 71 [] (by kernel_rfl) (by decide) (by decide) (fun p y w' HW hd K hK => ?_) ?_
    · go_simp
      refine hK _ ?_ ?_
      · simp [upd]
      · exact rfl
    refine app_op 72 [1] (by kernel_rfl) (by decide) (by decide) (fun p y w' HW hd K hK => ?_) ?_
    · have e1 := appR_nth (hd 1 (by simp)) (by decide) (by decide) rfl
      go_simp
      refine hK _ ?_ ?_
      · simp [upd, e1]
      · exact rfl
    refine app_op 73 [2] (by kernel_rfl) (by decide) (by decide) (fun p y w' HW hd K hK => ?_) ?_
    · have e2 := appR_nth (hd 2 (by simp)) (by decide) (by decide) rfl
      go_simp
      refine hK _ ?_ ?_
      · simp [upd, e2]
      · exact rfl
    refine app_op 74 [3] (by kernel_rfl) (by decide) (by decide) (fun p y w' HW hd K hK => ?_) ?_
    · have e3 := appR_nth (hd 3 (by simp)) (by decide) (by decide) rfl
      have hcl : Kept 65 W w' := HW.2.1
      obtain ⟨c0, f0⟩ := box_cell (hcl.2 _ _ _ _ (by decide) hk) 0 _ rfl
      obtain ⟨c1, f1⟩ := box_cell (hcl.2 _ _ _ _ (by decide) hk) 1 _ rfl
      obtain ⟨cb, fb⟩ := box_cell (hcl.2 _ _ _ _ (by decide) HX) 4 _ rfl
      clear hcl
      go_simp
      refine hK _ ?_ ?_
      · simp [upd, e3]
      · exact rfl
    refine app_op 75 [] (by kernel_rfl) (by decide) (by decide) (fun p y w' HW hd K hK => ?_) ?_
    · go_simp
      refine hK _ ?_ ?_
      · simp [upd]
      · exact rfl
    refine app_op 76 [5] (by kernel_rfl) (by decide) (by decide) (fun p y w' HW hd K hK => ?_) ?_
    · have e5 := appR_nth (hd 5 (by simp)) (by decide) (by decide) rfl
      have hcl : Kept 65 W w' := HW.2.1
      obtain ⟨c0, f0⟩ := box_cell (hcl.2 _ _ _ _ (by decide) hk) 0 _ rfl
      obtain ⟨c1, f1⟩ := box_cell (hcl.2 _ _ _ _ (by decide) hk) 1 _ rfl
      obtain ⟨cb, fb⟩ := box_cell (hcl.2 _ _ _ _ (by decide) HX) 4 _ rfl
      clear hcl
      go_simp
      refine hK _ ?_ ?_
      · simp [upd, e5]
      · exact rfl
    refine app_op 77 [] (by kernel_rfl) (by decide) (by decide) (fun p y w' HW hd K hK => ?_) ?_
    · go_simp
      refine hK _ ?_ ?_
      · simp [upd]
      · exact rfl
    refine app_op 78 [7] (by kernel_rfl) (by decide) (by decide) (fun p y w' HW hd K hK => ?_) ?_
    · have e7 := appR_nth (hd 7 (by simp)) (by decide) (by decide) rfl
      have hcl : Kept 65 W w' := HW.2.1
      obtain ⟨c0, f0⟩ := box_cell (hcl.2 _ _ _ _ (by decide) hk) 0 _ rfl
      obtain ⟨c1, f1⟩ := box_cell (hcl.2 _ _ _ _ (by decide) hk) 1 _ rfl
      obtain ⟨cb, fb⟩ := box_cell (hcl.2 _ _ _ _ (by decide) HX) 4 _ rfl
      clear hcl
      go_simp
      refine hK _ ?_ ?_
      · simp [upd, e7]
      · exact rfl
    refine app_op 79 [6, 8] (by kernel_rfl) (by decide) (by decide) (fun p y w' HW hd K hK => ?_) ?_
    · have e6 := appR_nth (hd 6 (by simp)) (by decide) (by decide) rfl
      have e8 := appR_nth (hd 8 (by simp)) (by decide) (by decide) rfl
      go_simp
      refine hK _ ?_ ?_
      · simp [upd, e6, e8]
      · exact rfl
    refine app_build 80 [9] (by kernel_rfl) (by decide) (.cells #[.int .i64 v0, .int .i64 v1] 65) _ rfl hBW (fun p y w' HW hd K hK => ?_) ?_
    · have e9 := appR_nth (hd 9 (by simp)) (by decide) (by decide) rfl
      go_simp
      refine hK _ ?_ ?_
      · simp [upd, e9]
      · exact rfl
    refine app_append 74 80 25 i0 _ 16 4 10 (by kernel_rfl) rfl rfl Tryz.underlying25 hi hz0 hz1 hz2 rfl (Nat.zero_lt_succ _) rfl ⟨by decide, by decide⟩ rfl rfl (fun _ => rfl) (fun _ => rfl) (fun _ _ => rfl) (by show p.ns.length + 1 ≤ _; omega) (by decide) hBW hlt ?_
    refine app_op 82 [0, 0, 1, 2, 3, 4, 5, 6, 7, 8, 9, 10, 11] (by kernel_rfl) (by decide) (by decide) (fun p y w' HW hd K hK => ?_) ?_
    · have e0 := appR_nth (hd 0 (by simp)) (by decide) (by decide) rfl
      have e1 := appR_nth (hd 1 (by simp)) (by decide) (by decide) rfl
      have e2 := appR_nth (hd 2 (by simp)) (by decide) (by decide) rfl
      have e3 := appR_nth (hd 3 (by simp)) (by decide) (by decide) rfl
      have e4 := appR_nth (hd 4 (by simp)) (by decide) (by decide) rfl
      have e5 := appR_nth (hd 5 (by simp)) (by decide) (by decide) rfl
      have e6 := appR_nth (hd 6 (by simp)) (by decide) (by decide) rfl
      have e7 := appR_nth (hd 7 (by simp)) (by decide) (by decide) rfl
      have e8 := appR_nth (hd 8 (by simp)) (by decide) (by decide) rfl
      have e9 := appR_nth (hd 9 (by simp)) (by decide) (by decide) rfl
      go_simp
      refine hK _ ?_ ?_
      · simp [upd, e0, e1, e2, e3, e4, e5, e6, e7, e8, e9]
      · exact rfl
    refine app_op 83 [12, 0, 1, 2, 3, 4, 5, 6, 7, 8, 9, 10, 11] (by kernel_rfl) (by decide) (by decide) (fun p y w' HW hd K hK => ?_) ?_
    · have e0 := appR_nth (hd 0 (by simp)) (by decide) (by decide) rfl
      have e1 := appR_nth (hd 1 (by simp)) (by decide) (by decide) rfl
      have e2 := appR_nth (hd 2 (by simp)) (by decide) (by decide) rfl
      have e3 := appR_nth (hd 3 (by simp)) (by decide) (by decide) rfl
      have e4 := appR_nth (hd 4 (by simp)) (by decide) (by decide) rfl
      have e5 := appR_nth (hd 5 (by simp)) (by decide) (by decide) rfl
      have e6 := appR_nth (hd 6 (by simp)) (by decide) (by decide) rfl
      have e7 := appR_nth (hd 7 (by simp)) (by decide) (by decide) rfl
      have e8 := appR_nth (hd 8 (by simp)) (by decide) (by decide) rfl
      have e9 := appR_nth (hd 9 (by simp)) (by decide) (by decide) rfl
      have e12 := appR_nth (hd 12 (by simp)) (by decide) (by decide) rfl
      go_simp
      refine hK _ ?_ ?_
      · simp [upd, e0, e1, e2, e3, e4, e5, e6, e7, e8, e9, e12]
      · exact rfl
    refine app_last (fun y w' HW hd K hK => ?_) (by decide)
    have e0 := appR_nth (hd 0 (by omega)) (by decide) (by decide) rfl
    have e1 := appR_nth (hd 1 (by omega)) (by decide) (by decide) rfl
    have e2 := appR_nth (hd 2 (by omega)) (by decide) (by decide) rfl
    have e3 := appR_nth (hd 3 (by omega)) (by decide) (by decide) rfl
    have e4 := appR_nth (hd 4 (by omega)) (by decide) (by decide) rfl
    have e5 := appR_nth (hd 5 (by omega)) (by decide) (by decide) rfl
    have e6 := appR_nth (hd 6 (by omega)) (by decide) (by decide) rfl
    have e7 := appR_nth (hd 7 (by omega)) (by decide) (by decide) rfl
    have e8 := appR_nth (hd 8 (by omega)) (by decide) (by decide) rfl
    have e9 := appR_nth (hd 9 (by omega)) (by decide) (by decide) rfl
    have e12 := appR_nth (hd 12 (by omega)) (by decide) (by decide) rfl
    have e13 := appR_nth (hd 13 (by omega)) (by decide) (by decide) rfl
    have eA : OwnT _ w' _ _ (y 11) _ := hd 11 (by omega)
    have hA : OwnT 2 w' B 65 (y 11) (p.ns ++ [[v0, v1]]) := eA
    obtain ⟨g, cap, ey⟩ := OwnT.form hA
    have hkp : Kept 65 W w' := HW.2.1
    have hbx := hkp.2 _ _ _ _ (by decide) HX
    obtain ⟨cb, fb⟩ := box_cell hbx 4 _ rfl
    rw [ey] at hA
    have HA := Lib.hid hA
    have H1 : Hid (Below B W w') := Lib.hid HW.1
    have H2 := Lib.hid hkp
    clear hkp
    have H3 := Lib.hid hbx
    clear hA eA hbx HW HX hown hlt hk
    go_simp
    refine hK _ _ ?_
    clear hd hK K
    go_wp2
    go_end0
    exact ⟨rfl, ⟨_, HP.out.set4 H2.out HA.out⟩, ((hbW.mono hB).trans H1.out).setCell hBb _, (KeptS.of_below hbW).trans ((KeptS.of_kept H2.out (by decide)).trans KeptS.setCell)⟩
set_option maxHeartbeats 1000000 in
set_option maxRecDepth 100000 in
theorem put_5 (v0 v1 v2 : Int) (p : PC) (b : Nat) (vg vr vp vn vs : Value) (B : Nat) (w : World) (hB : B ≤ w.heap.size) (h : BoxP w B b p vg vr vp vn vs) (hn : p.ss.length ≤ 1000000) :
    Calls Tryz.prog 57 #[.agg #[.int .i64 5, .int .i64 v0, .int .i64 v1, .int .i64 v2], .pointer (some ⟨b, 0, none⟩)] w fun e w' => e = .returned (.tuple #[]) ∧ (∃ vs', BoxP w' B b (p.put 5 [v0, v1]) vg vr vp vn vs') ∧ Below B w w' ∧ KeptS b w w' := by
  obtain ⟨i0, hi, hz0, hz1, hz2⟩ := info_parts info_slot
  go_enter Tryz.func57, Tryz.ntmps57
  go_wp2
  obtain ⟨W, hW⟩ : ∃ W, ((w.alloc (.cells #[.int .i64 5, .int .i64 v0, .int .i64 v1, .int .i64 v2] 46)).alloc (.cells #[.int .i64 v0, .int .i64 v1, .int .i64 v2] 44)) = W := ⟨_, rfl⟩
  have hbW : Below w.heap.size w W := hW ▸ ((Below.refl _ _).alloc (Nat.le_refl _) _).alloc (by simp) _
  have hk : W.heap[w.heap.size + 1]? = some (.cells [.int .i64 v0, .int .i64 v1, .int .i64 v2].toArray 44 (0, 0)) := hW ▸ heap_alloc2_new _ _ _
  have hP := h.below hbW
  have hBW := Nat.le_trans hB hbW.size
  rw [hW]
  clear hW h
  have hown := hP.os
  have hlt : ∀ q, vs.ownBlock = some q → B ≤ q ∧ q < W.heap.size := fun q hq => World.ownsRow.lt hown.1 q hq
  have HX := hP.box
  have hBb := hP.hB
  have HP := Lib.hid hP
  clear hP
  apply wp_region_app [86, 87, 88, 89, 90, 91, 92, 93, 94, 95, 96, 97, 98, 99] [_, _, _, _, _, _, _, _, _, _, undef, undef, _, _] (⟨W, B, 67, 2, vs, p.ss, [v0, v1]⟩ : AppOf) 11
  case hXW => rfl
  case hBW => exact hBW
  case hown => exact hown
  case hm => kernel_rfl
  case hT => intro y; simp only [setAll, List.setIfInBounds_toArray, List.set_cons_succ, List.set_cons_zero]; exact rfl
  case hok => kernel_rfl
  case hn => decide
  case hs =>
    refine app_op 86 [] (by kernel_rfl) (by decide) (by decide) (fun p y w' HW hd K hK => ?_) ?_
    · go_simp
      refine hK _ ?_ ?_
      · simp [upd]
      · exact rfl
    refine app_op 87 [] (by kernel_rfl) (by decide) (by decide) (fun p y w' HW hd K hK => ?_) ?_
    · go_simp
      refine hK _ ?_ ?_
      · simp [upd]
      · exact rfl
    refine app_op 88 [1] (by kernel_rfl) (by decide) (by decide) (fun p y w' HW hd K hK => ?_) ?_
    · have e1 := appR_nth (hd 1 (by simp)) (by decide) (by decide) rfl
      go_simp
      refine hK _ ?_ ?_
      · simp [upd, e1]
      · exact rfl
    refine app_op 89 [2] (by kernel_rfl) (by decide) (by decide) (fun p y w' HW hd K hK => ?_) ?_
    · have e2 := appR_nth (hd 2 (by simp)) (by decide) (by decide) rfl
      go_simp
      refine hK _ ?_ ?_
      · simp [upd, e2]
      · exact rfl
    refine app_op 90 [3] (by kernel_rfl) (by decide) (by decide) (fun p y w' HW hd K hK => ?_) ?_
    · have e3 := appR_nth (hd 3 (by simp)) (by decide) (by decide) rfl
      have hcl : Kept 67 W w' := HW.2.1
      obtain ⟨c0, f0⟩ := box_cell (hcl.2 _ _ _ _ (by decide) hk) 0 _ rfl
      obtain ⟨c1, f1⟩ := box_cell (hcl.2 _ _ _ _ (by decide) hk) 1 _ rfl
      obtain ⟨cb, fb⟩ := box_cell (hcl.2 _ _ _ _ (by decide) HX) 5 _ rfl
      clear hcl
      go_simp
      refine hK _ ?_ ?_
      · simp [upd, e3]
      · exact rfl
    refine app_op 91 [] (by kernel_rfl) (by decide) (by decide) (fun p y w' HW hd K hK => ?_) ?_
    · go_simp
      refine hK _ ?_ ?_
      · simp [upd]
      · exact rfl
    refine app_op 92 [5] (by kernel_rfl) (by decide) (by decide) (fun p y w' HW hd K hK => ?_) ?_
    · have e5 := appR_nth (hd 5 (by simp)) (by decide) (by decide) rfl
      have hcl : Kept 67 W w' := HW.2.1
      obtain ⟨c0, f0⟩ := box_cell (hcl.2 _ _ _ _ (by decide) hk) 0 _ rfl
      obtain ⟨c1, f1⟩ := box_cell (hcl.2 _ _ _ _ (by decide) hk) 1 _ rfl
      obtain ⟨cb, fb⟩ := box_cell (hcl.2 _ _ _ _ (by decide) HX) 5 _ rfl
      clear hcl
      go_simp
      refine hK _ ?_ ?_
      · simp [upd, e5]
      · exact rfl
    refine app_op 93 [] (by kernel_rfl) (by decide) (by decide) (fun p y w' HW hd K hK => ?_) ?_
    · go_simp
      refine hK _ ?_ ?_
      · simp [upd]
      · exact rfl
    refine app_op 94 [7] (by kernel_rfl) (by decide) (by decide) (fun p y w' HW hd K hK => ?_) ?_
    · have e7 := appR_nth (hd 7 (by simp)) (by decide) (by decide) rfl
      have hcl : Kept 67 W w' := HW.2.1
      obtain ⟨c0, f0⟩ := box_cell (hcl.2 _ _ _ _ (by decide) hk) 0 _ rfl
      obtain ⟨c1, f1⟩ := box_cell (hcl.2 _ _ _ _ (by decide) hk) 1 _ rfl
      obtain ⟨cb, fb⟩ := box_cell (hcl.2 _ _ _ _ (by decide) HX) 5 _ rfl
      clear hcl
      go_simp
      refine hK _ ?_ ?_
      · simp [upd, e7]
      · exact rfl
    refine app_op 95 [6, 8] (by kernel_rfl) (by decide) (by decide) (fun p y w' HW hd K hK => ?_) ?_
    · have e6 := appR_nth (hd 6 (by simp)) (by decide) (by decide) rfl
      have e8 := appR_nth (hd 8 (by simp)) (by decide) (by decide) rfl
      go_simp
      refine hK _ ?_ ?_
      · simp [upd, e6, e8]
      · exact rfl
    refine app_build 96 [9] (by kernel_rfl) (by decide) (.cells #[.int .i64 v0, .int .i64 v1] 67) _ rfl hBW (fun p y w' HW hd K hK => ?_) ?_
    · have e9 := appR_nth (hd 9 (by simp)) (by decide) (by decide) rfl
      go_simp
      refine hK _ ?_ ?_
      · simp [upd, e9]
      · exact rfl
    refine app_append 90 96 26 i0 _ 16 4 10 (by kernel_rfl) rfl rfl Tryz.underlying26 hi hz0 hz1 hz2 rfl (Nat.zero_lt_succ _) rfl ⟨by decide, by decide⟩ rfl rfl (fun _ => rfl) (fun _ => rfl) (fun _ _ => rfl) (by show p.ss.length + 1 ≤ _; omega) (by decide) hBW hlt ?_
    refine app_op 98 [0, 0, 1, 2, 3, 4, 5, 6, 7, 8, 9, 10, 11] (by kernel_rfl) (by decide) (by decide) (fun p y w' HW hd K hK => ?_) ?_
    · have e0 := appR_nth (hd 0 (by simp)) (by decide) (by decide) rfl
      have e1 := appR_nth (hd 1 (by simp)) (by decide) (by decide) rfl
      have e2 := appR_nth (hd 2 (by simp)) (by decide) (by decide) rfl
      have e3 := appR_nth (hd 3 (by simp)) (by decide) (by decide) rfl
      have e4 := appR_nth (hd 4 (by simp)) (by decide) (by decide) rfl
      have e5 := appR_nth (hd 5 (by simp)) (by decide) (by decide) rfl
      have e6 := appR_nth (hd 6 (by simp)) (by decide) (by decide) rfl
      have e7 := appR_nth (hd 7 (by simp)) (by decide) (by decide) rfl
      have e8 := appR_nth (hd 8 (by simp)) (by decide) (by decide) rfl
      have e9 := appR_nth (hd 9 (by simp)) (by decide) (by decide) rfl
      go_simp
      refine hK _ ?_ ?_
      · simp [upd, e0, e1, e2, e3, e4, e5, e6, e7, e8, e9]
      · exact rfl
    refine app_op 99 [12, 0, 1, 2, 3, 4, 5, 6, 7, 8, 9, 10, 11] (by kernel_rfl) (by decide) (by decide) (fun p y w' HW hd K hK => ?_) ?_
    · have e0 := appR_nth (hd 0 (by simp)) (by decide) (by decide) rfl
      have e1 := appR_nth (hd 1 (by simp)) (by decide) (by decide) rfl
      have e2 := appR_nth (hd 2 (by simp)) (by decide) (by decide) rfl
      have e3 := appR_nth (hd 3 (by simp)) (by decide) (by decide) rfl
      have e4 := appR_nth (hd 4 (by simp)) (by decide) (by decide) rfl
      have e5 := appR_nth (hd 5 (by simp)) (by decide) (by decide) rfl
      have e6 := appR_nth (hd 6 (by simp)) (by decide) (by decide) rfl
      have e7 := appR_nth (hd 7 (by simp)) (by decide) (by decide) rfl
      have e8 := appR_nth (hd 8 (by simp)) (by decide) (by decide) rfl
      have e9 := appR_nth (hd 9 (by simp)) (by decide) (by decide) rfl
      have e12 := appR_nth (hd 12 (by simp)) (by decide) (by decide) rfl
      go_simp
      refine hK _ ?_ ?_
      · simp [upd, e0, e1, e2, e3, e4, e5, e6, e7, e8, e9, e12]
      · exact rfl
    refine app_last (fun y w' HW hd K hK => ?_) (by decide)
    have e0 := appR_nth (hd 0 (by omega)) (by decide) (by decide) rfl
    have e1 := appR_nth (hd 1 (by omega)) (by decide) (by decide) rfl
    have e2 := appR_nth (hd 2 (by omega)) (by decide) (by decide) rfl
    have e3 := appR_nth (hd 3 (by omega)) (by decide) (by decide) rfl
    have e4 := appR_nth (hd 4 (by omega)) (by decide) (by decide) rfl
    have e5 := appR_nth (hd 5 (by omega)) (by decide) (by decide) rfl
    have e6 := appR_nth (hd 6 (by omega)) (by decide) (by decide) rfl
    have e7 := appR_nth (hd 7 (by omega)) (by decide) (by decide) rfl
    have e8 := appR_nth (hd 8 (by omega)) (by decide) (by decide) rfl
    have e9 := appR_nth (hd 9 (by omega)) (by decide) (by decide) rfl
    have e12 := appR_nth (hd 12 (by omega)) (by decide) (by decide) rfl
    have e13 := appR_nth (hd 13 (by omega)) (by decide) (by decide) rfl
    have eA : OwnT _ w' _ _ (y 11) _ := hd 11 (by omega)
    have hA : OwnT 2 w' B 67 (y 11) (p.ss ++ [[v0, v1]]) := eA
    obtain ⟨g, cap, ey⟩ := OwnT.form hA
    have hkp : Kept 67 W w' := HW.2.1
    have hbx := hkp.2 _ _ _ _ (by decide) HX
    obtain ⟨cb, fb⟩ := box_cell hbx 5 _ rfl
    rw [ey] at hA
    have HA := Lib.hid hA
    have H1 : Hid (Below B W w') := Lib.hid HW.1
    have H2 := Lib.hid hkp
    clear hkp
    have H3 := Lib.hid hbx
    clear hA eA hbx HW HX hown hlt hk
    go_simp
    refine hK _ _ ?_
    clear hd hK K
    go_wp2
    go_end0
    exact ⟨rfl, ⟨_, HP.out.set5 H2.out HA.out⟩, ((hbW.mono hB).trans H1.out).setCell hBb _, (KeptS.of_below hbW).trans ((KeptS.of_kept H2.out (by decide)).trans KeptS.setCell)⟩
end Go.Proofs.YtikkfapgmbamlaaGreatDoor.Pl
end
