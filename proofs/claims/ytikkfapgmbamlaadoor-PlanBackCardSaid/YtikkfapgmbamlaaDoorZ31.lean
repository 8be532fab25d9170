/- Several texts in one: Fd Fe -/
import Derived.Test.YtikkfapgmbamlaaDoorZ12
section
/- The document's plain of layer 5: a line of numbers laid into a configuration that comes and goes by value. -/
namespace Go.Proofs.YtikkfapgmbamlaaDoor.Pl
open Go.RowKit Ut
set_option linter.unusedVariables false
set_option maxRecDepth 100000

def TakeQ (q : PC) (ok : Bool) (B : Nat) (w : World) (e : Ending) (w' : World) : Prop :=
  ∃ vg vr vp vn vs, e = .returned (.tuple #[cfgV q vg vr vp vn vs, .bool ok]) ∧ RowsP w' B q vg vr vp vn vs ∧ Below B w w' ∧ KeptS w.heap.size w w'
theorem two_cells {w : World} {B g cap : Nat} {e : TypeId} {x a : Int} (h : OwnI .i64 w B e (.slice (some ⟨g, 0, none⟩) 2 cap) 2 [x, a]) : w.cell? ⟨g, 0, none⟩ = some (.int .i64 x) ∧ w.cell? ⟨g, 1, none⟩ = some (.int .i64 a) :=
  ⟨OwnI.cellAt h 0 (by decide), OwnI.cellAt h 1 (by decide)⟩
set_option maxHeartbeats 4000000 in
theorem plain_none (p : PC) (vg vr vp vn vs : Value) (sl : Value) (k : Int) (B : Nat) (w : World) (hB : B ≤ w.heap.size) (h : RowsP w B p vg vr vp vn vs)
    (hl : ∀ W, Below w.heap.size w W → Calls Tryd.prog 87 #[sl, .int .i64 1] W fun e w' => ∃ v, e = .returned (.tuple #[v, .bool false]) ∧ True ∧ Below W.heap.size W w') :
    Calls Tryd.prog 70 #[cfgV p vg vr vp vn vs, .int .i64 k, sl] w fun e w' => TakeQ p false B w e w' := by
  have HLL := Lib.hid hl
  clear hl
  obtain ⟨ga, gc, ra, rc, pa, qc, na, nc, sa, sc, rfl, rfl, rfl, rfl, rfl⟩ := rows_sl h
  have HBX := Lib.hid (fun (W : World) => take_box (W3 := W) h hB)
  have hal : Below w.heap.size w (((w.alloc (cfgO p (.slice ga p.gs.length gc) (.slice ra p.rs.length rc) (.slice pa p.ps.length qc) (.slice na p.ns.length nc) (.slice sa p.ss.length sc))).alloc (.cells zeroL.toArray 36 (0, 0))).alloc (cfgO p (.slice ga p.gs.length gc) (.slice ra p.rs.length rc) (.slice pa p.ps.length qc) (.slice na p.ns.length nc) (.slice sa p.ss.length sc))) := (((Below.refl _ _).alloc (Nat.le_refl _) _).alloc (by simp) _).alloc (by simp; omega) _
  have HL := Lib.hid (HLL.out _ hal)
  clear h hal
  go_enter Tryd.func70, Tryd.ntmps70
  go_upto_region 4 with (go_at_call 87; refine HL.out.mono ?_; rintro e w3 ⟨v, rfl, _, hb3⟩; obtain ⟨hbx, hz, hbw⟩ := HBX.out _ hb3; have HF := Lib.hid hbx; have HZ5 := Lib.hid hz; have hB4 := hbw.mono hB; have hK4 : KeptS (w.heap.size + 1) w w3 := KeptS.of_below hbw; clear hbx hz hb3)
  refine wp_region_lit ?_
  refine wpList_load_row rfl 36 _ rfl (w.heap.size + 2) (by kernel_rfl) 36 #[.int .i64 p.cats, .slice ga p.gs.length gc, .slice ra p.rs.length rc, .slice pa p.ps.length qc, .slice na p.ns.length nc, .slice sa p.ss.length sc, .int .i64 p.gate, .int .i64 p.quota] (0, 0) _ HF.out.box Tryd.underlying36 rfl (by kernel_rfl) ?_
  refine wpList_store_row rfl 36 (.tmp 6) (.tmp 19) rfl (w.heap.size + 1) #[.int .i64 p.cats, .slice ga p.gs.length gc, .slice ra p.rs.length rc, .slice pa p.ps.length qc, .slice na p.ns.length nc, .slice sa p.ss.length sc, .int .i64 p.gate, .int .i64 p.quota] (by kernel_rfl) (by kernel_rfl) 36 _ HZ5.out (by kernel_rfl) rfl (by kernel_rfl) ?_
  have hrow := Lib.hid (setRow_heap _ (w.heap.size + 1) _ #[.int .i64 p.cats, .slice ga p.gs.length gc, .slice ra p.rs.length rc, .slice pa p.ps.length qc, .slice na p.ns.length nc, .slice sa p.ss.length sc, .int .i64 p.gate, .int .i64 p.quota] _ _ HZ5.out)
  have hbe := below_setRow hB4 (show B ≤ w.heap.size + 1 by omega) #[.int .i64 p.cats, .slice ga p.gs.length gc, .slice ra p.rs.length rc, .slice pa p.ps.length qc, .slice na p.ns.length nc, .slice sa p.ss.length sc, .int .i64 p.gate, .int .i64 p.quota]
  have hke := (hK4.trans (KeptS.setRow (cs := #[.int .i64 p.cats, .slice ga p.gs.length gc, .slice ra p.rs.length rc, .slice pa p.ps.length qc, .slice na p.ns.length nc, .slice sa p.ss.length sc, .int .i64 p.gate, .int .i64 p.quota]))).new (c := w.heap.size) (by omega)
  have hre := Lib.hid (HF.out.rows.setRow (new := #[.int .i64 p.cats, .slice ga p.gs.length gc, .slice ra p.rs.length rc, .slice pa p.ps.length qc, .slice na p.ns.length nc, .slice sa p.ss.length sc, .int .i64 p.gate, .int .i64 p.quota]) HZ5.out)
  go_wp2
  exact bodyPost_ret (v := .tuple #[cfgV p (.slice ga p.gs.length gc) (.slice ra p.rs.length rc) (.slice pa p.ps.length qc) (.slice na p.ns.length nc) (.slice sa p.ss.length sc), .bool false]) (results_ct rfl _ _ (w.heap.size + 1) _ _ rfl rfl hrow.out (by kernel_rfl)) rfl ⟨_, _, _, _, _, rfl, hre.out, hbe, hke⟩
set_option maxHeartbeats 4000000 in
theorem plain_0 (p : PC) (vg vr vp vn vs : Value) (sl : Value) (x : Int) (B : Nat) (w : World) (hB : B ≤ w.heap.size) (h : RowsP w B p vg vr vp vn vs)
    (hl : ∀ W, Below w.heap.size w W → Calls Tryd.prog 87 #[sl, .int .i64 1] W fun e w' => ∃ v, e = .returned (.tuple #[v, .bool true]) ∧ OwnI .i64 w' W.heap.size 3 v 1 [x] ∧ Below W.heap.size W w') :
    Calls Tryd.prog 70 #[cfgV p vg vr vp vn vs, .int .i64 0, sl] w fun e w' => TakeQ (p.put 0 [x]) true B w e w' := by
  have HLL := Lib.hid hl
  clear hl
  obtain ⟨ga, gc, ra, rc, pa, qc, na, nc, sa, sc, rfl, rfl, rfl, rfl, rfl⟩ := rows_sl h
  have HBX := Lib.hid (fun (W : World) => take_box (W3 := W) h hB)
  have hal : Below w.heap.size w (((w.alloc (cfgO p (.slice ga p.gs.length gc) (.slice ra p.rs.length rc) (.slice pa p.ps.length qc) (.slice na p.ns.length nc) (.slice sa p.ss.length sc))).alloc (.cells zeroL.toArray 36 (0, 0))).alloc (cfgO p (.slice ga p.gs.length gc) (.slice ra p.rs.length rc) (.slice pa p.ps.length qc) (.slice na p.ns.length nc) (.slice sa p.ss.length sc))) := (((Below.refl _ _).alloc (Nat.le_refl _) _).alloc (by simp) _).alloc (by simp; omega) _
  have HL := Lib.hid (HLL.out _ hal)
  clear h hal
  go_enter Tryd.func70, Tryd.ntmps70
  go_upto_region 14 with (go_at_call 87; refine HL.out.mono ?_; rintro e w3 ⟨v, rfl, hnum, hb3⟩; obtain ⟨hbx, hz, hbw⟩ := HBX.out _ hb3; obtain ⟨g, gcap, rfl, hgB, hgl, hgc, hgm⟩ := OwnI.form hnum (by decide); have HN := Lib.hid hnum; have HX := Lib.hid hbx; have HZ := Lib.hid hz; have hlt3 := (Array.getElem?_eq_some_iff.1 hbx.box).1; have k0 := OwnI.cellAt hnum 0 (by decide); simp only [List.getD_cons_zero] at k0; obtain ⟨cb, fb⟩ := box_cell hbx.box 0 _ rfl; clear hbx hz hb3 hnum)
  have HF := Lib.hid (BoxP.keep (q := p.put 0 [x]) HX.out rfl rfl rfl rfl rfl (box_set HX.out.box 0 (.int .i64 x)))
  have HZ5 := Lib.hid ((Below.heap_setCell w3 ⟨w.heap.size + 2, 0, none⟩ (.int .i64 x) _ (by simp)).trans HZ.out)
  have hB4 : Below B w (w3.setCell ⟨w.heap.size + 2, 0, none⟩ (.int .i64 x)) := (hbw.mono hB).setCell (show B ≤ w.heap.size + 2 by omega) _
  have hK4 : KeptS (w.heap.size + 1) w (w3.setCell ⟨w.heap.size + 2, 0, none⟩ (.int .i64 x)) := ((KeptS.of_below (b := w.heap.size + 2) hbw).trans KeptS.setCell).new (by omega)
  refine wp_region_lit ?_
  refine wpList_load_row rfl 36 _ rfl (w.heap.size + 2) (by kernel_rfl) 36 #[.int .i64 x, .slice ga p.gs.length gc, .slice ra p.rs.length rc, .slice pa p.ps.length qc, .slice na p.ns.length nc, .slice sa p.ss.length sc, .int .i64 p.gate, .int .i64 p.quota] (0, 0) _ HF.out.box Tryd.underlying36 rfl (by kernel_rfl) ?_
  refine wpList_store_row rfl 36 (.tmp 6) (.tmp 63) rfl (w.heap.size + 1) #[.int .i64 x, .slice ga p.gs.length gc, .slice ra p.rs.length rc, .slice pa p.ps.length qc, .slice na p.ns.length nc, .slice sa p.ss.length sc, .int .i64 p.gate, .int .i64 p.quota] (by kernel_rfl) (by kernel_rfl) 36 _ HZ5.out (by kernel_rfl) rfl (by kernel_rfl) ?_
  have hrow := Lib.hid (setRow_heap _ (w.heap.size + 1) _ #[.int .i64 x, .slice ga p.gs.length gc, .slice ra p.rs.length rc, .slice pa p.ps.length qc, .slice na p.ns.length nc, .slice sa p.ss.length sc, .int .i64 p.gate, .int .i64 p.quota] _ _ HZ5.out)
  have hbe := below_setRow hB4 (show B ≤ w.heap.size + 1 by omega) #[.int .i64 x, .slice ga p.gs.length gc, .slice ra p.rs.length rc, .slice pa p.ps.length qc, .slice na p.ns.length nc, .slice sa p.ss.length sc, .int .i64 p.gate, .int .i64 p.quota]
  have hke := (hK4.trans (KeptS.setRow (cs := #[.int .i64 x, .slice ga p.gs.length gc, .slice ra p.rs.length rc, .slice pa p.ps.length qc, .slice na p.ns.length nc, .slice sa p.ss.length sc, .int .i64 p.gate, .int .i64 p.quota]))).new (c := w.heap.size) (by omega)
  have hre := Lib.hid (HF.out.rows.setRow (new := #[.int .i64 x, .slice ga p.gs.length gc, .slice ra p.rs.length rc, .slice pa p.ps.length qc, .slice na p.ns.length nc, .slice sa p.ss.length sc, .int .i64 p.gate, .int .i64 p.quota]) HZ5.out)
  go_wp2
  exact bodyPost_ret (v := .tuple #[cfgV (p.put 0 [x]) (.slice ga p.gs.length gc) (.slice ra p.rs.length rc) (.slice pa p.ps.length qc) (.slice na p.ns.length nc) (.slice sa p.ss.length sc), .bool true]) (results_ct rfl _ _ (w.heap.size + 1) _ _ rfl rfl hrow.out (by kernel_rfl)) rfl ⟨_, _, _, _, _, rfl, hre.out, hbe, hke⟩
set_option maxHeartbeats 4000000 in
theorem plain_6 (p : PC) (vg vr vp vn vs : Value) (sl : Value) (x a : Int) (B : Nat) (w : World) (hB : B ≤ w.heap.size) (h : RowsP w B p vg vr vp vn vs)
    (hl : ∀ W, Below w.heap.size w W → Calls Tryd.prog 87 #[sl, .int .i64 1] W fun e w' => ∃ v, e = .returned (.tuple #[v, .bool true]) ∧ OwnI .i64 w' W.heap.size 3 v 2 [x, a] ∧ Below W.heap.size W w') :
    Calls Tryd.prog 70 #[cfgV p vg vr vp vn vs, .int .i64 6, sl] w fun e w' => TakeQ (p.put 6 [x, a]) true B w e w' := by
  have HLL := Lib.hid hl
  clear hl
  obtain ⟨ga, gc, ra, rc, pa, qc, na, nc, sa, sc, rfl, rfl, rfl, rfl, rfl⟩ := rows_sl h
  have HBX := Lib.hid (fun (W : World) => take_box (W3 := W) h hB)
  have hal : Below w.heap.size w (((w.alloc (cfgO p (.slice ga p.gs.length gc) (.slice ra p.rs.length rc) (.slice pa p.ps.length qc) (.slice na p.ns.length nc) (.slice sa p.ss.length sc))).alloc (.cells zeroL.toArray 36 (0, 0))).alloc (cfgO p (.slice ga p.gs.length gc) (.slice ra p.rs.length rc) (.slice pa p.ps.length qc) (.slice na p.ns.length nc) (.slice sa p.ss.length sc))) := (((Below.refl _ _).alloc (Nat.le_refl _) _).alloc (by simp) _).alloc (by simp; omega) _
  have HL := Lib.hid (HLL.out _ hal)
  clear h hal
  go_enter Tryd.func70, Tryd.ntmps70
  go_upto_region 14 with (go_at_call 87; refine HL.out.mono ?_; rintro e w3 ⟨v, rfl, hnum, hb3⟩; obtain ⟨hbx, hz, hbw⟩ := HBX.out _ hb3; obtain ⟨g, gcap, rfl, hgB, hgl, hgc, hgm⟩ := OwnI.form hnum (by decide); have HN := Lib.hid hnum; have HX := Lib.hid hbx; have HZ := Lib.hid hz; have hlt3 := (Array.getElem?_eq_some_iff.1 hbx.box).1; obtain ⟨k0, k1⟩ := two_cells hnum; obtain ⟨cb, fb⟩ := box_cell hbx.box 6 _ rfl; obtain ⟨cd, fd⟩ := box_cell hbx.box 7 _ rfl; clear hbx hz hb3 hnum)
  have h1 := BoxP.keep (q := { p with gate := x }) HX.out rfl rfl rfl rfl rfl (box_set HX.out.box 6 (.int .i64 x))
  have HF := Lib.hid (BoxP.keep (q := p.put 6 [x, a]) h1 rfl rfl rfl rfl rfl (box_set h1.box 7 (.int .i64 a)))
  have HZ5 := Lib.hid ((Below.heap_setCell (w3.setCell ⟨w.heap.size + 2, 6, none⟩ (.int .i64 x)) ⟨w.heap.size + 2, 7, none⟩ (.int .i64 a) _ (by simp)).trans ((Below.heap_setCell w3 ⟨w.heap.size + 2, 6, none⟩ (.int .i64 x) _ (by simp)).trans HZ.out))
  have hB4 : Below B w ((w3.setCell ⟨w.heap.size + 2, 6, none⟩ (.int .i64 x)).setCell ⟨w.heap.size + 2, 7, none⟩ (.int .i64 a)) := ((hbw.mono hB).setCell (show B ≤ w.heap.size + 2 by omega) _).setCell (show B ≤ w.heap.size + 2 by omega) _
  have hK4 : KeptS (w.heap.size + 1) w ((w3.setCell ⟨w.heap.size + 2, 6, none⟩ (.int .i64 x)).setCell ⟨w.heap.size + 2, 7, none⟩ (.int .i64 a)) := (((KeptS.of_below (b := w.heap.size + 2) hbw).trans KeptS.setCell).trans KeptS.setCell).new (by omega)
  clear h1
  refine wp_region_lit ?_
  refine wpList_load_row rfl 36 _ rfl (w.heap.size + 2) (by kernel_rfl) 36 #[.int .i64 p.cats, .slice ga p.gs.length gc, .slice ra p.rs.length rc, .slice pa p.ps.length qc, .slice na p.ns.length nc, .slice sa p.ss.length sc, .int .i64 x, .int .i64 a] (0, 0) _ HF.out.box Tryd.underlying36 rfl (by kernel_rfl) ?_
  refine wpList_store_row rfl 36 (.tmp 6) (.tmp 63) rfl (w.heap.size + 1) #[.int .i64 p.cats, .slice ga p.gs.length gc, .slice ra p.rs.length rc, .slice pa p.ps.length qc, .slice na p.ns.length nc, .slice sa p.ss.length sc, .int .i64 x, .int .i64 a] (by kernel_rfl) (by kernel_rfl) 36 _ HZ5.out (by kernel_rfl) rfl (by kernel_rfl) ?_
  have hrow := Lib.hid (setRow_heap _ (w.heap.size + 1) _ #[.int .i64 p.cats, .slice ga p.gs.length gc, .slice ra p.rs.length rc, .slice pa p.ps.length qc, .slice na p.ns.length nc, .slice sa p.ss.length sc, .int .i64 x, .int .i64 a] _ _ HZ5.out)
  have hbe := below_setRow hB4 (show B ≤ w.heap.size + 1 by omega) #[.int .i64 p.cats, .slice ga p.gs.length gc, .slice ra p.rs.length rc, .slice pa p.ps.length qc, .slice na p.ns.length nc, .slice sa p.ss.length sc, .int .i64 x, .int .i64 a]
  have hke := (hK4.trans (KeptS.setRow (cs := #[.int .i64 p.cats, .slice ga p.gs.length gc, .slice ra p.rs.length rc, .slice pa p.ps.length qc, .slice na p.ns.length nc, .slice sa p.ss.length sc, .int .i64 x, .int .i64 a]))).new (c := w.heap.size) (by omega)
  have hre := Lib.hid (HF.out.rows.setRow (new := #[.int .i64 p.cats, .slice ga p.gs.length gc, .slice ra p.rs.length rc, .slice pa p.ps.length qc, .slice na p.ns.length nc, .slice sa p.ss.length sc, .int .i64 x, .int .i64 a]) HZ5.out)
  go_wp2
  exact bodyPost_ret (v := .tuple #[cfgV (p.put 6 [x, a]) (.slice ga p.gs.length gc) (.slice ra p.rs.length rc) (.slice pa p.ps.length qc) (.slice na p.ns.length nc) (.slice sa p.ss.length sc), .bool true]) (results_ct rfl _ _ (w.heap.size + 1) _ _ rfl rfl hrow.out (by kernel_rfl)) rfl ⟨_, _, _, _, _, rfl, hre.out, hbe, hke⟩
set_option maxHeartbeats 4000000 in
theorem plain_4 (p : PC) (vg vr vp vn vs : Value) (sl : Value) (x a : Int) (B : Nat) (w : World) (hB : B ≤ w.heap.size) (h : RowsP w B p vg vr vp vn vs) (hn : p.ns.length ≤ 1000000)
    (hl : ∀ W, Below w.heap.size w W → Calls Tryd.prog 87 #[sl, .int .i64 1] W fun e w' => ∃ v, e = .returned (.tuple #[v, .bool true]) ∧ OwnI .i64 w' W.heap.size 3 v 2 [x, a] ∧ Below W.heap.size W w') :
    Calls Tryd.prog 70 #[cfgV p vg vr vp vn vs, .int .i64 4, sl] w fun e w' => TakeQ (p.put 4 [x, a]) true B w e w' := by
  obtain ⟨i0, hi, hz0, hz1, hz2⟩ := info_parts info_ring
  have HLL := Lib.hid hl
  clear hl
  obtain ⟨ga, gc, ra, rc, pa, qc, na, nc, sa, sc, rfl, rfl, rfl, rfl, rfl⟩ := rows_sl h
  have HBX := Lib.hid (fun (W : World) => take_box (W3 := W) h hB)
  have hal : Below w.heap.size w (((w.alloc (cfgO p (.slice ga p.gs.length gc) (.slice ra p.rs.length rc) (.slice pa p.ps.length qc) (.slice na p.ns.length nc) (.slice sa p.ss.length sc))).alloc (.cells zeroL.toArray 36 (0, 0))).alloc (cfgO p (.slice ga p.gs.length gc) (.slice ra p.rs.length rc) (.slice pa p.ps.length qc) (.slice na p.ns.length nc) (.slice sa p.ss.length sc))) := (((Below.refl _ _).alloc (Nat.le_refl _) _).alloc (by simp) _).alloc (by simp; omega) _
  have HL := Lib.hid (HLL.out _ hal)
  clear h hal
  go_enter Tryd.func70, Tryd.ntmps70
  go_upto_region 11 with (go_at_call 87; refine HL.out.mono ?_; rintro e w3 ⟨v, rfl, hnum, hb3⟩; obtain ⟨hbx, hz, hbw⟩ := HBX.out _ hb3; obtain ⟨g, gcap, rfl, hgB, hgl, hgc, hgm⟩ := OwnI.form hnum (by decide); have HN := Lib.hid hnum; have HX := Lib.hid hbx; have HZ := Lib.hid hz; have hlt3 := (Array.getElem?_eq_some_iff.1 hbx.box).1;  clear hbx hz hb3 hnum)
  have hP := HX.out
  have hown := hP.on
  have hBW : B ≤ w3.heap.size := Nat.le_trans hB hbw.size
  have hlt : ∀ q, Value.ownBlock (.slice na p.ns.length nc) = some q → B ≤ q ∧ q < w3.heap.size := fun q hq => World.ownsRow.lt hown.1 q hq
  have hXb := hP.box
  have hnm := HN.out
  clear hP
  apply wp_region_app [37, 38, 39, 40, 41, 42, 43, 44, 45, 46, 47, 48] [_, _, _, _, _, _, _, _, _, undef, undef, _] (⟨w3, B, 64, 2, (.slice na p.ns.length nc), p.ns, [x, a]⟩ : AppOf) 10
  case hXW => rfl
  case hBW => exact hBW
  case hown => exact hown
  case hm => kernel_rfl
  case hT => intro y; simp only [setAll, List.setIfInBounds_toArray, List.set_cons_succ, List.set_cons_zero]; exact rfl
  case hok => kernel_rfl
  case hn => decide
  case hs =>
    refine app_op 37 [] (by kernel_rfl) (by decide) (by decide) (fun p y w' HW hd K hK => ?_) ?_
    · go_simp
      refine hK _ ?_ ?_
      · simp [upd]
      · exact rfl
    refine app_op 38 [0] (by kernel_rfl) (by decide) (by decide) (fun p y w' HW hd K hK => ?_) ?_
    · have e0 := appR_nth (hd 0 (by simp)) (by decide) (by decide) rfl
      have hcl : Kept 64 w3 w' := HW.2.1
      obtain ⟨k0, k1⟩ := two_cells (Kept.own hnm hcl (by decide))
      obtain ⟨cb, fb⟩ := box_cell (hcl.2 _ _ _ _ (by decide) hXb) 4 _ rfl
      clear hcl
      go_simp
      refine hK _ ?_ ?_
      · simp [upd, e0]
      · exact rfl
    refine app_op 39 [] (by kernel_rfl) (by decide) (by decide) (fun p y w' HW hd K hK => ?_) ?_
    · go_simp
      refine hK _ ?_ ?_
      · simp [upd]
      · exact rfl
    refine app_op 40 [2] (by kernel_rfl) (by decide) (by decide) (fun p y w' HW hd K hK => ?_) ?_
    · have e2 := appR_nth (hd 2 (by simp)) (by decide) (by decide) rfl
      go_simp
      refine hK _ ?_ ?_
      · simp [upd, e2]
      · exact rfl
    refine app_op 41 [3] (by kernel_rfl) (by decide) (by decide) (fun p y w' HW hd K hK => ?_) ?_
    · have e3 := appR_nth (hd 3 (by simp)) (by decide) (by decide) rfl
      have hcl : Kept 64 w3 w' := HW.2.1
      obtain ⟨k0, k1⟩ := two_cells (Kept.own hnm hcl (by decide))
      obtain ⟨cb, fb⟩ := box_cell (hcl.2 _ _ _ _ (by decide) hXb) 4 _ rfl
      clear hcl
      go_simp
      refine hK _ ?_ ?_
      · simp [upd, e3]
      · exact rfl
    refine app_op 42 [] (by kernel_rfl) (by decide) (by decide) (fun p y w' HW hd K hK => ?_) ?_
    · go_simp
      refine hK _ ?_ ?_
      · simp [upd]
      · exact rfl
    refine app_op 43 [5] (by kernel_rfl) (by decide) (by decide) (fun p y w' HW hd K hK => ?_) ?_
    · have e5 := appR_nth (hd 5 (by simp)) (by decide) (by decide) rfl
      go_simp
      refine hK _ ?_ ?_
      · simp [upd, e5]
      · exact rfl
    refine app_op 44 [6] (by kernel_rfl) (by decide) (by decide) (fun p y w' HW hd K hK => ?_) ?_
    · have e6 := appR_nth (hd 6 (by simp)) (by decide) (by decide) rfl
      have hcl : Kept 64 w3 w' := HW.2.1
      obtain ⟨k0, k1⟩ := two_cells (Kept.own hnm hcl (by decide))
      obtain ⟨cb, fb⟩ := box_cell (hcl.2 _ _ _ _ (by decide) hXb) 4 _ rfl
      clear hcl
      go_simp
      refine hK _ ?_ ?_
      · simp [upd, e6]
      · exact rfl
    refine app_op 45 [4, 7] (by kernel_rfl) (by decide) (by decide) (fun p y w' HW hd K hK => ?_) ?_
    · have e4 := appR_nth (hd 4 (by simp)) (by decide) (by decide) rfl
      have e7 := appR_nth (hd 7 (by simp)) (by decide) (by decide) rfl
      go_simp
      refine hK _ ?_ ?_
      · simp [upd, e4, e7]
      · exact rfl
    refine app_build 46 [8] (by kernel_rfl) (by decide) (.cells #[.int .i64 x, .int .i64 a] 64) _ rfl hBW (fun p y w' HW hd K hK => ?_) ?_
    · have e8 := appR_nth (hd 8 (by simp)) (by decide) (by decide) rfl
      go_simp
      refine hK _ ?_ ?_
      · simp [upd, e8]
      · exact rfl
    refine app_append 38 46 33 i0 _ 16 1 9 (by kernel_rfl) rfl rfl Tryd.underlying33 hi hz0 hz1 hz2 rfl (Nat.zero_lt_succ _) rfl ⟨by decide, by decide⟩ rfl rfl (fun _ => rfl) (fun _ => rfl) (fun _ _ => rfl) (by show p.ns.length + 1 ≤ _; omega) (by decide) hBW hlt ?_
    refine app_op 48 [0, 1, 2, 3, 4, 5, 6, 7, 8, 9, 10] (by kernel_rfl) (by decide) (by decide) (fun p y w' HW hd K hK => ?_) ?_
    · have e0 := appR_nth (hd 0 (by simp)) (by decide) (by decide) rfl
      have e1 := appR_nth (hd 1 (by simp)) (by decide) (by decide) rfl
      have e2 := appR_nth (hd 2 (by simp)) (by decide) (by decide) rfl
      have e3 := appR_nth (hd 3 (by simp)) (by decide) (by decide) rfl
      have e4 := appR_nth (hd 4 (by simp)) (by decide) (by decide) rfl
      have e5 := appR_nth (hd 5 (by simp)) (by decide) (by decide) rfl
      have e6 := appR_nth (hd 6 (by simp)) (by decide) (by decide) rfl
      have e7 := appR_nth (hd 7 (by simp)) (by decide) (by decide) rfl
      have e8 := appR_nth (hd 8 (by simp)) (by decide) (by decide) rfl
      go_simp
      refine hK _ ?_ ?_
      · simp [upd, e0, e1, e2, e3, e4, e5, e6, e7, e8]
      · exact rfl
    refine app_last (fun y w' HW hd K hK => ?_) (by decide)
    have e0 := appR_nth (hd 0 (by omega)) (by decide) (by decide) rfl
    have e1 := appR_nth (hd 1 (by omega)) (by decide) (by decide) rfl
    have e2 := appR_nth (hd 2 (by omega)) (by decide) (by decide) rfl
    have e3 := appR_nth (hd 3 (by omega)) (by decide) (by decide) rfl
    have e4 := appR_nth (hd 4 (by omega)) (by decide) (by decide) rfl
    have e5 := appR_nth (hd 5 (by omega)) (by decide) (by decide) rfl
    have e6 := appR_nth (hd 6 (by omega)) (by decide) (by decide) rfl
    have e7 := appR_nth (hd 7 (by omega)) (by decide) (by decide) rfl
    have e8 := appR_nth (hd 8 (by omega)) (by decide) (by decide) rfl
    have e11 := appR_nth (hd 11 (by omega)) (by decide) (by decide) rfl
    have eA : OwnT _ w' _ _ (y 10) _ := hd 10 (by omega)
    have hA : OwnT 2 w' B 64 (y 10) (p.ns ++ [[x, a]]) := eA
    obtain ⟨gg, cap2, ey⟩ := OwnT.form hA
    have hkp : Kept 64 w3 w' := HW.2.1
    have hbx := hkp.2 _ _ _ _ (by decide) hXb
    obtain ⟨cb, fb⟩ := box_cell hbx 4 _ rfl
    have hlt4 := (Array.getElem?_eq_some_iff.1 hbx).1
    rw [ey] at hA
    have hz4 := hkp.2 _ _ _ _ (by decide) HZ.out
    have HF := Lib.hid (HX.out.set4 hkp hA)
    have HZ5 := Lib.hid ((Below.heap_setCell w' ⟨w.heap.size + 2, 4, none⟩ (.slice (some ⟨gg, 0, none⟩) (p.ns.length + 1) cap2) _ (by simp)).trans hz4)
    have hB4 : Below B w (w'.setCell ⟨w.heap.size + 2, 4, none⟩ (.slice (some ⟨gg, 0, none⟩) (p.ns.length + 1) cap2)) := ((hbw.mono hB).trans HW.1).setCell (show B ≤ w.heap.size + 2 by omega) _
    have hK4 : KeptS (w.heap.size + 1) w (w'.setCell ⟨w.heap.size + 2, 4, none⟩ (.slice (some ⟨gg, 0, none⟩) (p.ns.length + 1) cap2)) := ((KeptS.of_below (b := w.heap.size + 2) hbw).trans ((KeptS.of_kept hkp (by decide)).trans KeptS.setCell)).new (by omega)
    clear hkp hA eA hbx HW hXb hown hlt hnm hz4
    go_simp
    refine hK _ _ ?_
    clear hd hK K
    go_upto_region 14 with fail
    refine wp_region_lit ?_
    refine wpList_load_row rfl 36 _ rfl (w.heap.size + 2) (by kernel_rfl) 36 #[.int .i64 p.cats, .slice ga p.gs.length gc, .slice ra p.rs.length rc, .slice pa p.ps.length qc, .slice (some ⟨gg, 0, none⟩) (p.ns.length + 1) cap2, .slice sa p.ss.length sc, .int .i64 p.gate, .int .i64 p.quota] (0, 0) _ HF.out.box Tryd.underlying36 rfl (by kernel_rfl) ?_
    refine wpList_store_row rfl 36 (.tmp 6) (.tmp 63) rfl (w.heap.size + 1) #[.int .i64 p.cats, .slice ga p.gs.length gc, .slice ra p.rs.length rc, .slice pa p.ps.length qc, .slice (some ⟨gg, 0, none⟩) (p.ns.length + 1) cap2, .slice sa p.ss.length sc, .int .i64 p.gate, .int .i64 p.quota] (by kernel_rfl) (by kernel_rfl) 36 _ HZ5.out (by kernel_rfl) rfl (by kernel_rfl) ?_
    have hrow := Lib.hid (setRow_heap _ (w.heap.size + 1) _ #[.int .i64 p.cats, .slice ga p.gs.length gc, .slice ra p.rs.length rc, .slice pa p.ps.length qc, .slice (some ⟨gg, 0, none⟩) (p.ns.length + 1) cap2, .slice sa p.ss.length sc, .int .i64 p.gate, .int .i64 p.quota] _ _ HZ5.out)
    have hbe := below_setRow hB4 (show B ≤ w.heap.size + 1 by omega) #[.int .i64 p.cats, .slice ga p.gs.length gc, .slice ra p.rs.length rc, .slice pa p.ps.length qc, .slice (some ⟨gg, 0, none⟩) (p.ns.length + 1) cap2, .slice sa p.ss.length sc, .int .i64 p.gate, .int .i64 p.quota]
    have hke := (hK4.trans (KeptS.setRow (cs := #[.int .i64 p.cats, .slice ga p.gs.length gc, .slice ra p.rs.length rc, .slice pa p.ps.length qc, .slice (some ⟨gg, 0, none⟩) (p.ns.length + 1) cap2, .slice sa p.ss.length sc, .int .i64 p.gate, .int .i64 p.quota]))).new (c := w.heap.size) (by omega)
    have hre := Lib.hid (HF.out.rows.setRow (new := #[.int .i64 p.cats, .slice ga p.gs.length gc, .slice ra p.rs.length rc, .slice pa p.ps.length qc, .slice (some ⟨gg, 0, none⟩) (p.ns.length + 1) cap2, .slice sa p.ss.length sc, .int .i64 p.gate, .int .i64 p.quota]) HZ5.out)
    go_wp2
    exact bodyPost_ret (v := .tuple #[cfgV (p.put 4 [x, a]) (.slice ga p.gs.length gc) (.slice ra p.rs.length rc) (.slice pa p.ps.length qc) (.slice (some ⟨gg, 0, none⟩) (p.ns.length + 1) cap2) (.slice sa p.ss.length sc), .bool true]) (results_ct rfl _ _ (w.heap.size + 1) _ _ rfl rfl hrow.out (by kernel_rfl)) rfl ⟨_, _, _, _, _, rfl, hre.out, hbe, hke⟩
set_option maxHeartbeats 4000000 in
theorem plain_5 (p : PC) (vg vr vp vn vs : Value) (sl : Value) (x a : Int) (B : Nat) (w : World) (hB : B ≤ w.heap.size) (h : RowsP w B p vg vr vp vn vs) (hn : p.ss.length ≤ 1000000)
    (hl : ∀ W, Below w.heap.size w W → Calls Tryd.prog 87 #[sl, .int .i64 1] W fun e w' => ∃ v, e = .returned (.tuple #[v, .bool true]) ∧ OwnI .i64 w' W.heap.size 3 v 2 [x, a] ∧ Below W.heap.size W w') :
    Calls Tryd.prog 70 #[cfgV p vg vr vp vn vs, .int .i64 5, sl] w fun e w' => TakeQ (p.put 5 [x, a]) true B w e w' := by
  obtain ⟨i0, hi, hz0, hz1, hz2⟩ := info_parts info_slot
  have HLL := Lib.hid hl
  clear hl
  obtain ⟨ga, gc, ra, rc, pa, qc, na, nc, sa, sc, rfl, rfl, rfl, rfl, rfl⟩ := rows_sl h
  have HBX := Lib.hid (fun (W : World) => take_box (W3 := W) h hB)
  have hal : Below w.heap.size w (((w.alloc (cfgO p (.slice ga p.gs.length gc) (.slice ra p.rs.length rc) (.slice pa p.ps.length qc) (.slice na p.ns.length nc) (.slice sa p.ss.length sc))).alloc (.cells zeroL.toArray 36 (0, 0))).alloc (cfgO p (.slice ga p.gs.length gc) (.slice ra p.rs.length rc) (.slice pa p.ps.length qc) (.slice na p.ns.length nc) (.slice sa p.ss.length sc))) := (((Below.refl _ _).alloc (Nat.le_refl _) _).alloc (by simp) _).alloc (by simp; omega) _
  have HL := Lib.hid (HLL.out _ hal)
  clear h hal
  go_enter Tryd.func70, Tryd.ntmps70
  go_upto_region 13 with (go_at_call 87; refine HL.out.mono ?_; rintro e w3 ⟨v, rfl, hnum, hb3⟩; obtain ⟨hbx, hz, hbw⟩ := HBX.out _ hb3; obtain ⟨g, gcap, rfl, hgB, hgl, hgc, hgm⟩ := OwnI.form hnum (by decide); have HN := Lib.hid hnum; have HX := Lib.hid hbx; have HZ := Lib.hid hz; have hlt3 := (Array.getElem?_eq_some_iff.1 hbx.box).1;  clear hbx hz hb3 hnum)
  have hP := HX.out
  have hown := hP.os
  have hBW : B ≤ w3.heap.size := Nat.le_trans hB hbw.size
  have hlt : ∀ q, Value.ownBlock (.slice sa p.ss.length sc) = some q → B ≤ q ∧ q < w3.heap.size := fun q hq => World.ownsRow.lt hown.1 q hq
  have hXb := hP.box
  have hnm := HN.out
  clear hP
  apply wp_region_app [51, 52, 53, 54, 55, 56, 57, 58, 59, 60, 61, 62] [_, _, _, _, _, _, _, _, _, undef, undef, _] (⟨w3, B, 66, 2, (.slice sa p.ss.length sc), p.ss, [x, a]⟩ : AppOf) 10
  case hXW => rfl
  case hBW => exact hBW
  case hown => exact hown
  case hm => kernel_rfl
  case hT => intro y; simp only [setAll, List.setIfInBounds_toArray, List.set_cons_succ, List.set_cons_zero]; exact rfl
  case hok => kernel_rfl
  case hn => decide
  case hs =>
    refine app_op 51 [] (by kernel_rfl) (by decide) (by decide) (fun p y w' HW hd K hK => ?_) ?_
    · go_simp
      refine hK _ ?_ ?_
      · simp [upd]
      · exact rfl
    refine app_op 52 [0] (by kernel_rfl) (by decide) (by decide) (fun p y w' HW hd K hK => ?_) ?_
    · have e0 := appR_nth (hd 0 (by simp)) (by decide) (by decide) rfl
      have hcl : Kept 66 w3 w' := HW.2.1
      obtain ⟨k0, k1⟩ := two_cells (Kept.own hnm hcl (by decide))
      obtain ⟨cb, fb⟩ := box_cell (hcl.2 _ _ _ _ (by decide) hXb) 5 _ rfl
      clear hcl
      go_simp
      refine hK _ ?_ ?_
      · simp [upd, e0]
      · exact rfl
    refine app_op 53 [] (by kernel_rfl) (by decide) (by decide) (fun p y w' HW hd K hK => ?_) ?_
    · go_simp
      refine hK _ ?_ ?_
      · simp [upd]
      · exact rfl
    refine app_op 54 [2] (by kernel_rfl) (by decide) (by decide) (fun p y w' HW hd K hK => ?_) ?_
    · have e2 := appR_nth (hd 2 (by simp)) (by decide) (by decide) rfl
      go_simp
      refine hK _ ?_ ?_
      · simp [upd, e2]
      · exact rfl
    refine app_op 55 [3] (by kernel_rfl) (by decide) (by decide) (fun p y w' HW hd K hK => ?_) ?_
    · have e3 := appR_nth (hd 3 (by simp)) (by decide) (by decide) rfl
      have hcl : Kept 66 w3 w' := HW.2.1
      obtain ⟨k0, k1⟩ := two_cells (Kept.own hnm hcl (by decide))
      obtain ⟨cb, fb⟩ := box_cell (hcl.2 _ _ _ _ (by decide) hXb) 5 _ rfl
      clear hcl
      go_simp
      refine hK _ ?_ ?_
      · simp [upd, e3]
      · exact rfl
    refine app_op 56 [] (by kernel_rfl) (by decide) (by decide) (fun p y w' HW hd K hK => ?_) ?_
    · go_simp
      refine hK _ ?_ ?_
      · simp [upd]
      · exact rfl
    refine app_op 57 [5] (by kernel_rfl) (by decide) (by decide) (fun p y w' HW hd K hK => ?_) ?_
    · have e5 := appR_nth (hd 5 (by simp)) (by decide) (by decide) rfl
      go_simp
      refine hK _ ?_ ?_
      · simp [upd, e5]
      · exact rfl
    refine app_op 58 [6] (by kernel_rfl) (by decide) (by decide) (fun p y w' HW hd K hK => ?_) ?_
    · have e6 := appR_nth (hd 6 (by simp)) (by decide) (by decide) rfl
      have hcl : Kept 66 w3 w' := HW.2.1
      obtain ⟨k0, k1⟩ := two_cells (Kept.own hnm hcl (by decide))
      obtain ⟨cb, fb⟩ := box_cell (hcl.2 _ _ _ _ (by decide) hXb) 5 _ rfl
      clear hcl
      go_simp
      refine hK _ ?_ ?_
      · simp [upd, e6]
      · exact rfl
    refine app_op 59 [4, 7] (by kernel_rfl) (by decide) (by decide) (fun p y w' HW hd K hK => ?_) ?_
    · have e4 := appR_nth (hd 4 (by simp)) (by decide) (by decide) rfl
      have e7 := appR_nth (hd 7 (by simp)) (by decide) (by decide) rfl
      go_simp
      refine hK _ ?_ ?_
      · simp [upd, e4, e7]
      · exact rfl
    refine app_build 60 [8] (by kernel_rfl) (by decide) (.cells #[.int .i64 x, .int .i64 a] 66) _ rfl hBW (fun p y w' HW hd K hK => ?_) ?_
    · have e8 := appR_nth (hd 8 (by simp)) (by decide) (by decide) rfl
      go_simp
      refine hK _ ?_ ?_
      · simp [upd, e8]
      · exact rfl
    refine app_append 52 60 34 i0 _ 16 1 9 (by kernel_rfl) rfl rfl Tryd.underlying34 hi hz0 hz1 hz2 rfl (Nat.zero_lt_succ _) rfl ⟨by decide, by decide⟩ rfl rfl (fun _ => rfl) (fun _ => rfl) (fun _ _ => rfl) (by show p.ss.length + 1 ≤ _; omega) (by decide) hBW hlt ?_
    refine app_op 62 [0, 1, 2, 3, 4, 5, 6, 7, 8, 9, 10] (by kernel_rfl) (by decide) (by decide) (fun p y w' HW hd K hK => ?_) ?_
    · have e0 := appR_nth (hd 0 (by simp)) (by decide) (by decide) rfl
      have e1 := appR_nth (hd 1 (by simp)) (by decide) (by decide) rfl
      have e2 := appR_nth (hd 2 (by simp)) (by decide) (by decide) rfl
      have e3 := appR_nth (hd 3 (by simp)) (by decide) (by decide) rfl
      have e4 := appR_nth (hd 4 (by simp)) (by decide) (by decide) rfl
      have e5 := appR_nth (hd 5 (by simp)) (by decide) (by decide) rfl
      have e6 := appR_nth (hd 6 (by simp)) (by decide) (by decide) rfl
      have e7 := appR_nth (hd 7 (by simp)) (by decide) (by decide) rfl
      have e8 := appR_nth (hd 8 (by simp)) (by decide) (by decide) rfl
      go_simp
      refine hK _ ?_ ?_
      · simp [upd, e0, e1, e2, e3, e4, e5, e6, e7, e8]
      · exact rfl
    refine app_last (fun y w' HW hd K hK => ?_) (by decide)
    have e0 := appR_nth (hd 0 (by omega)) (by decide) (by decide) rfl
    have e1 := appR_nth (hd 1 (by omega)) (by decide) (by decide) rfl
    have e2 := appR_nth (hd 2 (by omega)) (by decide) (by decide) rfl
    have e3 := appR_nth (hd 3 (by omega)) (by decide) (by decide) rfl
    have e4 := appR_nth (hd 4 (by omega)) (by decide) (by decide) rfl
    have e5 := appR_nth (hd 5 (by omega)) (by decide) (by decide) rfl
    have e6 := appR_nth (hd 6 (by omega)) (by decide) (by decide) rfl
    have e7 := appR_nth (hd 7 (by omega)) (by decide) (by decide) rfl
    have e8 := appR_nth (hd 8 (by omega)) (by decide) (by decide) rfl
    have e11 := appR_nth (hd 11 (by omega)) (by decide) (by decide) rfl
    have eA : OwnT _ w' _ _ (y 10) _ := hd 10 (by omega)
    have hA : OwnT 2 w' B 66 (y 10) (p.ss ++ [[x, a]]) := eA
    obtain ⟨gg, cap2, ey⟩ := OwnT.form hA
    have hkp : Kept 66 w3 w' := HW.2.1
    have hbx := hkp.2 _ _ _ _ (by decide) hXb
    obtain ⟨cb, fb⟩ := box_cell hbx 5 _ rfl
    have hlt4 := (Array.getElem?_eq_some_iff.1 hbx).1
    rw [ey] at hA
    have hz4 := hkp.2 _ _ _ _ (by decide) HZ.out
    have HF := Lib.hid (HX.out.set5 hkp hA)
    have HZ5 := Lib.hid ((Below.heap_setCell w' ⟨w.heap.size + 2, 5, none⟩ (.slice (some ⟨gg, 0, none⟩) (p.ss.length + 1) cap2) _ (by simp)).trans hz4)
    have hB4 : Below B w (w'.setCell ⟨w.heap.size + 2, 5, none⟩ (.slice (some ⟨gg, 0, none⟩) (p.ss.length + 1) cap2)) := ((hbw.mono hB).trans HW.1).setCell (show B ≤ w.heap.size + 2 by omega) _
    have hK4 : KeptS (w.heap.size + 1) w (w'.setCell ⟨w.heap.size + 2, 5, none⟩ (.slice (some ⟨gg, 0, none⟩) (p.ss.length + 1) cap2)) := ((KeptS.of_below (b := w.heap.size + 2) hbw).trans ((KeptS.of_kept hkp (by decide)).trans KeptS.setCell)).new (by omega)
    clear hkp hA eA hbx HW hXb hown hlt hnm hz4
    go_simp
    refine hK _ _ ?_
    clear hd hK K
    go_upto_region 14 with fail
    refine wp_region_lit ?_
    refine wpList_load_row rfl 36 _ rfl (w.heap.size + 2) (by kernel_rfl) 36 #[.int .i64 p.cats, .slice ga p.gs.length gc, .slice ra p.rs.length rc, .slice pa p.ps.length qc, .slice na p.ns.length nc, .slice (some ⟨gg, 0, none⟩) (p.ss.length + 1) cap2, .int .i64 p.gate, .int .i64 p.quota] (0, 0) _ HF.out.box Tryd.underlying36 rfl (by kernel_rfl) ?_
    refine wpList_store_row rfl 36 (.tmp 6) (.tmp 63) rfl (w.heap.size + 1) #[.int .i64 p.cats, .slice ga p.gs.length gc, .slice ra p.rs.length rc, .slice pa p.ps.length qc, .slice na p.ns.length nc, .slice (some ⟨gg, 0, none⟩) (p.ss.length + 1) cap2, .int .i64 p.gate, .int .i64 p.quota] (by kernel_rfl) (by kernel_rfl) 36 _ HZ5.out (by kernel_rfl) rfl (by kernel_rfl) ?_
    have hrow := Lib.hid (setRow_heap _ (w.heap.size + 1) _ #[.int .i64 p.cats, .slice ga p.gs.length gc, .slice ra p.rs.length rc, .slice pa p.ps.length qc, .slice na p.ns.length nc, .slice (some ⟨gg, 0, none⟩) (p.ss.length + 1) cap2, .int .i64 p.gate, .int .i64 p.quota] _ _ HZ5.out)
    have hbe := below_setRow hB4 (show B ≤ w.heap.size + 1 by omega) #[.int .i64 p.cats, .slice ga p.gs.length gc, .slice ra p.rs.length rc, .slice pa p.ps.length qc, .slice na p.ns.length nc, .slice (some ⟨gg, 0, none⟩) (p.ss.length + 1) cap2, .int .i64 p.gate, .int .i64 p.quota]
    have hke := (hK4.trans (KeptS.setRow (cs := #[.int .i64 p.cats, .slice ga p.gs.length gc, .slice ra p.rs.length rc, .slice pa p.ps.length qc, .slice na p.ns.length nc, .slice (some ⟨gg, 0, none⟩) (p.ss.length + 1) cap2, .int .i64 p.gate, .int .i64 p.quota]))).new (c := w.heap.size) (by omega)
    have hre := Lib.hid (HF.out.rows.setRow (new := #[.int .i64 p.cats, .slice ga p.gs.length gc, .slice ra p.rs.length rc, .slice pa p.ps.length qc, .slice na p.ns.length nc, .slice (some ⟨gg, 0, none⟩) (p.ss.length + 1) cap2, .int .i64 p.gate, .int .i64 p.quota]) HZ5.out)
    go_wp2
    exact bodyPost_ret (v := .tuple #[cfgV (p.put 5 [x, a]) (.slice ga p.gs.length gc) (.slice ra p.rs.length rc) (.slice pa p.ps.length qc) (.slice na p.ns.length nc) (.slice (some ⟨gg, 0, none⟩) (p.ss.length + 1) cap2), .bool true]) (results_ct rfl _ _ (w.heap.size + 1) _ _ rfl rfl hrow.out (by kernel_rfl)) rfl ⟨_, _, _, _, _, rfl, hre.out, hbe, hke⟩
end Go.Proofs.YtikkfapgmbamlaaDoor.Pl
end
section
/- The document's take of layer 5, whatever the rank. -/
namespace Go.Proofs.YtikkfapgmbamlaaDoor.Pl
open Go.RowKit Ut
set_option linter.unusedVariables false
set_option maxRecDepth 100000

/-- a call by its contract, within a region's list -/
theorem wpList_callK {P : Program} {ops : Array Oper} {rest : List Oper} {o : Oper} {a : Act} {w : World} {Q : Exit → Act → World → Prop} (hg : o.guard = none)
    (f : FuncId) (args : Array Value) (hrun : (execOp a.eval o).run P w = .ok (.enter f args) w) {R : Ending → World → Prop}
    (hc : Calls P f args w R)
    (h : ∀ e w'', R e w'' → ∃ v, e = .returned v ∧ wpList P ops Q rest (a.put o.dst v) w'') : wpList P ops Q (o :: rest) a w := by
  refine wpList_plain hg fun K hK => ?_
  unfold Oper.wp
  rw [hrun, Oper.upon_enter]
  refine hc.mono fun e w'' hh => ?_
  obtain ⟨v, rfl, hw⟩ := h e w'' hh
  exact hK _ _ hw
set_option maxHeartbeats 4000000 in
theorem take_plain (p q : PC) (vg vr vp vn vs : Value) (sl : Value) (k : Int) (ok : Bool) (h1 : ¬ k = 1) (h2 : ¬ k = 2) (h3 : ¬ k = 3) (B : Nat) (w : World) (hB : B ≤ w.heap.size) (h : RowsP w B p vg vr vp vn vs)
    (hl : ∀ W, Below w.heap.size w W → Calls Tryd.prog 70 #[cfgV p vg vr vp vn vs, .int .i64 k, sl] W fun e w' => TakeQ q ok B W e w') :
    Calls Tryd.prog 34 #[cfgV p vg vr vp vn vs, .int .i64 k, sl] w fun e w' => TakeQ q ok B w e w' := by
  have HLL := Lib.hid hl
  clear hl
  obtain ⟨ga, gc, ra, rc, pa, qc, na, nc, sa, sc, rfl, rfl, rfl, rfl, rfl⟩ := rows_sl h
  have HBX := Lib.hid (fun (W : World) => take_box (W3 := W) h hB)
  have hal : Below w.heap.size w (((w.alloc (cfgO p (.slice ga p.gs.length gc) (.slice ra p.rs.length rc) (.slice pa p.ps.length qc) (.slice na p.ns.length nc) (.slice sa p.ss.length sc))).alloc (.cells zeroL.toArray 36 (0, 0))).alloc (cfgO p (.slice ga p.gs.length gc) (.slice ra p.rs.length rc) (.slice pa p.ps.length qc) (.slice na p.ns.length nc) (.slice sa p.ss.length sc))) := (((Below.refl _ _).alloc (Nat.le_refl _) _).alloc (by simp) _).alloc (by simp; omega) _
  have HL := Lib.hid (HLL.out _ hal)
  have HAL := Lib.hid hal
  have b1 : (k == 1) = false := by simpa using h1
  have b2 : (k == 2) = false := by simpa using h2
  have b3 : (k == 3) = false := by simpa using h3
  clear h hal
  go_enter Tryd.func34, Tryd.ntmps34
  go_upto_region 12 with fail
  obtain ⟨W0, hW0⟩ : ∃ W0, ((w.alloc (cfgO p (.slice ga p.gs.length gc) (.slice ra p.rs.length rc) (.slice pa p.ps.length qc) (.slice na p.ns.length nc) (.slice sa p.ss.length sc))).alloc (.cells zeroL.toArray 36 (0, 0))).alloc (cfgO p (.slice ga p.gs.length gc) (.slice ra p.rs.length rc) (.slice pa p.ps.length qc) (.slice na p.ns.length nc) (.slice sa p.ss.length sc)) = W0 := ⟨_, rfl⟩
  rw [hW0] at HL HAL
  rw [hW0]
  obtain ⟨hbx, hz, hbw⟩ := HBX.out W0 (hW0 ▸ Below.refl _ _)
  have HX := Lib.hid hbx
  have HZ := Lib.hid hz
  have hs0 : w.heap.size + 2 < W0.heap.size := (Array.getElem?_eq_some_iff.1 hbx.box).1
  clear hbx hz
  refine wp_region_lit ?_
  refine wpList_load_row rfl 36 _ rfl (w.heap.size + 2) (by kernel_rfl) 36 #[.int .i64 p.cats, .slice ga p.gs.length gc, .slice ra p.rs.length rc, .slice pa p.ps.length qc, .slice na p.ns.length nc, .slice sa p.ss.length sc, .int .i64 p.gate, .int .i64 p.quota] (0, 0) _ HX.out.box Tryd.underlying36 rfl (by kernel_rfl) ?_
  refine wpList_value rfl (.int .i64 k) (by kernel_rfl) ?_
  refine wpList_value rfl sl (by kernel_rfl) ?_
  refine wpList_callK rfl 70 #[cfgV p (.slice ga p.gs.length gc) (.slice ra p.rs.length rc) (.slice pa p.ps.length qc) (.slice na p.ns.length nc) (.slice sa p.ss.length sc), .int .i64 k, sl] (by kernel_rfl) HL.out ?_
  rintro e w4 ⟨vg2, vr2, vp2, vn2, vs2, rfl, hr2, hb2, hk2⟩
  refine ⟨_, rfl, ?_⟩
  obtain ⟨ga2, gc2, ra2, rc2, pa2, qc2, na2, nc2, sa2, sc2, rfl, rfl, rfl, rfl, rfl⟩ := rows_sl hr2
  have HZ5 := Lib.hid (hk2.2 _ _ _ _ (by omega) (.inr (.inl rfl)) HZ.out)
  have HR2 := Lib.hid hr2
  have hB4 : Below B w w4 := (hbw.mono hB).trans hb2
  have hK4 : KeptS (w.heap.size + 1) w w4 := ((KeptS.of_below (b := W0.heap.size) hbw).trans hk2).new (by omega)
  clear hr2 hb2 hk2
  refine wpList_value rfl (cfgV q (.slice ga2 q.gs.length gc2) (.slice ra2 q.rs.length rc2) (.slice pa2 q.ps.length qc2) (.slice na2 q.ns.length nc2) (.slice sa2 q.ss.length sc2)) (by kernel_rfl) ?_
  refine wpList_value rfl (.bool ok) (by kernel_rfl) ?_
  refine wpList_store_row rfl 36 (.tmp 6) (.tmp 70) rfl (w.heap.size + 1) #[.int .i64 q.cats, .slice ga2 q.gs.length gc2, .slice ra2 q.rs.length rc2, .slice pa2 q.ps.length qc2, .slice na2 q.ns.length nc2, .slice sa2 q.ss.length sc2, .int .i64 q.gate, .int .i64 q.quota] (by kernel_rfl) (by kernel_rfl) 36 _ HZ5.out (by kernel_rfl) rfl (by kernel_rfl) ?_
  have hrow := Lib.hid (setRow_heap _ (w.heap.size + 1) _ #[.int .i64 q.cats, .slice ga2 q.gs.length gc2, .slice ra2 q.rs.length rc2, .slice pa2 q.ps.length qc2, .slice na2 q.ns.length nc2, .slice sa2 q.ss.length sc2, .int .i64 q.gate, .int .i64 q.quota] _ _ HZ5.out)
  have hbe := below_setRow hB4 (show B ≤ w.heap.size + 1 by omega) #[.int .i64 q.cats, .slice ga2 q.gs.length gc2, .slice ra2 q.rs.length rc2, .slice pa2 q.ps.length qc2, .slice na2 q.ns.length nc2, .slice sa2 q.ss.length sc2, .int .i64 q.gate, .int .i64 q.quota]
  have hke := (hK4.trans (KeptS.setRow (cs := #[.int .i64 q.cats, .slice ga2 q.gs.length gc2, .slice ra2 q.rs.length rc2, .slice pa2 q.ps.length qc2, .slice na2 q.ns.length nc2, .slice sa2 q.ss.length sc2, .int .i64 q.gate, .int .i64 q.quota]))).new (c := w.heap.size) (by omega)
  have hre := Lib.hid (HR2.out.setRow (new := #[.int .i64 q.cats, .slice ga2 q.gs.length gc2, .slice ra2 q.rs.length rc2, .slice pa2 q.ps.length qc2, .slice na2 q.ns.length nc2, .slice sa2 q.ss.length sc2, .int .i64 q.gate, .int .i64 q.quota]) HZ5.out)
  go_wp2
  exact bodyPost_ret (v := .tuple #[cfgV q (.slice ga2 q.gs.length gc2) (.slice ra2 q.rs.length rc2) (.slice pa2 q.ps.length qc2) (.slice na2 q.ns.length nc2) (.slice sa2 q.ss.length sc2), .bool ok]) (results_ct rfl _ _ (w.heap.size + 1) _ _ rfl rfl hrow.out (by kernel_rfl)) rfl ⟨_, _, _, _, _, rfl, hre.out, hbe, hke⟩
/-- what take answers -/
def TakePost (p : PC) (k : Nat) (ws : List (List UInt8)) (B : Nat) (w : World) (e : Ending) (w' : World) : Prop := match valsL (kf k) ws with
  | some v => TakeQ (p.put k v) true B w e w'
  | none => ∃ q, TakeQ q false B w e w'
theorem takePost_some {p : PC} {k : Nat} {ws : List (List UInt8)} {B : Nat} {w w' : World} {e : Ending} {v : List Int} (hv : valsL (kf k) ws = some v) (h : TakeQ (p.put k v) true B w e w') : TakePost p k ws B w e w' := by
  unfold TakePost; rw [hv]; exact h
theorem takePost_none {p q : PC} {k : Nat} {ws : List (List UInt8)} {B : Nat} {w w' : World} {e : Ending} (hv : valsL (kf k) ws = none) (h : TakeQ q false B w e w') : TakePost p k ws B w e w' := by
  unfold TakePost; rw [hv]; exact ⟨q, h⟩
theorem num_split1 (x : List UInt8) : valsL [110] [x] = numsL [x] := by
  have hn : valL 110 x = (numL x).map Int.ofNat := by
    unfold valL
    rw [if_neg (by decide), if_neg (by rintro ⟨h, _⟩; revert h; decide)]
  simp only [valsL, hn, numsL]
  cases numL x <;> rfl
theorem num_split2 (x y : List UInt8) : valsL [110, 110] [x, y] = numsL [x, y] := by
  have hn : ∀ w, valL 110 w = (numL w).map Int.ofNat := fun w => by
    unfold valL
    rw [if_neg (by decide), if_neg (by rintro ⟨h, _⟩; revert h; decide)]
  simp only [valsL, hn, numsL]
  cases numL x <;> cases numL y <;> rfl
theorem numsL_len : ∀ {ws : List (List UInt8)} {l : List Int}, numsL ws = some l → l.length = ws.length
  | [], l, h => by simp only [numsL] at h; injection h with h; subst h; rfl
  | w :: ws, l, h => by
    unfold numsL at h
    split at h
    · cases h
    · split at h
      · cases h
      · rename_i l' hl
        injection h with h
        subst h
        simp [numsL_len hl]
theorem refTake_any (p : PC) (k : Nat) (hk : k < 7) (vg vr vp vn vs : Value) (ad : Addr) (n cap : Nat) (x0 : List UInt8) (ws : List (List UInt8)) (hn : n = ws.length + 1) (hlen : ws.length = (kf k).length) (hts : ∀ j, ((x0 :: ws).getD j []).length ≤ 1099511627776)
    (B : Nat) (w : World) (hB : B ≤ w.heap.size) (h : RowsP w B p vg vr vp vn vs) (hsz : p.size ≤ 1000000) (hrow : RowS w w.heap.size (some ad) n (x0 :: ws)) :
    Calls Tryd.prog 34 #[cfgV p vg vr vp vn vs, .int .i64 k, .slice (some ad) n cap] w fun e w' => TakePost p k ws B w e w' := by
  unfold PC.size at hsz
  have HN := fun (W : World) (hW : Below w.heap.size w W) (hn4 : n ≤ 1099511627776) => refNumbers_any (some ad) n cap 1 (x0 :: ws) (by omega) hn4 hts W.heap.size W (Nat.le_refl _) ((hrow.below hW).more hW.size) _ rfl
  have hd : List.drop 1 (x0 :: ws) = ws := rfl
  rw [hd] at HN
  have plainly : ∀ (hk1 : ¬ (k : Int) = 1) (hk2 : ¬ (k : Int) = 2) (hk3 : ¬ (k : Int) = 3) (hn4 : n ≤ 4) (hv : valsL (kf k) ws = numsL ws)
      (hsome : ∀ l, numsL ws = some l → ∀ W, Below w.heap.size w W → Calls Tryd.prog 70 #[cfgV p vg vr vp vn vs, .int .i64 k, .slice (some ad) n cap] W fun e w' => TakeQ (p.put k l) true B W e w'),
      Calls Tryd.prog 34 #[cfgV p vg vr vp vn vs, .int .i64 k, .slice (some ad) n cap] w fun e w' => TakePost p k ws B w e w' := fun hk1 hk2 hk3 hn4 hv hsome => by
    cases hq : numsL ws with
    | none =>
      refine (take_plain p p vg vr vp vn vs _ k false hk1 hk2 hk3 B w hB h fun W hW => ?_).mono fun e w' ht => takePost_none (hv.trans hq) ht
      refine plain_none p vg vr vp vn vs _ k B W (Nat.le_trans hB hW.size) (h.below hW) fun W2 hW2 => ?_
      refine (HN W2 (hW.trans (hW2.mono hW.size)) (by omega)).mono fun e w' ⟨v, he, _, hb⟩ => ⟨v, ?_, trivial, hb⟩
      rw [he, hq]; rfl
    | some l => exact (take_plain p _ vg vr vp vn vs _ k true hk1 hk2 hk3 B w hB h (hsome l hq)).mono fun e w' ht => takePost_some (hv.trans hq) ht
  match k, hk with
  | 0, _ =>
    obtain ⟨x, rfl⟩ : ∃ x, ws = [x] := by
      match ws, hlen with
      | [x], _ => exact ⟨x, rfl⟩
      | [], h => simp [kf] at h
      | _ :: _ :: _, h => simp [kf] at h
    refine plainly (by decide) (by decide) (by decide) (by simp at hn; omega) (num_split1 x) fun l hl W hW => ?_
    obtain ⟨a, rfl⟩ : ∃ a, l = [a] := by
      have := numsL_len hl
      match l, this with
      | [a], _ => exact ⟨a, rfl⟩
      | [], h => cases h
      | _ :: _ :: _, h => simp at h
    refine plain_0 p vg vr vp vn vs _ a B W (Nat.le_trans hB hW.size) (h.below hW) fun W2 hW2 => ?_
    refine (HN W2 (hW.trans (hW2.mono hW.size)) (by simp at hn; omega)).mono fun e w' ⟨v, he, ho, hb⟩ => ?_
    rw [hl] at he ho
    exact ⟨v, he, ho, hb⟩
  | 1, _ =>
    obtain ⟨x, y, z, rfl⟩ : ∃ x y z, ws = [x, y, z] := by
      match ws, hlen with
      | [x, y, z], _ => exact ⟨x, y, z, rfl⟩
      | [], h => simp [kf] at h
      | [_], h => simp [kf] at h
      | [_, _], h => simp [kf] at h
      | _ :: _ :: _ :: _ :: _, h => simp [kf] at h
    obtain rfl : n = 4 := hn
    have hx := hts 1
    have HL := fun (W : World) (hW : Below w.heap.size w W) => refLabelled_any ad cap x y z x0 hx hts W.heap.size W (Nat.le_refl _) ((hrow.below hW).more hW.size)
    cases hq : valsL [108, 110, 110] [x, y, z] with
    | none =>
      rw [hq] at HL
      exact (take_1 p vg vr vp vn vs _ 0 0 0 false B w hB h (by omega) HL).mono fun e w' ht => takePost_none hq ht
    | some l =>
      obtain ⟨a, b, c, rfl⟩ : ∃ a b c, l = [a, b, c] := by
        have := (vals_back _ _ _ hq).2
        match l, this with
        | [a, b, c], _ => exact ⟨a, b, c, rfl⟩
        | [], h => cases h
        | [_], h => cases h
        | [_, _], h => cases h
        | _ :: _ :: _ :: _ :: _, h => simp at h
      rw [hq] at HL
      exact (take_1 p vg vr vp vn vs _ a b c true B w hB h (by omega) HL).mono fun e w' ht => takePost_some hq ht
  | 2, _ =>
    obtain ⟨x, y, z, rfl⟩ : ∃ x y z, ws = [x, y, z] := by
      match ws, hlen with
      | [x, y, z], _ => exact ⟨x, y, z, rfl⟩
      | [], h => simp [kf] at h
      | [_], h => simp [kf] at h
      | [_, _], h => simp [kf] at h
      | _ :: _ :: _ :: _ :: _, h => simp [kf] at h
    obtain rfl : n = 4 := hn
    have hx := hts 1
    have HL := fun (W : World) (hW : Below w.heap.size w W) => refLabelled_any ad cap x y z x0 hx hts W.heap.size W (Nat.le_refl _) ((hrow.below hW).more hW.size)
    cases hq : valsL [108, 110, 110] [x, y, z] with
    | none =>
      rw [hq] at HL
      exact (take_2 p vg vr vp vn vs _ 0 0 0 false B w hB h (by omega) HL).mono fun e w' ht => takePost_none hq ht
    | some l =>
      obtain ⟨a, b, c, rfl⟩ : ∃ a b c, l = [a, b, c] := by
        have := (vals_back _ _ _ hq).2
        match l, this with
        | [a, b, c], _ => exact ⟨a, b, c, rfl⟩
        | [], h => cases h
        | [_], h => cases h
        | [_, _], h => cases h
        | _ :: _ :: _ :: _ :: _, h => simp at h
      rw [hq] at HL
      exact (take_2 p vg vr vp vn vs _ a b c true B w hB h (by omega) HL).mono fun e w' ht => takePost_some hq ht
  | 3, _ =>
    obtain ⟨x, y, rfl⟩ : ∃ x y, ws = [x, y] := by
      match ws, hlen with
      | [x, y], _ => exact ⟨x, y, rfl⟩
      | [], h => simp [kf] at h
      | [_], h => simp [kf] at h
      | _ :: _ :: _ :: _, h => simp [kf] at h
    obtain rfl : n = 3 := hn
    have hy := hts 2
    have HL := fun (W : World) (hW : Below w.heap.size w W) => refPort_any ad cap x y x0 hy W ((hrow.below hW).more hW.size)
    rcases portV_cases x y with ⟨l, g, hq, hv⟩ | ⟨hq, l, g, hv⟩
    · rw [hv] at HL
      exact (take_3 p vg vr vp vn vs _ l g true B w hB h (by omega) HL).mono fun e w' ht => takePost_some hq ht
    · rw [hv] at HL
      exact (take_3 p vg vr vp vn vs _ l g false B w hB h (by omega) HL).mono fun e w' ht => takePost_none hq ht
  | 4, _ =>
    obtain ⟨x, y, rfl⟩ : ∃ x y, ws = [x, y] := by
      match ws, hlen with
      | [x, y], _ => exact ⟨x, y, rfl⟩
      | [], h => simp [kf] at h
      | [_], h => simp [kf] at h
      | _ :: _ :: _ :: _, h => simp [kf] at h
    refine plainly (by decide) (by decide) (by decide) (by simp at hn; omega) (num_split2 x y) fun l hl W hW => ?_
    obtain ⟨a, b, rfl⟩ : ∃ a b, l = [a, b] := by
      have := numsL_len hl
      match l, this with
      | [a, b], _ => exact ⟨a, b, rfl⟩
      | [], h => cases h
      | [_], h => cases h
      | _ :: _ :: _ :: _, h => simp at h
    refine plain_4 p vg vr vp vn vs _ a b B W (Nat.le_trans hB hW.size) (h.below hW) (by omega) fun W2 hW2 => ?_
    refine (HN W2 (hW.trans (hW2.mono hW.size)) (by simp at hn; omega)).mono fun e w' ⟨v, he, ho, hb⟩ => ?_
    rw [hl] at he ho
    exact ⟨v, he, ho, hb⟩
  | 5, _ =>
    obtain ⟨x, y, rfl⟩ : ∃ x y, ws = [x, y] := by
      match ws, hlen with
      | [x, y], _ => exact ⟨x, y, rfl⟩
      | [], h => simp [kf] at h
      | [_], h => simp [kf] at h
      | _ :: _ :: _ :: _, h => simp [kf] at h
    refine plainly (by decide) (by decide) (by decide) (by simp at hn; omega) (num_split2 x y) fun l hl W hW => ?_
    obtain ⟨a, b, rfl⟩ : ∃ a b, l = [a, b] := by
      have := numsL_len hl
      match l, this with
      | [a, b], _ => exact ⟨a, b, rfl⟩
      | [], h => cases h
      | [_], h => cases h
      | _ :: _ :: _ :: _, h => simp at h
    refine plain_5 p vg vr vp vn vs _ a b B W (Nat.le_trans hB hW.size) (h.below hW) (by omega) fun W2 hW2 => ?_
    refine (HN W2 (hW.trans (hW2.mono hW.size)) (by simp at hn; omega)).mono fun e w' ⟨v, he, ho, hb⟩ => ?_
    rw [hl] at he ho
    exact ⟨v, he, ho, hb⟩
  | 6, _ =>
    obtain ⟨x, y, rfl⟩ : ∃ x y, ws = [x, y] := by
      match ws, hlen with
      | [x, y], _ => exact ⟨x, y, rfl⟩
      | [], h => simp [kf] at h
      | [_], h => simp [kf] at h
      | _ :: _ :: _ :: _, h => simp [kf] at h
    refine plainly (by decide) (by decide) (by decide) (by simp at hn; omega) (num_split2 x y) fun l hl W hW => ?_
    obtain ⟨a, b, rfl⟩ : ∃ a b, l = [a, b] := by
      have := numsL_len hl
      match l, this with
      | [a, b], _ => exact ⟨a, b, rfl⟩
      | [], h => cases h
      | [_], h => cases h
      | _ :: _ :: _ :: _, h => simp at h
    refine plain_6 p vg vr vp vn vs _ a b B W (Nat.le_trans hB hW.size) (h.below hW) fun W2 hW2 => ?_
    refine (HN W2 (hW.trans (hW2.mono hW.size)) (by simp at hn; omega)).mono fun e w' ⟨v, he, ho, hb⟩ => ?_
    rw [hl] at he ho
    exact ⟨v, he, ho, hb⟩
  | k + 7, hk => omega
end Go.Proofs.YtikkfapgmbamlaaDoor.Pl
end
