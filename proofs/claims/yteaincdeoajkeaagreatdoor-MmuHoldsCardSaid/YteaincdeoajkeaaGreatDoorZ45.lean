/- Several texts in one: Kw Ku Kx -/
import Derived.Test.YteaincdeoajkeaaGreatDoorZ43
import Derived.Test.YteaincdeoajkeaaGreatDoorZ42
import Derived.Test.YteaincdeoajkeaaGreatDoorZ44
section
/- Package mmu: remembered, shadowed. -/
namespace Go.Proofs.YteaincdeoajkeaaGreatDoor.Mm
open Go.RowKit Go.Shelf Ut Oc Vw Wa
open Sw (Ln tabL ownP fillS findS entS toldS Inv19 ErW)
open Sb (Rc findL withoutL entF entV)
set_option linter.unusedVariables false
set_option maxRecDepth 100000
set_option maxHeartbeats 8000000

theorem ST.lo {W : World} {u t g b s m : Nat} {S : List Int} {LM : List Gm.Pl} {D : List Bool} {l : List Ln} {q : List Rc} {Y : List Gm.Pl} (h : ST W u t g b s m S LM D l q Y) : ∀ x ∈ [u, t, g, b, s, m, 0], x < W.heap.size := fun x hx => by
 have h1 := h.lt
 have h2 := h.tl.lt
 have h3 := h.sh.lt
 have h4 := h.pv.lt
 have h5 := h.pv.mb
 have h6 := h.pv.sm
 have h7 := h.ns
 simp at hx
 omega
/-- the boxed access and the place of the answer -/
structure AB (W w : World) (on : Bool) (rt : Int) (us : Bool) (z k : Int) : Prop where
 ac : Blk w W.heap.size 105 [.bool on, .int .i64 rt, .bool us, .int .u32 z, .int .i64 k]
 hi : Blk w (W.heap.size + 1) 36 [.int .i64 0, .int .i64 0, .int .i64 0, .bool false]
theorem AB.kq {W w w' : World} {on us : Bool} {rt z k : Int} {T : List Nat} (h : AB W w on rt us z k) (q : Kq T w w') (hT : ∀ x ∈ T, x ≠ W.heap.size ∧ x ≠ W.heap.size + 1) : AB W w' on rt us z k := ⟨h.ac.kq q (fun hm => (hT _ hm).1 rfl), h.hi.kq q (fun hm => (hT _ hm).2 rfl)⟩
theorem ab_new (W : World) (on us : Bool) (rt z k : Int) : AB W ((W.alloc (.cells #[.bool on, .int .i64 rt, .bool us, .int .u32 z, .int .i64 k] 105)).alloc (.cells #[.int .i64 0, .int .i64 0, .int .i64 0, .bool false] 36)) on rt us z k := by
 refine ⟨(Blk.new W _ [.bool on, .int .i64 rt, .bool us, .int .u32 z, .int .i64 k]).more ((Below.refl _ _).alloc (Nat.le_refl _) _), ?_⟩
 have := Blk.new (W.alloc (.cells #[.bool on, .int .i64 rt, .bool us, .int .u32 z, .int .i64 k] 105)) 36 [.int .i64 0, .int .i64 0, .int .i64 0, .bool false]
 rw [World.size_alloc] at this
 exact this
/-- the memory in remembered, shadowed, walked -/
structure RM (W w : World) (u t g b s m : Nat) (S : List Int) (LM : List Gm.Pl) (D : List Bool) (l : List Ln) (q : List Rc) (Y : List Gm.Pl) (on : Bool) (rt : Int) (us : Bool) (z k : Int) : Prop where
 kq : Kq [t, g] W w
 st : ST w u t g b s m S LM D l q Y
 ab : AB W w on rt us z k
 lo : ∀ x ∈ [u, t, g, b, s, m, 0], x < W.heap.size
section
variable {W w w' : World} {u t g b s m : Nat} {S : List Int} {LM : List Gm.Pl} {D : List Bool} {l l' : List Ln} {q q' : List Rc} {Y : List Gm.Pl} {on us : Bool} {rt z k : Int}
theorem RM.sz (h : RM W w u t g b s m S LM D l q Y on rt us z k) : W.heap.size + 2 ≤ w.heap.size := h.ab.hi.lt
theorem RM.more (h : RM W w u t g b s m S LM D l q Y on rt us z k) (hb : Below w.heap.size w w') : RM W w' u t g b s m S LM D l q Y on rt us z k := ⟨h.kq.trans (Kq.of_below hb), h.st.more hb, h.ab.kq (Kq.of_below (T := []) hb) (fun _ h => by simp at h), h.lo⟩
theorem RM.tlb (h : RM W w u t g b s m S LM D l q Y on rt us z k) (hk : Kq [t] w w') (hq : Sb.QT w' t q') : RM W w' u t g b s m S LM D l q' Y on rt us z k := by
 have h1 := h.lo t (by simp)
 exact ⟨h.kq.trans (hk.more (by simp)), h.st.tlb hk hq, h.ab.kq hk (fun x hx => by simp at hx; omega), h.lo⟩
theorem RM.cell (h : RM W w u t g b s m S LM D l q Y on rt us z k) (p j : Nat) (v : Value) (hp : W.heap.size + 2 ≤ p) : RM W (w.setCell ⟨p, j, none⟩ v) u t g b s m S LM D l q Y on rt us z k := by
 have k1 : Kq [p] w (w.setCell ⟨p, j, none⟩ v) := (Kq.refl [p] w).setCell p j v (.inl (by simp))
 exact ⟨h.kq.setCell p j v (.inr (by omega)), h.st.kq k1 (fun x hx => by have := h.lo x hx; simp; omega), h.ab.kq k1 (fun x hx => by simp at hx; omega), h.lo⟩
theorem RM.row (h : RM W w u t g b s m S LM D l q Y on rt us z k) (p : Nat) (cs : Array Value) (hp : W.heap.size + 2 ≤ p) : RM W (w.setRow p cs) u t g b s m S LM D l q Y on rt us z k := by
 have k1 : Kq [p] w (w.setRow p cs) := Kq.setRow (Kq.refl _ _) p cs (by simp)
 have k2 : Kq [t, g] W (w.setRow p cs) := ⟨h.kq.os, h.kq.tape, h.kq.output, by rw [size_setRow]; exact h.kq.size, fun x hx hn => (setRow_other _ _ _ _ (by omega)).trans (h.kq.block x hx hn)⟩
 exact ⟨k2, h.st.kq k1 (fun x hx => by have := h.lo x hx; simp; omega), h.ab.kq k1 (fun x hx => by simp at hx; omega), h.lo⟩
/-- the answer is stored -/
theorem RM.answer (h : RM W w u t g b s m S LM D l q Y on rt us z k) (v0 v1 v2 v3 : Value) : ST ((((w.setCell ⟨W.heap.size + 1, 0, none⟩ v0).setCell ⟨W.heap.size + 1, 1, none⟩ v1).setCell ⟨W.heap.size + 1, 2, none⟩ v2).setCell ⟨W.heap.size + 1, 3, none⟩ v3) u t g b s m S LM D l q Y ∧ Kq [t, g] W ((((w.setCell ⟨W.heap.size + 1, 0, none⟩ v0).setCell ⟨W.heap.size + 1, 1, none⟩ v1).setCell ⟨W.heap.size + 1, 2, none⟩ v2).setCell ⟨W.heap.size + 1, 3, none⟩ v3) := by
 have k1 : Kq [W.heap.size + 1] w ((((w.setCell ⟨W.heap.size + 1, 0, none⟩ v0).setCell ⟨W.heap.size + 1, 1, none⟩ v1).setCell ⟨W.heap.size + 1, 2, none⟩ v2).setCell ⟨W.heap.size + 1, 3, none⟩ v3) := ((((Kq.refl [W.heap.size + 1] w).setCell _ _ _ (.inl (by simp))).setCell _ _ _ (.inl (by simp))).setCell _ _ _ (.inl (by simp))).setCell _ _ _ (.inl (by simp))
 exact ⟨h.st.kq k1 (fun x hx => by have := h.lo x hx; simp; omega), (((h.kq.setCell _ _ _ (.inr (by omega))).setCell _ _ _ (.inr (by omega))).setCell _ _ _ (.inr (by omega))).setCell _ _ _ (.inr (by omega))⟩
theorem RM.new (h : ST W u t g b s m S LM D l q Y) : RM W ((W.alloc (.cells #[.bool on, .int .i64 rt, .bool us, .int .u32 z, .int .i64 k] 105)).alloc (.cells #[.int .i64 0, .int .i64 0, .int .i64 0, .bool false] 36)) u t g b s m S LM D l q Y on rt us z k := by
 have hB := ((Below.refl W.heap.size W).alloc (Nat.le_refl _) (.cells #[.bool on, .int .i64 rt, .bool us, .int .u32 z, .int .i64 k] 105)).alloc (by simp) (.cells #[.int .i64 0, .int .i64 0, .int .i64 0, .bool false] 36)
 exact ⟨Kq.of_below hB, h.more hB, ab_new W on us rt z k, h.lo⟩
theorem remembered20_any (on us : Bool) (rt z k : Int) (h0 : 0 ≤ z) (h1 : z < 4294967296) (o : Option Rc) (ho : findL q rt (z / 64) = o) (tt : Bool) (ht : Pe.alwB o.isSome (entF o).2.2 k us = tt) (h : ST W u t g b s m S LM D l q Y) :
  Calls Tryz.prog 39 #[.pointer (some ⟨u, 0, none⟩), accV on rt us z k] W fun e w' => e = .returned (.tuple #[hitX (fstH tt (entF o).1 (entF o).2.1 z) tt, .bool tt]) ∧ Hid (ST w' u t g b s m S LM D l q Y) ∧ Kq [t, g] W w' := by
 obtain ⟨U, hU⟩ : ∃ U, U = (W.alloc (.cells #[.bool on, .int .i64 rt, .bool us, .int .u32 z, .int .i64 k] 105)).alloc (.cells #[.int .i64 0, .int .i64 0, .int .i64 0, .bool false] 36) := ⟨_, rfl⟩
 have hrm : RM W U u t g b s m S LM D l q Y on rt us z k := by rw [hU]; exact RM.new h
 have HU := Lib.hid hU
 have HRM := Lib.hid hrm
 have HKY : Hid (∀ w, Calls Tryz.prog 72 #[accV on rt us z k] w fun e w' => e = .returned (.agg #[.int .i64 rt, .int .i64 (z / 64)]) ∧ Below w.heap.size w w') := Lib.hid (key20_any on us rt z k h0 h1)
 have HG : Hid (∀ w', RM W w' u t g b s m S LM D l q Y on rt us z k → Calls Tryz.prog 71 #[.pointer (some ⟨t, 0, none⟩), .agg #[.int .i64 rt, .int .i64 (z / 64)]] w' fun e w'' => e = .returned (.tuple #[entV (entF o), .bool o.isSome]) ∧ Hid (Sb.QT w'' t q) ∧ Kq [t] w' w'') := Lib.hid fun w' hw' => Sb.qtGet rt (z / 64) o ho hw'.st.tl
 generalize entF o = e3 at ht HG ⊢
 generalize o.isSome = ok at ht HG
 obtain ⟨q0, q1_, q2⟩ := e3
 unfold entV at HG
 dsimp only at ht HG ⊢
 have HFA : Hid (∀ w, HasN w → Calls Tryz.prog 73 #[accV on rt us z k, .agg #[.int .i64 q0, .int .i64 q1_, .int .i64 q2], .bool ok] w fun e w' => e = .returned (.tuple #[hitX (fstH tt q0 q1_ z) tt, .bool tt]) ∧ Below w.heap.size w w') := Lib.hid fun w hn => fast20_any on us ok rt z k q0 q1_ q2 tt ht h0 h1 w hn
 generalize fstH tt q0 q1_ z = hh at HFA ⊢
 obtain ⟨x0, x1, x2⟩ := hh
 clear hU hrm h ht ho
 go_enter Tryz.func39, Tryz.ntmps39
 go_upto_region 1 with fail
 rw [← HU.out]
 clear HU
 apply wp_region_x [9, 10, 11, 12, 13, 14, 15, 8, 16, 17, 6, 120] [_, _, _, _, _, _, _, _, _, _, undef, undef] [10] (fun L_ x_ W' => RM W W' u t g b s m S LM D l q Y on rt us z k ∧ NewB (W.heap.size + 2) 10 11 50 [.int .i64 0, .int .i64 0, .int .i64 0] [.int .i64 q0, .int .i64 q1_, .int .i64 q2] L_ x_ W')
 case hm => kernel_rfl
 case hT => intro y; simp only [setAll, List.setIfInBounds_toArray, List.set_cons_succ, List.set_cons_zero, List.set_nil]; exact rfl
 case hok => kernel_rfl
 case hn => decide
 case hw => exact (fun L_ x_ h0 => ⟨HRM.out.more ((Below.refl _ _).drew), NewB.no (h0 10 (by decide))⟩)
 case hs =>
  refine x_op 9 [] (by kernel_rfl) (fun L y w' hL hC HW hd K hK => ?_) ?_
  ·go_simp
   refine hK _ _ ?_ ?_ HW
   ·simp [upd]
   ·exact rfl
  refine x_op 10 [0] (by kernel_rfl) (fun L y w' hL hC HW hd K hK => ?_) ?_
  ·have e0 := xR_nth (hd 0 (by simp)).2 rfl rfl
   go_simp
   refine hK _ _ ?_ ?_ HW
   ·simp [upd, e0]
   ·exact rfl
  refine x_op 11 [1] (by kernel_rfl) (fun L y w' hL hC HW hd K hK => ?_) ?_
  ·have e1 := xR_nth (hd 1 (by simp)).2 rfl rfl
   go_simp
   refine hK _ _ ?_ ?_ HW
   ·simp [upd, e1]
   ·exact rfl
  refine x_op 12 [2] (by kernel_rfl) (fun L y w' hL hC HW hd K hK => ?_) ?_
  ·have e2 := xR_nth (hd 2 (by simp)).2 rfl rfl
   have u1 := HW.1.st.cell1
   have ul := HW.1.st.lt
   go_simp
   refine hK _ _ ?_ ?_ HW
   ·simp [upd, e2]
   ·exact rfl
  refine x_op 13 [] (by kernel_rfl) (fun L y w' hL hC HW hd K hK => ?_) ?_
  ·have ha := HW.1.ab.ac
   have a0 := ha.cell (j := 0) rfl
   have a1 := ha.cell (j := 1) rfl
   have a2 := ha.cell (j := 2) rfl
   have a3 := ha.cell (j := 3) rfl
   have a4 := ha.cell (j := 4) rfl
   have al := ha.lt
   go_simp
   refine hK _ _ ?_ ?_ HW
   ·simp [upd]
   ·exact rfl
  refine x_op 14 [4] (by kernel_rfl) (fun L y w' hL hC HW hd K hK => ?_) ?_
  ·have e4 := xR_nth (hd 4 (by simp)).2 rfl rfl
   go_simp
   refine (HKY.out _).mono ?_
   rintro e w3 ⟨rfl, hb3⟩
   refine hK _ _ ?_ ?_ ⟨HW.1.more hb3, HW.2.kq (Kq.of_below (T := []) hb3) (by simp) rfl rfl rfl⟩
   ·simp [upd, e4]
   ·exact rfl
  refine x_op 15 [3, 5, 5] (by kernel_rfl) (fun L y w' hL hC HW hd K hK => ?_) ?_
  ·have e3 := xR_nth (hd 3 (by simp)).2 rfl rfl
   have e5 := xR_nth (hd 5 (by simp)).2 rfl rfl
   go_simp
   refine (HG.out _ HW.1).mono ?_
   rintro e w3 ⟨rfl, hq3, hk3⟩
   refine hK _ _ ?_ ?_ ⟨HW.1.tlb hk3 hq3.out, HW.2.kq hk3 (fun x hx => by have h := HW.1.lo t (by simp); simp at hx; omega) rfl rfl rfl⟩
   ·simp [upd, e3, e5]
   ·exact rfl
  refine x_op 8 [6] (by kernel_rfl) (fun L y w' hL hC HW hd K hK => ?_) ?_
  ·have e6 := xR_nth (hd 6 (by simp)).2 rfl rfl
   go_simp
   refine hK _ _ ?_ ?_ HW
   ·simp [upd, e6]
   ·exact rfl
  refine x_op 16 [7] (by kernel_rfl) (fun L y w' hL hC HW hd K hK => ?_) ?_
  ·have e7 := xR_nth (hd 7 (by simp)).2 rfl rfl
   go_simp
   refine hK _ _ ?_ ?_ HW
   ·simp [upd, e7]
   ·exact rfl
  refine x_op 17 [7] (by kernel_rfl) (fun L y w' hL hC HW hd K hK => ?_) ?_
  ·have e7 := xR_nth (hd 7 (by simp)).2 rfl rfl
   go_simp
   refine hK _ _ ?_ ?_ HW
   ·simp [upd, e7]
   ·exact rfl
  refine x_one 6 [] (by kernel_rfl) rfl (fun L y w' hL hC HW hd K hK => ?_) ?_
  ·go_simp
   refine hK _ _ ?_ ⟨HW.1.more ((Below.refl _ _).alloc (Nat.le_refl _) _), NewB.made (hC.not' 11 10 (by kernel_rfl) hL) rfl HW.1.sz rfl⟩
   ·simp [upd]
  refine x_op 120 [10, 8, 6, 0, 1, 2, 3, 4, 5, 6, 7, 8, 10] (by kernel_rfl) (fun L y w' hL hC HW hd K hK => ?_) ?_
  ·have e0 := xR_nth (hd 0 (by simp)).2 rfl rfl
   have e1 := xR_nth (hd 1 (by simp)).2 rfl rfl
   have e2 := xR_nth (hd 2 (by simp)).2 rfl rfl
   have e3 := xR_nth (hd 3 (by simp)).2 rfl rfl
   have e4 := xR_nth (hd 4 (by simp)).2 rfl rfl
   have e5 := xR_nth (hd 5 (by simp)).2 rfl rfl
   have e6 := xR_nth (hd 6 (by simp)).2 rfl rfl
   have e7 := xR_nth (hd 7 (by simp)).2 rfl rfl
   have e8 := xR_nth (hd 8 (by simp)).2 rfl rfl
   have hl10 := (hd 10 (by simp)).1
   obtain ⟨pb, e10, hp10, hb10⟩ := HW.2 hl10
   rw [hL] at hb10
   have z0 := hb10.cell (j := 0) rfl
   have z1 := hb10.cell (j := 1) rfl
   have z2 := hb10.cell (j := 2) rfl
   have y0 := hb10.frozen 0
   have y1 := hb10.frozen 1
   have y2 := hb10.frozen 2
   have zl := hb10.lt
   go_simp
   refine hK _ _ ?_ ?_ ⟨((HW.1.cell pb 0 _ hp10).cell pb 1 _ hp10).cell pb 2 _ hp10, NewB.put rfl e10 hp10 (((hb10.set 0 (.int .i64 q0)).set 1 (.int .i64 q1_)).set 2 (.int .i64 q2))⟩
   ·simp [upd, e0, e1, e2, e3, e4, e5, e6, e7, e8, e10]
   ·exact rfl
  refine x_last fun L y w' hLs HW hd K hK => ?_
  have e0 := xR_nth (hd 0 (by omega)) rfl rfl
  have e1 := xR_nth (hd 1 (by omega)) rfl rfl
  have e2 := xR_nth (hd 2 (by omega)) rfl rfl
  have e3 := xR_nth (hd 3 (by omega)) rfl rfl
  have e4 := xR_nth (hd 4 (by omega)) rfl rfl
  have e5 := xR_nth (hd 5 (by omega)) rfl rfl
  have e6 := xR_nth (hd 6 (by omega)) rfl rfl
  have e7 := xR_nth (hd 7 (by omega)) rfl rfl
  have e8 := xR_nth (hd 8 (by omega)) rfl rfl
  have e9 := xR_nth (hd 9 (by omega)) rfl rfl
  obtain ⟨pb, e10, hp10, hb10⟩ := HW.2 (hLs 10 (by decide))
  rw [hLs 11 (by decide)] at hb10
  have HR9 := Lib.hid HW.1
  have HE9 := Lib.hid hb10
  have HP9 := Lib.hid hp10
  go_simp
  refine hK _ _ ?_
  clear hd hK K HW hLs
  have a0 := HR9.out.ab.ac.cell (j := 0) rfl
  have a1 := HR9.out.ab.ac.cell (j := 1) rfl
  have a2 := HR9.out.ab.ac.cell (j := 2) rfl
  have a3 := HR9.out.ab.ac.cell (j := 3) rfl
  have a4 := HR9.out.ab.ac.cell (j := 4) rfl
  have al := HR9.out.ab.ac.lt
  have d0 := HE9.out.cell (j := 0) rfl
  have d1 := HE9.out.cell (j := 1) rfl
  have d2 := HE9.out.cell (j := 2) rfl
  have dl := HE9.out.lt
  clear HG HKY HRM hp10 hb10
  go_wp2_with fail
  refine (HFA.out _ HR9.out.st.nd).mono ?_
  rintro e w5 ⟨rfl, hb5⟩
  have HRX := Lib.hid (HR9.out.more hb5)
  have r0 := HRX.out.ab.hi.cell (j := 0) rfl
  have r1 := HRX.out.ab.hi.cell (j := 1) rfl
  have r2 := HRX.out.ab.hi.cell (j := 2) rfl
  have r3 := HRX.out.ab.hi.cell (j := 3) rfl
  have f0 := HRX.out.ab.hi.frozen 0
  have f1 := HRX.out.ab.hi.frozen 1
  have f2 := HRX.out.ab.hi.frozen 2
  have f3 := HRX.out.ab.hi.frozen 3
  have rl := HRX.out.ab.hi.lt
  have HANS := Lib.hid (HRX.out.answer)
  clear hb5 HR9 HE9 HP9 HFA a0 a1 a2 a3 a4 al d0 d1 d2 dl HRX
  go_wp2
  exact bodyPost_ret (v := .tuple #[hitX (x0, x1, x2) tt, .bool tt]) (by simp [results, Tryz.results39, go_sem, r0, r1, r2, r3]) rfl ⟨rfl, Lib.hid (HANS.out _ _ _ _).1, (HANS.out _ _ _ _).2⟩
theorem shadowed20_any (on us : Bool) (rt z k : Int) (h0 : 0 ≤ z) (h1 : z < 4294967296) (o : Option Ln) (ho : findS l rt (z / 64) = o) (tt : Bool) (ht : Pe.alwB o.isSome (entS o).2.2 k us = tt) (h : ST W u t g b s m S LM D l q Y) :
  Calls Tryz.prog 40 #[.pointer (some ⟨u, 0, none⟩), accV on rt us z k] W fun e w' => e = .returned (.tuple #[hitX (fstH tt (entS o).1 (entS o).2.1 z) tt, .bool tt]) ∧ Hid (∃ q', ST w' u t g b s m S LM D l q' Y ∧ ∀ y ∈ q', y ∈ q ∨ (tt = true ∧ y = ⟨rt, z / 64, (entS o).1, (entS o).2.1, (entS o).2.2⟩)) ∧ Kq [t, g] W w' := by
 obtain ⟨U, hU⟩ : ∃ U, U = (W.alloc (.cells #[.bool on, .int .i64 rt, .bool us, .int .u32 z, .int .i64 k] 105)).alloc (.cells #[.int .i64 0, .int .i64 0, .int .i64 0, .bool false] 36) := ⟨_, rfl⟩
 have hrm : RM W U u t g b s m S LM D l q Y on rt us z k := by rw [hU]; exact RM.new h
 have HU := Lib.hid hU
 have HRM := Lib.hid hrm
 have HKY : Hid (∀ w, Calls Tryz.prog 72 #[accV on rt us z k] w fun e w' => e = .returned (.agg #[.int .i64 rt, .int .i64 (z / 64)]) ∧ Below w.heap.size w w') := Lib.hid (key20_any on us rt z k h0 h1)
 have HG : Hid (∀ w', RM W w' u t g b s m S LM D l q Y on rt us z k → Calls Tryz.prog 74 #[.pointer (some ⟨g, 0, none⟩), .agg #[.int .i64 rt, .int .i64 (z / 64)]] w' fun e w'' => e = .returned (.tuple #[Sw.entW (entS o), .bool o.isSome]) ∧ Below w'.heap.size w' w'') := Lib.hid fun w' hw' => by
  have h := hw'.st.sh
  have := Sw.shGet_any rt (z / 64) h.th (.inr ⟨_, _, rfl, h⟩)
  rw [ho] at this
  exact this
 generalize entS o = e3 at ht HG ⊢
 generalize o.isSome = ok at ht HG
 obtain ⟨q0, q1_, q2⟩ := e3
 unfold Sw.entW at HG
 dsimp only at ht HG ⊢
 have HFA : Hid (∀ w, HasN w → Calls Tryz.prog 73 #[accV on rt us z k, .agg #[.int .i64 q0, .int .i64 q1_, .int .i64 q2], .bool ok] w fun e w' => e = .returned (.tuple #[hitX (fstH tt q0 q1_ z) tt, .bool tt]) ∧ Below w.heap.size w w') := Lib.hid fun w hn => fast20_any on us ok rt z k q0 q1_ q2 tt ht h0 h1 w hn
 generalize fstH tt q0 q1_ z = hh at HFA ⊢
 obtain ⟨x0, x1, x2⟩ := hh
 clear hU hrm h ht ho
 go_enter Tryz.func40, Tryz.ntmps40
 go_upto_region 1 with fail
 rw [← HU.out]
 clear HU
 apply wp_region_x [10, 11, 12, 13, 14, 15, 16, 9, 17, 18, 6, 120] [_, _, _, _, _, _, _, _, _, _, undef, undef] [10] (fun L_ x_ W' => RM W W' u t g b s m S LM D l q Y on rt us z k ∧ NewB (W.heap.size + 2) 10 11 50 [.int .i64 0, .int .i64 0, .int .i64 0] [.int .i64 q0, .int .i64 q1_, .int .i64 q2] L_ x_ W')
 case hm => kernel_rfl
 case hT => intro y; simp only [setAll, List.setIfInBounds_toArray, List.set_cons_succ, List.set_cons_zero, List.set_nil]; exact rfl
 case hok => kernel_rfl
 case hn => decide
 case hw => exact (fun L_ x_ h0 => ⟨HRM.out.more ((Below.refl _ _).drew), NewB.no (h0 10 (by decide))⟩)
 case hs =>
  refine x_op 10 [] (by kernel_rfl) (fun L y w' hL hC HW hd K hK => ?_) ?_
  ·go_simp
   refine hK _ _ ?_ ?_ HW
   ·simp [upd]
   ·exact rfl
  refine x_op 11 [0] (by kernel_rfl) (fun L y w' hL hC HW hd K hK => ?_) ?_
  ·have e0 := xR_nth (hd 0 (by simp)).2 rfl rfl
   go_simp
   refine hK _ _ ?_ ?_ HW
   ·simp [upd, e0]
   ·exact rfl
  refine x_op 12 [1] (by kernel_rfl) (fun L y w' hL hC HW hd K hK => ?_) ?_
  ·have e1 := xR_nth (hd 1 (by simp)).2 rfl rfl
   go_simp
   refine hK _ _ ?_ ?_ HW
   ·simp [upd, e1]
   ·exact rfl
  refine x_op 13 [2] (by kernel_rfl) (fun L y w' hL hC HW hd K hK => ?_) ?_
  ·have e2 := xR_nth (hd 2 (by simp)).2 rfl rfl
   have u1 := HW.1.st.cell2
   have ul := HW.1.st.lt
   go_simp
   refine hK _ _ ?_ ?_ HW
   ·simp [upd, e2]
   ·exact rfl
  refine x_op 14 [] (by kernel_rfl) (fun L y w' hL hC HW hd K hK => ?_) ?_
  ·have ha := HW.1.ab.ac
   have a0 := ha.cell (j := 0) rfl
   have a1 := ha.cell (j := 1) rfl
   have a2 := ha.cell (j := 2) rfl
   have a3 := ha.cell (j := 3) rfl
   have a4 := ha.cell (j := 4) rfl
   have al := ha.lt
   go_simp
   refine hK _ _ ?_ ?_ HW
   ·simp [upd]
   ·exact rfl
  refine x_op 15 [4] (by kernel_rfl) (fun L y w' hL hC HW hd K hK => ?_) ?_
  ·have e4 := xR_nth (hd 4 (by simp)).2 rfl rfl
   go_simp
   refine (HKY.out _).mono ?_
   rintro e w3 ⟨rfl, hb3⟩
   refine hK _ _ ?_ ?_ ⟨HW.1.more hb3, HW.2.kq (Kq.of_below (T := []) hb3) (by simp) rfl rfl rfl⟩
   ·simp [upd, e4]
   ·exact rfl
  refine x_op 16 [3, 5, 5] (by kernel_rfl) (fun L y w' hL hC HW hd K hK => ?_) ?_
  ·have e3 := xR_nth (hd 3 (by simp)).2 rfl rfl
   have e5 := xR_nth (hd 5 (by simp)).2 rfl rfl
   go_simp
   refine (HG.out _ HW.1).mono ?_
   rintro e w3 ⟨rfl, hb3⟩
   refine hK _ _ ?_ ?_ ⟨HW.1.more hb3, HW.2.kq (Kq.of_below (T := []) hb3) (by simp) rfl rfl rfl⟩
   ·simp [upd, e3, e5]
   ·exact rfl
  refine x_op 9 [6] (by kernel_rfl) (fun L y w' hL hC HW hd K hK => ?_) ?_
  ·have e6 := xR_nth (hd 6 (by simp)).2 rfl rfl
   go_simp
   refine hK _ _ ?_ ?_ HW
   ·simp [upd, e6]
   ·exact rfl
  refine x_op 17 [7] (by kernel_rfl) (fun L y w' hL hC HW hd K hK => ?_) ?_
  ·have e7 := xR_nth (hd 7 (by simp)).2 rfl rfl
   go_simp
   refine hK _ _ ?_ ?_ HW
   ·simp [upd, e7]
   ·exact rfl
  refine x_op 18 [7] (by kernel_rfl) (fun L y w' hL hC HW hd K hK => ?_) ?_
  ·have e7 := xR_nth (hd 7 (by simp)).2 rfl rfl
   go_simp
   refine hK _ _ ?_ ?_ HW
   ·simp [upd, e7]
   ·exact rfl
  refine x_one 6 [] (by kernel_rfl) rfl (fun L y w' hL hC HW hd K hK => ?_) ?_
  ·go_simp
   refine hK _ _ ?_ ⟨HW.1.more ((Below.refl _ _).alloc (Nat.le_refl _) _), NewB.made (hC.not' 11 10 (by kernel_rfl) hL) rfl HW.1.sz rfl⟩
   ·simp [upd]
  refine x_op 120 [10, 8, 6, 0, 1, 2, 3, 4, 5, 6, 7, 8, 10] (by kernel_rfl) (fun L y w' hL hC HW hd K hK => ?_) ?_
  ·have e0 := xR_nth (hd 0 (by simp)).2 rfl rfl
   have e1 := xR_nth (hd 1 (by simp)).2 rfl rfl
   have e2 := xR_nth (hd 2 (by simp)).2 rfl rfl
   have e3 := xR_nth (hd 3 (by simp)).2 rfl rfl
   have e4 := xR_nth (hd 4 (by simp)).2 rfl rfl
   have e5 := xR_nth (hd 5 (by simp)).2 rfl rfl
   have e6 := xR_nth (hd 6 (by simp)).2 rfl rfl
   have e7 := xR_nth (hd 7 (by simp)).2 rfl rfl
   have e8 := xR_nth (hd 8 (by simp)).2 rfl rfl
   have hl10 := (hd 10 (by simp)).1
   obtain ⟨pb, e10, hp10, hb10⟩ := HW.2 hl10
   rw [hL] at hb10
   have z0 := hb10.cell (j := 0) rfl
   have z1 := hb10.cell (j := 1) rfl
   have z2 := hb10.cell (j := 2) rfl
   have y0 := hb10.frozen 0
   have y1 := hb10.frozen 1
   have y2 := hb10.frozen 2
   have zl := hb10.lt
   go_simp
   refine hK _ _ ?_ ?_ ⟨((HW.1.cell pb 0 _ hp10).cell pb 1 _ hp10).cell pb 2 _ hp10, NewB.put rfl e10 hp10 (((hb10.set 0 (.int .i64 q0)).set 1 (.int .i64 q1_)).set 2 (.int .i64 q2))⟩
   ·simp [upd, e0, e1, e2, e3, e4, e5, e6, e7, e8, e10]
   ·exact rfl
  refine x_last fun L y w' hLs HW hd K hK => ?_
  have e0 := xR_nth (hd 0 (by omega)) rfl rfl
  have e1 := xR_nth (hd 1 (by omega)) rfl rfl
  have e2 := xR_nth (hd 2 (by omega)) rfl rfl
  have e3 := xR_nth (hd 3 (by omega)) rfl rfl
  have e4 := xR_nth (hd 4 (by omega)) rfl rfl
  have e5 := xR_nth (hd 5 (by omega)) rfl rfl
  have e6 := xR_nth (hd 6 (by omega)) rfl rfl
  have e7 := xR_nth (hd 7 (by omega)) rfl rfl
  have e8 := xR_nth (hd 8 (by omega)) rfl rfl
  have e9 := xR_nth (hd 9 (by omega)) rfl rfl
  obtain ⟨pb, e10, hp10, hb10⟩ := HW.2 (hLs 10 (by decide))
  rw [hLs 11 (by decide)] at hb10
  have HR9 := Lib.hid HW.1
  have HE9 := Lib.hid hb10
  have HP9 := Lib.hid hp10
  go_simp
  refine hK _ _ ?_
  clear hd hK K HW hLs
  have a0 := HR9.out.ab.ac.cell (j := 0) rfl
  have a1 := HR9.out.ab.ac.cell (j := 1) rfl
  have a2 := HR9.out.ab.ac.cell (j := 2) rfl
  have a3 := HR9.out.ab.ac.cell (j := 3) rfl
  have a4 := HR9.out.ab.ac.cell (j := 4) rfl
  have al := HR9.out.ab.ac.lt
  have d0 := HE9.out.cell (j := 0) rfl
  have d1 := HE9.out.cell (j := 1) rfl
  have d2 := HE9.out.cell (j := 2) rfl
  have dl := HE9.out.lt
  clear HG HRM hp10 hb10
  go_wp2_with fail
  refine (HFA.out _ HR9.out.st.nd).mono ?_
  rintro e w5 ⟨rfl, hb5⟩
  obtain ⟨V, hV⟩ : ∃ V, V = w5.alloc (.cells #[.int .i64 x0, .int .i64 x1, .int .i64 x2, .bool tt] 36) := ⟨_, rfl⟩
  have hbV : Below w5.heap.size w5 V := by rw [hV]; exact (Below.refl _ _).alloc (Nat.le_refl _) _
  have hNV : Blk V w5.heap.size 36 [.int .i64 x0, .int .i64 x1, .int .i64 x2, .bool tt] := by rw [hV]; exact Blk.new w5 _ _
  have HV := Lib.hid hV
  have HRV := Lib.hid ((HR9.out.more hb5).more hbV)
  have HEV := Lib.hid ((HE9.out.more hb5).more hbV)
  have HNV := Lib.hid hNV
  have HVP : Hid (W.heap.size + 2 ≤ w5.heap.size) := Lib.hid (HR9.out.more hb5).sz
  clear hV hbV hNV hb5 HR9 HE9 HFA a0 a1 a2 a3 a4 al d0 d1 d2 dl
  go_upto_region 3 with fail
  rw [← HV.out]
  clear HV
  generalize w5.heap.size = vb at HNV HVP ⊢
  cases tt
  ·have HRX := HRV
   have r0 := HRX.out.ab.hi.cell (j := 0) rfl
   have r1 := HRX.out.ab.hi.cell (j := 1) rfl
   have r2 := HRX.out.ab.hi.cell (j := 2) rfl
   have r3 := HRX.out.ab.hi.cell (j := 3) rfl
   have f0 := HRX.out.ab.hi.frozen 0
   have f1 := HRX.out.ab.hi.frozen 1
   have f2 := HRX.out.ab.hi.frozen 2
   have f3 := HRX.out.ab.hi.frozen 3
   have rl := HRX.out.ab.hi.lt
   have n0 := HNV.out.cell (j := 0) rfl
   have n1 := HNV.out.cell (j := 1) rfl
   have n2 := HNV.out.cell (j := 2) rfl
   have n3 := HNV.out.cell (j := 3) rfl
   have nl := HNV.out.lt
   have HANS := Lib.hid (HRX.out.answer)
   clear HRX HRV HEV HNV HVP HKY
   go_wp2
   exact bodyPost_ret (v := .tuple #[hitX (x0, x1, x2) false, .bool false]) (by simp [results, Tryz.results40, go_sem, r0, r1, r2, r3]) rfl ⟨rfl, Lib.hid ⟨q, (HANS.out _ _ _ _).1, fun y hy => .inl hy⟩, (HANS.out _ _ _ _).2⟩
  ·have HPT : Hid (∀ w', RM W w' u t g b s m S LM D l q Y on rt us z k → Calls Tryz.prog 75 #[.pointer (some ⟨t, 0, none⟩), .agg #[.int .i64 rt, .int .i64 (z / 64)], .agg #[.int .i64 q0, .int .i64 q1_, .int .i64 q2]] w' fun e w'' => e = .returned (.int .i64 0) ∧ Hid (∃ l', Sb.QT w'' t l' ∧ ∀ y ∈ l', y = ⟨rt, z / 64, q0, q1_, q2⟩ ∨ y ∈ withoutL q rt (z / 64)) ∧ Kq [t] w' w'') := Lib.hid fun w' hw' => Sb.qtPut ⟨rt, z / 64, q0, q1_, q2⟩ hw'.st.tl
   go_upto_region 4 with fail
   apply wp_region_x [27, 28, 29, 30, 31, 32, 33] [_, _, _, _, _, _, _] [] (fun L_ x_ W' => RM W W' u t g b s m S LM D l q Y on rt us z k ∧ Below V.heap.size V W')
   case hm => kernel_rfl
   case hT => intro y; simp only [setAll, List.setIfInBounds_toArray, List.set_cons_succ, List.set_cons_zero]; exact rfl
   case hok => kernel_rfl
   case hn => decide
   case hw => exact (fun L_ x_ h0 => ⟨HRV.out.more ((Below.refl _ _).drew), (Below.refl _ _).drew⟩)
   case hs =>
    refine x_op 27 [] (by kernel_rfl) (fun L y w' hL hC HW hd K hK => ?_) ?_
    ·go_simp
     refine hK _ _ ?_ ?_ HW
     ·simp [upd]
     ·exact rfl
    refine x_op 28 [0] (by kernel_rfl) (fun L y w' hL hC HW hd K hK => ?_) ?_
    ·have e0 := xR_nth (hd 0 (by simp)).2 rfl rfl
     go_simp
     refine hK _ _ ?_ ?_ HW
     ·simp [upd, e0]
     ·exact rfl
    refine x_op 29 [1] (by kernel_rfl) (fun L y w' hL hC HW hd K hK => ?_) ?_
    ·have e1 := xR_nth (hd 1 (by simp)).2 rfl rfl
     go_simp
     refine hK _ _ ?_ ?_ HW
     ·simp [upd, e1]
     ·exact rfl
    refine x_op 30 [2] (by kernel_rfl) (fun L y w' hL hC HW hd K hK => ?_) ?_
    ·have e2 := xR_nth (hd 2 (by simp)).2 rfl rfl
     have u1 := HW.1.st.cell1
     have ul := HW.1.st.lt
     go_simp
     refine hK _ _ ?_ ?_ HW
     ·simp [upd, e2]
     ·exact rfl
    refine x_op 31 [] (by kernel_rfl) (fun L y w' hL hC HW hd K hK => ?_) ?_
    ·have ha := HW.1.ab.ac
     have a0 := ha.cell (j := 0) rfl
     have a1 := ha.cell (j := 1) rfl
     have a2 := ha.cell (j := 2) rfl
     have a3 := ha.cell (j := 3) rfl
     have a4 := ha.cell (j := 4) rfl
     have al := ha.lt
     go_simp
     refine hK _ _ ?_ ?_ HW
     ·simp [upd]
     ·exact rfl
    refine x_op 32 [4] (by kernel_rfl) (fun L y w' hL hC HW hd K hK => ?_) ?_
    ·have e4 := xR_nth (hd 4 (by simp)).2 rfl rfl
     go_simp
     refine (HKY.out _).mono ?_
     rintro e w3 ⟨rfl, hb3⟩
     refine hK _ _ ?_ ?_ ⟨HW.1.more hb3, HW.2.trans (hb3.mono HW.2.size)⟩
     ·simp [upd, e4]
     ·exact rfl
    refine x_op 33 [] (by kernel_rfl) (fun L y w' hL hC HW hd K hK => ?_) ?_
    ·have he := HEV.out.more HW.2
     have d0 := he.cell (j := 0) rfl
     have d1 := he.cell (j := 1) rfl
     have d2 := he.cell (j := 2) rfl
     have dl := he.lt
     go_simp
     refine hK _ _ ?_ ?_ HW
     ·simp [upd]
     ·exact rfl
    refine x_last fun L y w' hLs HW hd K hK => ?_
    have e0 := xR_nth (hd 0 (by omega)) rfl rfl
    have e1 := xR_nth (hd 1 (by omega)) rfl rfl
    have e2 := xR_nth (hd 2 (by omega)) rfl rfl
    have e3 := xR_nth (hd 3 (by omega)) rfl rfl
    have e4 := xR_nth (hd 4 (by omega)) rfl rfl
    have e5 := xR_nth (hd 5 (by omega)) rfl rfl
    have e6 := xR_nth (hd 6 (by omega)) rfl rfl
    go_simp
    refine (HPT.out _ HW.1).mono ?_
    rintro e w7 ⟨rfl, HQ7, hk7⟩
    refine hK _ _ ?_
    clear hd hK K e0 e1 e2 e3 e4 e5 e6 hLs
    obtain ⟨q9, hq9, hm9⟩ := HQ7.out
    have HRX := Lib.hid (HW.1.tlb hk7 hq9)
    have HN7 := Lib.hid ((HNV.out.more HW.2).kq hk7 (by have := HW.1.lo t (by simp); have := HVP.out; simp; omega))
    have HM9 := Lib.hid hm9
    clear HQ7 hq9 hm9 hk7 HW HRV HEV HNV HPT HKY
    have r0 := HRX.out.ab.hi.cell (j := 0) rfl
    have r1 := HRX.out.ab.hi.cell (j := 1) rfl
    have r2 := HRX.out.ab.hi.cell (j := 2) rfl
    have r3 := HRX.out.ab.hi.cell (j := 3) rfl
    have f0 := HRX.out.ab.hi.frozen 0
    have f1 := HRX.out.ab.hi.frozen 1
    have f2 := HRX.out.ab.hi.frozen 2
    have f3 := HRX.out.ab.hi.frozen 3
    have rl := HRX.out.ab.hi.lt
    have n0 := HN7.out.cell (j := 0) rfl
    have n1 := HN7.out.cell (j := 1) rfl
    have n2 := HN7.out.cell (j := 2) rfl
    have n3 := HN7.out.cell (j := 3) rfl
    have nl := HN7.out.lt
    have HANS := Lib.hid (HRX.out.answer)
    clear HRX HN7 HVP
    go_wp2
    exact bodyPost_ret (v := .tuple #[hitX (x0, x1, x2) true, .bool true]) (by simp [results, Tryz.results40, go_sem, r0, r1, r2, r3]) rfl ⟨rfl, Lib.hid ⟨q9, (HANS.out _ _ _ _).1, fun y hy => by
     rcases HM9.out y hy with h | h
     ·exact .inr (by first | exact ⟨rfl, h⟩ | exact h)
     ·exact .inl (List.mem_filter.1 h).1⟩, (HANS.out _ _ _ _).2⟩
end
end Go.Proofs.YteaincdeoajkeaaGreatDoor.Mm
end
section
/- Package mmu: given. -/
namespace Go.Proofs.YteaincdeoajkeaaGreatDoor.Mm
open Go.RowKit Go.Shelf Ut Oc Vw Wa
open Sw (Ln tabL ownP fillS)
open Sb (Rc findL withoutL)
set_option linter.unusedVariables false
set_option maxRecDepth 100000
set_option maxHeartbeats 8000000
section
variable {W : World} {u t g b s m : Nat} {S : List Int} {L : List Gm.Pl} {D : List Bool} {l : List Ln} {q : List Rc} {Y : List Gm.Pl}
theorem given20_any (o : Bool) (r pg : Int) (f : Int → Int) (hf : ∀ k, Gm.alwF (Gm.atP L pg) pg k = f k) (h : ST W u t g b s m S L D l q Y) :
  Calls Tryz.prog 77 #[.pointer (some ⟨u, 0, none⟩), .agg #[.bool o, .int .i64 r, .int .i64 pg]] W fun e w' => e = .returned (.int .i64 (giv r f)) ∧ Below W.heap.size W w' := by
 obtain ⟨U, hU⟩ : ∃ U, U = W.alloc (.cells #[.bool o, .int .i64 r, .int .i64 pg] 112) := ⟨_, rfl⟩
 have hB : Below W.heap.size W U := by rw [hU]; exact (Below.refl _ _).alloc (Nat.le_refl _) _
 have hN : Blk U W.heap.size 112 [.bool o, .int .i64 r, .int .i64 pg] := by rw [hU]; exact Blk.new W _ _
 have HST := Lib.hid (h.more hB)
 have HMP : Hid (∀ w', Below U.heap.size U w' → Calls Tryz.prog 15 #[.pointer (some ⟨b, 0, none⟩)] w' fun e w'' => e = .returned (.pointer (some ⟨m, 0, none⟩)) ∧ w' = w'') := Lib.hid fun w' hw' => map_any w' (HST.out.more hw').pv
 have HAL : Hid (∀ (k : Int) w', Below U.heap.size U w' → Calls Tryz.prog 121 #[.pointer (some ⟨m, 0, none⟩), .int .i64 pg, .int .i64 k] w' fun e w'' => e = .returned (.int .i64 (f k)) ∧ Below w'.heap.size w' w'') := Lib.hid fun k w' hw' => Gm.allows_any m L pg k (f k) (hf k) w' (HST.out.more hw').pv.mp
 have HU := Lib.hid hU
 have HB := Lib.hid hB
 have HN := Lib.hid hN
 have p1 := hN.cell (j := 1) rfl
 have pl := hN.lt
 obtain ⟨n0, n1, n2⟩ := HST.out.nd.at
 have nl := HST.out.nd.lt
 clear hU hB hN h hf
 go_enter Tryz.func77, Tryz.ntmps77
 go_upto_region 1 with fail
 rw [← HU.out]
 clear HU
 go_wp2
 clear p1 pl n0 n1 n2 nl
 go_loopw [5, 11] (fun v j wr => ∃ k : Nat, k ≤ 3 ∧ j = .int .i64 k ∧ v = .int .i64 (givS r k f) ∧ Hid (Below U.heap.size U wr)) (fun _ j _ => 3 - (intOf j).toNat)
 case atStart => exact ⟨0, by omega, rfl, rfl, Lib.hid (Below.refl _ _)⟩
 case round =>
  obtain ⟨k, hk, rfl, rfl, HQ⟩ := hrel
  have HS := Lib.hid (HST.out.more HQ.out)
  have HNW := Lib.hid (HN.out.more HQ.out)
  have u0 := HS.out.cell0
  have ul := HS.out.lt
  have p2 := HNW.out.cell (j := 2) rfl
  have pl := HNW.out.lt
  rcases (show k = 0 ∨ k = 1 ∨ k = 2 ∨ k = 3 by omega) with rfl | rfl | rfl | rfl
  ·obtain ⟨r0, hr0⟩ : ∃ r0, givS r 0 f = r0 := ⟨_, rfl⟩
   have hg : givS r (0 + 1) f = if f 0 ≠ 0 then bits .andNot .i64 r0 4 else r0 := by
    show (if f ((0 : Nat) : Int) ≠ 0 then bits .andNot .i64 (givS r 0 f) _ else givS r 0 f) = _
    rw [hr0]
    rfl
   rw [hr0]
   have HR0 := Lib.hid hr0
   clear hr0
   obtain ⟨c, hc⟩ : ∃ c, f 0 = c := ⟨_, rfl⟩
   have hix : ∀ V : World, (Instr.index 210 (.agg #[.int .i64 4, .int .i64 1, .int .i64 2]) (.int .i64 0)).run Tryz.prog V = .ok (.int .i64 4) V := fun V => by kernel_rfl
   have HA1 : Hid (∀ w', Below wr.heap.size wr w' → Calls Tryz.prog 121 #[.pointer (some ⟨m, 0, none⟩), .int .i64 pg, .int .i64 0] w' fun e w'' => e = .returned (.int .i64 c) ∧ Below w'.heap.size w' w'') := Lib.hid fun w' hw' => by
    have := HAL.out 0 w' (HQ.out.trans (hw'.mono HQ.out.size))
    rw [hc] at this
    exact this
   have HM1 : Hid (∀ w', Below wr.heap.size wr w' → Calls Tryz.prog 15 #[.pointer (some ⟨b, 0, none⟩)] w' fun e w'' => e = .returned (.pointer (some ⟨m, 0, none⟩)) ∧ w' = w'') := Lib.hid fun w' hw' => HMP.out w' (HQ.out.trans (hw'.mono HQ.out.size))
   rw [hc] at hg
   have HG := Lib.hid hg
   clear hg hc
   go_upto_region 5 with fail
   clear hix
   apply wp_region_auto [15, 16, 17, 18, 19, 20, 21, 22, 23] [_, _, _, _, _, _, _, _, _] (fun W' => Below wr.heap.size wr W')
   case hm => kernel_rfl
   case hT => intro y; simp only [setAll, List.setIfInBounds_toArray, List.set_cons_succ, List.set_cons_zero]; exact rfl
   case hok => kernel_rfl
   case hn => decide
   case hw => exact (Below.refl _ _).drew
   case hs =>
    refine auto_op 15 [] (by kernel_rfl) (fun y w' HW hd K hK => ?_) ?_
    ·go_simp
     refine hK _ _ ?_ ?_ HW
     ·simp [upd]
     ·exact rfl
    refine auto_op 16 [0] (by kernel_rfl) (fun y w' HW hd K hK => ?_) ?_
    ·have e0 := hd_nth (hd 0 (by simp)) rfl
     go_simp
     refine hK _ _ ?_ ?_ HW
     ·simp [upd, e0]
     ·exact rfl
    refine auto_op 17 [1] (by kernel_rfl) (fun y w' HW hd K hK => ?_) ?_
    ·have e1 := hd_nth (hd 1 (by simp)) rfl
     go_simp
     refine hK _ _ ?_ ?_ HW
     ·simp [upd, e1]
     ·exact rfl
    refine auto_op 18 [2] (by kernel_rfl) (fun y w' HW hd K hK => ?_) ?_
    ·have e2 := hd_nth (hd 2 (by simp)) rfl
     have hcl : ∀ p : Addr, p.block < wr.heap.size → w'.cell? p = wr.cell? p := fun p hp => HW.cell hp
     go_simp
     refine hK _ _ ?_ ?_ HW
     ·simp [upd, e2]
     ·exact rfl
    refine auto_op 19 [3] (by kernel_rfl) (fun y w' HW hd K hK => ?_) ?_
    ·have e3 := hd_nth (hd 3 (by simp)) rfl
     go_simp
     refine (HM1.out _ HW).mono ?_
     rintro e w3 ⟨rfl, rfl⟩
     refine hK _ _ ?_ ?_ HW
     ·simp [upd, e3]
     ·exact rfl
    refine auto_op 20 [] (by kernel_rfl) (fun y w' HW hd K hK => ?_) ?_
    ·go_simp
     refine hK _ _ ?_ ?_ HW
     ·simp [upd]
     ·exact rfl
    refine auto_op 21 [5] (by kernel_rfl) (fun y w' HW hd K hK => ?_) ?_
    ·have e5 := hd_nth (hd 5 (by simp)) rfl
     have hcl : ∀ p : Addr, p.block < wr.heap.size → w'.cell? p = wr.cell? p := fun p hp => HW.cell hp
     go_simp
     refine hK _ _ ?_ ?_ HW
     ·simp [upd, e5]
     ·exact rfl
    refine auto_op 22 [] (by kernel_rfl) (fun y w' HW hd K hK => ?_) ?_
    ·go_simp
     refine hK _ _ ?_ ?_ HW
     ·simp [upd]
     ·exact rfl
    refine auto_op 23 [4, 6, 7, 4] (by kernel_rfl) (fun y w' HW hd K hK => ?_) ?_
    ·have e4 := hd_nth (hd 4 (by simp)) rfl
     have e6 := hd_nth (hd 6 (by simp)) rfl
     have e7 := hd_nth (hd 7 (by simp)) rfl
     go_simp
     refine (HA1.out _ HW).mono ?_
     rintro e w3 ⟨rfl, hb3⟩
     refine hK _ _ ?_ ?_ (HW.trans (hb3.mono HW.size))
     ·simp [upd, e4, e6, e7]
     ·exact rfl
    refine auto_last fun y w' HW hd K hK => ?_
    have e0 := hd_nth (hd 0 (by omega)) rfl
    have e1 := hd_nth (hd 1 (by omega)) rfl
    have e2 := hd_nth (hd 2 (by omega)) rfl
    have e3 := hd_nth (hd 3 (by omega)) rfl
    have e4 := hd_nth (hd 4 (by omega)) rfl
    have e5 := hd_nth (hd 5 (by omega)) rfl
    have e6 := hd_nth (hd 6 (by omega)) rfl
    have e7 := hd_nth (hd 7 (by omega)) rfl
    have e8 := hd_nth (hd 8 (by omega)) rfl
    go_simp
    refine hK _ _ ?_
    clear hd hK K e0 e1 e2 e3 e4 e5 e6 e7 e8
    have HB9 := Lib.hid (HQ.out.trans (HW.mono HQ.out.size))
    clear HW HQ HS HNW HA1 HM1 u0 ul p2 pl
    by_cases h0 : c = 0
    ·have hb0 : (c != 0) = false := by simp [h0]
     have HG2 : Hid (givS r (0 + 1) f = r0) := Lib.hid (by rw [HG.out, if_neg (by simpa using h0)])
     clear h0 HG
     go_wp2
     go_roundw
     case rel => exact ⟨0 + 1, by omega, by first | rfl | (simp; done), by rw [HG2.out], HB9⟩
     case measure => simp [intOf]
    ·have hb0 : (c != 0) = true := by simp [h0]
     have HG2 : Hid (givS r (0 + 1) f = bits .andNot .i64 r0 4) := Lib.hid (by rw [HG.out, if_pos h0])
     clear h0 HG
     go_wp2
     go_roundw
     case rel => exact ⟨0 + 1, by omega, by first | rfl | (simp; done), by rw [HG2.out], HB9⟩
     case measure => simp [intOf]
  ·obtain ⟨r0, hr0⟩ : ∃ r0, givS r 1 f = r0 := ⟨_, rfl⟩
   have hg : givS r (1 + 1) f = if f 1 ≠ 0 then bits .andNot .i64 r0 1 else r0 := by
    show (if f ((1 : Nat) : Int) ≠ 0 then bits .andNot .i64 (givS r 1 f) _ else givS r 1 f) = _
    rw [hr0]
    rfl
   rw [hr0]
   have HR0 := Lib.hid hr0
   clear hr0
   obtain ⟨c, hc⟩ : ∃ c, f 1 = c := ⟨_, rfl⟩
   have hix : ∀ V : World, (Instr.index 210 (.agg #[.int .i64 4, .int .i64 1, .int .i64 2]) (.int .i64 1)).run Tryz.prog V = .ok (.int .i64 1) V := fun V => by kernel_rfl
   have HA1 : Hid (∀ w', Below wr.heap.size wr w' → Calls Tryz.prog 121 #[.pointer (some ⟨m, 0, none⟩), .int .i64 pg, .int .i64 1] w' fun e w'' => e = .returned (.int .i64 c) ∧ Below w'.heap.size w' w'') := Lib.hid fun w' hw' => by
    have := HAL.out 1 w' (HQ.out.trans (hw'.mono HQ.out.size))
    rw [hc] at this
    exact this
   have HM1 : Hid (∀ w', Below wr.heap.size wr w' → Calls Tryz.prog 15 #[.pointer (some ⟨b, 0, none⟩)] w' fun e w'' => e = .returned (.pointer (some ⟨m, 0, none⟩)) ∧ w' = w'') := Lib.hid fun w' hw' => HMP.out w' (HQ.out.trans (hw'.mono HQ.out.size))
   rw [hc] at hg
   have HG := Lib.hid hg
   clear hg hc
   go_upto_region 5 with fail
   clear hix
   apply wp_region_auto [15, 16, 17, 18, 19, 20, 21, 22, 23] [_, _, _, _, _, _, _, _, _] (fun W' => Below wr.heap.size wr W')
   case hm => kernel_rfl
   case hT => intro y; simp only [setAll, List.setIfInBounds_toArray, List.set_cons_succ, List.set_cons_zero]; exact rfl
   case hok => kernel_rfl
   case hn => decide
   case hw => exact (Below.refl _ _).drew
   case hs =>
    refine auto_op 15 [] (by kernel_rfl) (fun y w' HW hd K hK => ?_) ?_
    ·go_simp
     refine hK _ _ ?_ ?_ HW
     ·simp [upd]
     ·exact rfl
    refine auto_op 16 [0] (by kernel_rfl) (fun y w' HW hd K hK => ?_) ?_
    ·have e0 := hd_nth (hd 0 (by simp)) rfl
     go_simp
     refine hK _ _ ?_ ?_ HW
     ·simp [upd, e0]
     ·exact rfl
    refine auto_op 17 [1] (by kernel_rfl) (fun y w' HW hd K hK => ?_) ?_
    ·have e1 := hd_nth (hd 1 (by simp)) rfl
     go_simp
     refine hK _ _ ?_ ?_ HW
     ·simp [upd, e1]
     ·exact rfl
    refine auto_op 18 [2] (by kernel_rfl) (fun y w' HW hd K hK => ?_) ?_
    ·have e2 := hd_nth (hd 2 (by simp)) rfl
     have hcl : ∀ p : Addr, p.block < wr.heap.size → w'.cell? p = wr.cell? p := fun p hp => HW.cell hp
     go_simp
     refine hK _ _ ?_ ?_ HW
     ·simp [upd, e2]
     ·exact rfl
    refine auto_op 19 [3] (by kernel_rfl) (fun y w' HW hd K hK => ?_) ?_
    ·have e3 := hd_nth (hd 3 (by simp)) rfl
     go_simp
     refine (HM1.out _ HW).mono ?_
     rintro e w3 ⟨rfl, rfl⟩
     refine hK _ _ ?_ ?_ HW
     ·simp [upd, e3]
     ·exact rfl
    refine auto_op 20 [] (by kernel_rfl) (fun y w' HW hd K hK => ?_) ?_
    ·go_simp
     refine hK _ _ ?_ ?_ HW
     ·simp [upd]
     ·exact rfl
    refine auto_op 21 [5] (by kernel_rfl) (fun y w' HW hd K hK => ?_) ?_
    ·have e5 := hd_nth (hd 5 (by simp)) rfl
     have hcl : ∀ p : Addr, p.block < wr.heap.size → w'.cell? p = wr.cell? p := fun p hp => HW.cell hp
     go_simp
     refine hK _ _ ?_ ?_ HW
     ·simp [upd, e5]
     ·exact rfl
    refine auto_op 22 [] (by kernel_rfl) (fun y w' HW hd K hK => ?_) ?_
    ·go_simp
     refine hK _ _ ?_ ?_ HW
     ·simp [upd]
     ·exact rfl
    refine auto_op 23 [4, 6, 7, 4] (by kernel_rfl) (fun y w' HW hd K hK => ?_) ?_
    ·have e4 := hd_nth (hd 4 (by simp)) rfl
     have e6 := hd_nth (hd 6 (by simp)) rfl
     have e7 := hd_nth (hd 7 (by simp)) rfl
     go_simp
     refine (HA1.out _ HW).mono ?_
     rintro e w3 ⟨rfl, hb3⟩
     refine hK _ _ ?_ ?_ (HW.trans (hb3.mono HW.size))
     ·simp [upd, e4, e6, e7]
     ·exact rfl
    refine auto_last fun y w' HW hd K hK => ?_
    have e0 := hd_nth (hd 0 (by omega)) rfl
    have e1 := hd_nth (hd 1 (by omega)) rfl
    have e2 := hd_nth (hd 2 (by omega)) rfl
    have e3 := hd_nth (hd 3 (by omega)) rfl
    have e4 := hd_nth (hd 4 (by omega)) rfl
    have e5 := hd_nth (hd 5 (by omega)) rfl
    have e6 := hd_nth (hd 6 (by omega)) rfl
    have e7 := hd_nth (hd 7 (by omega)) rfl
    have e8 := hd_nth (hd 8 (by omega)) rfl
    go_simp
    refine hK _ _ ?_
    clear hd hK K e0 e1 e2 e3 e4 e5 e6 e7 e8
    have HB9 := Lib.hid (HQ.out.trans (HW.mono HQ.out.size))
    clear HW HQ HS HNW HA1 HM1 u0 ul p2 pl
    by_cases h0 : c = 0
    ·have hb0 : (c != 0) = false := by simp [h0]
     have HG2 : Hid (givS r (1 + 1) f = r0) := Lib.hid (by rw [HG.out, if_neg (by simpa using h0)])
     clear h0 HG
     go_wp2
     go_roundw
     case rel => exact ⟨1 + 1, by omega, by first | rfl | (simp; done), by rw [HG2.out], HB9⟩
     case measure => simp [intOf]
    ·have hb0 : (c != 0) = true := by simp [h0]
     have HG2 : Hid (givS r (1 + 1) f = bits .andNot .i64 r0 1) := Lib.hid (by rw [HG.out, if_pos h0])
     clear h0 HG
     go_wp2
     go_roundw
     case rel => exact ⟨1 + 1, by omega, by first | rfl | (simp; done), by rw [HG2.out], HB9⟩
     case measure => simp [intOf]
  ·obtain ⟨r0, hr0⟩ : ∃ r0, givS r 2 f = r0 := ⟨_, rfl⟩
   have hg : givS r (2 + 1) f = if f 2 ≠ 0 then bits .andNot .i64 r0 2 else r0 := by
    show (if f ((2 : Nat) : Int) ≠ 0 then bits .andNot .i64 (givS r 2 f) _ else givS r 2 f) = _
    rw [hr0]
    rfl
   rw [hr0]
   have HR0 := Lib.hid hr0
   clear hr0
   obtain ⟨c, hc⟩ : ∃ c, f 2 = c := ⟨_, rfl⟩
   have hix : ∀ V : World, (Instr.index 210 (.agg #[.int .i64 4, .int .i64 1, .int .i64 2]) (.int .i64 2)).run Tryz.prog V = .ok (.int .i64 2) V := fun V => by kernel_rfl
   have HA1 : Hid (∀ w', Below wr.heap.size wr w' → Calls Tryz.prog 121 #[.pointer (some ⟨m, 0, none⟩), .int .i64 pg, .int .i64 2] w' fun e w'' => e = .returned (.int .i64 c) ∧ Below w'.heap.size w' w'') := Lib.hid fun w' hw' => by
    have := HAL.out 2 w' (HQ.out.trans (hw'.mono HQ.out.size))
    rw [hc] at this
    exact this
   have HM1 : Hid (∀ w', Below wr.heap.size wr w' → Calls Tryz.prog 15 #[.pointer (some ⟨b, 0, none⟩)] w' fun e w'' => e = .returned (.pointer (some ⟨m, 0, none⟩)) ∧ w' = w'') := Lib.hid fun w' hw' => HMP.out w' (HQ.out.trans (hw'.mono HQ.out.size))
   rw [hc] at hg
   have HG := Lib.hid hg
   clear hg hc
   go_upto_region 5 with fail
   clear hix
   apply wp_region_auto [15, 16, 17, 18, 19, 20, 21, 22, 23] [_, _, _, _, _, _, _, _, _] (fun W' => Below wr.heap.size wr W')
   case hm => kernel_rfl
   case hT => intro y; simp only [setAll, List.setIfInBounds_toArray, List.set_cons_succ, List.set_cons_zero]; exact rfl
   case hok => kernel_rfl
   case hn => decide
   case hw => exact (Below.refl _ _).drew
   case hs =>
    refine auto_op 15 [] (by kernel_rfl) (fun y w' HW hd K hK => ?_) ?_
    ·go_simp
     refine hK _ _ ?_ ?_ HW
     ·simp [upd]
     ·exact rfl
    refine auto_op 16 [0] (by kernel_rfl) (fun y w' HW hd K hK => ?_) ?_
    ·have e0 := hd_nth (hd 0 (by simp)) rfl
     go_simp
     refine hK _ _ ?_ ?_ HW
     ·simp [upd, e0]
     ·exact rfl
    refine auto_op 17 [1] (by kernel_rfl) (fun y w' HW hd K hK => ?_) ?_
    ·have e1 := hd_nth (hd 1 (by simp)) rfl
     go_simp
     refine hK _ _ ?_ ?_ HW
     ·simp [upd, e1]
     ·exact rfl
    refine auto_op 18 [2] (by kernel_rfl) (fun y w' HW hd K hK => ?_) ?_
    ·have e2 := hd_nth (hd 2 (by simp)) rfl
     have hcl : ∀ p : Addr, p.block < wr.heap.size → w'.cell? p = wr.cell? p := fun p hp => HW.cell hp
     go_simp
     refine hK _ _ ?_ ?_ HW
     ·simp [upd, e2]
     ·exact rfl
    refine auto_op 19 [3] (by kernel_rfl) (fun y w' HW hd K hK => ?_) ?_
    ·have e3 := hd_nth (hd 3 (by simp)) rfl
     go_simp
     refine (HM1.out _ HW).mono ?_
     rintro e w3 ⟨rfl, rfl⟩
     refine hK _ _ ?_ ?_ HW
     ·simp [upd, e3]
     ·exact rfl
    refine auto_op 20 [] (by kernel_rfl) (fun y w' HW hd K hK => ?_) ?_
    ·go_simp
     refine hK _ _ ?_ ?_ HW
     ·simp [upd]
     ·exact rfl
    refine auto_op 21 [5] (by kernel_rfl) (fun y w' HW hd K hK => ?_) ?_
    ·have e5 := hd_nth (hd 5 (by simp)) rfl
     have hcl : ∀ p : Addr, p.block < wr.heap.size → w'.cell? p = wr.cell? p := fun p hp => HW.cell hp
     go_simp
     refine hK _ _ ?_ ?_ HW
     ·simp [upd, e5]
     ·exact rfl
    refine auto_op 22 [] (by kernel_rfl) (fun y w' HW hd K hK => ?_) ?_
    ·go_simp
     refine hK _ _ ?_ ?_ HW
     ·simp [upd]
     ·exact rfl
    refine auto_op 23 [4, 6, 7, 4] (by kernel_rfl) (fun y w' HW hd K hK => ?_) ?_
    ·have e4 := hd_nth (hd 4 (by simp)) rfl
     have e6 := hd_nth (hd 6 (by simp)) rfl
     have e7 := hd_nth (hd 7 (by simp)) rfl
     go_simp
     refine (HA1.out _ HW).mono ?_
     rintro e w3 ⟨rfl, hb3⟩
     refine hK _ _ ?_ ?_ (HW.trans (hb3.mono HW.size))
     ·simp [upd, e4, e6, e7]
     ·exact rfl
    refine auto_last fun y w' HW hd K hK => ?_
    have e0 := hd_nth (hd 0 (by omega)) rfl
    have e1 := hd_nth (hd 1 (by omega)) rfl
    have e2 := hd_nth (hd 2 (by omega)) rfl
    have e3 := hd_nth (hd 3 (by omega)) rfl
    have e4 := hd_nth (hd 4 (by omega)) rfl
    have e5 := hd_nth (hd 5 (by omega)) rfl
    have e6 := hd_nth (hd 6 (by omega)) rfl
    have e7 := hd_nth (hd 7 (by omega)) rfl
    have e8 := hd_nth (hd 8 (by omega)) rfl
    go_simp
    refine hK _ _ ?_
    clear hd hK K e0 e1 e2 e3 e4 e5 e6 e7 e8
    have HB9 := Lib.hid (HQ.out.trans (HW.mono HQ.out.size))
    clear HW HQ HS HNW HA1 HM1 u0 ul p2 pl
    by_cases h0 : c = 0
    ·have hb0 : (c != 0) = false := by simp [h0]
     have HG2 : Hid (givS r (2 + 1) f = r0) := Lib.hid (by rw [HG.out, if_neg (by simpa using h0)])
     clear h0 HG
     go_wp2
     go_roundw
     case rel => exact ⟨2 + 1, by omega, by first | rfl | (simp; done), by rw [HG2.out], HB9⟩
     case measure => simp [intOf]
    ·have hb0 : (c != 0) = true := by simp [h0]
     have HG2 : Hid (givS r (2 + 1) f = bits .andNot .i64 r0 2) := Lib.hid (by rw [HG.out, if_pos h0])
     clear h0 HG
     go_wp2
     go_roundw
     case rel => exact ⟨2 + 1, by omega, by first | rfl | (simp; done), by rw [HG2.out], HB9⟩
     case measure => simp [intOf]
  ·have HE : Hid (Below W.heap.size W wr) := Lib.hid (HB.out.trans (HQ.out.mono HB.out.size))
   clear u0 ul p2 pl HS HNW
   go_wp2
   go_ret
   exact ⟨rfl, HE.out⟩
end
end Go.Proofs.YteaincdeoajkeaaGreatDoor.Mm
end
section
/- Package mmu: walked. -/
namespace Go.Proofs.YteaincdeoajkeaaGreatDoor.Mm
open Go.RowKit Go.Shelf Ut Oc Vw Wa
open Sw (Ln tabL ownP fillS findS entS toldS Inv19 ErW)
open Sb (Rc findL withoutL entF entV)
set_option linter.unusedVariables false
set_option maxRecDepth 100000
set_option maxHeartbeats 8000000

section
variable {P : Program}
theorem step_runw {w w' : World} {ops : Array Oper} {o : Oper} {a : Act} {K : Act → World → Prop} {Q : Exit → Act → World → Prop} {E : Prop} (hw : Region.wanted o (yielded ops a.tmps) = true) (v : Value) (hrun : (execOp a.eval o).run P w = .ok (.value v) w')
  (h : K (a.put o.dst v) w') : if Region.wanted o (yielded ops a.tmps) = true then Oper.wp P o a w K Q else E := by
 rw [if_pos hw]
 unfold Oper.wp
 rw [hrun, Oper.upon_value]
 exact h
end
theorem r_bound (n : Nat) (S : List Int) (L : List Gm.Pl) (p z : Int) : 0 ≤ (walkF n S L p z).r ∧ (walkF n S L p z).r < 16 := by
 have h4 : 0 ≤ (st4 n S L p z).r ∧ (st4 n S L p z).r < 16 := by
  unfold st4 Pe.rF Pe.rOf
  dsimp only
  split
  ·omega
  ·omega
 unfold walkF st1 st2 st3
 by_cases c1 : 16384 ≤ z
 ·rw [if_pos c1]; exact ⟨Int.le_refl 0, show (0 : Int) < 16 by decide⟩
 rw [if_neg c1]
 by_cases c2 : noneF n L p ≠ 0
 ·rw [if_pos c2]; exact ⟨Int.le_refl 0, show (0 : Int) < 16 by decide⟩
 rw [if_neg c2]
 by_cases c3 : rootF n S L p z ≠ 0
 ·rw [if_pos c3]; exact ⟨Int.le_refl 0, show (0 : Int) < 16 by decide⟩
 rw [if_neg c3]
 by_cases c4 : noneF n L (rootT n S L p z) ≠ 0
 ·rw [if_pos c4]; exact ⟨Int.le_refl 0, show (0 : Int) < 16 by decide⟩
 rw [if_neg c4]
 exact h4
/-- what a look by tables that finds something says -/
theorem loc_zero {S : List Int} {L : List Gm.Pl} {rt z k : Int} {us : Bool} (h0 : 0 ≤ z) (h : (locF 12 S L true rt us z k).2 = 0) : (walkF 12 S L rt z).f = 0 ∧ Pe.alwB true (walkF 12 S L rt z).r k us = true ∧ TrW S L rt (z / 64) (walkF 12 S L rt z).rt (walkF 12 S L rt z).lf (walkF 12 S L rt z).r (walkF 12 S L rt z).g ∧ ownP (walkF 12 S L rt z).rt = true ∧ ownP (walkF 12 S L rt z).lf = true ∧ (walkF 12 S L rt z).o = true := by
 unfold locF at h
 rw [if_neg (by decide)] at h
 by_cases c1 : (walkF 12 S L rt z).f ≠ 0
 ·rw [if_pos c1] at h
  exact absurd h c1
 have c1 := Decidable.not_not.1 c1
 rw [if_neg (fun e => e c1)] at h
 have ht := trW_of S L rt z h0 c1
 have ho : (walkF 12 S L rt z).o = true := by
  have := ht.w
  rw [← walk_page S L rt z h0] at this
  rw [this]
 obtain ⟨e1, t1, t2, _⟩ := ht.tables
 have own : ∀ p, hasT 12 L p = true → ownP p = true := fun p hp => by
  have := hasT_bd hp
  unfold ownP
  simp
  omega
 refine ⟨c1, ?_, ht, own _ t1, own _ t2, ho⟩
 rw [ho] at h
 cases ha : Pe.alwB true (walkF 12 S L rt z).r k us with
 | true => rfl
 | false => rw [if_pos ha] at h; exact absurd h (by decide)
section
variable {W w w' : World} {u t g b s m : Nat} {S : List Int} {LM : List Gm.Pl} {D : List Bool} {l l' : List Ln} {q q' : List Rc} {Y : List Gm.Pl} {on us : Bool} {rt z k : Int}
theorem RM.keep (h : RM W w u t g b s m S LM D l q Y on rt us z k) (hk : Kq [t, g] w w') (hs : ST w' u t g b s m S LM D l' q' Y) : RM W w' u t g b s m S LM D l' q' Y on rt us z k := by
 have h1 := h.lo t (by simp)
 have h2 := h.lo g (by simp)
 exact ⟨h.kq.trans hk, hs, h.ab.kq hk (fun x hx => by simp at hx; omega), h.lo⟩
/-- what walked leaves -/
def WkR (W : World) (u t g b s m : Nat) (S : List Int) (LM : List Gm.Pl) (D : List Bool) (l : List Ln) (q : List Rc) (Y : List Gm.Pl) (rt z c : Int) (h : Int × Int × Int) : Prop := ∃ l' q', ST W u t g b s m S LM D l' q' Y ∧ (c ≠ 0 → l' = l ∧ q' = q) ∧
 (c = 0 → l' = fillS l ⟨rt, z / 64, h.1, h.2.1, giv (walkF 12 S LM rt z).r (fun k => Gm.alwF (Gm.atP LM (walkF 12 S LM rt z).g) (walkF 12 S LM rt z).g k), (walkF 12 S LM rt z).rt, (walkF 12 S LM rt z).lf⟩ ∧ KeepQ l' rt (z / 64) (narAll q (toldS l (walkF 12 S LM rt z).rt (walkF 12 S LM rt z).lf 8)) q')
theorem walked20_any (us : Bool) (rt z k c : Int) (h : Int × Int × Int) (h0 : 0 ≤ z) (h1 : z < 4294967296) (hc : (locF 12 S LM true rt us z k).2 = c) (hh : (locF 12 S LM true rt us z k).1 = h) (hI : Inv19 l) (hE : ErW l) (hst : ST W u t g b s m S LM D l q Y) :
  Calls Tryz.prog 41 #[.pointer (some ⟨u, 0, none⟩), accV true rt us z k] W fun e w' => e = .returned (.tuple #[hitX h false, .int .i64 c]) ∧ Hid (WkR w' u t g b s m S LM D l q Y rt z c h) ∧ Kq [t, g] W w' := by
 obtain ⟨U, hU⟩ : ∃ U, U = (W.alloc (.cells #[.bool true, .int .i64 rt, .bool us, .int .u32 z, .int .i64 k] 105)).alloc (.cells #[.int .i64 0, .int .i64 0, .int .i64 0, .bool false] 36) := ⟨_, rfl⟩
 have hrm : RM W U u t g b s m S LM D l q Y true rt us z k := by rw [hU]; exact RM.new hst
 have HU := Lib.hid hU
 have HRM := Lib.hid hrm
 have HKY : Hid (∀ w, Calls Tryz.prog 72 #[accV true rt us z k] w fun e w' => e = .returned (.agg #[.int .i64 rt, .int .i64 (z / 64)]) ∧ Below w.heap.size w w') := Lib.hid (key20_any true us rt z k h0 h1)
 have HFN : Hid (∀ w', RM W w' u t g b s m S LM D l q Y true rt us z k → Calls Tryz.prog 38 #[.pointer (some ⟨b, 0, none⟩), .agg #[.bool true, .int .i64 rt, .bool us], .int .u32 z, .int .i64 k] w' fun e w'' => e = .returned (.tuple #[hitV h, .int .i64 c]) ∧ Below w'.heap.size w' w'') := Lib.hid fun w' hw' => Wa.find_any true us rt z k c h h0 h1 hc hh w' hw'.st.pv
 have HLZ : Hid (c = 0 → (walkF 12 S LM rt z).f = 0 ∧ Pe.alwB true (walkF 12 S LM rt z).r k us = true ∧ TrW S LM rt (z / 64) (walkF 12 S LM rt z).rt (walkF 12 S LM rt z).lf (walkF 12 S LM rt z).r (walkF 12 S LM rt z).g ∧ ownP (walkF 12 S LM rt z).rt = true ∧ ownP (walkF 12 S LM rt z).lf = true ∧ (walkF 12 S LM rt z).o = true) := Lib.hid fun e => loc_zero h0 (hc.trans e)
 have HII := Lib.hid hI
 have HEE := Lib.hid hE
 have HZ0 := Lib.hid h0
 have HZ1 := Lib.hid h1
 clear hU hrm hst hc hh hI hE
 unfold hitV at HFN
 obtain ⟨x0, x1, x2⟩ := h
 dsimp only at HFN
 go_enter Tryz.func41, Tryz.ntmps41
 generalize hQQ : bodyPost _ _ _ = QQ
 have HQQ := Lib.hid hQQ
 clear hQQ
 go_upto_region 1 with fail
 rw [← HU.out]
 clear HU
 apply wp_region_x [10, 11, 12, 13, 14, 15, 16, 17, 18, 19, 20, 9, 21, 22, 6, 120] [_, _, _, _, _, _, _, _, _, _, _, _, _, _, undef, undef] [14] (fun L_ x_ W' => RM W W' u t g b s m S LM D l q Y true rt us z k ∧ NewB (W.heap.size + 2) 14 15 36 [.int .i64 0, .int .i64 0, .int .i64 0, .bool false] [.int .i64 x0, .int .i64 x1, .int .i64 x2, .bool false] L_ x_ W')
 case hm => kernel_rfl
 case hT => intro y; simp only [setAll, List.setIfInBounds_toArray, List.set_cons_succ, List.set_cons_zero, List.set_nil]; exact rfl
 case hok => kernel_rfl
 case hn => decide
 case hw => exact (fun L_ x_ h0 => ⟨HRM.out.more ((Below.refl _ _).drew), NewB.no (h0 14 (by decide))⟩)
 case hs =>
  refine x_op 10 [] (by kernel_rfl) (fun L y w' hL hC HW hd K hK => ?_) ?_
  ·go_simp
   refine hK _ _ ?_ ?_ HW
   ·simp [upd]
   ·exact rfl
  refine x_op 11 [0] (by kernel_rfl) (fun L y w' hL hC HW hd K hK => ?_) ?_
  ·have e0 := xR_nth (hd 0 (by simp)).2 rfl rfl
   go_simp
   refine hK _ _ ?_ ?_ HW
   ·simp [upd, e0]
   ·exact rfl
  refine x_op 12 [1] (by kernel_rfl) (fun L y w' hL hC HW hd K hK => ?_) ?_
  ·have e1 := xR_nth (hd 1 (by simp)).2 rfl rfl
   go_simp
   refine hK _ _ ?_ ?_ HW
   ·simp [upd, e1]
   ·exact rfl
  refine x_op 13 [2] (by kernel_rfl) (fun L y w' hL hC HW hd K hK => ?_) ?_
  ·have e2 := xR_nth (hd 2 (by simp)).2 rfl rfl
   have u0 := HW.1.st.cell0
   have ul := HW.1.st.lt
   go_simp
   refine hK _ _ ?_ ?_ HW
   ·simp [upd, e2]
   ·exact rfl
  refine x_op 14 [] (by kernel_rfl) (fun L y w' hL hC HW hd K hK => ?_) ?_
  ·go_simp
   refine hK _ _ ?_ ?_ HW
   ·simp [upd]
   ·exact rfl
  refine x_op 15 [4] (by kernel_rfl) (fun L y w' hL hC HW hd K hK => ?_) ?_
  ·have e4 := xR_nth (hd 4 (by simp)).2 rfl rfl
   have ha := HW.1.ab.ac
   have a0 := ha.cell (j := 0) rfl
   have a1 := ha.cell (j := 1) rfl
   have a2 := ha.cell (j := 2) rfl
   have a3 := ha.cell (j := 3) rfl
   have a4 := ha.cell (j := 4) rfl
   have al := ha.lt
   go_simp
   refine hK _ _ ?_ ?_ HW
   ·simp [upd, e4]
   ·exact rfl
  refine x_op 16 [] (by kernel_rfl) (fun L y w' hL hC HW hd K hK => ?_) ?_
  ·go_simp
   refine hK _ _ ?_ ?_ HW
   ·simp [upd]
   ·exact rfl
  refine x_op 17 [6] (by kernel_rfl) (fun L y w' hL hC HW hd K hK => ?_) ?_
  ·have e6 := xR_nth (hd 6 (by simp)).2 rfl rfl
   have ha := HW.1.ab.ac
   have a0 := ha.cell (j := 0) rfl
   have a1 := ha.cell (j := 1) rfl
   have a2 := ha.cell (j := 2) rfl
   have a3 := ha.cell (j := 3) rfl
   have a4 := ha.cell (j := 4) rfl
   have al := ha.lt
   go_simp
   refine hK _ _ ?_ ?_ HW
   ·simp [upd, e6]
   ·exact rfl
  refine x_op 18 [] (by kernel_rfl) (fun L y w' hL hC HW hd K hK => ?_) ?_
  ·go_simp
   refine hK _ _ ?_ ?_ HW
   ·simp [upd]
   ·exact rfl
  refine x_op 19 [8] (by kernel_rfl) (fun L y w' hL hC HW hd K hK => ?_) ?_
  ·have e8 := xR_nth (hd 8 (by simp)).2 rfl rfl
   have ha := HW.1.ab.ac
   have a0 := ha.cell (j := 0) rfl
   have a1 := ha.cell (j := 1) rfl
   have a2 := ha.cell (j := 2) rfl
   have a3 := ha.cell (j := 3) rfl
   have a4 := ha.cell (j := 4) rfl
   have al := ha.lt
   go_simp
   refine hK _ _ ?_ ?_ HW
   ·simp [upd, e8]
   ·exact rfl
  refine x_op 20 [3, 5, 7, 9] (by kernel_rfl) (fun L y w' hL hC HW hd K hK => ?_) ?_
  ·have e3 := xR_nth (hd 3 (by simp)).2 rfl rfl
   have e5 := xR_nth (hd 5 (by simp)).2 rfl rfl
   have e7 := xR_nth (hd 7 (by simp)).2 rfl rfl
   have e9 := xR_nth (hd 9 (by simp)).2 rfl rfl
   go_simp
   refine (HFN.out _ HW.1).mono ?_
   rintro e w3 ⟨rfl, hb3⟩
   refine hK _ _ ?_ ?_ ⟨HW.1.more hb3, HW.2.kq (Kq.of_below (T := []) hb3) (by simp) rfl rfl rfl⟩
   ·simp [upd, e3, e5, e7, e9]
   ·exact rfl
  refine x_op 9 [10] (by kernel_rfl) (fun L y w' hL hC HW hd K hK => ?_) ?_
  ·have e10 := xR_nth (hd 10 (by simp)).2 rfl rfl
   go_simp
   refine hK _ _ ?_ ?_ HW
   ·simp [upd, e10]
   ·exact rfl
  refine x_op 21 [11] (by kernel_rfl) (fun L y w' hL hC HW hd K hK => ?_) ?_
  ·have e11 := xR_nth (hd 11 (by simp)).2 rfl rfl
   go_simp
   refine hK _ _ ?_ ?_ HW
   ·simp [upd, e11]
   ·exact rfl
  refine x_op 22 [11] (by kernel_rfl) (fun L y w' hL hC HW hd K hK => ?_) ?_
  ·have e11 := xR_nth (hd 11 (by simp)).2 rfl rfl
   go_simp
   refine hK _ _ ?_ ?_ HW
   ·simp [upd, e11]
   ·exact rfl
  refine x_one 6 [] (by kernel_rfl) rfl (fun L y w' hL hC HW hd K hK => ?_) ?_
  ·go_simp
   refine hK _ _ ?_ ⟨HW.1.more ((Below.refl _ _).alloc (Nat.le_refl _) _), NewB.made (hC.not' 15 14 (by kernel_rfl) hL) rfl HW.1.sz rfl⟩
   ·simp [upd]
  refine x_op 120 [14, 12, 10, 0, 1, 2, 3, 4, 5, 6, 7, 8, 9, 10, 11, 12, 14] (by kernel_rfl) (fun L y w' hL hC HW hd K hK => ?_) ?_
  ·have e0 := xR_nth (hd 0 (by simp)).2 rfl rfl
   have e1 := xR_nth (hd 1 (by simp)).2 rfl rfl
   have e2 := xR_nth (hd 2 (by simp)).2 rfl rfl
   have e3 := xR_nth (hd 3 (by simp)).2 rfl rfl
   have e4 := xR_nth (hd 4 (by simp)).2 rfl rfl
   have e5 := xR_nth (hd 5 (by simp)).2 rfl rfl
   have e6 := xR_nth (hd 6 (by simp)).2 rfl rfl
   have e7 := xR_nth (hd 7 (by simp)).2 rfl rfl
   have e8 := xR_nth (hd 8 (by simp)).2 rfl rfl
   have e9 := xR_nth (hd 9 (by simp)).2 rfl rfl
   have e10 := xR_nth (hd 10 (by simp)).2 rfl rfl
   have e11 := xR_nth (hd 11 (by simp)).2 rfl rfl
   have e12 := xR_nth (hd 12 (by simp)).2 rfl rfl
   have hl14 := (hd 14 (by simp)).1
   obtain ⟨pb, e14, hp10, hb10⟩ := HW.2 hl14
   rw [hL] at hb10
   have z0 := hb10.cell (j := 0) rfl
   have z1 := hb10.cell (j := 1) rfl
   have z2 := hb10.cell (j := 2) rfl
   have z3 := hb10.cell (j := 3) rfl
   have y0 := hb10.frozen 0
   have y1 := hb10.frozen 1
   have y2 := hb10.frozen 2
   have y3 := hb10.frozen 3
   have zl := hb10.lt
   go_simp
   refine hK _ _ ?_ ?_ ⟨(((HW.1.cell pb 0 _ hp10).cell pb 1 _ hp10).cell pb 2 _ hp10).cell pb 3 _ hp10, NewB.put rfl e14 hp10 ((((hb10.set 0 (.int .i64 x0)).set 1 (.int .i64 x1)).set 2 (.int .i64 x2)).set 3 (.bool false))⟩
   ·simp [upd, e0, e1, e2, e3, e4, e5, e6, e7, e8, e9, e10, e11, e12, e14]
   ·exact rfl
  refine x_last fun L y w' hLs HW hd K hK => ?_
  have e0 := xR_nth (hd 0 (by omega)) rfl rfl
  have e1 := xR_nth (hd 1 (by omega)) rfl rfl
  have e2 := xR_nth (hd 2 (by omega)) rfl rfl
  have e3 := xR_nth (hd 3 (by omega)) rfl rfl
  have e4 := xR_nth (hd 4 (by omega)) rfl rfl
  have e5 := xR_nth (hd 5 (by omega)) rfl rfl
  have e6 := xR_nth (hd 6 (by omega)) rfl rfl
  have e7 := xR_nth (hd 7 (by omega)) rfl rfl
  have e8 := xR_nth (hd 8 (by omega)) rfl rfl
  have e9 := xR_nth (hd 9 (by omega)) rfl rfl
  have e10 := xR_nth (hd 10 (by omega)) rfl rfl
  have e11 := xR_nth (hd 11 (by omega)) rfl rfl
  have e12 := xR_nth (hd 12 (by omega)) rfl rfl
  have e13 := xR_nth (hd 13 (by omega)) rfl rfl
  obtain ⟨pb, e14, hp10, hb10⟩ := HW.2 (hLs 14 (by decide))
  rw [hLs 15 (by decide)] at hb10
  have HR9 := Lib.hid HW.1
  have HE9 := Lib.hid hb10
  have HP9 := Lib.hid hp10
  go_simp
  refine hK _ _ ?_
  clear hd hK K HW hLs
  clear hp10 hb10 HFN HRM
  by_cases hc0 : c = 0
  ·subst hc0
   obtain ⟨R, hR⟩ : ∃ R, walkF 12 S LM rt z = R := ⟨_, rfl⟩
   have hlz := HLZ.out rfl
   rw [hR] at hlz
   have HWK : Hid (∀ V', Below w'.heap.size w' V' → Calls Tryz.prog 69 #[.pointer (some ⟨b, 0, none⟩), .int .i64 rt, .int .u32 z] V' fun e w'' => e = .returned R.v ∧ Below V'.heap.size V' w'') := Lib.hid fun V' hV' => Wa.walk_any rt z R HZ0.out HZ1.out hR V' (HR9.out.more hV').st.pv
   have HRR := Lib.hid hR
   clear hR HLZ
   have HLZ := Lib.hid hlz
   clear hlz
   go_upto_region 3 with fail
   obtain ⟨V, hV⟩ : ∃ V, V = w' := ⟨_, rfl⟩
   rw [← hV] at HR9 HE9 HWK ⊢
   clear hV
   apply wp_region_xa [25, 26, 27, 28, 29, 30, 31, 32, 33, 34, 8, 120] [_, _, _, _, _, _, _, _, _, _, undef, undef] [10] (fun L_ x_ W' => Below V.heap.size V W' ∧ NewB V.heap.size 10 11 114 stz.cs R.cs L_ x_ W')
   case hm => kernel_rfl
   case hT => intro y; simp only [setAll, List.setIfInBounds_toArray, List.set_cons_succ, List.set_cons_zero, List.set_nil]; exact rfl
   case hok => kernel_rfl
   case hw => exact (fun L_ x_ h0 => ⟨(Below.refl _ _).drew, NewB.no (h0 10 (by decide))⟩)
   case hs =>
    refine xa_op 25 [] (by kernel_rfl) (fun L y w' hL hC HW hd K hK => ?_) ?_
    ·go_simp
     refine hK _ _ ?_ ?_ HW
     ·simp [upd]
     ·exact rfl
    refine xa_op 26 [0] (by kernel_rfl) (fun L y w' hL hC HW hd K hK => ?_) ?_
    ·have e0 := xR_nth (hd 0 (by simp)).2 rfl rfl
     go_simp
     refine hK _ _ ?_ ?_ HW
     ·simp [upd, e0]
     ·exact rfl
    refine xa_op 27 [1] (by kernel_rfl) (fun L y w' hL hC HW hd K hK => ?_) ?_
    ·have e1 := xR_nth (hd 1 (by simp)).2 rfl rfl
     go_simp
     refine hK _ _ ?_ ?_ HW
     ·simp [upd, e1]
     ·exact rfl
    refine xa_op 28 [2] (by kernel_rfl) (fun L y w' hL hC HW hd K hK => ?_) ?_
    ·have e2 := xR_nth (hd 2 (by simp)).2 rfl rfl
     have u0 := (HR9.out.more HW.1).st.cell0
     have ul := (HR9.out.more HW.1).st.lt
     go_simp
     refine hK _ _ ?_ ?_ HW
     ·simp [upd, e2]
     ·exact rfl
    refine xa_op 29 [] (by kernel_rfl) (fun L y w' hL hC HW hd K hK => ?_) ?_
    ·go_simp
     refine hK _ _ ?_ ?_ HW
     ·simp [upd]
     ·exact rfl
    refine xa_op 30 [4] (by kernel_rfl) (fun L y w' hL hC HW hd K hK => ?_) ?_
    ·have e4 := xR_nth (hd 4 (by simp)).2 rfl rfl
     go_simp
     refine hK _ _ ?_ ?_ HW
     ·simp [upd, e4]
     ·exact rfl
    refine xa_op 31 [5] (by kernel_rfl) (fun L y w' hL hC HW hd K hK => ?_) ?_
    ·have e5 := xR_nth (hd 5 (by simp)).2 rfl rfl
     have ha := (HR9.out.more HW.1).ab.ac
     have a0 := ha.cell (j := 0) rfl
     have a1 := ha.cell (j := 1) rfl
     have a2 := ha.cell (j := 2) rfl
     have a3 := ha.cell (j := 3) rfl
     have a4 := ha.cell (j := 4) rfl
     have al := ha.lt
     go_simp
     refine hK _ _ ?_ ?_ HW
     ·simp [upd, e5]
     ·exact rfl
    refine xa_op 32 [] (by kernel_rfl) (fun L y w' hL hC HW hd K hK => ?_) ?_
    ·go_simp
     refine hK _ _ ?_ ?_ HW
     ·simp [upd]
     ·exact rfl
    refine xa_op 33 [7] (by kernel_rfl) (fun L y w' hL hC HW hd K hK => ?_) ?_
    ·have e7 := xR_nth (hd 7 (by simp)).2 rfl rfl
     have ha := (HR9.out.more HW.1).ab.ac
     have a0 := ha.cell (j := 0) rfl
     have a1 := ha.cell (j := 1) rfl
     have a2 := ha.cell (j := 2) rfl
     have a3 := ha.cell (j := 3) rfl
     have a4 := ha.cell (j := 4) rfl
     have al := ha.lt
     go_simp
     refine hK _ _ ?_ ?_ HW
     ·simp [upd, e7]
     ·exact rfl
    refine xa_op 34 [3, 6, 8] (by kernel_rfl) (fun L y w' hL hC HW hd K hK => ?_) ?_
    ·have e3 := xR_nth (hd 3 (by simp)).2 rfl rfl
     have e6 := xR_nth (hd 6 (by simp)).2 rfl rfl
     have e8 := xR_nth (hd 8 (by simp)).2 rfl rfl
     go_simp
     refine (HWK.out _ HW.1).mono ?_
     rintro e w3 ⟨rfl, hb3⟩
     refine hK _ _ ?_ ?_ ⟨HW.1.trans (hb3.mono HW.1.size), HW.2.kq (Kq.of_below (T := []) hb3) (by simp) rfl rfl rfl⟩
     ·simp [upd, e3, e6, e8]
     ·exact rfl
    refine xa_one 8 [] (by kernel_rfl) rfl (fun L y w' hL hC HW hd K hK => ?_) ?_
    ·refine step_runw (a := ⟨_, _⟩) (by kernel_rfl) (.pointer (some ⟨w'.heap.size, 0, none⟩)) ((step_run w').out _ _ rfl _ rfl) ?_
     refine hK _ _ ?_ ⟨HW.1.trans (((Below.refl _ _).alloc (Nat.le_refl _) _).mono HW.1.size), NewB.made (hC.not' 11 10 (by kernel_rfl) hL) rfl HW.1.size rfl⟩
     ·simp [upd]
    refine xa_op 120 [10, 9, 9, 0, 1, 2, 3, 4, 5, 6, 7, 8, 9, 10] (by kernel_rfl) (fun L y w' hL hC HW hd K hK => ?_) ?_
    ·have e0 := xR_nth (hd 0 (by simp)).2 rfl rfl
     have e1 := xR_nth (hd 1 (by simp)).2 rfl rfl
     have e2 := xR_nth (hd 2 (by simp)).2 rfl rfl
     have e3 := xR_nth (hd 3 (by simp)).2 rfl rfl
     have e4 := xR_nth (hd 4 (by simp)).2 rfl rfl
     have e5 := xR_nth (hd 5 (by simp)).2 rfl rfl
     have e6 := xR_nth (hd 6 (by simp)).2 rfl rfl
     have e7 := xR_nth (hd 7 (by simp)).2 rfl rfl
     have e8 := xR_nth (hd 8 (by simp)).2 rfl rfl
     have e9 := xR_nth (hd 9 (by simp)).2 rfl rfl
     have hl10 := (hd 10 (by simp)).1
     obtain ⟨sb, e10, hp10, hb10⟩ := HW.2 hl10
     rw [hL] at hb10
     refine step_store_blk (a := ⟨_, _⟩) (by kernel_rfl) 114 (.tmp 8) (.tmp 34) (by exact rfl) sb 0 114 stz.cs R.cs (by exact e10) (by exact e9) hb10 (size_stp R) (by show 0 + 6 ≤ 6; decide) (fun v hv => by have := one_stp R; rw [Array.all_eq_true'] at this; exact this v (by simpa using hv)) ?_
     rw [show splice stz.cs 0 R.cs = R.cs from rfl]
     refine hK _ _ ?_ ?_ ⟨below_setRow HW.1 hp10 _, NewB.put rfl e10 hp10 (hb10.row R.cs)⟩
     ·simp [upd, e0, e1, e2, e3, e4, e5, e6, e7, e8, e9, e10]
     ·exact rfl
    exact xa_nil
   case he =>
    intro L y w' hLs HW hd
    have e0 := xR_nth (hd 0 (by decide)) rfl rfl
    have e1 := xR_nth (hd 1 (by decide)) rfl rfl
    have e2 := xR_nth (hd 2 (by decide)) rfl rfl
    have e3 := xR_nth (hd 3 (by decide)) rfl rfl
    have e4 := xR_nth (hd 4 (by decide)) rfl rfl
    have e5 := xR_nth (hd 5 (by decide)) rfl rfl
    have e6 := xR_nth (hd 6 (by decide)) rfl rfl
    have e7 := xR_nth (hd 7 (by decide)) rfl rfl
    have e8 := xR_nth (hd 8 (by decide)) rfl rfl
    have e9 := xR_nth (hd 9 (by decide)) rfl rfl
    obtain ⟨sb, e10, hp10, hb10⟩ := HW.2 (hLs 10 (by decide))
    rw [hLs 11 (by decide)] at hb10
    have HR5 := Lib.hid (HR9.out.more HW.1)
    have HE5 := Lib.hid (HE9.out.more HW.1)
    have HN5 := Lib.hid hb10
    clear HW hb10 hp10
    simp only [e0, e1, e2, e3, e4, e5, e6, e7, e8, e9, e10]
    clear hd hLs e0 e1 e2 e3 e4 e5 e6 e7 e8 e9 e10
    clear HR9 HE9 HWK
    obtain ⟨ro, rr, rg, rf, rrt, rlf⟩ := R
    unfold Stp.cs at HN5
    dsimp only at HN5 HLZ
    obtain ⟨V5, hV5⟩ : ∃ V5, V5 = w' := ⟨_, rfl⟩
    rw [← hV5] at HR5 HE5 HN5 ⊢
    clear hV5
    obtain ⟨gv, hgv⟩ : ∃ gv, giv rr (fun k => Gm.alwF (Gm.atP LM rg) rg k) = gv := ⟨_, rfl⟩
    have HGV : Hid (∀ w', RM W w' u t g b s m S LM D l q Y true rt us z k → Calls Tryz.prog 77 #[.pointer (some ⟨u, 0, none⟩), .agg #[.bool ro, .int .i64 rr, .int .i64 rg]] w' fun e w'' => e = .returned (.int .i64 gv) ∧ Below w'.heap.size w' w'') := Lib.hid fun w' hw' => by
     have := given20_any ro rr rg _ (fun _ => rfl) hw'.st
     rw [hgv] at this
     exact this
    have HKP : Hid (∀ w', RM W w' u t g b s m S LM D l q Y true rt us z k → Calls Tryz.prog 76 #[.pointer (some ⟨u, 0, none⟩), .agg #[.int .i64 rt, .int .i64 (z / 64)], .agg #[.int .i64 x0, .int .i64 x1, .int .i64 gv], .int .i64 rrt, .int .i64 rlf] w' fun e w'' => e = .returned (.tuple #[]) ∧ Hid (∃ q3, ST w'' u t g b s m S LM D (fillS l ⟨rt, z / 64, x0, x1, gv, rrt, rlf⟩) q3 Y ∧ KeepQ (fillS l ⟨rt, z / 64, x0, x1, gv, rrt, rlf⟩) rt (z / 64) (narAll q (toldS l rrt rlf 8)) q3) ∧ Kq [t, g] w' w'') := Lib.hid fun w' hw' => keep20_any rt (z / 64) x0 x1 gv rrt rlf hw'.st HII.out HEE.out HLZ.out.2.2.2.1 HLZ.out.2.2.2.2.1
    have HGG := Lib.hid hgv
    clear hgv
    go_upto_region 4 with fail
    apply wp_region_x [35, 36, 37, 38, 39, 40, 41, 42, 43, 44, 45, 46, 47, 48, 49, 50] [_, _, _, _, _, _, _, _, _, _, _, _, _, _, _, _] [] (fun L_ x_ W' => RM W W' u t g b s m S LM D l q Y true rt us z k ∧ Below V5.heap.size V5 W')
    case hm => kernel_rfl
    case hT => intro y; simp only [setAll, List.setIfInBounds_toArray, List.set_cons_succ, List.set_cons_zero]; exact rfl
    case hok => kernel_rfl
    case hn => decide
    case hw => exact (fun L_ x_ h0 => ⟨HR5.out.more ((Below.refl _ _).drew), (Below.refl _ _).drew⟩)
    case hs =>
     refine x_op 35 [] (by kernel_rfl) (fun L y w' hL hC HW hd K hK => ?_) ?_
     ·go_simp
      refine hK _ _ ?_ ?_ HW
      ·simp [upd]
      ·exact rfl
     refine x_op 36 [] (by kernel_rfl) (fun L y w' hL hC HW hd K hK => ?_) ?_
     ·have ha := HW.1.ab.ac
      have a0 := ha.cell (j := 0) rfl
      have a1 := ha.cell (j := 1) rfl
      have a2 := ha.cell (j := 2) rfl
      have a3 := ha.cell (j := 3) rfl
      have a4 := ha.cell (j := 4) rfl
      have al := ha.lt
      go_simp
      refine hK _ _ ?_ ?_ HW
      ·simp [upd]
      ·exact rfl
     refine x_op 37 [1] (by kernel_rfl) (fun L y w' hL hC HW hd K hK => ?_) ?_
     ·have e1 := xR_nth (hd 1 (by simp)).2 rfl rfl
      go_simp
      refine (HKY.out _).mono ?_
      rintro e w3 ⟨rfl, hb3⟩
      refine hK _ _ ?_ ?_ ⟨HW.1.more hb3, HW.2.trans (hb3.mono HW.2.size)⟩
      ·simp [upd, e1]
      ·exact rfl
     refine x_op 38 [] (by kernel_rfl) (fun L y w' hL hC HW hd K hK => ?_) ?_
     ·go_simp
      refine hK _ _ ?_ ?_ HW
      ·simp [upd]
      ·exact rfl
     refine x_op 39 [3] (by kernel_rfl) (fun L y w' hL hC HW hd K hK => ?_) ?_
     ·have e3 := xR_nth (hd 3 (by simp)).2 rfl rfl
      have he := HE5.out.more HW.2
      have d0 := he.cell (j := 0) rfl
      have d1 := he.cell (j := 1) rfl
      have dl := he.lt
      go_simp
      refine hK _ _ ?_ ?_ HW
      ·simp [upd, e3]
      ·exact rfl
     refine x_op 40 [] (by kernel_rfl) (fun L y w' hL hC HW hd K hK => ?_) ?_
     ·go_simp
      refine hK _ _ ?_ ?_ HW
      ·simp [upd]
      ·exact rfl
     refine x_op 41 [5] (by kernel_rfl) (fun L y w' hL hC HW hd K hK => ?_) ?_
     ·have e5 := xR_nth (hd 5 (by simp)).2 rfl rfl
      have he := HE5.out.more HW.2
      have d0 := he.cell (j := 0) rfl
      have d1 := he.cell (j := 1) rfl
      have dl := he.lt
      go_simp
      refine hK _ _ ?_ ?_ HW
      ·simp [upd, e5]
      ·exact rfl
     refine x_op 42 [] (by kernel_rfl) (fun L y w' hL hC HW hd K hK => ?_) ?_
     ·go_simp
      refine hK _ _ ?_ ?_ HW
      ·simp [upd]
      ·exact rfl
     refine x_op 43 [] (by kernel_rfl) (fun L y w' hL hC HW hd K hK => ?_) ?_
     ·go_simp
      refine hK _ _ ?_ ?_ HW
      ·simp [upd]
      ·exact rfl
     refine x_op 44 [8] (by kernel_rfl) (fun L y w' hL hC HW hd K hK => ?_) ?_
     ·have e8 := xR_nth (hd 8 (by simp)).2 rfl rfl
      have hs := HN5.out.more HW.2
      have s0 := hs.cell (j := 0) rfl
      have s1 := hs.cell (j := 1) rfl
      have s2 := hs.cell (j := 2) rfl
      have sl := hs.lt
      go_simp
      refine hK _ _ ?_ ?_ HW
      ·simp [upd, e8]
      ·exact rfl
     refine x_op 45 [7, 9, 2] (by kernel_rfl) (fun L y w' hL hC HW hd K hK => ?_) ?_
     ·have e2 := xR_nth (hd 2 (by simp)).2 rfl rfl
      have e7 := xR_nth (hd 7 (by simp)).2 rfl rfl
      have e9 := xR_nth (hd 9 (by simp)).2 rfl rfl
      go_simp
      refine (HGV.out _ HW.1).mono ?_
      rintro e w3 ⟨rfl, hb3⟩
      refine hK _ _ ?_ ?_ ⟨HW.1.more hb3, HW.2.trans (hb3.mono HW.2.size)⟩
      ·simp [upd, e2, e7, e9]
      ·exact rfl
     refine x_op 46 [4, 6, 10] (by kernel_rfl) (fun L y w' hL hC HW hd K hK => ?_) ?_
     ·have e4 := xR_nth (hd 4 (by simp)).2 rfl rfl
      have e6 := xR_nth (hd 6 (by simp)).2 rfl rfl
      have e10 := xR_nth (hd 10 (by simp)).2 rfl rfl
      go_simp
      refine hK _ _ ?_ ?_ HW
      ·simp [upd, e4, e6, e10]
      ·exact rfl
     refine x_op 47 [] (by kernel_rfl) (fun L y w' hL hC HW hd K hK => ?_) ?_
     ·go_simp
      refine hK _ _ ?_ ?_ HW
      ·simp [upd]
      ·exact rfl
     refine x_op 48 [12] (by kernel_rfl) (fun L y w' hL hC HW hd K hK => ?_) ?_
     ·have e12 := xR_nth (hd 12 (by simp)).2 rfl rfl
      have hs := HN5.out.more HW.2
      have s4 := hs.cell (j := 4) rfl
      have sl := hs.lt
      go_simp
      refine hK _ _ ?_ ?_ HW
      ·simp [upd, e12]
      ·exact rfl
     refine x_op 49 [] (by kernel_rfl) (fun L y w' hL hC HW hd K hK => ?_) ?_
     ·go_simp
      refine hK _ _ ?_ ?_ HW
      ·simp [upd]
      ·exact rfl
     refine x_op 50 [14] (by kernel_rfl) (fun L y w' hL hC HW hd K hK => ?_) ?_
     ·have e14 := xR_nth (hd 14 (by simp)).2 rfl rfl
      have hs := HN5.out.more HW.2
      have s5 := hs.cell (j := 5) rfl
      have sl := hs.lt
      go_simp
      refine hK _ _ ?_ ?_ HW
      ·simp [upd, e14]
      ·exact rfl
     refine x_last fun L y w' hLs HW hd K hK => ?_
     have e0 := xR_nth (hd 0 (by omega)) rfl rfl
     have e1 := xR_nth (hd 1 (by omega)) rfl rfl
     have e2 := xR_nth (hd 2 (by omega)) rfl rfl
     have e3 := xR_nth (hd 3 (by omega)) rfl rfl
     have e4 := xR_nth (hd 4 (by omega)) rfl rfl
     have e5 := xR_nth (hd 5 (by omega)) rfl rfl
     have e6 := xR_nth (hd 6 (by omega)) rfl rfl
     have e7 := xR_nth (hd 7 (by omega)) rfl rfl
     have e8 := xR_nth (hd 8 (by omega)) rfl rfl
     have e9 := xR_nth (hd 9 (by omega)) rfl rfl
     have e10 := xR_nth (hd 10 (by omega)) rfl rfl
     have e11 := xR_nth (hd 11 (by omega)) rfl rfl
     have e12 := xR_nth (hd 12 (by omega)) rfl rfl
     have e13 := xR_nth (hd 13 (by omega)) rfl rfl
     have e14 := xR_nth (hd 14 (by omega)) rfl rfl
     have e15 := xR_nth (hd 15 (by omega)) rfl rfl
     go_simp
     refine (HKP.out _ HW.1).mono ?_
     rintro e w7 ⟨rfl, HQ7, hk7⟩
     refine hK _ _ ?_
     clear hd hK K hLs e0 e1 e2 e3 e4 e5 e6 e7 e8 e9 e10 e11 e12 e13 e14 e15
     obtain ⟨q3, hs3, hq3⟩ := HQ7.out
     have HRX := Lib.hid (HW.1.keep hk7 hs3)
     have HWR : Hid (∀ W', ST W' u t g b s m S LM D (fillS l ⟨rt, z / 64, x0, x1, gv, rrt, rlf⟩) q3 Y → WkR W' u t g b s m S LM D l q Y rt z 0 (x0, x1, x2)) := Lib.hid fun W' hW' => ⟨_, _, hW', fun e => absurd rfl e, fun _ => by
      rw [HRR.out]
      dsimp only
      rw [HGG.out]
      exact ⟨rfl, hq3⟩⟩
     have HN7 := Lib.hid ((HE5.out.more HW.2).kq hk7 (by have h1 := HW.1.lo t (by simp); have h2 := HW.1.lo g (by simp); have := HP9.out; simp; omega))
     clear HQ7 hs3 hq3 hk7 HW HR5 HE5 HN5 HGV HKP HKY
     have r0 := HRX.out.ab.hi.cell (j := 0) rfl
     have r1 := HRX.out.ab.hi.cell (j := 1) rfl
     have r2 := HRX.out.ab.hi.cell (j := 2) rfl
     have r3 := HRX.out.ab.hi.cell (j := 3) rfl
     have f0 := HRX.out.ab.hi.frozen 0
     have f1 := HRX.out.ab.hi.frozen 1
     have f2 := HRX.out.ab.hi.frozen 2
     have f3 := HRX.out.ab.hi.frozen 3
     have rl := HRX.out.ab.hi.lt
     have n0 := HN7.out.cell (j := 0) rfl
     have n1 := HN7.out.cell (j := 1) rfl
     have n2 := HN7.out.cell (j := 2) rfl
     have n3 := HN7.out.cell (j := 3) rfl
     have nl := HN7.out.lt
     have HANS := Lib.hid (HRX.out.answer)
     clear HRX HN7
     go_wp2
     rw [← HQQ.out]
     exact bodyPost_ret (v := .tuple #[hitX (x0, x1, x2) false, .int .i64 0]) (by simp [results, Tryz.results41, go_sem, r0, r1, r2, r3]) rfl ⟨rfl, Lib.hid (HWR.out _ (HANS.out _ _ _ _).1), (HANS.out _ _ _ _).2⟩
  ·have hcb : (c == 0) = false := beq_eq_false_iff_ne.2 hc0
   have HC0 := Lib.hid hc0
   have HRX := HR9
   have HN7 := HE9
   clear hc0 HLZ HR9 HE9 HKY
   have r0 := HRX.out.ab.hi.cell (j := 0) rfl
   have r1 := HRX.out.ab.hi.cell (j := 1) rfl
   have r2 := HRX.out.ab.hi.cell (j := 2) rfl
   have r3 := HRX.out.ab.hi.cell (j := 3) rfl
   have f0 := HRX.out.ab.hi.frozen 0
   have f1 := HRX.out.ab.hi.frozen 1
   have f2 := HRX.out.ab.hi.frozen 2
   have f3 := HRX.out.ab.hi.frozen 3
   have rl := HRX.out.ab.hi.lt
   have n0 := HN7.out.cell (j := 0) rfl
   have n1 := HN7.out.cell (j := 1) rfl
   have n2 := HN7.out.cell (j := 2) rfl
   have n3 := HN7.out.cell (j := 3) rfl
   have nl := HN7.out.lt
   have HANS := Lib.hid (HRX.out.answer)
   clear HRX HN7
   go_wp2
   rw [← HQQ.out]
   exact bodyPost_ret (v := .tuple #[hitX (x0, x1, x2) false, .int .i64 c]) (by simp [results, Tryz.results41, go_sem, r0, r1, r2, r3]) rfl ⟨rfl, Lib.hid ⟨l, q, (HANS.out _ _ _ _).1, fun _ => ⟨rfl, rfl⟩, fun e => absurd e HC0.out⟩, (HANS.out _ _ _ _).2⟩
end
end Go.Proofs.YteaincdeoajkeaaGreatDoor.Mm
end
