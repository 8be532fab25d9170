/- The walk of hermitagelaw09.IsaTold. -/
import Derived.Test.YtklakehhckipfaaDoorNh
import Derived.Test.YtklakehhckipfaaDoorRa
import Derived.Deep.Cut
namespace Go.Proofs.YtklakehhckipfaaDoor.Is
open Go.RowKit Ut
set_option linter.unusedVariables false
set_option maxRecDepth 100000
set_option maxHeartbeats 8000000

theorem valid_other (o d a b m e : Int) (h0 : 0 ≤ e) (h1 : e < 16) (hD' : hD o.toNat = true) (h : validB o d a b m = true) : validB o e a b m = true := by
  unfold validB at h ⊢
  simp only [Bool.and_eq_true] at h ⊢
  obtain ⟨⟨⟨⟨⟨⟨g1, g2⟩, g3⟩, g4⟩, g5⟩, g6⟩, g7⟩ := h
  refine ⟨⟨⟨⟨⟨⟨g1, g2⟩, ?_⟩, g4⟩, g5⟩, g6⟩, g7⟩
  unfold fitB
  unfold hD at hD'
  rw [if_neg (by simpa using hD')]
  simp
  omega
theorem writes_other (o d a b m e : Int) (h0 : 0 ≤ e) (h1 : e < 16) (h : wrB o d a b m = true) : wrZ o d a b m = d ∧ wrB o e a b m = true ∧ wrZ o e a b m = e := by
  have h2 : wrB o e a b m = true := by
    unfold wrB at h ⊢
    simp only [Bool.and_eq_true] at h ⊢
    exact ⟨valid_other o d a b m e h0 h1 h.2 h.1, h.2⟩
  exact ⟨if_pos h, h2, if_pos h2⟩
theorem kern_bounds {o : Int} (h : kernB o = true) : 35 ≤ o ∧ o ≤ 40 := by
  unfold kernB at h
  simp at h
  omega
theorem told_tt (o d a b m z : Int) (h0 : 0 ≤ z) (h1 : z < 256) (hk : kernB o = true) (ht : wrB o d a b m = true) (w : World) (hw : HasT w) :
    Calls Tryd.prog 5 #[insV o d a b m, .int .u8 z] w fun e w' => e = .returned (.bool true) ∧ Below w.heap.size w w' := by
  have g0 : 0 ≤ z % 16 := by omega
  have g1 : z % 16 < 16 := by omega
  obtain ⟨x1, t2, x2⟩ := writes_other o d a b m (z % 16) g0 g1 ht
  obtain ⟨k1, k2⟩ := kern_bounds hk
  obtain ⟨U, hU⟩ : ∃ U, U = insW o (z % 16) a b m (insW o d a b m w) := ⟨_, rfl⟩
  have HU := Lib.hid hU
  have HB0 : Hid (Below w.heap.size w U) := Lib.hid (hU ▸ ((ins_below o d a b m w).trans ((ins_below o (z % 16) a b m (insW o d a b m w)).mono (ins_below o d a b m w).size)))
  have HT : Hid (HasT U) := Lib.hid (hw.more HB0.out)
  have HI : Hid (InsAt U w.heap.size o d a b m) := Lib.hid (hU ▸ (ins_at o d a b m w).below (ins_below o (z % 16) a b m _) (by simp))
  have HJ : Hid (InsAt U (w.heap.size + 1) o (z % 16) a b m) := Lib.hid (by have h := ins_at o (z % 16) a b m (insW o d a b m w); rw [show (insW o d a b m w).heap.size = w.heap.size + 1 by simp] at h; exact hU ▸ h)
  have W1 : Hid (∀ v, Below U.heap.size U v → Calls Tryd.prog 11 #[insV o d a b m] v fun e w' => e = .returned (.tuple #[.int .i64 d, .bool true]) ∧ Below U.heap.size U w') := Lib.hid fun v hb => keep hb (writes_any o d a b m _ _ x1 ht v (HT.out.more hb))
  have W2 : Hid (∀ v, Below U.heap.size U v → Calls Tryd.prog 11 #[insV o (z % 16) a b m] v fun e w' => e = .returned (.tuple #[.int .i64 (z % 16), .bool true]) ∧ Below U.heap.size U w') := Lib.hid fun v hb => keep hb (writes_any o (z % 16) a b m _ _ x2 t2 v (HT.out.more hb))
  have HK : Hid (∀ v, Calls Tryd.prog 15 #[.int .i64 o] v fun e w' => e = .returned (.bool true) ∧ v = w') := Lib.hid fun v => kernel_any o _ hk v
  clear hw x1 x2 t2 ht hk
  go_enter Tryd.func5, Tryd.ntmps5
  go_wp2_with fail
  rw [show (w.alloc (.cells #[.int .i64 o, .int .i64 d, .int .i64 a, .int .i64 b, .int .i64 m] 23)).alloc (.cells #[.int .i64 o, .int .i64 (z % 16), .int .i64 a, .int .i64 b, .int .i64 m] 23) = U from HU.out.symm]
  refine (W1.out _ (Below.refl _ _)).mono ?_
  rintro e w1 ⟨rfl, hb1⟩
  obtain ⟨r0, r1, r2, r3, r4⟩ := (HJ.out.more hb1).cells
  have hz := (HJ.out.more hb1).lt
  have HB1 := Lib.hid hb1
  clear hb1 hU
  go_wp2_with fail
  refine (W2.out _ HB1.out).mono ?_
  rintro e V ⟨rfl, hbV⟩
  clear r0 r1 r2 r3 r4 hz
  have p0 := (HI.out.more hbV).cells.1
  have p1 := (HI.out.more hbV).cells.2.1
  have q0 := (HJ.out.more hbV).cells.1
  have q1 := (HJ.out.more hbV).cells.2.1
  have hz1 := (HJ.out.more hbV).lt
  have hz0 : w.heap.size < V.heap.size := by omega
  have HTV := Lib.hid (HT.out.more hbV)
  have HBV := Lib.hid (HB0.out.trans (hbV.mono HB0.out.size))
  clear hbV HB1
  go_upto_region 7 with fail
  apply wp_region_auto [42, 43, 44, 45, 46, 47, 48, 49, 50, 51, 52, 53, 54, 55, 56, 57, 58, 59, 60, 61, 62, 63, 64, 65, 66, 67, 68, 69, 70, 71, 72, 73, 74] [_, _, _, _, _, _, _, _, _, _, _, _, _, _, _, _, _, _, _, _, _, _, _, _, _, _, _, _, _, _, _, _, _] (fun W' => Below V.heap.size V W')
  case hm => kernel_rfl
  case hT => intro y; simp only [setAll, List.setIfInBounds_toArray, List.set_cons_succ, List.set_cons_zero]; exact rfl
  case hok => kernel_rfl
  case hn => decide
  case hw => exact (Below.refl _ _).drew
  case hs =>
    refine auto_op 42 [] (by kernel_rfl) (fun y w' HW hd K hK => ?_) ?_
    · go_simp
      refine hK _ _ ?_ ?_ HW
      · simp [upd]
      · exact rfl
    refine auto_op 43 [0] (by kernel_rfl) (fun y w' HW hd K hK => ?_) ?_
    · have e0 := hd_nth (hd 0 (by simp)) rfl
      go_simp
      refine hK _ _ ?_ ?_ HW
      · simp [upd, e0]
      · exact rfl
    refine auto_op 44 [1] (by kernel_rfl) (fun y w' HW hd K hK => ?_) ?_
    · have e1 := hd_nth (hd 1 (by simp)) rfl
      go_simp
      refine hK _ _ ?_ ?_ HW
      · simp [upd, e1]
      · exact rfl
    refine auto_op 45 [2, 1] (by kernel_rfl) (fun y w' HW hd K hK => ?_) ?_
    · have e1 := hd_nth (hd 1 (by simp)) rfl
      have e2 := hd_nth (hd 2 (by simp)) rfl
      go_simp
      refine hK _ _ ?_ ?_ HW
      · simp [upd, e1, e2]
      · exact rfl
    refine auto_op 46 [1, 3] (by kernel_rfl) (fun y w' HW hd K hK => ?_) ?_
    · have e1 := hd_nth (hd 1 (by simp)) rfl
      have e3 := hd_nth (hd 3 (by simp)) rfl
      go_simp
      refine hK _ _ ?_ ?_ HW
      · simp [upd, e1, e3]
      · exact rfl
    refine auto_op 47 [4, 1] (by kernel_rfl) (fun y w' HW hd K hK => ?_) ?_
    · have e1 := hd_nth (hd 1 (by simp)) rfl
      have e4 := hd_nth (hd 4 (by simp)) rfl
      go_simp
      refine hK _ _ ?_ ?_ HW
      · simp [upd, e1, e4]
      · exact rfl
    refine auto_op 48 [5] (by kernel_rfl) (fun y w' HW hd K hK => ?_) ?_
    · have e5 := hd_nth (hd 5 (by simp)) rfl
      go_simp
      refine hK _ _ ?_ ?_ HW
      · simp [upd, e5]
      · exact rfl
    refine auto_op 49 [6, 5] (by kernel_rfl) (fun y w' HW hd K hK => ?_) ?_
    · have e5 := hd_nth (hd 5 (by simp)) rfl
      have e6 := hd_nth (hd 6 (by simp)) rfl
      have hcl : ∀ p : Addr, p.block < V.heap.size → w'.cell? p = V.cell? p := fun p hp => HW.cell hp
      go_simp
      refine hK _ _ ?_ ?_ HW
      · simp [upd, e5, e6]
      · exact rfl
    refine auto_op 50 [7, 5, 5] (by kernel_rfl) (fun y w' HW hd K hK => ?_) ?_
    · have e5 := hd_nth (hd 5 (by simp)) rfl
      have e7 := hd_nth (hd 7 (by simp)) rfl
      go_simp
      refine (HK.out _).mono ?_
      rintro e w3 ⟨rfl, rfl⟩
      refine hK _ _ ?_ ?_ HW
      · simp [upd, e5, e7]
      · exact rfl
    refine auto_op 51 [5] (by kernel_rfl) (fun y w' HW hd K hK => ?_) ?_
    · have e5 := hd_nth (hd 5 (by simp)) rfl
      go_simp
      refine hK _ _ ?_ ?_ HW
      · simp [upd, e5]
      · exact rfl
    refine auto_op 52 [9, 5] (by kernel_rfl) (fun y w' HW hd K hK => ?_) ?_
    · have e5 := hd_nth (hd 5 (by simp)) rfl
      have e9 := hd_nth (hd 9 (by simp)) rfl
      have hcl : ∀ p : Addr, p.block < V.heap.size → w'.cell? p = V.cell? p := fun p hp => HW.cell hp
      go_simp
      refine hK _ _ ?_ ?_ HW
      · simp [upd, e5, e9]
      · exact rfl
    refine auto_op 53 [10, 8, 5] (by kernel_rfl) (fun y w' HW hd K hK => ?_) ?_
    · have e5 := hd_nth (hd 5 (by simp)) rfl
      have e8 := hd_nth (hd 8 (by simp)) rfl
      have e10 := hd_nth (hd 10 (by simp)) rfl
      go_simp
      refine (HK.out _).mono ?_
      rintro e w3 ⟨rfl, rfl⟩
      refine hK _ _ ?_ ?_ HW
      · simp [upd, e5, e8, e10]
      · exact rfl
    refine auto_op 54 [8, 11, 5] (by kernel_rfl) (fun y w' HW hd K hK => ?_) ?_
    · have e5 := hd_nth (hd 5 (by simp)) rfl
      have e8 := hd_nth (hd 8 (by simp)) rfl
      have e11 := hd_nth (hd 11 (by simp)) rfl
      go_simp
      refine hK _ _ ?_ ?_ HW
      · simp [upd, e5, e8, e11]
      · exact rfl
    refine auto_op 55 [5, 12] (by kernel_rfl) (fun y w' HW hd K hK => ?_) ?_
    · have e5 := hd_nth (hd 5 (by simp)) rfl
      have e12 := hd_nth (hd 12 (by simp)) rfl
      go_simp
      refine hK _ _ ?_ ?_ HW
      · simp [upd, e5, e12]
      · exact rfl
    refine auto_op 56 [13, 11] (by kernel_rfl) (fun y w' HW hd K hK => ?_) ?_
    · have e11 := hd_nth (hd 11 (by simp)) rfl
      have e13 := hd_nth (hd 13 (by simp)) rfl
      go_simp
      refine hK _ _ ?_ ?_ HW
      · simp [upd, e11, e13]
      · exact rfl
    refine auto_op 57 [14] (by kernel_rfl) (fun y w' HW hd K hK => ?_) ?_
    · have e14 := hd_nth (hd 14 (by simp)) rfl
      go_simp
      refine hK _ _ ?_ ?_ HW
      · simp [upd, e14]
      · exact rfl
    refine auto_op 58 [15, 14] (by kernel_rfl) (fun y w' HW hd K hK => ?_) ?_
    · have e14 := hd_nth (hd 14 (by simp)) rfl
      have e15 := hd_nth (hd 15 (by simp)) rfl
      have hcl : ∀ p : Addr, p.block < V.heap.size → w'.cell? p = V.cell? p := fun p hp => HW.cell hp
      go_simp
      refine hK _ _ ?_ ?_ HW
      · simp [upd, e14, e15]
      · exact rfl
    refine auto_op 59 [16, 14, 14] (by kernel_rfl) (fun y w' HW hd K hK => ?_) ?_
    · have e14 := hd_nth (hd 14 (by simp)) rfl
      have e16 := hd_nth (hd 16 (by simp)) rfl
      go_simp
      refine (HK.out _).mono ?_
      rintro e w3 ⟨rfl, rfl⟩
      refine hK _ _ ?_ ?_ HW
      · simp [upd, e14, e16]
      · exact rfl
    refine auto_op 60 [17, 14] (by kernel_rfl) (fun y w' HW hd K hK => ?_) ?_
    · have e14 := hd_nth (hd 14 (by simp)) rfl
      have e17 := hd_nth (hd 17 (by simp)) rfl
      go_simp
      refine hK _ _ ?_ ?_ HW
      · simp [upd, e14, e17]
      · exact rfl
    refine auto_op 61 [18, 17, 14] (by kernel_rfl) (fun y w' HW hd K hK => ?_) ?_
    · have e14 := hd_nth (hd 14 (by simp)) rfl
      have e17 := hd_nth (hd 17 (by simp)) rfl
      have e18 := hd_nth (hd 18 (by simp)) rfl
      go_simp
      refine hK _ _ ?_ ?_ HW
      · simp [upd, e14, e17, e18]
      · exact rfl
    refine auto_op 62 [19] (by kernel_rfl) (fun y w' HW hd K hK => ?_) ?_
    · have e19 := hd_nth (hd 19 (by simp)) rfl
      go_simp
      refine hK _ _ ?_ ?_ HW
      · simp [upd, e19]
      · exact rfl
    refine auto_op 63 [20, 19] (by kernel_rfl) (fun y w' HW hd K hK => ?_) ?_
    · have e19 := hd_nth (hd 19 (by simp)) rfl
      have e20 := hd_nth (hd 20 (by simp)) rfl
      have hcl : ∀ p : Addr, p.block < V.heap.size → w'.cell? p = V.cell? p := fun p hp => HW.cell hp
      go_simp
      refine hK _ _ ?_ ?_ HW
      · simp [upd, e19, e20]
      · exact rfl
    refine auto_op 64 [21, 19] (by kernel_rfl) (fun y w' HW hd K hK => ?_) ?_
    · have e19 := hd_nth (hd 19 (by simp)) rfl
      have e21 := hd_nth (hd 21 (by simp)) rfl
      go_simp
      refine hK _ _ ?_ ?_ HW
      · simp [upd, e19, e21]
      · exact rfl
    refine auto_op 65 [22, 19, 19] (by kernel_rfl) (fun y w' HW hd K hK => ?_) ?_
    · have e19 := hd_nth (hd 19 (by simp)) rfl
      have e22 := hd_nth (hd 22 (by simp)) rfl
      go_simp
      refine hK _ _ ?_ ?_ HW
      · simp [upd, e19, e22]
      · exact rfl
    refine auto_op 66 [23] (by kernel_rfl) (fun y w' HW hd K hK => ?_) ?_
    · have e23 := hd_nth (hd 23 (by simp)) rfl
      go_simp
      refine hK _ _ ?_ ?_ HW
      · simp [upd, e23]
      · exact rfl
    refine auto_op 67 [24, 23] (by kernel_rfl) (fun y w' HW hd K hK => ?_) ?_
    · have e23 := hd_nth (hd 23 (by simp)) rfl
      have e24 := hd_nth (hd 24 (by simp)) rfl
      have hcl : ∀ p : Addr, p.block < V.heap.size → w'.cell? p = V.cell? p := fun p hp => HW.cell hp
      go_simp
      refine hK _ _ ?_ ?_ HW
      · simp [upd, e23, e24]
      · exact rfl
    refine auto_op 68 [25, 23] (by kernel_rfl) (fun y w' HW hd K hK => ?_) ?_
    · have e23 := hd_nth (hd 23 (by simp)) rfl
      have e25 := hd_nth (hd 25 (by simp)) rfl
      go_simp
      refine hK _ _ ?_ ?_ HW
      · simp [upd, e23, e25]
      · exact rfl
    refine auto_op 69 [23, 26, 19] (by kernel_rfl) (fun y w' HW hd K hK => ?_) ?_
    · have e19 := hd_nth (hd 19 (by simp)) rfl
      have e23 := hd_nth (hd 23 (by simp)) rfl
      have e26 := hd_nth (hd 26 (by simp)) rfl
      go_simp
      refine hK _ _ ?_ ?_ HW
      · simp [upd, e19, e23, e26]
      · exact rfl
    refine auto_op 70 [19, 27, 14] (by kernel_rfl) (fun y w' HW hd K hK => ?_) ?_
    · have e14 := hd_nth (hd 14 (by simp)) rfl
      have e19 := hd_nth (hd 19 (by simp)) rfl
      have e27 := hd_nth (hd 27 (by simp)) rfl
      go_simp
      refine hK _ _ ?_ ?_ HW
      · simp [upd, e14, e19, e27]
      · exact rfl
    refine auto_op 71 [14, 28] (by kernel_rfl) (fun y w' HW hd K hK => ?_) ?_
    · have e14 := hd_nth (hd 14 (by simp)) rfl
      have e28 := hd_nth (hd 28 (by simp)) rfl
      go_simp
      refine hK _ _ ?_ ?_ HW
      · simp [upd, e14, e28]
      · exact rfl
    refine auto_op 72 [29, 23] (by kernel_rfl) (fun y w' HW hd K hK => ?_) ?_
    · have e23 := hd_nth (hd 23 (by simp)) rfl
      have e29 := hd_nth (hd 29 (by simp)) rfl
      go_simp
      refine hK _ _ ?_ ?_ HW
      · simp [upd, e23, e29]
      · exact rfl
    refine auto_op 73 [30, 30] (by kernel_rfl) (fun y w' HW hd K hK => ?_) ?_
    · have e30 := hd_nth (hd 30 (by simp)) rfl
      go_simp
      refine (awake_any (Below.refl _ _) (HTV.out.more HW)).mono ?_
      rintro e w4 ⟨rfl, hb4⟩
      refine hK _ _ ?_ ?_ (HW.trans (hb4.mono HW.size))
      · simp [upd, e30]
      · exact rfl
    refine auto_op 74 [30, 31] (by kernel_rfl) (fun y w' HW hd K hK => ?_) ?_
    · have e30 := hd_nth (hd 30 (by simp)) rfl
      have e31 := hd_nth (hd 31 (by simp)) rfl
      go_simp
      refine hK _ _ ?_ ?_ HW
      · simp [upd, e30, e31]
      · exact rfl
    refine auto_last fun y w' HW hd K hK => ?_
    have e0 := hd_nth (hd 0 (by omega)) rfl
    have e1 := hd_nth (hd 1 (by omega)) rfl
    have e2 := hd_nth (hd 2 (by omega)) rfl
    have e3 := hd_nth (hd 3 (by omega)) rfl
    have e4 := hd_nth (hd 4 (by omega)) rfl
    have e5 := hd_nth (hd 5 (by omega)) rfl
    have e6 := hd_nth (hd 6 (by omega)) rfl
    have e7 := hd_nth (hd 7 (by omega)) rfl
    have e8 := hd_nth (hd 8 (by omega)) rfl
    have e9 := hd_nth (hd 9 (by omega)) rfl
    have e10 := hd_nth (hd 10 (by omega)) rfl
    have e11 := hd_nth (hd 11 (by omega)) rfl
    have e12 := hd_nth (hd 12 (by omega)) rfl
    have e13 := hd_nth (hd 13 (by omega)) rfl
    have e14 := hd_nth (hd 14 (by omega)) rfl
    have e15 := hd_nth (hd 15 (by omega)) rfl
    have e16 := hd_nth (hd 16 (by omega)) rfl
    have e17 := hd_nth (hd 17 (by omega)) rfl
    have e18 := hd_nth (hd 18 (by omega)) rfl
    have e19 := hd_nth (hd 19 (by omega)) rfl
    have e20 := hd_nth (hd 20 (by omega)) rfl
    have e21 := hd_nth (hd 21 (by omega)) rfl
    have e22 := hd_nth (hd 22 (by omega)) rfl
    have e23 := hd_nth (hd 23 (by omega)) rfl
    have e24 := hd_nth (hd 24 (by omega)) rfl
    have e25 := hd_nth (hd 25 (by omega)) rfl
    have e26 := hd_nth (hd 26 (by omega)) rfl
    have e27 := hd_nth (hd 27 (by omega)) rfl
    have e28 := hd_nth (hd 28 (by omega)) rfl
    have e29 := hd_nth (hd 29 (by omega)) rfl
    have e30 := hd_nth (hd 30 (by omega)) rfl
    have e31 := hd_nth (hd 31 (by omega)) rfl
    have e32 := hd_nth (hd 32 (by omega)) rfl
    go_simp
    refine hK _ _ ?_
    clear hd hK K e0 e1 e2 e3 e4 e5 e6 e7 e8 e9 e10 e11 e12 e13 e14 e15 e16 e17 e18 e19 e20 e21 e22 e23 e24 e25 e26 e27 e28 e29 e30 e31 e32
    go_wp2
    go_ret
    exact ⟨rfl, HBV.out.trans (HW.mono HBV.out.size)⟩
theorem told_tf (o d a b m z : Int) (h0 : 0 ≤ z) (h1 : z < 256) (hk : kernB o = false) (ht : wrB o d a b m = true) (w : World) (hw : HasT w) :
    Calls Tryd.prog 5 #[insV o d a b m, .int .u8 z] w fun e w' => e = .returned (.bool true) ∧ Below w.heap.size w w' := by
  have g0 : 0 ≤ z % 16 := by omega
  have g1 : z % 16 < 16 := by omega
  obtain ⟨x1, t2, x2⟩ := writes_other o d a b m (z % 16) g0 g1 ht
  obtain ⟨U, hU⟩ : ∃ U, U = insW o (z % 16) a b m (insW o d a b m w) := ⟨_, rfl⟩
  have HU := Lib.hid hU
  have HB0 : Hid (Below w.heap.size w U) := Lib.hid (hU ▸ ((ins_below o d a b m w).trans ((ins_below o (z % 16) a b m (insW o d a b m w)).mono (ins_below o d a b m w).size)))
  have HT : Hid (HasT U) := Lib.hid (hw.more HB0.out)
  have HI : Hid (InsAt U w.heap.size o d a b m) := Lib.hid (hU ▸ (ins_at o d a b m w).below (ins_below o (z % 16) a b m _) (by simp))
  have HJ : Hid (InsAt U (w.heap.size + 1) o (z % 16) a b m) := Lib.hid (by have h := ins_at o (z % 16) a b m (insW o d a b m w); rw [show (insW o d a b m w).heap.size = w.heap.size + 1 by simp] at h; exact hU ▸ h)
  have W1 : Hid (∀ v, Below U.heap.size U v → Calls Tryd.prog 11 #[insV o d a b m] v fun e w' => e = .returned (.tuple #[.int .i64 d, .bool true]) ∧ Below U.heap.size U w') := Lib.hid fun v hb => keep hb (writes_any o d a b m _ _ x1 ht v (HT.out.more hb))
  have W2 : Hid (∀ v, Below U.heap.size U v → Calls Tryd.prog 11 #[insV o (z % 16) a b m] v fun e w' => e = .returned (.tuple #[.int .i64 (z % 16), .bool true]) ∧ Below U.heap.size U w') := Lib.hid fun v hb => keep hb (writes_any o (z % 16) a b m _ _ x2 t2 v (HT.out.more hb))
  have HK : Hid (∀ v, Calls Tryd.prog 15 #[.int .i64 o] v fun e w' => e = .returned (.bool false) ∧ v = w') := Lib.hid fun v => kernel_any o _ hk v
  clear hw x1 x2 t2 ht hk
  go_enter Tryd.func5, Tryd.ntmps5
  go_wp2_with fail
  rw [show (w.alloc (.cells #[.int .i64 o, .int .i64 d, .int .i64 a, .int .i64 b, .int .i64 m] 23)).alloc (.cells #[.int .i64 o, .int .i64 (z % 16), .int .i64 a, .int .i64 b, .int .i64 m] 23) = U from HU.out.symm]
  refine (W1.out _ (Below.refl _ _)).mono ?_
  rintro e w1 ⟨rfl, hb1⟩
  obtain ⟨r0, r1, r2, r3, r4⟩ := (HJ.out.more hb1).cells
  have hz := (HJ.out.more hb1).lt
  have HB1 := Lib.hid hb1
  clear hb1 hU
  go_wp2_with fail
  refine (W2.out _ HB1.out).mono ?_
  rintro e V ⟨rfl, hbV⟩
  clear r0 r1 r2 r3 r4 hz
  have p0 := (HI.out.more hbV).cells.1
  have p1 := (HI.out.more hbV).cells.2.1
  have q0 := (HJ.out.more hbV).cells.1
  have q1 := (HJ.out.more hbV).cells.2.1
  have hz1 := (HJ.out.more hbV).lt
  have hz0 : w.heap.size < V.heap.size := by omega
  have HTV := Lib.hid (HT.out.more hbV)
  have HBV := Lib.hid (HB0.out.trans (hbV.mono HB0.out.size))
  clear hbV HB1
  go_upto_region 7 with fail
  apply wp_region_auto [42, 43, 44, 45, 46, 47, 48, 49, 50, 51, 52, 53, 54, 55, 56, 57, 58, 59, 60, 61, 62, 63, 64, 65, 66, 67, 68, 69, 70, 71, 72, 73, 74] [_, _, _, _, _, _, _, _, _, _, _, _, _, _, _, _, _, _, _, _, _, _, _, _, _, _, _, _, _, _, _, _, _] (fun W' => Below V.heap.size V W')
  case hm => kernel_rfl
  case hT => intro y; simp only [setAll, List.setIfInBounds_toArray, List.set_cons_succ, List.set_cons_zero]; exact rfl
  case hok => kernel_rfl
  case hn => decide
  case hw => exact (Below.refl _ _).drew
  case hs =>
    refine auto_op 42 [] (by kernel_rfl) (fun y w' HW hd K hK => ?_) ?_
    · go_simp
      refine hK _ _ ?_ ?_ HW
      · simp [upd]
      · exact rfl
    refine auto_op 43 [0] (by kernel_rfl) (fun y w' HW hd K hK => ?_) ?_
    · have e0 := hd_nth (hd 0 (by simp)) rfl
      go_simp
      refine hK _ _ ?_ ?_ HW
      · simp [upd, e0]
      · exact rfl
    refine auto_op 44 [1] (by kernel_rfl) (fun y w' HW hd K hK => ?_) ?_
    · have e1 := hd_nth (hd 1 (by simp)) rfl
      go_simp
      refine hK _ _ ?_ ?_ HW
      · simp [upd, e1]
      · exact rfl
    refine auto_op 45 [2, 1] (by kernel_rfl) (fun y w' HW hd K hK => ?_) ?_
    · have e1 := hd_nth (hd 1 (by simp)) rfl
      have e2 := hd_nth (hd 2 (by simp)) rfl
      go_simp
      refine hK _ _ ?_ ?_ HW
      · simp [upd, e1, e2]
      · exact rfl
    refine auto_op 46 [1, 3] (by kernel_rfl) (fun y w' HW hd K hK => ?_) ?_
    · have e1 := hd_nth (hd 1 (by simp)) rfl
      have e3 := hd_nth (hd 3 (by simp)) rfl
      go_simp
      refine hK _ _ ?_ ?_ HW
      · simp [upd, e1, e3]
      · exact rfl
    refine auto_op 47 [4, 1] (by kernel_rfl) (fun y w' HW hd K hK => ?_) ?_
    · have e1 := hd_nth (hd 1 (by simp)) rfl
      have e4 := hd_nth (hd 4 (by simp)) rfl
      go_simp
      refine hK _ _ ?_ ?_ HW
      · simp [upd, e1, e4]
      · exact rfl
    refine auto_op 48 [5] (by kernel_rfl) (fun y w' HW hd K hK => ?_) ?_
    · have e5 := hd_nth (hd 5 (by simp)) rfl
      go_simp
      refine hK _ _ ?_ ?_ HW
      · simp [upd, e5]
      · exact rfl
    refine auto_op 49 [6, 5] (by kernel_rfl) (fun y w' HW hd K hK => ?_) ?_
    · have e5 := hd_nth (hd 5 (by simp)) rfl
      have e6 := hd_nth (hd 6 (by simp)) rfl
      have hcl : ∀ p : Addr, p.block < V.heap.size → w'.cell? p = V.cell? p := fun p hp => HW.cell hp
      go_simp
      refine hK _ _ ?_ ?_ HW
      · simp [upd, e5, e6]
      · exact rfl
    refine auto_op 50 [7, 5, 5] (by kernel_rfl) (fun y w' HW hd K hK => ?_) ?_
    · have e5 := hd_nth (hd 5 (by simp)) rfl
      have e7 := hd_nth (hd 7 (by simp)) rfl
      go_simp
      refine (HK.out _).mono ?_
      rintro e w3 ⟨rfl, rfl⟩
      refine hK _ _ ?_ ?_ HW
      · simp [upd, e5, e7]
      · exact rfl
    refine auto_op 51 [5] (by kernel_rfl) (fun y w' HW hd K hK => ?_) ?_
    · have e5 := hd_nth (hd 5 (by simp)) rfl
      go_simp
      refine hK _ _ ?_ ?_ HW
      · simp [upd, e5]
      · exact rfl
    refine auto_op 52 [9, 5] (by kernel_rfl) (fun y w' HW hd K hK => ?_) ?_
    · have e5 := hd_nth (hd 5 (by simp)) rfl
      have e9 := hd_nth (hd 9 (by simp)) rfl
      have hcl : ∀ p : Addr, p.block < V.heap.size → w'.cell? p = V.cell? p := fun p hp => HW.cell hp
      go_simp
      refine hK _ _ ?_ ?_ HW
      · simp [upd, e5, e9]
      · exact rfl
    refine auto_op 53 [10, 8, 5] (by kernel_rfl) (fun y w' HW hd K hK => ?_) ?_
    · have e5 := hd_nth (hd 5 (by simp)) rfl
      have e8 := hd_nth (hd 8 (by simp)) rfl
      have e10 := hd_nth (hd 10 (by simp)) rfl
      go_simp
      refine (HK.out _).mono ?_
      rintro e w3 ⟨rfl, rfl⟩
      refine hK _ _ ?_ ?_ HW
      · simp [upd, e5, e8, e10]
      · exact rfl
    refine auto_op 54 [8, 11, 5] (by kernel_rfl) (fun y w' HW hd K hK => ?_) ?_
    · have e5 := hd_nth (hd 5 (by simp)) rfl
      have e8 := hd_nth (hd 8 (by simp)) rfl
      have e11 := hd_nth (hd 11 (by simp)) rfl
      go_simp
      refine hK _ _ ?_ ?_ HW
      · simp [upd, e5, e8, e11]
      · exact rfl
    refine auto_op 55 [5, 12] (by kernel_rfl) (fun y w' HW hd K hK => ?_) ?_
    · have e5 := hd_nth (hd 5 (by simp)) rfl
      have e12 := hd_nth (hd 12 (by simp)) rfl
      go_simp
      refine hK _ _ ?_ ?_ HW
      · simp [upd, e5, e12]
      · exact rfl
    refine auto_op 56 [13, 11] (by kernel_rfl) (fun y w' HW hd K hK => ?_) ?_
    · have e11 := hd_nth (hd 11 (by simp)) rfl
      have e13 := hd_nth (hd 13 (by simp)) rfl
      go_simp
      refine hK _ _ ?_ ?_ HW
      · simp [upd, e11, e13]
      · exact rfl
    refine auto_op 57 [14] (by kernel_rfl) (fun y w' HW hd K hK => ?_) ?_
    · have e14 := hd_nth (hd 14 (by simp)) rfl
      go_simp
      refine hK _ _ ?_ ?_ HW
      · simp [upd, e14]
      · exact rfl
    refine auto_op 58 [15, 14] (by kernel_rfl) (fun y w' HW hd K hK => ?_) ?_
    · have e14 := hd_nth (hd 14 (by simp)) rfl
      have e15 := hd_nth (hd 15 (by simp)) rfl
      have hcl : ∀ p : Addr, p.block < V.heap.size → w'.cell? p = V.cell? p := fun p hp => HW.cell hp
      go_simp
      refine hK _ _ ?_ ?_ HW
      · simp [upd, e14, e15]
      · exact rfl
    refine auto_op 59 [16, 14, 14] (by kernel_rfl) (fun y w' HW hd K hK => ?_) ?_
    · have e14 := hd_nth (hd 14 (by simp)) rfl
      have e16 := hd_nth (hd 16 (by simp)) rfl
      go_simp
      refine (HK.out _).mono ?_
      rintro e w3 ⟨rfl, rfl⟩
      refine hK _ _ ?_ ?_ HW
      · simp [upd, e14, e16]
      · exact rfl
    refine auto_op 60 [17, 14] (by kernel_rfl) (fun y w' HW hd K hK => ?_) ?_
    · have e14 := hd_nth (hd 14 (by simp)) rfl
      have e17 := hd_nth (hd 17 (by simp)) rfl
      go_simp
      refine hK _ _ ?_ ?_ HW
      · simp [upd, e14, e17]
      · exact rfl
    refine auto_op 61 [18, 17, 14] (by kernel_rfl) (fun y w' HW hd K hK => ?_) ?_
    · have e14 := hd_nth (hd 14 (by simp)) rfl
      have e17 := hd_nth (hd 17 (by simp)) rfl
      have e18 := hd_nth (hd 18 (by simp)) rfl
      go_simp
      refine hK _ _ ?_ ?_ HW
      · simp [upd, e14, e17, e18]
      · exact rfl
    refine auto_op 62 [19] (by kernel_rfl) (fun y w' HW hd K hK => ?_) ?_
    · have e19 := hd_nth (hd 19 (by simp)) rfl
      go_simp
      refine hK _ _ ?_ ?_ HW
      · simp [upd, e19]
      · exact rfl
    refine auto_op 63 [20, 19] (by kernel_rfl) (fun y w' HW hd K hK => ?_) ?_
    · have e19 := hd_nth (hd 19 (by simp)) rfl
      have e20 := hd_nth (hd 20 (by simp)) rfl
      have hcl : ∀ p : Addr, p.block < V.heap.size → w'.cell? p = V.cell? p := fun p hp => HW.cell hp
      go_simp
      refine hK _ _ ?_ ?_ HW
      · simp [upd, e19, e20]
      · exact rfl
    refine auto_op 64 [21, 19] (by kernel_rfl) (fun y w' HW hd K hK => ?_) ?_
    · have e19 := hd_nth (hd 19 (by simp)) rfl
      have e21 := hd_nth (hd 21 (by simp)) rfl
      go_simp
      refine hK _ _ ?_ ?_ HW
      · simp [upd, e19, e21]
      · exact rfl
    refine auto_op 65 [22, 19, 19] (by kernel_rfl) (fun y w' HW hd K hK => ?_) ?_
    · have e19 := hd_nth (hd 19 (by simp)) rfl
      have e22 := hd_nth (hd 22 (by simp)) rfl
      go_simp
      refine hK _ _ ?_ ?_ HW
      · simp [upd, e19, e22]
      · exact rfl
    refine auto_op 66 [23] (by kernel_rfl) (fun y w' HW hd K hK => ?_) ?_
    · have e23 := hd_nth (hd 23 (by simp)) rfl
      go_simp
      refine hK _ _ ?_ ?_ HW
      · simp [upd, e23]
      · exact rfl
    refine auto_op 67 [24, 23] (by kernel_rfl) (fun y w' HW hd K hK => ?_) ?_
    · have e23 := hd_nth (hd 23 (by simp)) rfl
      have e24 := hd_nth (hd 24 (by simp)) rfl
      have hcl : ∀ p : Addr, p.block < V.heap.size → w'.cell? p = V.cell? p := fun p hp => HW.cell hp
      go_simp
      refine hK _ _ ?_ ?_ HW
      · simp [upd, e23, e24]
      · exact rfl
    refine auto_op 68 [25, 23] (by kernel_rfl) (fun y w' HW hd K hK => ?_) ?_
    · have e23 := hd_nth (hd 23 (by simp)) rfl
      have e25 := hd_nth (hd 25 (by simp)) rfl
      go_simp
      refine hK _ _ ?_ ?_ HW
      · simp [upd, e23, e25]
      · exact rfl
    refine auto_op 69 [23, 26, 19] (by kernel_rfl) (fun y w' HW hd K hK => ?_) ?_
    · have e19 := hd_nth (hd 19 (by simp)) rfl
      have e23 := hd_nth (hd 23 (by simp)) rfl
      have e26 := hd_nth (hd 26 (by simp)) rfl
      go_simp
      refine hK _ _ ?_ ?_ HW
      · simp [upd, e19, e23, e26]
      · exact rfl
    refine auto_op 70 [19, 27, 14] (by kernel_rfl) (fun y w' HW hd K hK => ?_) ?_
    · have e14 := hd_nth (hd 14 (by simp)) rfl
      have e19 := hd_nth (hd 19 (by simp)) rfl
      have e27 := hd_nth (hd 27 (by simp)) rfl
      go_simp
      refine hK _ _ ?_ ?_ HW
      · simp [upd, e14, e19, e27]
      · exact rfl
    refine auto_op 71 [14, 28] (by kernel_rfl) (fun y w' HW hd K hK => ?_) ?_
    · have e14 := hd_nth (hd 14 (by simp)) rfl
      have e28 := hd_nth (hd 28 (by simp)) rfl
      go_simp
      refine hK _ _ ?_ ?_ HW
      · simp [upd, e14, e28]
      · exact rfl
    refine auto_op 72 [29, 23] (by kernel_rfl) (fun y w' HW hd K hK => ?_) ?_
    · have e23 := hd_nth (hd 23 (by simp)) rfl
      have e29 := hd_nth (hd 29 (by simp)) rfl
      go_simp
      refine hK _ _ ?_ ?_ HW
      · simp [upd, e23, e29]
      · exact rfl
    refine auto_op 73 [30, 30] (by kernel_rfl) (fun y w' HW hd K hK => ?_) ?_
    · have e30 := hd_nth (hd 30 (by simp)) rfl
      go_simp
      refine (awake_any (Below.refl _ _) (HTV.out.more HW)).mono ?_
      rintro e w4 ⟨rfl, hb4⟩
      refine hK _ _ ?_ ?_ (HW.trans (hb4.mono HW.size))
      · simp [upd, e30]
      · exact rfl
    refine auto_op 74 [30, 31] (by kernel_rfl) (fun y w' HW hd K hK => ?_) ?_
    · have e30 := hd_nth (hd 30 (by simp)) rfl
      have e31 := hd_nth (hd 31 (by simp)) rfl
      go_simp
      refine hK _ _ ?_ ?_ HW
      · simp [upd, e30, e31]
      · exact rfl
    refine auto_last fun y w' HW hd K hK => ?_
    have e0 := hd_nth (hd 0 (by omega)) rfl
    have e1 := hd_nth (hd 1 (by omega)) rfl
    have e2 := hd_nth (hd 2 (by omega)) rfl
    have e3 := hd_nth (hd 3 (by omega)) rfl
    have e4 := hd_nth (hd 4 (by omega)) rfl
    have e5 := hd_nth (hd 5 (by omega)) rfl
    have e6 := hd_nth (hd 6 (by omega)) rfl
    have e7 := hd_nth (hd 7 (by omega)) rfl
    have e8 := hd_nth (hd 8 (by omega)) rfl
    have e9 := hd_nth (hd 9 (by omega)) rfl
    have e10 := hd_nth (hd 10 (by omega)) rfl
    have e11 := hd_nth (hd 11 (by omega)) rfl
    have e12 := hd_nth (hd 12 (by omega)) rfl
    have e13 := hd_nth (hd 13 (by omega)) rfl
    have e14 := hd_nth (hd 14 (by omega)) rfl
    have e15 := hd_nth (hd 15 (by omega)) rfl
    have e16 := hd_nth (hd 16 (by omega)) rfl
    have e17 := hd_nth (hd 17 (by omega)) rfl
    have e18 := hd_nth (hd 18 (by omega)) rfl
    have e19 := hd_nth (hd 19 (by omega)) rfl
    have e20 := hd_nth (hd 20 (by omega)) rfl
    have e21 := hd_nth (hd 21 (by omega)) rfl
    have e22 := hd_nth (hd 22 (by omega)) rfl
    have e23 := hd_nth (hd 23 (by omega)) rfl
    have e24 := hd_nth (hd 24 (by omega)) rfl
    have e25 := hd_nth (hd 25 (by omega)) rfl
    have e26 := hd_nth (hd 26 (by omega)) rfl
    have e27 := hd_nth (hd 27 (by omega)) rfl
    have e28 := hd_nth (hd 28 (by omega)) rfl
    have e29 := hd_nth (hd 29 (by omega)) rfl
    have e30 := hd_nth (hd 30 (by omega)) rfl
    have e31 := hd_nth (hd 31 (by omega)) rfl
    have e32 := hd_nth (hd 32 (by omega)) rfl
    go_simp
    refine hK _ _ ?_
    clear hd hK K e0 e1 e2 e3 e4 e5 e6 e7 e8 e9 e10 e11 e12 e13 e14 e15 e16 e17 e18 e19 e20 e21 e22 e23 e24 e25 e26 e27 e28 e29 e30 e31 e32
    go_wp2
    go_ret
    exact ⟨rfl, HBV.out.trans (HW.mono HBV.out.size)⟩
theorem told_ft (o d a b m z : Int) (h0 : 0 ≤ z) (h1 : z < 256) (hk : kernB o = true) (ht : wrB o d a b m = false) (w : World) (hw : HasT w) :
    Calls Tryd.prog 5 #[insV o d a b m, .int .u8 z] w fun e w' => e = .returned (.bool true) ∧ Below w.heap.size w w' := by
  have g0 : 0 ≤ z % 16 := by omega
  have g1 : z % 16 < 16 := by omega
  have x1 : wrZ o d a b m = 0 := if_neg (by rw [ht]; decide)
  obtain ⟨is, t2⟩ : ∃ is, wrB o (z % 16) a b m = is := ⟨_, rfl⟩
  obtain ⟨y, x2⟩ : ∃ y, wrZ o (z % 16) a b m = y := ⟨_, rfl⟩
  obtain ⟨k1, k2⟩ := kern_bounds hk
  obtain ⟨U, hU⟩ : ∃ U, U = insW o (z % 16) a b m (insW o d a b m w) := ⟨_, rfl⟩
  have HU := Lib.hid hU
  have HB0 : Hid (Below w.heap.size w U) := Lib.hid (hU ▸ ((ins_below o d a b m w).trans ((ins_below o (z % 16) a b m (insW o d a b m w)).mono (ins_below o d a b m w).size)))
  have HT : Hid (HasT U) := Lib.hid (hw.more HB0.out)
  have HI : Hid (InsAt U w.heap.size o d a b m) := Lib.hid (hU ▸ (ins_at o d a b m w).below (ins_below o (z % 16) a b m _) (by simp))
  have HJ : Hid (InsAt U (w.heap.size + 1) o (z % 16) a b m) := Lib.hid (by have h := ins_at o (z % 16) a b m (insW o d a b m w); rw [show (insW o d a b m w).heap.size = w.heap.size + 1 by simp] at h; exact hU ▸ h)
  have W1 : Hid (∀ v, Below U.heap.size U v → Calls Tryd.prog 11 #[insV o d a b m] v fun e w' => e = .returned (.tuple #[.int .i64 0, .bool false]) ∧ Below U.heap.size U w') := Lib.hid fun v hb => keep hb (writes_any o d a b m _ _ x1 ht v (HT.out.more hb))
  have W2 : Hid (∀ v, Below U.heap.size U v → Calls Tryd.prog 11 #[insV o (z % 16) a b m] v fun e w' => e = .returned (.tuple #[.int .i64 y, .bool is]) ∧ Below U.heap.size U w') := Lib.hid fun v hb => keep hb (writes_any o (z % 16) a b m _ _ x2 t2 v (HT.out.more hb))
  have HK : Hid (∀ v, Calls Tryd.prog 15 #[.int .i64 o] v fun e w' => e = .returned (.bool true) ∧ v = w') := Lib.hid fun v => kernel_any o _ hk v
  clear hw x1 x2 t2 ht hk
  go_enter Tryd.func5, Tryd.ntmps5
  go_wp2_with fail
  rw [show (w.alloc (.cells #[.int .i64 o, .int .i64 d, .int .i64 a, .int .i64 b, .int .i64 m] 23)).alloc (.cells #[.int .i64 o, .int .i64 (z % 16), .int .i64 a, .int .i64 b, .int .i64 m] 23) = U from HU.out.symm]
  refine (W1.out _ (Below.refl _ _)).mono ?_
  rintro e w1 ⟨rfl, hb1⟩
  obtain ⟨r0, r1, r2, r3, r4⟩ := (HJ.out.more hb1).cells
  have hz := (HJ.out.more hb1).lt
  have HB1 := Lib.hid hb1
  clear hb1 hU
  go_wp2_with fail
  refine (W2.out _ HB1.out).mono ?_
  rintro e V ⟨rfl, hbV⟩
  clear r0 r1 r2 r3 r4 hz
  have p0 := (HI.out.more hbV).cells.1
  have p1 := (HI.out.more hbV).cells.2.1
  have q0 := (HJ.out.more hbV).cells.1
  have q1 := (HJ.out.more hbV).cells.2.1
  have hz1 := (HJ.out.more hbV).lt
  have hz0 : w.heap.size < V.heap.size := by omega
  have HTV := Lib.hid (HT.out.more hbV)
  have HBV := Lib.hid (HB0.out.trans (hbV.mono HB0.out.size))
  clear hbV HB1
  go_upto_region 7 with fail
  apply wp_region_auto [42, 43, 44, 45, 46, 47, 48, 49, 50, 51, 52, 53, 54, 55, 56, 57, 58, 59, 60, 61, 62, 63, 64, 65, 66, 67, 68, 69, 70, 71, 72, 73, 74] [_, _, _, _, _, _, _, _, _, _, _, _, _, _, _, _, _, _, _, _, _, _, _, _, _, _, _, _, _, _, _, _, _] (fun W' => Below V.heap.size V W')
  case hm => kernel_rfl
  case hT => intro y; simp only [setAll, List.setIfInBounds_toArray, List.set_cons_succ, List.set_cons_zero]; exact rfl
  case hok => kernel_rfl
  case hn => decide
  case hw => exact (Below.refl _ _).drew
  case hs =>
    refine auto_op 42 [] (by kernel_rfl) (fun y w' HW hd K hK => ?_) ?_
    · go_simp
      refine hK _ _ ?_ ?_ HW
      · simp [upd]
      · exact rfl
    refine auto_op 43 [0] (by kernel_rfl) (fun y w' HW hd K hK => ?_) ?_
    · have e0 := hd_nth (hd 0 (by simp)) rfl
      go_simp
      refine hK _ _ ?_ ?_ HW
      · simp [upd, e0]
      · exact rfl
    refine auto_op 44 [1] (by kernel_rfl) (fun y w' HW hd K hK => ?_) ?_
    · have e1 := hd_nth (hd 1 (by simp)) rfl
      go_simp
      refine hK _ _ ?_ ?_ HW
      · simp [upd, e1]
      · exact rfl
    refine auto_op 45 [2, 1] (by kernel_rfl) (fun y w' HW hd K hK => ?_) ?_
    · have e1 := hd_nth (hd 1 (by simp)) rfl
      have e2 := hd_nth (hd 2 (by simp)) rfl
      go_simp
      refine hK _ _ ?_ ?_ HW
      · simp [upd, e1, e2]
      · exact rfl
    refine auto_op 46 [1, 3] (by kernel_rfl) (fun y w' HW hd K hK => ?_) ?_
    · have e1 := hd_nth (hd 1 (by simp)) rfl
      have e3 := hd_nth (hd 3 (by simp)) rfl
      go_simp
      refine hK _ _ ?_ ?_ HW
      · simp [upd, e1, e3]
      · exact rfl
    refine auto_op 47 [4, 1] (by kernel_rfl) (fun y w' HW hd K hK => ?_) ?_
    · have e1 := hd_nth (hd 1 (by simp)) rfl
      have e4 := hd_nth (hd 4 (by simp)) rfl
      go_simp
      refine hK _ _ ?_ ?_ HW
      · simp [upd, e1, e4]
      · exact rfl
    refine auto_op 48 [5] (by kernel_rfl) (fun y w' HW hd K hK => ?_) ?_
    · have e5 := hd_nth (hd 5 (by simp)) rfl
      go_simp
      refine hK _ _ ?_ ?_ HW
      · simp [upd, e5]
      · exact rfl
    refine auto_op 49 [6, 5] (by kernel_rfl) (fun y w' HW hd K hK => ?_) ?_
    · have e5 := hd_nth (hd 5 (by simp)) rfl
      have e6 := hd_nth (hd 6 (by simp)) rfl
      have hcl : ∀ p : Addr, p.block < V.heap.size → w'.cell? p = V.cell? p := fun p hp => HW.cell hp
      go_simp
      refine hK _ _ ?_ ?_ HW
      · simp [upd, e5, e6]
      · exact rfl
    refine auto_op 50 [7, 5, 5] (by kernel_rfl) (fun y w' HW hd K hK => ?_) ?_
    · have e5 := hd_nth (hd 5 (by simp)) rfl
      have e7 := hd_nth (hd 7 (by simp)) rfl
      go_simp
      refine (HK.out _).mono ?_
      rintro e w3 ⟨rfl, rfl⟩
      refine hK _ _ ?_ ?_ HW
      · simp [upd, e5, e7]
      · exact rfl
    refine auto_op 51 [5] (by kernel_rfl) (fun y w' HW hd K hK => ?_) ?_
    · have e5 := hd_nth (hd 5 (by simp)) rfl
      go_simp
      refine hK _ _ ?_ ?_ HW
      · simp [upd, e5]
      · exact rfl
    refine auto_op 52 [9, 5] (by kernel_rfl) (fun y w' HW hd K hK => ?_) ?_
    · have e5 := hd_nth (hd 5 (by simp)) rfl
      have e9 := hd_nth (hd 9 (by simp)) rfl
      have hcl : ∀ p : Addr, p.block < V.heap.size → w'.cell? p = V.cell? p := fun p hp => HW.cell hp
      go_simp
      refine hK _ _ ?_ ?_ HW
      · simp [upd, e5, e9]
      · exact rfl
    refine auto_op 53 [10, 8, 5] (by kernel_rfl) (fun y w' HW hd K hK => ?_) ?_
    · have e5 := hd_nth (hd 5 (by simp)) rfl
      have e8 := hd_nth (hd 8 (by simp)) rfl
      have e10 := hd_nth (hd 10 (by simp)) rfl
      go_simp
      refine (HK.out _).mono ?_
      rintro e w3 ⟨rfl, rfl⟩
      refine hK _ _ ?_ ?_ HW
      · simp [upd, e5, e8, e10]
      · exact rfl
    refine auto_op 54 [8, 11, 5] (by kernel_rfl) (fun y w' HW hd K hK => ?_) ?_
    · have e5 := hd_nth (hd 5 (by simp)) rfl
      have e8 := hd_nth (hd 8 (by simp)) rfl
      have e11 := hd_nth (hd 11 (by simp)) rfl
      go_simp
      refine hK _ _ ?_ ?_ HW
      · simp [upd, e5, e8, e11]
      · exact rfl
    refine auto_op 55 [5, 12] (by kernel_rfl) (fun y w' HW hd K hK => ?_) ?_
    · have e5 := hd_nth (hd 5 (by simp)) rfl
      have e12 := hd_nth (hd 12 (by simp)) rfl
      go_simp
      refine hK _ _ ?_ ?_ HW
      · simp [upd, e5, e12]
      · exact rfl
    refine auto_op 56 [13, 11] (by kernel_rfl) (fun y w' HW hd K hK => ?_) ?_
    · have e11 := hd_nth (hd 11 (by simp)) rfl
      have e13 := hd_nth (hd 13 (by simp)) rfl
      go_simp
      refine hK _ _ ?_ ?_ HW
      · simp [upd, e11, e13]
      · exact rfl
    refine auto_op 57 [14] (by kernel_rfl) (fun y w' HW hd K hK => ?_) ?_
    · have e14 := hd_nth (hd 14 (by simp)) rfl
      go_simp
      refine hK _ _ ?_ ?_ HW
      · simp [upd, e14]
      · exact rfl
    refine auto_op 58 [15, 14] (by kernel_rfl) (fun y w' HW hd K hK => ?_) ?_
    · have e14 := hd_nth (hd 14 (by simp)) rfl
      have e15 := hd_nth (hd 15 (by simp)) rfl
      have hcl : ∀ p : Addr, p.block < V.heap.size → w'.cell? p = V.cell? p := fun p hp => HW.cell hp
      go_simp
      refine hK _ _ ?_ ?_ HW
      · simp [upd, e14, e15]
      · exact rfl
    refine auto_op 59 [16, 14, 14] (by kernel_rfl) (fun y w' HW hd K hK => ?_) ?_
    · have e14 := hd_nth (hd 14 (by simp)) rfl
      have e16 := hd_nth (hd 16 (by simp)) rfl
      go_simp
      refine (HK.out _).mono ?_
      rintro e w3 ⟨rfl, rfl⟩
      refine hK _ _ ?_ ?_ HW
      · simp [upd, e14, e16]
      · exact rfl
    refine auto_op 60 [17, 14] (by kernel_rfl) (fun y w' HW hd K hK => ?_) ?_
    · have e14 := hd_nth (hd 14 (by simp)) rfl
      have e17 := hd_nth (hd 17 (by simp)) rfl
      go_simp
      refine hK _ _ ?_ ?_ HW
      · simp [upd, e14, e17]
      · exact rfl
    refine auto_op 61 [18, 17, 14] (by kernel_rfl) (fun y w' HW hd K hK => ?_) ?_
    · have e14 := hd_nth (hd 14 (by simp)) rfl
      have e17 := hd_nth (hd 17 (by simp)) rfl
      have e18 := hd_nth (hd 18 (by simp)) rfl
      go_simp
      refine hK _ _ ?_ ?_ HW
      · simp [upd, e14, e17, e18]
      · exact rfl
    refine auto_op 62 [19] (by kernel_rfl) (fun y w' HW hd K hK => ?_) ?_
    · have e19 := hd_nth (hd 19 (by simp)) rfl
      go_simp
      refine hK _ _ ?_ ?_ HW
      · simp [upd, e19]
      · exact rfl
    refine auto_op 63 [20, 19] (by kernel_rfl) (fun y w' HW hd K hK => ?_) ?_
    · have e19 := hd_nth (hd 19 (by simp)) rfl
      have e20 := hd_nth (hd 20 (by simp)) rfl
      have hcl : ∀ p : Addr, p.block < V.heap.size → w'.cell? p = V.cell? p := fun p hp => HW.cell hp
      go_simp
      refine hK _ _ ?_ ?_ HW
      · simp [upd, e19, e20]
      · exact rfl
    refine auto_op 64 [21, 19] (by kernel_rfl) (fun y w' HW hd K hK => ?_) ?_
    · have e19 := hd_nth (hd 19 (by simp)) rfl
      have e21 := hd_nth (hd 21 (by simp)) rfl
      go_simp
      refine hK _ _ ?_ ?_ HW
      · simp [upd, e19, e21]
      · exact rfl
    refine auto_op 65 [22, 19, 19] (by kernel_rfl) (fun y w' HW hd K hK => ?_) ?_
    · have e19 := hd_nth (hd 19 (by simp)) rfl
      have e22 := hd_nth (hd 22 (by simp)) rfl
      go_simp
      refine hK _ _ ?_ ?_ HW
      · simp [upd, e19, e22]
      · exact rfl
    refine auto_op 66 [23] (by kernel_rfl) (fun y w' HW hd K hK => ?_) ?_
    · have e23 := hd_nth (hd 23 (by simp)) rfl
      go_simp
      refine hK _ _ ?_ ?_ HW
      · simp [upd, e23]
      · exact rfl
    refine auto_op 67 [24, 23] (by kernel_rfl) (fun y w' HW hd K hK => ?_) ?_
    · have e23 := hd_nth (hd 23 (by simp)) rfl
      have e24 := hd_nth (hd 24 (by simp)) rfl
      have hcl : ∀ p : Addr, p.block < V.heap.size → w'.cell? p = V.cell? p := fun p hp => HW.cell hp
      go_simp
      refine hK _ _ ?_ ?_ HW
      · simp [upd, e23, e24]
      · exact rfl
    refine auto_op 68 [25, 23] (by kernel_rfl) (fun y w' HW hd K hK => ?_) ?_
    · have e23 := hd_nth (hd 23 (by simp)) rfl
      have e25 := hd_nth (hd 25 (by simp)) rfl
      go_simp
      refine hK _ _ ?_ ?_ HW
      · simp [upd, e23, e25]
      · exact rfl
    refine auto_op 69 [23, 26, 19] (by kernel_rfl) (fun y w' HW hd K hK => ?_) ?_
    · have e19 := hd_nth (hd 19 (by simp)) rfl
      have e23 := hd_nth (hd 23 (by simp)) rfl
      have e26 := hd_nth (hd 26 (by simp)) rfl
      go_simp
      refine hK _ _ ?_ ?_ HW
      · simp [upd, e19, e23, e26]
      · exact rfl
    refine auto_op 70 [19, 27, 14] (by kernel_rfl) (fun y w' HW hd K hK => ?_) ?_
    · have e14 := hd_nth (hd 14 (by simp)) rfl
      have e19 := hd_nth (hd 19 (by simp)) rfl
      have e27 := hd_nth (hd 27 (by simp)) rfl
      go_simp
      refine hK _ _ ?_ ?_ HW
      · simp [upd, e14, e19, e27]
      · exact rfl
    refine auto_op 71 [14, 28] (by kernel_rfl) (fun y w' HW hd K hK => ?_) ?_
    · have e14 := hd_nth (hd 14 (by simp)) rfl
      have e28 := hd_nth (hd 28 (by simp)) rfl
      go_simp
      refine hK _ _ ?_ ?_ HW
      · simp [upd, e14, e28]
      · exact rfl
    refine auto_op 72 [29, 23] (by kernel_rfl) (fun y w' HW hd K hK => ?_) ?_
    · have e23 := hd_nth (hd 23 (by simp)) rfl
      have e29 := hd_nth (hd 29 (by simp)) rfl
      go_simp
      refine hK _ _ ?_ ?_ HW
      · simp [upd, e23, e29]
      · exact rfl
    refine auto_op 73 [30, 30] (by kernel_rfl) (fun y w' HW hd K hK => ?_) ?_
    · have e30 := hd_nth (hd 30 (by simp)) rfl
      go_simp
      refine (awake_any (Below.refl _ _) (HTV.out.more HW)).mono ?_
      rintro e w4 ⟨rfl, hb4⟩
      refine hK _ _ ?_ ?_ (HW.trans (hb4.mono HW.size))
      · simp [upd, e30]
      · exact rfl
    refine auto_op 74 [30, 31] (by kernel_rfl) (fun y w' HW hd K hK => ?_) ?_
    · have e30 := hd_nth (hd 30 (by simp)) rfl
      have e31 := hd_nth (hd 31 (by simp)) rfl
      go_simp
      refine hK _ _ ?_ ?_ HW
      · simp [upd, e30, e31]
      · exact rfl
    refine auto_last fun y w' HW hd K hK => ?_
    have e0 := hd_nth (hd 0 (by omega)) rfl
    have e1 := hd_nth (hd 1 (by omega)) rfl
    have e2 := hd_nth (hd 2 (by omega)) rfl
    have e3 := hd_nth (hd 3 (by omega)) rfl
    have e4 := hd_nth (hd 4 (by omega)) rfl
    have e5 := hd_nth (hd 5 (by omega)) rfl
    have e6 := hd_nth (hd 6 (by omega)) rfl
    have e7 := hd_nth (hd 7 (by omega)) rfl
    have e8 := hd_nth (hd 8 (by omega)) rfl
    have e9 := hd_nth (hd 9 (by omega)) rfl
    have e10 := hd_nth (hd 10 (by omega)) rfl
    have e11 := hd_nth (hd 11 (by omega)) rfl
    have e12 := hd_nth (hd 12 (by omega)) rfl
    have e13 := hd_nth (hd 13 (by omega)) rfl
    have e14 := hd_nth (hd 14 (by omega)) rfl
    have e15 := hd_nth (hd 15 (by omega)) rfl
    have e16 := hd_nth (hd 16 (by omega)) rfl
    have e17 := hd_nth (hd 17 (by omega)) rfl
    have e18 := hd_nth (hd 18 (by omega)) rfl
    have e19 := hd_nth (hd 19 (by omega)) rfl
    have e20 := hd_nth (hd 20 (by omega)) rfl
    have e21 := hd_nth (hd 21 (by omega)) rfl
    have e22 := hd_nth (hd 22 (by omega)) rfl
    have e23 := hd_nth (hd 23 (by omega)) rfl
    have e24 := hd_nth (hd 24 (by omega)) rfl
    have e25 := hd_nth (hd 25 (by omega)) rfl
    have e26 := hd_nth (hd 26 (by omega)) rfl
    have e27 := hd_nth (hd 27 (by omega)) rfl
    have e28 := hd_nth (hd 28 (by omega)) rfl
    have e29 := hd_nth (hd 29 (by omega)) rfl
    have e30 := hd_nth (hd 30 (by omega)) rfl
    have e31 := hd_nth (hd 31 (by omega)) rfl
    have e32 := hd_nth (hd 32 (by omega)) rfl
    go_simp
    refine hK _ _ ?_
    clear hd hK K e0 e1 e2 e3 e4 e5 e6 e7 e8 e9 e10 e11 e12 e13 e14 e15 e16 e17 e18 e19 e20 e21 e22 e23 e24 e25 e26 e27 e28 e29 e30 e31 e32
    go_wp2
    go_ret
    exact ⟨rfl, HBV.out.trans (HW.mono HBV.out.size)⟩
theorem told_ff (o d a b m z : Int) (h0 : 0 ≤ z) (h1 : z < 256) (hk : kernB o = false) (ht : wrB o d a b m = false) (w : World) (hw : HasT w) :
    Calls Tryd.prog 5 #[insV o d a b m, .int .u8 z] w fun e w' => e = .returned (.bool true) ∧ Below w.heap.size w w' := by
  have g0 : 0 ≤ z % 16 := by omega
  have g1 : z % 16 < 16 := by omega
  have x1 : wrZ o d a b m = 0 := if_neg (by rw [ht]; decide)
  obtain ⟨is, t2⟩ : ∃ is, wrB o (z % 16) a b m = is := ⟨_, rfl⟩
  obtain ⟨y, x2⟩ : ∃ y, wrZ o (z % 16) a b m = y := ⟨_, rfl⟩
  obtain ⟨U, hU⟩ : ∃ U, U = insW o (z % 16) a b m (insW o d a b m w) := ⟨_, rfl⟩
  have HU := Lib.hid hU
  have HB0 : Hid (Below w.heap.size w U) := Lib.hid (hU ▸ ((ins_below o d a b m w).trans ((ins_below o (z % 16) a b m (insW o d a b m w)).mono (ins_below o d a b m w).size)))
  have HT : Hid (HasT U) := Lib.hid (hw.more HB0.out)
  have HI : Hid (InsAt U w.heap.size o d a b m) := Lib.hid (hU ▸ (ins_at o d a b m w).below (ins_below o (z % 16) a b m _) (by simp))
  have HJ : Hid (InsAt U (w.heap.size + 1) o (z % 16) a b m) := Lib.hid (by have h := ins_at o (z % 16) a b m (insW o d a b m w); rw [show (insW o d a b m w).heap.size = w.heap.size + 1 by simp] at h; exact hU ▸ h)
  have W1 : Hid (∀ v, Below U.heap.size U v → Calls Tryd.prog 11 #[insV o d a b m] v fun e w' => e = .returned (.tuple #[.int .i64 0, .bool false]) ∧ Below U.heap.size U w') := Lib.hid fun v hb => keep hb (writes_any o d a b m _ _ x1 ht v (HT.out.more hb))
  have W2 : Hid (∀ v, Below U.heap.size U v → Calls Tryd.prog 11 #[insV o (z % 16) a b m] v fun e w' => e = .returned (.tuple #[.int .i64 y, .bool is]) ∧ Below U.heap.size U w') := Lib.hid fun v hb => keep hb (writes_any o (z % 16) a b m _ _ x2 t2 v (HT.out.more hb))
  have HK : Hid (∀ v, Calls Tryd.prog 15 #[.int .i64 o] v fun e w' => e = .returned (.bool false) ∧ v = w') := Lib.hid fun v => kernel_any o _ hk v
  clear hw x1 x2 t2 ht hk
  go_enter Tryd.func5, Tryd.ntmps5
  go_wp2_with fail
  rw [show (w.alloc (.cells #[.int .i64 o, .int .i64 d, .int .i64 a, .int .i64 b, .int .i64 m] 23)).alloc (.cells #[.int .i64 o, .int .i64 (z % 16), .int .i64 a, .int .i64 b, .int .i64 m] 23) = U from HU.out.symm]
  refine (W1.out _ (Below.refl _ _)).mono ?_
  rintro e w1 ⟨rfl, hb1⟩
  obtain ⟨r0, r1, r2, r3, r4⟩ := (HJ.out.more hb1).cells
  have hz := (HJ.out.more hb1).lt
  have HB1 := Lib.hid hb1
  clear hb1 hU
  go_wp2_with fail
  refine (W2.out _ HB1.out).mono ?_
  rintro e V ⟨rfl, hbV⟩
  clear r0 r1 r2 r3 r4 hz
  have p0 := (HI.out.more hbV).cells.1
  have p1 := (HI.out.more hbV).cells.2.1
  have q0 := (HJ.out.more hbV).cells.1
  have q1 := (HJ.out.more hbV).cells.2.1
  have hz1 := (HJ.out.more hbV).lt
  have hz0 : w.heap.size < V.heap.size := by omega
  have HTV := Lib.hid (HT.out.more hbV)
  have HBV := Lib.hid (HB0.out.trans (hbV.mono HB0.out.size))
  clear hbV HB1
  go_upto_region 7 with fail
  apply wp_region_auto [42, 43, 44, 45, 46, 47, 48, 49, 50, 51, 52, 53, 54, 55, 56, 57, 58, 59, 60, 61, 62, 63, 64, 65, 66, 67, 68, 69, 70, 71, 72, 73, 74] [_, _, _, _, _, _, _, _, _, _, _, _, _, _, _, _, _, _, _, _, _, _, _, _, _, _, _, _, _, _, _, _, _] (fun W' => Below V.heap.size V W')
  case hm => kernel_rfl
  case hT => intro y; simp only [setAll, List.setIfInBounds_toArray, List.set_cons_succ, List.set_cons_zero]; exact rfl
  case hok => kernel_rfl
  case hn => decide
  case hw => exact (Below.refl _ _).drew
  case hs =>
    refine auto_op 42 [] (by kernel_rfl) (fun y w' HW hd K hK => ?_) ?_
    · go_simp
      refine hK _ _ ?_ ?_ HW
      · simp [upd]
      · exact rfl
    refine auto_op 43 [0] (by kernel_rfl) (fun y w' HW hd K hK => ?_) ?_
    · have e0 := hd_nth (hd 0 (by simp)) rfl
      go_simp
      refine hK _ _ ?_ ?_ HW
      · simp [upd, e0]
      · exact rfl
    refine auto_op 44 [1] (by kernel_rfl) (fun y w' HW hd K hK => ?_) ?_
    · have e1 := hd_nth (hd 1 (by simp)) rfl
      go_simp
      refine hK _ _ ?_ ?_ HW
      · simp [upd, e1]
      · exact rfl
    refine auto_op 45 [2, 1] (by kernel_rfl) (fun y w' HW hd K hK => ?_) ?_
    · have e1 := hd_nth (hd 1 (by simp)) rfl
      have e2 := hd_nth (hd 2 (by simp)) rfl
      go_simp
      refine hK _ _ ?_ ?_ HW
      · simp [upd, e1, e2]
      · exact rfl
    refine auto_op 46 [1, 3] (by kernel_rfl) (fun y w' HW hd K hK => ?_) ?_
    · have e1 := hd_nth (hd 1 (by simp)) rfl
      have e3 := hd_nth (hd 3 (by simp)) rfl
      go_simp
      refine hK _ _ ?_ ?_ HW
      · simp [upd, e1, e3]
      · exact rfl
    refine auto_op 47 [4, 1] (by kernel_rfl) (fun y w' HW hd K hK => ?_) ?_
    · have e1 := hd_nth (hd 1 (by simp)) rfl
      have e4 := hd_nth (hd 4 (by simp)) rfl
      go_simp
      refine hK _ _ ?_ ?_ HW
      · simp [upd, e1, e4]
      · exact rfl
    refine auto_op 48 [5] (by kernel_rfl) (fun y w' HW hd K hK => ?_) ?_
    · have e5 := hd_nth (hd 5 (by simp)) rfl
      go_simp
      refine hK _ _ ?_ ?_ HW
      · simp [upd, e5]
      · exact rfl
    refine auto_op 49 [6, 5] (by kernel_rfl) (fun y w' HW hd K hK => ?_) ?_
    · have e5 := hd_nth (hd 5 (by simp)) rfl
      have e6 := hd_nth (hd 6 (by simp)) rfl
      have hcl : ∀ p : Addr, p.block < V.heap.size → w'.cell? p = V.cell? p := fun p hp => HW.cell hp
      go_simp
      refine hK _ _ ?_ ?_ HW
      · simp [upd, e5, e6]
      · exact rfl
    refine auto_op 50 [7, 5, 5] (by kernel_rfl) (fun y w' HW hd K hK => ?_) ?_
    · have e5 := hd_nth (hd 5 (by simp)) rfl
      have e7 := hd_nth (hd 7 (by simp)) rfl
      go_simp
      refine (HK.out _).mono ?_
      rintro e w3 ⟨rfl, rfl⟩
      refine hK _ _ ?_ ?_ HW
      · simp [upd, e5, e7]
      · exact rfl
    refine auto_op 51 [5] (by kernel_rfl) (fun y w' HW hd K hK => ?_) ?_
    · have e5 := hd_nth (hd 5 (by simp)) rfl
      go_simp
      refine hK _ _ ?_ ?_ HW
      · simp [upd, e5]
      · exact rfl
    refine auto_op 52 [9, 5] (by kernel_rfl) (fun y w' HW hd K hK => ?_) ?_
    · have e5 := hd_nth (hd 5 (by simp)) rfl
      have e9 := hd_nth (hd 9 (by simp)) rfl
      have hcl : ∀ p : Addr, p.block < V.heap.size → w'.cell? p = V.cell? p := fun p hp => HW.cell hp
      go_simp
      refine hK _ _ ?_ ?_ HW
      · simp [upd, e5, e9]
      · exact rfl
    refine auto_op 53 [10, 8, 5] (by kernel_rfl) (fun y w' HW hd K hK => ?_) ?_
    · have e5 := hd_nth (hd 5 (by simp)) rfl
      have e8 := hd_nth (hd 8 (by simp)) rfl
      have e10 := hd_nth (hd 10 (by simp)) rfl
      go_simp
      refine (HK.out _).mono ?_
      rintro e w3 ⟨rfl, rfl⟩
      refine hK _ _ ?_ ?_ HW
      · simp [upd, e5, e8, e10]
      · exact rfl
    refine auto_op 54 [8, 11, 5] (by kernel_rfl) (fun y w' HW hd K hK => ?_) ?_
    · have e5 := hd_nth (hd 5 (by simp)) rfl
      have e8 := hd_nth (hd 8 (by simp)) rfl
      have e11 := hd_nth (hd 11 (by simp)) rfl
      go_simp
      refine hK _ _ ?_ ?_ HW
      · simp [upd, e5, e8, e11]
      · exact rfl
    refine auto_op 55 [5, 12] (by kernel_rfl) (fun y w' HW hd K hK => ?_) ?_
    · have e5 := hd_nth (hd 5 (by simp)) rfl
      have e12 := hd_nth (hd 12 (by simp)) rfl
      go_simp
      refine hK _ _ ?_ ?_ HW
      · simp [upd, e5, e12]
      · exact rfl
    refine auto_op 56 [13, 11] (by kernel_rfl) (fun y w' HW hd K hK => ?_) ?_
    · have e11 := hd_nth (hd 11 (by simp)) rfl
      have e13 := hd_nth (hd 13 (by simp)) rfl
      go_simp
      refine hK _ _ ?_ ?_ HW
      · simp [upd, e11, e13]
      · exact rfl
    refine auto_op 57 [14] (by kernel_rfl) (fun y w' HW hd K hK => ?_) ?_
    · have e14 := hd_nth (hd 14 (by simp)) rfl
      go_simp
      refine hK _ _ ?_ ?_ HW
      · simp [upd, e14]
      · exact rfl
    refine auto_op 58 [15, 14] (by kernel_rfl) (fun y w' HW hd K hK => ?_) ?_
    · have e14 := hd_nth (hd 14 (by simp)) rfl
      have e15 := hd_nth (hd 15 (by simp)) rfl
      have hcl : ∀ p : Addr, p.block < V.heap.size → w'.cell? p = V.cell? p := fun p hp => HW.cell hp
      go_simp
      refine hK _ _ ?_ ?_ HW
      · simp [upd, e14, e15]
      · exact rfl
    refine auto_op 59 [16, 14, 14] (by kernel_rfl) (fun y w' HW hd K hK => ?_) ?_
    · have e14 := hd_nth (hd 14 (by simp)) rfl
      have e16 := hd_nth (hd 16 (by simp)) rfl
      go_simp
      refine (HK.out _).mono ?_
      rintro e w3 ⟨rfl, rfl⟩
      refine hK _ _ ?_ ?_ HW
      · simp [upd, e14, e16]
      · exact rfl
    refine auto_op 60 [17, 14] (by kernel_rfl) (fun y w' HW hd K hK => ?_) ?_
    · have e14 := hd_nth (hd 14 (by simp)) rfl
      have e17 := hd_nth (hd 17 (by simp)) rfl
      go_simp
      refine hK _ _ ?_ ?_ HW
      · simp [upd, e14, e17]
      · exact rfl
    refine auto_op 61 [18, 17, 14] (by kernel_rfl) (fun y w' HW hd K hK => ?_) ?_
    · have e14 := hd_nth (hd 14 (by simp)) rfl
      have e17 := hd_nth (hd 17 (by simp)) rfl
      have e18 := hd_nth (hd 18 (by simp)) rfl
      go_simp
      refine hK _ _ ?_ ?_ HW
      · simp [upd, e14, e17, e18]
      · exact rfl
    refine auto_op 62 [19] (by kernel_rfl) (fun y w' HW hd K hK => ?_) ?_
    · have e19 := hd_nth (hd 19 (by simp)) rfl
      go_simp
      refine hK _ _ ?_ ?_ HW
      · simp [upd, e19]
      · exact rfl
    refine auto_op 63 [20, 19] (by kernel_rfl) (fun y w' HW hd K hK => ?_) ?_
    · have e19 := hd_nth (hd 19 (by simp)) rfl
      have e20 := hd_nth (hd 20 (by simp)) rfl
      have hcl : ∀ p : Addr, p.block < V.heap.size → w'.cell? p = V.cell? p := fun p hp => HW.cell hp
      go_simp
      refine hK _ _ ?_ ?_ HW
      · simp [upd, e19, e20]
      · exact rfl
    refine auto_op 64 [21, 19] (by kernel_rfl) (fun y w' HW hd K hK => ?_) ?_
    · have e19 := hd_nth (hd 19 (by simp)) rfl
      have e21 := hd_nth (hd 21 (by simp)) rfl
      go_simp
      refine hK _ _ ?_ ?_ HW
      · simp [upd, e19, e21]
      · exact rfl
    refine auto_op 65 [22, 19, 19] (by kernel_rfl) (fun y w' HW hd K hK => ?_) ?_
    · have e19 := hd_nth (hd 19 (by simp)) rfl
      have e22 := hd_nth (hd 22 (by simp)) rfl
      go_simp
      refine hK _ _ ?_ ?_ HW
      · simp [upd, e19, e22]
      · exact rfl
    refine auto_op 66 [23] (by kernel_rfl) (fun y w' HW hd K hK => ?_) ?_
    · have e23 := hd_nth (hd 23 (by simp)) rfl
      go_simp
      refine hK _ _ ?_ ?_ HW
      · simp [upd, e23]
      · exact rfl
    refine auto_op 67 [24, 23] (by kernel_rfl) (fun y w' HW hd K hK => ?_) ?_
    · have e23 := hd_nth (hd 23 (by simp)) rfl
      have e24 := hd_nth (hd 24 (by simp)) rfl
      have hcl : ∀ p : Addr, p.block < V.heap.size → w'.cell? p = V.cell? p := fun p hp => HW.cell hp
      go_simp
      refine hK _ _ ?_ ?_ HW
      · simp [upd, e23, e24]
      · exact rfl
    refine auto_op 68 [25, 23] (by kernel_rfl) (fun y w' HW hd K hK => ?_) ?_
    · have e23 := hd_nth (hd 23 (by simp)) rfl
      have e25 := hd_nth (hd 25 (by simp)) rfl
      go_simp
      refine hK _ _ ?_ ?_ HW
      · simp [upd, e23, e25]
      · exact rfl
    refine auto_op 69 [23, 26, 19] (by kernel_rfl) (fun y w' HW hd K hK => ?_) ?_
    · have e19 := hd_nth (hd 19 (by simp)) rfl
      have e23 := hd_nth (hd 23 (by simp)) rfl
      have e26 := hd_nth (hd 26 (by simp)) rfl
      go_simp
      refine hK _ _ ?_ ?_ HW
      · simp [upd, e19, e23, e26]
      · exact rfl
    refine auto_op 70 [19, 27, 14] (by kernel_rfl) (fun y w' HW hd K hK => ?_) ?_
    · have e14 := hd_nth (hd 14 (by simp)) rfl
      have e19 := hd_nth (hd 19 (by simp)) rfl
      have e27 := hd_nth (hd 27 (by simp)) rfl
      go_simp
      refine hK _ _ ?_ ?_ HW
      · simp [upd, e14, e19, e27]
      · exact rfl
    refine auto_op 71 [14, 28] (by kernel_rfl) (fun y w' HW hd K hK => ?_) ?_
    · have e14 := hd_nth (hd 14 (by simp)) rfl
      have e28 := hd_nth (hd 28 (by simp)) rfl
      go_simp
      refine hK _ _ ?_ ?_ HW
      · simp [upd, e14, e28]
      · exact rfl
    refine auto_op 72 [29, 23] (by kernel_rfl) (fun y w' HW hd K hK => ?_) ?_
    · have e23 := hd_nth (hd 23 (by simp)) rfl
      have e29 := hd_nth (hd 29 (by simp)) rfl
      go_simp
      refine hK _ _ ?_ ?_ HW
      · simp [upd, e23, e29]
      · exact rfl
    refine auto_op 73 [30, 30] (by kernel_rfl) (fun y w' HW hd K hK => ?_) ?_
    · have e30 := hd_nth (hd 30 (by simp)) rfl
      go_simp
      refine (awake_any (Below.refl _ _) (HTV.out.more HW)).mono ?_
      rintro e w4 ⟨rfl, hb4⟩
      refine hK _ _ ?_ ?_ (HW.trans (hb4.mono HW.size))
      · simp [upd, e30]
      · exact rfl
    refine auto_op 74 [30, 31] (by kernel_rfl) (fun y w' HW hd K hK => ?_) ?_
    · have e30 := hd_nth (hd 30 (by simp)) rfl
      have e31 := hd_nth (hd 31 (by simp)) rfl
      go_simp
      refine hK _ _ ?_ ?_ HW
      · simp [upd, e30, e31]
      · exact rfl
    refine auto_last fun y w' HW hd K hK => ?_
    have e0 := hd_nth (hd 0 (by omega)) rfl
    have e1 := hd_nth (hd 1 (by omega)) rfl
    have e2 := hd_nth (hd 2 (by omega)) rfl
    have e3 := hd_nth (hd 3 (by omega)) rfl
    have e4 := hd_nth (hd 4 (by omega)) rfl
    have e5 := hd_nth (hd 5 (by omega)) rfl
    have e6 := hd_nth (hd 6 (by omega)) rfl
    have e7 := hd_nth (hd 7 (by omega)) rfl
    have e8 := hd_nth (hd 8 (by omega)) rfl
    have e9 := hd_nth (hd 9 (by omega)) rfl
    have e10 := hd_nth (hd 10 (by omega)) rfl
    have e11 := hd_nth (hd 11 (by omega)) rfl
    have e12 := hd_nth (hd 12 (by omega)) rfl
    have e13 := hd_nth (hd 13 (by omega)) rfl
    have e14 := hd_nth (hd 14 (by omega)) rfl
    have e15 := hd_nth (hd 15 (by omega)) rfl
    have e16 := hd_nth (hd 16 (by omega)) rfl
    have e17 := hd_nth (hd 17 (by omega)) rfl
    have e18 := hd_nth (hd 18 (by omega)) rfl
    have e19 := hd_nth (hd 19 (by omega)) rfl
    have e20 := hd_nth (hd 20 (by omega)) rfl
    have e21 := hd_nth (hd 21 (by omega)) rfl
    have e22 := hd_nth (hd 22 (by omega)) rfl
    have e23 := hd_nth (hd 23 (by omega)) rfl
    have e24 := hd_nth (hd 24 (by omega)) rfl
    have e25 := hd_nth (hd 25 (by omega)) rfl
    have e26 := hd_nth (hd 26 (by omega)) rfl
    have e27 := hd_nth (hd 27 (by omega)) rfl
    have e28 := hd_nth (hd 28 (by omega)) rfl
    have e29 := hd_nth (hd 29 (by omega)) rfl
    have e30 := hd_nth (hd 30 (by omega)) rfl
    have e31 := hd_nth (hd 31 (by omega)) rfl
    have e32 := hd_nth (hd 32 (by omega)) rfl
    go_simp
    refine hK _ _ ?_
    clear hd hK K e0 e1 e2 e3 e4 e5 e6 e7 e8 e9 e10 e11 e12 e13 e14 e15 e16 e17 e18 e19 e20 e21 e22 e23 e24 e25 e26 e27 e28 e29 e30 e31 e32
    go_wp2
    go_ret
    exact ⟨rfl, HBV.out.trans (HW.mono HBV.out.size)⟩
/-- the law, any instruction, any byte -/
theorem told_any (o d a b m z : Int) (h0 : 0 ≤ z) (h1 : z < 256) (w : World) (hw : HasT w) :
    Calls Tryd.prog 5 #[insV o d a b m, .int .u8 z] w fun e w' => e = .returned (.bool true) ∧ Below w.heap.size w w' := by
  cases hk : kernB o
  all_goals cases ht : wrB o d a b m
  · exact told_ff o d a b m z h0 h1 hk ht w hw
  · exact told_tf o d a b m z h0 h1 hk ht w hw
  · exact told_ft o d a b m z h0 h1 hk ht w hw
  · exact told_tt o d a b m z h0 h1 hk ht w hw
end Go.Proofs.YtklakehhckipfaaDoor.Is
