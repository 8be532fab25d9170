/- The walk of hermitagelaw09.IsaPlays. -/
import Derived.Test.YtklakehhckipfaaDoorNh
import Derived.Test.YtklakehhckipfaaDoorRa
import Derived.Deep.Cut
namespace Go.Proofs.YtklakehhckipfaaDoor.Is
open Go.RowKit Ut
set_option linter.unusedVariables false
set_option maxRecDepth 100000
set_option maxHeartbeats 8000000

theorem dec_parts (x : Nat) : ∃ o d a b m : Int, decV x = insV o d a b m := by
  unfold decV
  split
  · exact ⟨_, _, _, _, _, rfl⟩
  · exact ⟨_, _, _, _, _, rfl⟩
/-- the law, any instruction, any word -/
theorem plays_any (o d a b m : Int) (x : Nat) (hx : x < 4294967296) (w : World) (hw : HasT w) :
    Calls Tryd.prog 3 #[insV o d a b m, .int .u32 x] w fun e w' => e = .returned (.bool true) ∧ Below w.heap.size w w' := by
  obtain ⟨y, hy⟩ : ∃ y, encZ o d a b m = y := ⟨_, rfl⟩
  obtain ⟨z, hz⟩ : ∃ z, encE o d a b m = z := ⟨_, rfl⟩
  obtain ⟨r, hr⟩ : ∃ r, wrZ o d a b m = r := ⟨_, rfl⟩
  obtain ⟨t, ht⟩ : ∃ t, wrB o d a b m = t := ⟨_, rfl⟩
  obtain ⟨v_, hv⟩ : ∃ v, validB o d a b m = v := ⟨_, rfl⟩
  obtain ⟨k, hk⟩ : ∃ k, kernB o = k := ⟨_, rfl⟩
  obtain ⟨o2, d2, a2, b2, m2, hd⟩ := dec_parts x
  obtain ⟨q, hq⟩ : ∃ q, decT x = q := ⟨_, rfl⟩
  have E1 : Hid (∀ W v, HasT W → Below W.heap.size W v → Calls Tryd.prog 7 #[insV o d a b m] v fun e w' => e = .returned (.tuple #[.int .u32 y, .int .i64 z]) ∧ Below W.heap.size W w') := Lib.hid fun W v hw hb => keep hb (enc_any o d a b m _ _ hy hz v (hw.more hb))
  have E2 : Hid (∀ W v, HasT W → Below W.heap.size W v → Calls Tryd.prog 8 #[insV o d a b m] v fun e w' => e = .returned (.tuple #[.int .u32 y, .int .i64 z]) ∧ Below W.heap.size W w') := Lib.hid fun W v hw hb => keep hb (refEnc_any o d a b m _ _ hy hz v)
  have D1 : Hid (∀ W v, HasT W → Below W.heap.size W v → Calls Tryd.prog 9 #[.int .u32 x] v fun e w' => e = .returned (.tuple #[insV o2 d2 a2 b2 m2, .bool q]) ∧ Below W.heap.size W w') := Lib.hid fun W v hw hb => keep hb (by have := dec_any x hx v (hw.more hb); rw [hd, hq] at this; exact this)
  have D2 : Hid (∀ W v, HasT W → Below W.heap.size W v → Calls Tryd.prog 10 #[.int .u32 x] v fun e w' => e = .returned (.tuple #[insV o2 d2 a2 b2 m2, .bool q]) ∧ Below W.heap.size W w') := Lib.hid fun W v hw hb => keep hb (by have := refDec_any x hx v; rw [hd, hq] at this; exact this)
  have W1 : Hid (∀ W v, HasT W → Below W.heap.size W v → Calls Tryd.prog 11 #[insV o d a b m] v fun e w' => e = .returned (.tuple #[.int .i64 r, .bool t]) ∧ Below W.heap.size W w') := Lib.hid fun W v hw hb => keep hb (writes_any o d a b m _ _ hr ht v (hw.more hb))
  have W2 : Hid (∀ W v, HasT W → Below W.heap.size W v → Calls Tryd.prog 12 #[insV o d a b m] v fun e w' => e = .returned (.tuple #[.int .i64 r, .bool t]) ∧ Below W.heap.size W w') := Lib.hid fun W v hw hb => keep hb (refWrites_any o d a b m _ _ hr ht v)
  have V1 : Hid (∀ W v, HasT W → Below W.heap.size W v → Calls Tryd.prog 13 #[insV o d a b m] v fun e w' => e = .returned (.bool v_) ∧ Below W.heap.size W w') := Lib.hid fun W v hw hb => keep hb (valid_any o d a b m _ hv v (hw.more hb))
  have V2 : Hid (∀ W v, HasT W → Below W.heap.size W v → Calls Tryd.prog 14 #[insV o d a b m] v fun e w' => e = .returned (.bool v_) ∧ Below W.heap.size W w') := Lib.hid fun W v hw hb => keep hb (refValid_any o d a b m _ hv v)
  have K1 : Hid (∀ v, Calls Tryd.prog 15 #[.int .i64 o] v fun e w' => e = .returned (.bool k) ∧ v = w') := Lib.hid fun v => kernel_any o _ hk v
  have K2 : Hid (∀ v, Calls Tryd.prog 16 #[.int .i64 o] v fun e w' => e = .returned (.bool k) ∧ v = w') := Lib.hid fun v => refKernel_any o _ hk v
  obtain ⟨U, hU⟩ : ∃ U, U = insW o d a b m w := ⟨_, rfl⟩
  have HU := Lib.hid hU
  have HB0 : Hid (Below w.heap.size w U) := Lib.hid (hU ▸ ins_below o d a b m w)
  have HT : Hid (HasT U) := Lib.hid (hw.more HB0.out)
  have HI : Hid (InsAt U w.heap.size o d a b m) := Lib.hid (hU ▸ ins_at o d a b m w)
  clear hy hz hr ht hv hk hd hq hw hU hx
  go_enter Tryd.func3, Tryd.ntmps3
  go_wp2_with fail
  rw [show w.alloc (.cells #[.int .i64 o, .int .i64 d, .int .i64 a, .int .i64 b, .int .i64 m] 23) = U from HU.out.symm]
  refine (E1.out U _ HT.out (Below.refl _ _)).mono ?_
  rintro e w1 ⟨rfl, hb1⟩
  obtain ⟨r0, r1, r2, r3, r4⟩ := (HI.out.more hb1).cells
  have HB1 := Lib.hid hb1
  clear hb1
  go_wp2_with fail
  refine (E2.out U _ HT.out HB1.out).mono ?_
  rintro e w2 ⟨rfl, hb2⟩
  clear r0 r1 r2 r3 r4
  have HB2 := Lib.hid hb2
  clear hb2
  go_wp2_with fail
  refine (D1.out U _ HT.out HB2.out).mono ?_
  rintro e w3 ⟨rfl, hb3⟩
  have hz3 := (HI.out.more hb3).lt
  have HI3 := Lib.hid (HI.out.more hb3)
  have HT3 := Lib.hid (HT.out.more hb3)
  have HB3 := Lib.hid (HB0.out.trans (hb3.mono HB0.out.size))
  clear hb3
  obtain ⟨X, hX⟩ : ∃ X, X = insW o2 d2 a2 b2 m2 w3 := ⟨_, rfl⟩
  have HX := Lib.hid hX
  have HIX : Hid (InsAt X w.heap.size o d a b m) := Lib.hid (HI3.out.more (hX ▸ ins_below o2 d2 a2 b2 m2 w3))
  have HCX : Hid (InsAt X w3.heap.size o2 d2 a2 b2 m2) := Lib.hid (hX ▸ ins_at o2 d2 a2 b2 m2 w3)
  have HTX : Hid (HasT X) := Lib.hid (HT3.out.more (hX ▸ ins_below o2 d2 a2 b2 m2 w3))
  have HBX : Hid (Below w.heap.size w X) := Lib.hid (HB3.out.trans ((hX ▸ ins_below o2 d2 a2 b2 m2 w3 : Below w3.heap.size w3 X).mono HB3.out.size))
  clear hX
  go_wp2_with fail
  rw [show w3.alloc (.cells #[.int .i64 o2, .int .i64 d2, .int .i64 a2, .int .i64 b2, .int .i64 m2] 23) = X from HX.out.symm]
  refine (D2.out X _ HTX.out (Below.refl _ _)).mono ?_
  rintro e w4 ⟨rfl, hb4⟩
  have HI4 := Lib.hid (HIX.out.more hb4)
  have HC4 := Lib.hid (HCX.out.more hb4)
  have HT4 := Lib.hid (HTX.out.more hb4)
  have HB4 := Lib.hid (HBX.out.trans (hb4.mono HBX.out.size))
  clear hb4
  obtain ⟨Y, hY⟩ : ∃ Y, Y = insW o2 d2 a2 b2 m2 w4 := ⟨_, rfl⟩
  have HY := Lib.hid hY
  have HIY : Hid (InsAt Y w.heap.size o d a b m) := Lib.hid (HI4.out.more (hY ▸ ins_below o2 d2 a2 b2 m2 w4))
  have HCY : Hid (InsAt Y w3.heap.size o2 d2 a2 b2 m2) := Lib.hid (HC4.out.more (hY ▸ ins_below o2 d2 a2 b2 m2 w4))
  have HDY : Hid (InsAt Y w4.heap.size o2 d2 a2 b2 m2) := Lib.hid (hY ▸ ins_at o2 d2 a2 b2 m2 w4)
  have HTY : Hid (HasT Y) := Lib.hid (HT4.out.more (hY ▸ ins_below o2 d2 a2 b2 m2 w4))
  have HBY : Hid (Below w.heap.size w Y) := Lib.hid (HB4.out.trans ((hY ▸ ins_below o2 d2 a2 b2 m2 w4 : Below w4.heap.size w4 Y).mono HB4.out.size))
  clear hY hz3
  obtain ⟨s0, s1, s2, s3, s4⟩ := HI4.out.cells
  have hz4 := HI4.out.lt
  go_wp2_with fail
  rw [show w4.alloc (.cells #[.int .i64 o2, .int .i64 d2, .int .i64 a2, .int .i64 b2, .int .i64 m2] 23) = Y from HY.out.symm]
  refine (W1.out Y _ HTY.out (Below.refl _ _)).mono ?_
  rintro e w5 ⟨rfl, hb5⟩
  clear s0 s1 s2 s3 s4 hz4
  obtain ⟨r0, r1, r2, r3, r4⟩ := (HIY.out.more hb5).cells
  have HB5 := Lib.hid hb5
  clear hb5
  go_wp2_with fail
  refine (W2.out Y _ HTY.out HB5.out).mono ?_
  rintro e V ⟨rfl, hbV⟩
  clear r0 r1 r2 r3 r4
  obtain ⟨p0, p1, p2, p3, p4⟩ := (HIY.out.more hbV).cells
  obtain ⟨c0, c1, c2, c3, c4⟩ := (HCY.out.more hbV).cells
  obtain ⟨q0, q1, q2, q3, q4⟩ := (HDY.out.more hbV).cells
  have hz0 := (HIY.out.more hbV).lt
  have hz1 := (HCY.out.more hbV).lt
  have hz2 := (HDY.out.more hbV).lt
  have HTV := Lib.hid (HTY.out.more hbV)
  have HBV := Lib.hid (HBY.out.trans (hbV.mono HBY.out.size))
  clear hbV HB5 HIY HCY HDY HI4 HC4 HIX HCX HI3 HI
  go_upto_region 7 with fail
  apply wp_region_auto [47, 48, 49, 50, 51, 52, 53, 54, 55, 56, 57, 58, 59, 60, 61, 62, 63, 64, 65, 66, 67, 68, 69, 70, 71, 72, 73, 74, 75, 76, 77, 78, 79, 80, 81, 82, 83, 84, 85, 86, 87, 88, 89, 90, 91, 92, 93] [_, _, _, _, _, _, _, _, _, _, _, _, _, _, _, _, _, _, _, _, _, _, _, _, _, _, _, _, _, _, _, _, _, _, _, _, _, _, _, _, _, _, _, _, _, _, _] (fun W' => Below V.heap.size V W')
  case hm => kernel_rfl
  case hT => intro y; simp only [setAll, List.setIfInBounds_toArray, List.set_cons_succ, List.set_cons_zero]; exact rfl
  case hok => kernel_rfl
  case hn => decide
  case hw => exact (Below.refl _ _).drew
  case hs =>
    refine auto_op 47 [] (by kernel_rfl) (fun y w' HW hd K hK => ?_) ?_
    · go_simp
      refine hK _ _ ?_ ?_ HW
      · simp [upd]
      · exact rfl
    refine auto_op 48 [] (by kernel_rfl) (fun y w' HW hd K hK => ?_) ?_
    · go_simp
      refine hK _ _ ?_ ?_ HW
      · simp [upd]
      · exact rfl
    refine auto_op 49 [0, 1] (by kernel_rfl) (fun y w' HW hd K hK => ?_) ?_
    · have e0 := hd_nth (hd 0 (by simp)) rfl
      have e1 := hd_nth (hd 1 (by simp)) rfl
      go_simp
      refine hK _ _ ?_ ?_ HW
      · simp [upd, e0, e1]
      · exact rfl
    refine auto_op 50 [2] (by kernel_rfl) (fun y w' HW hd K hK => ?_) ?_
    · have e2 := hd_nth (hd 2 (by simp)) rfl
      go_simp
      refine hK _ _ ?_ ?_ HW
      · simp [upd, e2]
      · exact rfl
    refine auto_op 51 [3] (by kernel_rfl) (fun y w' HW hd K hK => ?_) ?_
    · have e3 := hd_nth (hd 3 (by simp)) rfl
      go_simp
      refine hK _ _ ?_ ?_ HW
      · simp [upd, e3]
      · exact rfl
    refine auto_op 52 [3] (by kernel_rfl) (fun y w' HW hd K hK => ?_) ?_
    · have e3 := hd_nth (hd 3 (by simp)) rfl
      go_simp
      refine hK _ _ ?_ ?_ HW
      · simp [upd, e3]
      · exact rfl
    refine auto_op 53 [4, 5, 3] (by kernel_rfl) (fun y w' HW hd K hK => ?_) ?_
    · have e3 := hd_nth (hd 3 (by simp)) rfl
      have e4 := hd_nth (hd 4 (by simp)) rfl
      have e5 := hd_nth (hd 5 (by simp)) rfl
      go_simp
      refine hK _ _ ?_ ?_ HW
      · simp [upd, e3, e4, e5]
      · exact rfl
    refine auto_op 54 [3, 6] (by kernel_rfl) (fun y w' HW hd K hK => ?_) ?_
    · have e3 := hd_nth (hd 3 (by simp)) rfl
      have e6 := hd_nth (hd 6 (by simp)) rfl
      go_simp
      refine hK _ _ ?_ ?_ HW
      · simp [upd, e3, e6]
      · exact rfl
    refine auto_op 55 [7, 3] (by kernel_rfl) (fun y w' HW hd K hK => ?_) ?_
    · have e3 := hd_nth (hd 3 (by simp)) rfl
      have e7 := hd_nth (hd 7 (by simp)) rfl
      go_simp
      refine hK _ _ ?_ ?_ HW
      · simp [upd, e3, e7]
      · exact rfl
    refine auto_op 56 [8] (by kernel_rfl) (fun y w' HW hd K hK => ?_) ?_
    · have e8 := hd_nth (hd 8 (by simp)) rfl
      have hcl : ∀ p : Addr, p.block < V.heap.size → w'.cell? p = V.cell? p := fun p hp => HW.cell hp
      go_simp
      refine hK _ _ ?_ ?_ HW
      · simp [upd, e8]
      · exact rfl
    refine auto_op 57 [8] (by kernel_rfl) (fun y w' HW hd K hK => ?_) ?_
    · have e8 := hd_nth (hd 8 (by simp)) rfl
      have hcl : ∀ p : Addr, p.block < V.heap.size → w'.cell? p = V.cell? p := fun p hp => HW.cell hp
      go_simp
      refine hK _ _ ?_ ?_ HW
      · simp [upd, e8]
      · exact rfl
    refine auto_op 58 [9, 10, 8] (by kernel_rfl) (fun y w' HW hd K hK => ?_) ?_
    · have e8 := hd_nth (hd 8 (by simp)) rfl
      have e9 := hd_nth (hd 9 (by simp)) rfl
      have e10 := hd_nth (hd 10 (by simp)) rfl
      go_simp
      refine hK _ _ ?_ ?_ HW
      · simp [upd, e8, e9, e10]
      · exact rfl
    refine auto_op 59 [8, 11] (by kernel_rfl) (fun y w' HW hd K hK => ?_) ?_
    · have e8 := hd_nth (hd 8 (by simp)) rfl
      have e11 := hd_nth (hd 11 (by simp)) rfl
      go_simp
      refine hK _ _ ?_ ?_ HW
      · simp [upd, e8, e11]
      · exact rfl
    refine auto_op 60 [12, 8] (by kernel_rfl) (fun y w' HW hd K hK => ?_) ?_
    · have e8 := hd_nth (hd 8 (by simp)) rfl
      have e12 := hd_nth (hd 12 (by simp)) rfl
      go_simp
      refine hK _ _ ?_ ?_ HW
      · simp [upd, e8, e12]
      · exact rfl
    refine auto_op 61 [13] (by kernel_rfl) (fun y w' HW hd K hK => ?_) ?_
    · have e13 := hd_nth (hd 13 (by simp)) rfl
      go_simp
      refine hK _ _ ?_ ?_ HW
      · simp [upd, e13]
      · exact rfl
    refine auto_op 62 [13] (by kernel_rfl) (fun y w' HW hd K hK => ?_) ?_
    · have e13 := hd_nth (hd 13 (by simp)) rfl
      go_simp
      refine hK _ _ ?_ ?_ HW
      · simp [upd, e13]
      · exact rfl
    refine auto_op 63 [14, 15, 13] (by kernel_rfl) (fun y w' HW hd K hK => ?_) ?_
    · have e13 := hd_nth (hd 13 (by simp)) rfl
      have e14 := hd_nth (hd 14 (by simp)) rfl
      have e15 := hd_nth (hd 15 (by simp)) rfl
      go_simp
      refine hK _ _ ?_ ?_ HW
      · simp [upd, e13, e14, e15]
      · exact rfl
    refine auto_op 64 [13, 16] (by kernel_rfl) (fun y w' HW hd K hK => ?_) ?_
    · have e13 := hd_nth (hd 13 (by simp)) rfl
      have e16 := hd_nth (hd 16 (by simp)) rfl
      go_simp
      refine hK _ _ ?_ ?_ HW
      · simp [upd, e13, e16]
      · exact rfl
    refine auto_op 65 [17, 13] (by kernel_rfl) (fun y w' HW hd K hK => ?_) ?_
    · have e13 := hd_nth (hd 13 (by simp)) rfl
      have e17 := hd_nth (hd 17 (by simp)) rfl
      go_simp
      refine hK _ _ ?_ ?_ HW
      · simp [upd, e13, e17]
      · exact rfl
    refine auto_op 66 [18] (by kernel_rfl) (fun y w' HW hd K hK => ?_) ?_
    · have e18 := hd_nth (hd 18 (by simp)) rfl
      go_simp
      refine hK _ _ ?_ ?_ HW
      · simp [upd, e18]
      · exact rfl
    refine auto_op 67 [18] (by kernel_rfl) (fun y w' HW hd K hK => ?_) ?_
    · have e18 := hd_nth (hd 18 (by simp)) rfl
      go_simp
      refine hK _ _ ?_ ?_ HW
      · simp [upd, e18]
      · exact rfl
    refine auto_op 68 [19, 20, 18] (by kernel_rfl) (fun y w' HW hd K hK => ?_) ?_
    · have e18 := hd_nth (hd 18 (by simp)) rfl
      have e19 := hd_nth (hd 19 (by simp)) rfl
      have e20 := hd_nth (hd 20 (by simp)) rfl
      go_simp
      refine hK _ _ ?_ ?_ HW
      · simp [upd, e18, e19, e20]
      · exact rfl
    refine auto_op 69 [18, 21] (by kernel_rfl) (fun y w' HW hd K hK => ?_) ?_
    · have e18 := hd_nth (hd 18 (by simp)) rfl
      have e21 := hd_nth (hd 21 (by simp)) rfl
      go_simp
      refine hK _ _ ?_ ?_ HW
      · simp [upd, e18, e21]
      · exact rfl
    refine auto_op 70 [22, 18] (by kernel_rfl) (fun y w' HW hd K hK => ?_) ?_
    · have e18 := hd_nth (hd 18 (by simp)) rfl
      have e22 := hd_nth (hd 22 (by simp)) rfl
      go_simp
      refine hK _ _ ?_ ?_ HW
      · simp [upd, e18, e22]
      · exact rfl
    refine auto_op 71 [23] (by kernel_rfl) (fun y w' HW hd K hK => ?_) ?_
    · have e23 := hd_nth (hd 23 (by simp)) rfl
      go_simp
      refine hK _ _ ?_ ?_ HW
      · simp [upd, e23]
      · exact rfl
    refine auto_op 72 [23] (by kernel_rfl) (fun y w' HW hd K hK => ?_) ?_
    · have e23 := hd_nth (hd 23 (by simp)) rfl
      go_simp
      refine hK _ _ ?_ ?_ HW
      · simp [upd, e23]
      · exact rfl
    refine auto_op 73 [24, 25, 23] (by kernel_rfl) (fun y w' HW hd K hK => ?_) ?_
    · have e23 := hd_nth (hd 23 (by simp)) rfl
      have e24 := hd_nth (hd 24 (by simp)) rfl
      have e25 := hd_nth (hd 25 (by simp)) rfl
      go_simp
      refine hK _ _ ?_ ?_ HW
      · simp [upd, e23, e24, e25]
      · exact rfl
    refine auto_op 74 [23, 26] (by kernel_rfl) (fun y w' HW hd K hK => ?_) ?_
    · have e23 := hd_nth (hd 23 (by simp)) rfl
      have e26 := hd_nth (hd 26 (by simp)) rfl
      go_simp
      refine hK _ _ ?_ ?_ HW
      · simp [upd, e23, e26]
      · exact rfl
    refine auto_op 75 [27, 23] (by kernel_rfl) (fun y w' HW hd K hK => ?_) ?_
    · have e23 := hd_nth (hd 23 (by simp)) rfl
      have e27 := hd_nth (hd 27 (by simp)) rfl
      go_simp
      refine hK _ _ ?_ ?_ HW
      · simp [upd, e23, e27]
      · exact rfl
    refine auto_op 76 [28] (by kernel_rfl) (fun y w' HW hd K hK => ?_) ?_
    · have e28 := hd_nth (hd 28 (by simp)) rfl
      have hcl : ∀ p : Addr, p.block < V.heap.size → w'.cell? p = V.cell? p := fun p hp => HW.cell hp
      go_simp
      refine hK _ _ ?_ ?_ HW
      · simp [upd, e28]
      · exact rfl
    refine auto_op 77 [29, 28, 28] (by kernel_rfl) (fun y w' HW hd K hK => ?_) ?_
    · have e28 := hd_nth (hd 28 (by simp)) rfl
      have e29 := hd_nth (hd 29 (by simp)) rfl
      go_simp
      refine (V1.out V _ HTV.out HW).mono ?_
      rintro e w5 ⟨rfl, hb6⟩
      refine hK _ _ ?_ ?_ hb6
      · simp [upd, e28, e29]
      · exact rfl
    refine auto_op 78 [28] (by kernel_rfl) (fun y w' HW hd K hK => ?_) ?_
    · have e28 := hd_nth (hd 28 (by simp)) rfl
      have hcl : ∀ p : Addr, p.block < V.heap.size → w'.cell? p = V.cell? p := fun p hp => HW.cell hp
      go_simp
      refine hK _ _ ?_ ?_ HW
      · simp [upd, e28]
      · exact rfl
    refine auto_op 79 [31, 30, 28] (by kernel_rfl) (fun y w' HW hd K hK => ?_) ?_
    · have e28 := hd_nth (hd 28 (by simp)) rfl
      have e30 := hd_nth (hd 30 (by simp)) rfl
      have e31 := hd_nth (hd 31 (by simp)) rfl
      go_simp
      refine (V2.out V _ HTV.out HW).mono ?_
      rintro e w5 ⟨rfl, hb6⟩
      refine hK _ _ ?_ ?_ hb6
      · simp [upd, e28, e30, e31]
      · exact rfl
    refine auto_op 80 [30, 32, 28] (by kernel_rfl) (fun y w' HW hd K hK => ?_) ?_
    · have e28 := hd_nth (hd 28 (by simp)) rfl
      have e30 := hd_nth (hd 30 (by simp)) rfl
      have e32 := hd_nth (hd 32 (by simp)) rfl
      go_simp
      refine hK _ _ ?_ ?_ HW
      · simp [upd, e28, e30, e32]
      · exact rfl
    refine auto_op 81 [28, 33] (by kernel_rfl) (fun y w' HW hd K hK => ?_) ?_
    · have e28 := hd_nth (hd 28 (by simp)) rfl
      have e33 := hd_nth (hd 33 (by simp)) rfl
      go_simp
      refine hK _ _ ?_ ?_ HW
      · simp [upd, e28, e33]
      · exact rfl
    refine auto_op 82 [34, 32] (by kernel_rfl) (fun y w' HW hd K hK => ?_) ?_
    · have e32 := hd_nth (hd 32 (by simp)) rfl
      have e34 := hd_nth (hd 34 (by simp)) rfl
      go_simp
      refine hK _ _ ?_ ?_ HW
      · simp [upd, e32, e34]
      · exact rfl
    refine auto_op 83 [35] (by kernel_rfl) (fun y w' HW hd K hK => ?_) ?_
    · have e35 := hd_nth (hd 35 (by simp)) rfl
      go_simp
      refine hK _ _ ?_ ?_ HW
      · simp [upd, e35]
      · exact rfl
    refine auto_op 84 [36, 35] (by kernel_rfl) (fun y w' HW hd K hK => ?_) ?_
    · have e35 := hd_nth (hd 35 (by simp)) rfl
      have e36 := hd_nth (hd 36 (by simp)) rfl
      have hcl : ∀ p : Addr, p.block < V.heap.size → w'.cell? p = V.cell? p := fun p hp => HW.cell hp
      go_simp
      refine hK _ _ ?_ ?_ HW
      · simp [upd, e35, e36]
      · exact rfl
    refine auto_op 85 [37, 35, 35] (by kernel_rfl) (fun y w' HW hd K hK => ?_) ?_
    · have e35 := hd_nth (hd 35 (by simp)) rfl
      have e37 := hd_nth (hd 37 (by simp)) rfl
      go_simp
      refine (K1.out _).mono ?_
      rintro e w5 ⟨rfl, rfl⟩
      refine hK _ _ ?_ ?_ HW
      · simp [upd, e35, e37]
      · exact rfl
    refine auto_op 86 [35] (by kernel_rfl) (fun y w' HW hd K hK => ?_) ?_
    · have e35 := hd_nth (hd 35 (by simp)) rfl
      go_simp
      refine hK _ _ ?_ ?_ HW
      · simp [upd, e35]
      · exact rfl
    refine auto_op 87 [39, 35] (by kernel_rfl) (fun y w' HW hd K hK => ?_) ?_
    · have e35 := hd_nth (hd 35 (by simp)) rfl
      have e39 := hd_nth (hd 39 (by simp)) rfl
      have hcl : ∀ p : Addr, p.block < V.heap.size → w'.cell? p = V.cell? p := fun p hp => HW.cell hp
      go_simp
      refine hK _ _ ?_ ?_ HW
      · simp [upd, e35, e39]
      · exact rfl
    refine auto_op 88 [40, 38, 35] (by kernel_rfl) (fun y w' HW hd K hK => ?_) ?_
    · have e35 := hd_nth (hd 35 (by simp)) rfl
      have e38 := hd_nth (hd 38 (by simp)) rfl
      have e40 := hd_nth (hd 40 (by simp)) rfl
      go_simp
      refine (K2.out _).mono ?_
      rintro e w5 ⟨rfl, rfl⟩
      refine hK _ _ ?_ ?_ HW
      · simp [upd, e35, e38, e40]
      · exact rfl
    refine auto_op 89 [38, 41, 35] (by kernel_rfl) (fun y w' HW hd K hK => ?_) ?_
    · have e35 := hd_nth (hd 35 (by simp)) rfl
      have e38 := hd_nth (hd 38 (by simp)) rfl
      have e41 := hd_nth (hd 41 (by simp)) rfl
      go_simp
      refine hK _ _ ?_ ?_ HW
      · simp [upd, e35, e38, e41]
      · exact rfl
    refine auto_op 90 [35, 42] (by kernel_rfl) (fun y w' HW hd K hK => ?_) ?_
    · have e35 := hd_nth (hd 35 (by simp)) rfl
      have e42 := hd_nth (hd 42 (by simp)) rfl
      go_simp
      refine hK _ _ ?_ ?_ HW
      · simp [upd, e35, e42]
      · exact rfl
    refine auto_op 91 [43, 41] (by kernel_rfl) (fun y w' HW hd K hK => ?_) ?_
    · have e41 := hd_nth (hd 41 (by simp)) rfl
      have e43 := hd_nth (hd 43 (by simp)) rfl
      go_simp
      refine hK _ _ ?_ ?_ HW
      · simp [upd, e41, e43]
      · exact rfl
    refine auto_op 92 [44, 44] (by kernel_rfl) (fun y w' HW hd K hK => ?_) ?_
    · have e44 := hd_nth (hd 44 (by simp)) rfl
      go_simp
      refine (awake_any HW HTV.out).mono ?_
      rintro e w5 ⟨rfl, hb6⟩
      refine hK _ _ ?_ ?_ hb6
      · simp [upd, e44]
      · exact rfl
    refine auto_op 93 [44, 45] (by kernel_rfl) (fun y w' HW hd K hK => ?_) ?_
    · have e44 := hd_nth (hd 44 (by simp)) rfl
      have e45 := hd_nth (hd 45 (by simp)) rfl
      go_simp
      refine hK _ _ ?_ ?_ HW
      · simp [upd, e44, e45]
      · exact rfl
    refine auto_last fun y w' HW hd K hK => ?_
    have e0 := hd_nth (hd 0 (by omega)) rfl
    have e1 := hd_nth (hd 1 (by omega)) rfl
    have e2 := hd_nth (hd 2 (by omega)) rfl
    have e3 := hd_nth (hd 3 (by omega)) rfl
    have e4 := hd_nth (hd 4 (by omega)) rfl
    have e5 := hd_nth (hd 5 (by omega)) rfl
    have e6 := hd_nth (hd 6 (by omega)) rfl
    have e7 := hd_nth (hd 7 (by omega)) rfl
    have e8 := hd_nth (hd 8 (by omega)) rfl
    have e9 := hd_nth (hd 9 (by omega)) rfl
    have e10 := hd_nth (hd 10 (by omega)) rfl
    have e11 := hd_nth (hd 11 (by omega)) rfl
    have e12 := hd_nth (hd 12 (by omega)) rfl
    have e13 := hd_nth (hd 13 (by omega)) rfl
    have e14 := hd_nth (hd 14 (by omega)) rfl
    have e15 := hd_nth (hd 15 (by omega)) rfl
    have e16 := hd_nth (hd 16 (by omega)) rfl
    have e17 := hd_nth (hd 17 (by omega)) rfl
    have e18 := hd_nth (hd 18 (by omega)) rfl
    have e19 := hd_nth (hd 19 (by omega)) rfl
    have e20 := hd_nth (hd 20 (by omega)) rfl
    have e21 := hd_nth (hd 21 (by omega)) rfl
    have e22 := hd_nth (hd 22 (by omega)) rfl
    have e23 := hd_nth (hd 23 (by omega)) rfl
    have e24 := hd_nth (hd 24 (by omega)) rfl
    have e25 := hd_nth (hd 25 (by omega)) rfl
    have e26 := hd_nth (hd 26 (by omega)) rfl
    have e27 := hd_nth (hd 27 (by omega)) rfl
    have e28 := hd_nth (hd 28 (by omega)) rfl
    have e29 := hd_nth (hd 29 (by omega)) rfl
    have e30 := hd_nth (hd 30 (by omega)) rfl
    have e31 := hd_nth (hd 31 (by omega)) rfl
    have e32 := hd_nth (hd 32 (by omega)) rfl
    have e33 := hd_nth (hd 33 (by omega)) rfl
    have e34 := hd_nth (hd 34 (by omega)) rfl
    have e35 := hd_nth (hd 35 (by omega)) rfl
    have e36 := hd_nth (hd 36 (by omega)) rfl
    have e37 := hd_nth (hd 37 (by omega)) rfl
    have e38 := hd_nth (hd 38 (by omega)) rfl
    have e39 := hd_nth (hd 39 (by omega)) rfl
    have e40 := hd_nth (hd 40 (by omega)) rfl
    have e41 := hd_nth (hd 41 (by omega)) rfl
    have e42 := hd_nth (hd 42 (by omega)) rfl
    have e43 := hd_nth (hd 43 (by omega)) rfl
    have e44 := hd_nth (hd 44 (by omega)) rfl
    have e45 := hd_nth (hd 45 (by omega)) rfl
    have e46 := hd_nth (hd 46 (by omega)) rfl
    go_simp
    refine hK _ _ ?_
    clear hd hK K e0 e1 e2 e3 e4 e5 e6 e7 e8 e9 e10 e11 e12 e13 e14 e15 e16 e17 e18 e19 e20 e21 e22 e23 e24 e25 e26 e27 e28 e29 e30 e31 e32 e33 e34 e35 e36 e37 e38 e39 e40 e41 e42 e43 e44 e45 e46
    go_wp2
    go_ret
    exact ⟨rfl, HBV.out.trans (HW.mono HBV.out.size)⟩
end Go.Proofs.YtklakehhckipfaaDoor.Is
