/- The walk of hermitagelaw14.PtePlays. -/
import Derived.Test.YtfifflepgfpjiaaBj
import Derived.Test.YtfifflepgfpjiaaBh
import Derived.Test.YtfifflepgfpjiaaRa
import Derived.Deep.Cut
namespace Go.Proofs.Ytfifflepgfpjiaa.Pe
open Go.RowKit Ut
set_option linter.unusedVariables false
set_option maxRecDepth 100000
set_option maxHeartbeats 8000000

/-- the law, any entry, any word -/
theorem plays_any (o : Bool) (r g : Int) (x : Nat) (hx : x < 4294967296) (kk : Int) (u : Bool) (w : World) :
    Calls Try.prog 3 #[pteV o r g, .int .u32 x, .int .i64 kk, .bool u] w fun e w' => e = .returned (.bool true) ∧ Below w.heap.size w w' := by
  obtain ⟨z1, hz1⟩ : ∃ z, putZ o r g = z := ⟨_, rfl⟩
  obtain ⟨c1, hc1⟩ : ∃ z, putE o r g = z := ⟨_, rfl⟩
  have P1 := Lib.hid (put_any o r g z1 c1 hz1 hc1)
  have P2 := Lib.hid (refPut_any o r g z1 c1 hz1 hc1)
  obtain ⟨f2, hf2⟩ : ∃ z, getF x = z := ⟨_, rfl⟩
  have G1 := Lib.hid (get_any x hx f2 hf2)
  have G2 := Lib.hid (refGet_any x hx f2 hf2)
  obtain ⟨f3, hf3⟩ : ∃ z, leafF x = z := ⟨_, rfl⟩
  have L1 := Lib.hid (leaf_any x hx f3 hf3)
  have L2 := Lib.hid (refLeaf_any x hx f3 hf3)
  obtain ⟨z4, hz4⟩ : ∃ z, gF (tabF x) x = z := ⟨_, rfl⟩
  obtain ⟨f4, hf4⟩ : ∃ z, tabF x = z := ⟨_, rfl⟩
  have T1 := Lib.hid (table_any x hx z4 f4 hz4 hf4)
  have T2 := Lib.hid (refTable_any x hx z4 f4 hz4 hf4)
  obtain ⟨t_, ht⟩ : ∃ t, alwB o r kk u = t := ⟨_, rfl⟩
  have A1 : Hid (∀ W v, Below W.heap.size W v → Calls Try.prog 15 #[pteV o r g, .int .i64 kk, .bool u] v fun e w' => e = .returned (.bool t_) ∧ Below W.heap.size W w') := Lib.hid fun W v hb => keep hb (allows_any o r g kk u t_ ht v)
  have A2 : Hid (∀ W v, Below W.heap.size W v → Calls Try.prog 16 #[pteV o r g, .int .i64 kk, .bool u] v fun e w' => e = .returned (.bool t_) ∧ Below W.heap.size W w') := Lib.hid fun W v hb => keep hb (refAllows_any o r g kk u t_ ht v)
  have A3 : Hid (∀ W v, Below W.heap.size W v → Calls Try.prog 17 #[] v fun e w' => e = .returned (.bool true) ∧ Below W.heap.size W w') := Lib.hid fun W v hb => keep hb (awake_any v)
  clear hz1 hc1 hf2 hf3 hz4 hf4 ht hx
  generalize oF f2 = o2 at G1 G2
  generalize rF f2 x = r2 at G1 G2
  generalize gF f2 x = g2 at G1 G2
  generalize oF f3 = o3 at L1 L2
  generalize rF f3 x = r3 at L1 L2
  generalize gF f3 x = g3 at L1 L2
  obtain ⟨U, hU⟩ : ∃ U, U = pteW o r g w := ⟨_, rfl⟩
  have HU := Lib.hid hU
  have HB0 : Hid (Below w.heap.size w U) := Lib.hid (hU ▸ pte_below o r g w)
  have HI : Hid (PteAt U w.heap.size o r g) := Lib.hid (hU ▸ pte_at o r g w)
  clear hU
  go_enter Try.func3, Try.ntmps3
  go_wp2_with fail
  rw [show w.alloc (.cells #[.bool o, .int .i64 r, .int .i64 g] 23) = U from HU.out.symm]
  refine (P1.out U).mono ?_
  rintro e w1 ⟨rfl, hb1⟩
  obtain ⟨r0, r1, r2_⟩ := (HI.out.more hb1).cells
  have HB1 := Lib.hid hb1
  clear hb1
  go_wp2_with fail
  refine (P2.out w1).mono ?_
  rintro e w2 ⟨rfl, hb2⟩
  clear r0 r1 r2_
  have HB2 := Lib.hid (HB1.out.trans (hb2.mono HB1.out.size))
  clear hb2 HB1
  go_wp2_with fail
  refine (G1.out w2).mono ?_
  rintro e w3 ⟨rfl, hb3⟩
  have HB3 := Lib.hid (HB2.out.trans (hb3.mono HB2.out.size))
  clear hb3 HB2
  obtain ⟨X, hX⟩ : ∃ X, X = pteW o2 r2 g2 w3 := ⟨_, rfl⟩
  have HX := Lib.hid hX
  have HX3 : Hid (Below w3.heap.size w3 X) := Lib.hid (hX ▸ pte_below o2 r2 g2 w3)
  have HC : Hid (PteAt X w3.heap.size o2 r2 g2) := Lib.hid (hX ▸ pte_at o2 r2 g2 w3)
  have HBX := Lib.hid (HB3.out.trans (HX3.out.mono HB3.out.size))
  clear hX HX3 HB3
  go_wp2_with fail
  rw [show w3.alloc (.cells #[.bool o2, .int .i64 r2, .int .i64 g2] 23) = X from HX.out.symm]
  refine (G2.out X).mono ?_
  rintro e w4 ⟨rfl, hb4⟩
  have HC4 := Lib.hid (HC.out.more hb4)
  have HB4 := Lib.hid (HBX.out.trans (hb4.mono HBX.out.size))
  clear hb4 HBX HC
  obtain ⟨Y, hY⟩ : ∃ Y, Y = pteW o2 r2 g2 w4 := ⟨_, rfl⟩
  have HY := Lib.hid hY
  have HY4 : Hid (Below w4.heap.size w4 Y) := Lib.hid (hY ▸ pte_below o2 r2 g2 w4)
  have HBY := Lib.hid (HB4.out.trans (HY4.out.mono HB4.out.size))
  clear hY HY4 HB4
  obtain ⟨s0, s1, s2⟩ := HC4.out.cells
  have hs := HC4.out.lt
  go_wp2_with fail
  rw [show w4.alloc (.cells #[.bool o2, .int .i64 r2, .int .i64 g2] 23) = Y from HY.out.symm]
  refine (T1.out Y).mono ?_
  rintro e w5 ⟨rfl, hb5⟩
  clear s0 s1 s2 hs
  have HB5 := Lib.hid (HBY.out.trans (hb5.mono HBY.out.size))
  clear hb5 HBY HC4
  go_wp2_with fail
  refine (T2.out w5).mono ?_
  rintro e w6 ⟨rfl, hb6⟩
  have HB6 := Lib.hid (HB5.out.trans (hb6.mono HB5.out.size))
  clear hb6 HB5
  go_wp2_with fail
  refine (L1.out w6).mono ?_
  rintro e w7 ⟨rfl, hb7⟩
  have HB7 := Lib.hid (HB6.out.trans (hb7.mono HB6.out.size))
  clear hb7 HB6
  obtain ⟨Z, hZ⟩ : ∃ Z, Z = pteW o3 r3 g3 w7 := ⟨_, rfl⟩
  have HZ := Lib.hid hZ
  have HZ7 : Hid (Below w7.heap.size w7 Z) := Lib.hid (hZ ▸ pte_below o3 r3 g3 w7)
  have HD : Hid (PteAt Z w7.heap.size o3 r3 g3) := Lib.hid (hZ ▸ pte_at o3 r3 g3 w7)
  have HBZ := Lib.hid (HB7.out.trans (HZ7.out.mono HB7.out.size))
  clear hZ HZ7 HB7
  go_wp2_with fail
  rw [show w7.alloc (.cells #[.bool o3, .int .i64 r3, .int .i64 g3] 23) = Z from HZ.out.symm]
  refine (L2.out Z).mono ?_
  rintro e w8 ⟨rfl, hb8⟩
  have HD8 := Lib.hid (HD.out.more hb8)
  have HB8 := Lib.hid (HBZ.out.trans (hb8.mono HBZ.out.size))
  clear hb8 HBZ HD
  obtain ⟨V, hV⟩ : ∃ V, V = pteW o3 r3 g3 w8 := ⟨_, rfl⟩
  have HV := Lib.hid hV
  have HV8 : Hid (Below w8.heap.size w8 V) := Lib.hid (hV ▸ pte_below o3 r3 g3 w8)
  have HE : Hid (PteAt V w8.heap.size o3 r3 g3) := Lib.hid (hV ▸ pte_at o3 r3 g3 w8)
  have HDV := Lib.hid (HD8.out.more HV8.out)
  have HBV := Lib.hid (HB8.out.trans (HV8.out.mono HB8.out.size))
  have HIV := Lib.hid (HI.out.more HBV.out)
  have HBW := Lib.hid (HB0.out.trans (HBV.out.mono HB0.out.size))
  clear hV HV8 HB8 HD8 HBV HI HB0
  go_upto_region 11 with fail
  rw [show w8.alloc (.cells #[.bool o3, .int .i64 r3, .int .i64 g3] 23) = V from HV.out.symm]
  obtain ⟨p0, p1, p2⟩ := HIV.out.cells
  obtain ⟨q0, q1, q2⟩ := HDV.out.cells
  obtain ⟨s0, s1, s2⟩ := HE.out.cells
  have hz0 := HIV.out.lt
  have hz1 := HDV.out.lt
  have hz2 := HE.out.lt
  apply wp_region_auto [83, 84, 85, 86, 87, 88, 89, 90, 91, 92, 93, 94, 95, 96, 97, 98, 99, 100, 101, 102, 103, 104, 105, 106, 107, 108, 109, 110, 111, 112, 113, 114] [_, _, _, _, _, _, _, _, _, _, _, _, _, _, _, _, _, _, _, _, _, _, _, _, _, _, _, _, _, _, _, _] (fun W' => Below V.heap.size V W')
  case hm => kernel_rfl
  case hT => intro y; simp only [setAll, List.setIfInBounds_toArray, List.set_cons_succ, List.set_cons_zero]; exact rfl
  case hok => kernel_rfl
  case hn => decide
  case hw => exact (Below.refl _ _).drew
  case hs =>
    refine auto_op 83 [] (by kernel_rfl) (fun y w' HW hd K hK => ?_) ?_
    · go_simp
      refine hK _ _ ?_ ?_ HW
      · simp [upd]
      · exact rfl
    refine auto_op 84 [] (by kernel_rfl) (fun y w' HW hd K hK => ?_) ?_
    · go_simp
      refine hK _ _ ?_ ?_ HW
      · simp [upd]
      · exact rfl
    refine auto_op 85 [0, 1] (by kernel_rfl) (fun y w' HW hd K hK => ?_) ?_
    · have e0 := hd_nth (hd 0 (by simp)) rfl
      have e1 := hd_nth (hd 1 (by simp)) rfl
      go_simp
      refine hK _ _ ?_ ?_ HW
      · simp [upd, e0, e1]
      · exact rfl
    refine auto_op 86 [2] (by kernel_rfl) (fun y w' HW hd K hK => ?_) ?_
    · have e2 := hd_nth (hd 2 (by simp)) rfl
      go_simp
      refine hK _ _ ?_ ?_ HW
      · simp [upd, e2]
      · exact rfl
    refine auto_op 87 [3] (by kernel_rfl) (fun y w' HW hd K hK => ?_) ?_
    · have e3 := hd_nth (hd 3 (by simp)) rfl
      go_simp
      refine hK _ _ ?_ ?_ HW
      · simp [upd, e3]
      · exact rfl
    refine auto_op 88 [3] (by kernel_rfl) (fun y w' HW hd K hK => ?_) ?_
    · have e3 := hd_nth (hd 3 (by simp)) rfl
      go_simp
      refine hK _ _ ?_ ?_ HW
      · simp [upd, e3]
      · exact rfl
    refine auto_op 89 [4, 5, 3] (by kernel_rfl) (fun y w' HW hd K hK => ?_) ?_
    · have e3 := hd_nth (hd 3 (by simp)) rfl
      have e4 := hd_nth (hd 4 (by simp)) rfl
      have e5 := hd_nth (hd 5 (by simp)) rfl
      go_simp
      refine hK _ _ ?_ ?_ HW
      · simp [upd, e3, e4, e5]
      · exact rfl
    refine auto_op 90 [3, 6] (by kernel_rfl) (fun y w' HW hd K hK => ?_) ?_
    · have e3 := hd_nth (hd 3 (by simp)) rfl
      have e6 := hd_nth (hd 6 (by simp)) rfl
      go_simp
      refine hK _ _ ?_ ?_ HW
      · simp [upd, e3, e6]
      · exact rfl
    refine auto_op 91 [7, 3] (by kernel_rfl) (fun y w' HW hd K hK => ?_) ?_
    · have e3 := hd_nth (hd 3 (by simp)) rfl
      have e7 := hd_nth (hd 7 (by simp)) rfl
      go_simp
      refine hK _ _ ?_ ?_ HW
      · simp [upd, e3, e7]
      · exact rfl
    refine auto_op 92 [8] (by kernel_rfl) (fun y w' HW hd K hK => ?_) ?_
    · have e8 := hd_nth (hd 8 (by simp)) rfl
      have hcl : ∀ p : Addr, p.block < V.heap.size → w'.cell? p = V.cell? p := fun p hp => HW.cell hp
      go_simp
      refine hK _ _ ?_ ?_ HW
      · simp [upd, e8]
      · exact rfl
    refine auto_op 93 [8] (by kernel_rfl) (fun y w' HW hd K hK => ?_) ?_
    · have e8 := hd_nth (hd 8 (by simp)) rfl
      have hcl : ∀ p : Addr, p.block < V.heap.size → w'.cell? p = V.cell? p := fun p hp => HW.cell hp
      go_simp
      refine hK _ _ ?_ ?_ HW
      · simp [upd, e8]
      · exact rfl
    refine auto_op 94 [9, 10, 8] (by kernel_rfl) (fun y w' HW hd K hK => ?_) ?_
    · have e8 := hd_nth (hd 8 (by simp)) rfl
      have e9 := hd_nth (hd 9 (by simp)) rfl
      have e10 := hd_nth (hd 10 (by simp)) rfl
      go_simp
      refine hK _ _ ?_ ?_ HW
      · simp [upd, e8, e9, e10]
      · exact rfl
    refine auto_op 95 [8, 11] (by kernel_rfl) (fun y w' HW hd K hK => ?_) ?_
    · have e8 := hd_nth (hd 8 (by simp)) rfl
      have e11 := hd_nth (hd 11 (by simp)) rfl
      go_simp
      refine hK _ _ ?_ ?_ HW
      · simp [upd, e8, e11]
      · exact rfl
    refine auto_op 96 [12, 8] (by kernel_rfl) (fun y w' HW hd K hK => ?_) ?_
    · have e8 := hd_nth (hd 8 (by simp)) rfl
      have e12 := hd_nth (hd 12 (by simp)) rfl
      go_simp
      refine hK _ _ ?_ ?_ HW
      · simp [upd, e8, e12]
      · exact rfl
    refine auto_op 97 [13] (by kernel_rfl) (fun y w' HW hd K hK => ?_) ?_
    · have e13 := hd_nth (hd 13 (by simp)) rfl
      go_simp
      refine hK _ _ ?_ ?_ HW
      · simp [upd, e13]
      · exact rfl
    refine auto_op 98 [13] (by kernel_rfl) (fun y w' HW hd K hK => ?_) ?_
    · have e13 := hd_nth (hd 13 (by simp)) rfl
      go_simp
      refine hK _ _ ?_ ?_ HW
      · simp [upd, e13]
      · exact rfl
    refine auto_op 99 [14, 15, 13] (by kernel_rfl) (fun y w' HW hd K hK => ?_) ?_
    · have e13 := hd_nth (hd 13 (by simp)) rfl
      have e14 := hd_nth (hd 14 (by simp)) rfl
      have e15 := hd_nth (hd 15 (by simp)) rfl
      go_simp
      refine hK _ _ ?_ ?_ HW
      · simp [upd, e13, e14, e15]
      · exact rfl
    refine auto_op 100 [13, 16] (by kernel_rfl) (fun y w' HW hd K hK => ?_) ?_
    · have e13 := hd_nth (hd 13 (by simp)) rfl
      have e16 := hd_nth (hd 16 (by simp)) rfl
      go_simp
      refine hK _ _ ?_ ?_ HW
      · simp [upd, e13, e16]
      · exact rfl
    refine auto_op 101 [17, 13] (by kernel_rfl) (fun y w' HW hd K hK => ?_) ?_
    · have e13 := hd_nth (hd 13 (by simp)) rfl
      have e17 := hd_nth (hd 17 (by simp)) rfl
      go_simp
      refine hK _ _ ?_ ?_ HW
      · simp [upd, e13, e17]
      · exact rfl
    refine auto_op 102 [18] (by kernel_rfl) (fun y w' HW hd K hK => ?_) ?_
    · have e18 := hd_nth (hd 18 (by simp)) rfl
      have hcl : ∀ p : Addr, p.block < V.heap.size → w'.cell? p = V.cell? p := fun p hp => HW.cell hp
      go_simp
      refine hK _ _ ?_ ?_ HW
      · simp [upd, e18]
      · exact rfl
    refine auto_op 103 [18] (by kernel_rfl) (fun y w' HW hd K hK => ?_) ?_
    · have e18 := hd_nth (hd 18 (by simp)) rfl
      go_simp
      refine hK _ _ ?_ ?_ HW
      · simp [upd, e18]
      · exact rfl
    refine auto_op 104 [18] (by kernel_rfl) (fun y w' HW hd K hK => ?_) ?_
    · have e18 := hd_nth (hd 18 (by simp)) rfl
      go_simp
      refine hK _ _ ?_ ?_ HW
      · simp [upd, e18]
      · exact rfl
    refine auto_op 105 [19, 20, 21, 18, 18] (by kernel_rfl) (fun y w' HW hd K hK => ?_) ?_
    · have e18 := hd_nth (hd 18 (by simp)) rfl
      have e19 := hd_nth (hd 19 (by simp)) rfl
      have e20 := hd_nth (hd 20 (by simp)) rfl
      have e21 := hd_nth (hd 21 (by simp)) rfl
      go_simp
      refine (A1.out V _ HW).mono ?_
      rintro e w5 ⟨rfl, hb6⟩
      refine hK _ _ ?_ ?_ hb6
      · simp [upd, e18, e19, e20, e21]
      · exact rfl
    refine auto_op 106 [18] (by kernel_rfl) (fun y w' HW hd K hK => ?_) ?_
    · have e18 := hd_nth (hd 18 (by simp)) rfl
      have hcl : ∀ p : Addr, p.block < V.heap.size → w'.cell? p = V.cell? p := fun p hp => HW.cell hp
      go_simp
      refine hK _ _ ?_ ?_ HW
      · simp [upd, e18]
      · exact rfl
    refine auto_op 107 [18] (by kernel_rfl) (fun y w' HW hd K hK => ?_) ?_
    · have e18 := hd_nth (hd 18 (by simp)) rfl
      go_simp
      refine hK _ _ ?_ ?_ HW
      · simp [upd, e18]
      · exact rfl
    refine auto_op 108 [18] (by kernel_rfl) (fun y w' HW hd K hK => ?_) ?_
    · have e18 := hd_nth (hd 18 (by simp)) rfl
      go_simp
      refine hK _ _ ?_ ?_ HW
      · simp [upd, e18]
      · exact rfl
    refine auto_op 109 [23, 24, 25, 22, 18] (by kernel_rfl) (fun y w' HW hd K hK => ?_) ?_
    · have e18 := hd_nth (hd 18 (by simp)) rfl
      have e22 := hd_nth (hd 22 (by simp)) rfl
      have e23 := hd_nth (hd 23 (by simp)) rfl
      have e24 := hd_nth (hd 24 (by simp)) rfl
      have e25 := hd_nth (hd 25 (by simp)) rfl
      go_simp
      refine (A2.out V _ HW).mono ?_
      rintro e w5 ⟨rfl, hb6⟩
      refine hK _ _ ?_ ?_ hb6
      · simp [upd, e18, e22, e23, e24, e25]
      · exact rfl
    refine auto_op 110 [22, 26, 18] (by kernel_rfl) (fun y w' HW hd K hK => ?_) ?_
    · have e18 := hd_nth (hd 18 (by simp)) rfl
      have e22 := hd_nth (hd 22 (by simp)) rfl
      have e26 := hd_nth (hd 26 (by simp)) rfl
      go_simp
      refine hK _ _ ?_ ?_ HW
      · simp [upd, e18, e22, e26]
      · exact rfl
    refine auto_op 111 [18, 27] (by kernel_rfl) (fun y w' HW hd K hK => ?_) ?_
    · have e18 := hd_nth (hd 18 (by simp)) rfl
      have e27 := hd_nth (hd 27 (by simp)) rfl
      go_simp
      refine hK _ _ ?_ ?_ HW
      · simp [upd, e18, e27]
      · exact rfl
    refine auto_op 112 [28, 26] (by kernel_rfl) (fun y w' HW hd K hK => ?_) ?_
    · have e26 := hd_nth (hd 26 (by simp)) rfl
      have e28 := hd_nth (hd 28 (by simp)) rfl
      go_simp
      refine hK _ _ ?_ ?_ HW
      · simp [upd, e26, e28]
      · exact rfl
    refine auto_op 113 [29, 29] (by kernel_rfl) (fun y w' HW hd K hK => ?_) ?_
    · have e29 := hd_nth (hd 29 (by simp)) rfl
      go_simp
      refine (A3.out V _ HW).mono ?_
      rintro e w5 ⟨rfl, hb6⟩
      refine hK _ _ ?_ ?_ hb6
      · simp [upd, e29]
      · exact rfl
    refine auto_op 114 [29, 30] (by kernel_rfl) (fun y w' HW hd K hK => ?_) ?_
    · have e29 := hd_nth (hd 29 (by simp)) rfl
      have e30 := hd_nth (hd 30 (by simp)) rfl
      go_simp
      refine hK _ _ ?_ ?_ HW
      · simp [upd, e29, e30]
      · exact rfl
    refine auto_last fun y w' HW hd K hK => ?_
    have e0 := hd_nth (hd 0 (by omega)) rfl
    have e1 := hd_nth (hd 1 (by omega)) rfl
    have e2 := hd_nth (hd 2 (by omega)) rfl
    have e3 := hd_nth (hd 3 (by omega)) rfl
    have e4 := hd_nth (hd 4 (by omega)) rfl
    have e5 := hd_nth (hd 5 (by omega)) rfl
    have e6 := hd_nth (hd 6 (by omega)) rfl
    have e7 := hd_nth (hd 7 (by omega)) rfl
    have e8 := hd_nth (hd 8 (by omega)) rfl
    have e9 := hd_nth (hd 9 (by omega)) rfl
    have e10 := hd_nth (hd 10 (by omega)) rfl
    have e11 := hd_nth (hd 11 (by omega)) rfl
    have e12 := hd_nth (hd 12 (by omega)) rfl
    have e13 := hd_nth (hd 13 (by omega)) rfl
    have e14 := hd_nth (hd 14 (by omega)) rfl
    have e15 := hd_nth (hd 15 (by omega)) rfl
    have e16 := hd_nth (hd 16 (by omega)) rfl
    have e17 := hd_nth (hd 17 (by omega)) rfl
    have e18 := hd_nth (hd 18 (by omega)) rfl
    have e19 := hd_nth (hd 19 (by omega)) rfl
    have e20 := hd_nth (hd 20 (by omega)) rfl
    have e21 := hd_nth (hd 21 (by omega)) rfl
    have e22 := hd_nth (hd 22 (by omega)) rfl
    have e23 := hd_nth (hd 23 (by omega)) rfl
    have e24 := hd_nth (hd 24 (by omega)) rfl
    have e25 := hd_nth (hd 25 (by omega)) rfl
    have e26 := hd_nth (hd 26 (by omega)) rfl
    have e27 := hd_nth (hd 27 (by omega)) rfl
    have e28 := hd_nth (hd 28 (by omega)) rfl
    have e29 := hd_nth (hd 29 (by omega)) rfl
    have e30 := hd_nth (hd 30 (by omega)) rfl
    have e31 := hd_nth (hd 31 (by omega)) rfl
    go_simp
    refine hK _ _ ?_
    clear hd hK K e0 e1 e2 e3 e4 e5 e6 e7 e8 e9 e10 e11 e12 e13 e14 e15 e16 e17 e18 e19 e20 e21 e22 e23 e24 e25 e26 e27 e28 e29 e30 e31
    go_wp2
    go_ret
    exact ⟨rfl, HBW.out.trans (HW.mono HBW.out.size)⟩
end Go.Proofs.Ytfifflepgfpjiaa.Pe
