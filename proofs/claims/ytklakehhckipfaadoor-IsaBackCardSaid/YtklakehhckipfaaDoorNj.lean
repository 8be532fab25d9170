/- The walk of hermitagelaw09.IsaBack. -/
import Derived.Test.YtklakehhckipfaaDoorNh
import Derived.Laws.StructEq
namespace Go.Proofs.YtklakehhckipfaaDoor.Is
open Go.RowKit Ut
set_option linter.unusedVariables false
set_option maxRecDepth 100000
set_option maxHeartbeats 4000000

theorem enc_dec (x : Nat) (hx : x < 4294967296) (h : decT x = true) : encZ (wO x) (wD x) (wA x) (wB x) (immZ x) = x ∧ encE (wO x) (wD x) (wA x) (wB x) (immZ x) = 0 := by
  unfold decT at h
  unfold encZ encE
  rw [if_pos h, if_pos h]
  refine ⟨?_, rfl⟩
  simp only [Int.toNat_natCast]
  have e : (immZ x % 16384).toNat = x / 262144 := by unfold immZ; split <;> omega
  rw [e]
  unfold wordN wO wD wA wB
  omega
theorem dec_word (o d a b : Nat) (m : Int) (ho : o < 64) (hd : d < 16) (ha : a < 16) (hb : b < 16) (h1 : -8192 ≤ m) (h2 : m ≤ 8191) :
    wordN o d a b (m % 16384).toNat < 4294967296 ∧ wO (wordN o d a b (m % 16384).toNat) = o ∧ wD (wordN o d a b (m % 16384).toNat) = d ∧ wA (wordN o d a b (m % 16384).toNat) = a ∧ wB (wordN o d a b (m % 16384).toNat) = b ∧ immZ (wordN o d a b (m % 16384).toNat) = m := by
  obtain ⟨i, hi⟩ : ∃ i : Nat, m % 16384 = i := ⟨(m % 16384).toNat, by omega⟩
  rw [hi, Int.toNat_natCast]
  unfold wO wD wA wB immZ wordN
  refine ⟨by omega, by omega, by omega, by omega, by omega, ?_⟩
  have e : (o + d * 64 + a * 1024 + b * 16384 + i * 262144) / 262144 = i := by omega
  rw [e]
  split <;> omega
theorem dec_enc (o d a b m : Int) (h : validB o d a b m = true) : ∃ x : Nat, x < 4294967296 ∧ encZ o d a b m = x ∧ encE o d a b m = 0 ∧ decT x = true ∧ decV x = insV o d a b m := by
  obtain ⟨ho, hd, ha, hb, hm1, hm2⟩ := valid_bounds h
  obtain ⟨o, rfl⟩ : ∃ n : Nat, o = n := ⟨o.toNat, by omega⟩
  obtain ⟨d, rfl⟩ : ∃ n : Nat, d = n := ⟨d.toNat, by omega⟩
  obtain ⟨a, rfl⟩ : ∃ n : Nat, a = n := ⟨a.toNat, by omega⟩
  obtain ⟨b, rfl⟩ : ∃ n : Nat, b = n := ⟨b.toNat, by omega⟩
  obtain ⟨hx, e1, e2, e3, e4, e5⟩ := dec_word o d a b m (by omega) (by omega) (by omega) (by omega) hm1 hm2
  have ht : decT (wordN o d a b (m % 16384).toNat) = true := by unfold decT; rw [e1, e2, e3, e4, e5]; exact h
  refine ⟨_, hx, ?_, ?_, ht, ?_⟩
  · unfold encZ; rw [if_pos h]; simp only [Int.toNat_natCast]
  · unfold encE; rw [if_pos h]
  · unfold decV; rw [if_pos ht, e1, e2, e3, e4, e5]

theorem back_tt (o d a b m : Int) (x : Nat) (hx : x < 4294967296) (hv : validB o d a b m = true) (ht : decT x = true) (w : World) (hw : HasT w) :
    Calls Tryd.prog 4 #[insV o d a b m, .int .u32 x] w fun e w' => e = .returned (.bool true) ∧ Below w.heap.size w w' := by
  obtain ⟨y, hy, ey, ez, dy, vy⟩ := dec_enc o d a b m hv
  obtain ⟨U, hU⟩ : ∃ U, U = insW o d a b m w := ⟨_, rfl⟩
  have HU := Lib.hid hU
  have HB0 : Hid (Below w.heap.size w U) := Lib.hid (hU ▸ ins_below o d a b m w)
  have HT : Hid (HasT U) := Lib.hid (hw.more HB0.out)
  have HI : Hid (InsAt U w.heap.size o d a b m) := Lib.hid (hU ▸ ins_at o d a b m w)
  have E1 : Hid (∀ v, Below U.heap.size U v → Calls Tryd.prog 7 #[insV o d a b m] v fun e w' => e = .returned (.tuple #[.int .u32 y, .int .i64 0]) ∧ Below U.heap.size U w') := Lib.hid fun v hb => keep hb (enc_any o d a b m _ _ ey ez v (HT.out.more hb))
  have V1 : Hid (∀ v, Below U.heap.size U v → Calls Tryd.prog 13 #[insV o d a b m] v fun e w' => e = .returned (.bool true) ∧ Below U.heap.size U w') := Lib.hid fun v hb => keep hb (valid_any o d a b m _ hv v (HT.out.more hb))
  have D1 : Hid (∀ v, Below U.heap.size U v → Calls Tryd.prog 9 #[.int .u32 y] v fun e w' => e = .returned (.tuple #[insV o d a b m, .bool true]) ∧ Below U.heap.size U w') := Lib.hid fun v hb => keep hb (by have := dec_any y hy v (HT.out.more hb); rw [dy, vy] at this; exact this)
  obtain ⟨ey2, ez2⟩ := enc_dec x hx ht
  have vx : decV x = insV (wO x) (wD x) (wA x) (wB x) (immZ x) := if_pos ht
  have vt : validB (wO x) (wD x) (wA x) (wB x) (immZ x) = true := ht
  generalize ((wO x : Nat) : Int) = o2 at vx ey2 ez2 vt
  generalize ((wD x : Nat) : Int) = d2 at vx ey2 ez2 vt
  generalize ((wA x : Nat) : Int) = a2 at vx ey2 ez2 vt
  generalize ((wB x : Nat) : Int) = b2 at vx ey2 ez2 vt
  generalize immZ x = m2 at vx ey2 ez2 vt
  have D2 : Hid (∀ v, Below U.heap.size U v → Calls Tryd.prog 9 #[.int .u32 x] v fun e w' => e = .returned (.tuple #[insV o2 d2 a2 b2 m2, .bool true]) ∧ Below U.heap.size U w') := Lib.hid fun v hb => keep hb (by have := dec_any x hx v (HT.out.more hb); rw [ht, vx] at this; exact this)
  have E2 : Hid (∀ W v, HasT W → Below W.heap.size W v → Calls Tryd.prog 7 #[insV o2 d2 a2 b2 m2] v fun e w' => e = .returned (.tuple #[.int .u32 x, .int .i64 0]) ∧ Below W.heap.size W w') := Lib.hid fun W v hw hb => keep hb (enc_any o2 d2 a2 b2 m2 _ _ ey2 ez2 v (hw.more hb))
  have V2 : Hid (∀ W v, HasT W → Below W.heap.size W v → Calls Tryd.prog 13 #[insV o2 d2 a2 b2 m2] v fun e w' => e = .returned (.bool true) ∧ Below W.heap.size W w') := Lib.hid fun W v hw hb => keep hb (valid_any o2 d2 a2 b2 m2 _ vt v (hw.more hb))
  have HA : Hid (∀ (W : World) (o : Obj), Below U.heap.size U W → Below U.heap.size U (W.alloc o)) := Lib.hid fun W o h => h.alloc h.size _
  clear ey ez hv hw ht vx dy vy hx ey2 ez2 vt
  go_enter Tryd.func4, Tryd.ntmps4
  go_wp2_with fail
  rw [show w.alloc (.cells #[.int .i64 o, .int .i64 d, .int .i64 a, .int .i64 b, .int .i64 m] 23) = U from HU.out.symm]
  refine (E1.out _ (Below.refl _ _)).mono ?_
  rintro e w1 ⟨rfl, hb1⟩
  obtain ⟨r0, r1, r2, r3, r4⟩ := (HI.out.more hb1).cells
  have HB1 := Lib.hid hb1
  clear hb1 hU
  go_wp2_with fail
  refine (V1.out _ HB1.out).mono ?_
  rintro e w2 ⟨rfl, hb2⟩
  clear r0 r1 r2 r3 r4
  have HB2 := Lib.hid hb2
  clear hb2
  go_wp2_with fail
  refine (D1.out _ HB2.out).mono ?_
  rintro e w3 ⟨rfl, hb3⟩
  obtain ⟨r0, r1, r2, r3, r4⟩ := (HI.out.more hb3).cells
  have hz : w.heap.size < w3.heap.size := (HI.out.more hb3).lt
  have HB3 := Lib.hid hb3
  clear hb3
  go_wp2_with fail
  refine (D2.out _ (HA.out _ _ HB3.out)).mono ?_
  rintro e w4 ⟨rfl, hb4⟩
  clear r0 r1 r2 r3 r4
  have HB4 := Lib.hid hb4
  clear hb4
  obtain ⟨X, hX⟩ : ∃ X, X = insW o2 d2 a2 b2 m2 w4 := ⟨_, rfl⟩
  have HX := Lib.hid hX
  have HXT : Hid (HasT X) := Lib.hid ((HT.out.more HB4.out).more (hX ▸ ins_below o2 d2 a2 b2 m2 w4))
  have HXI : Hid (InsAt X w4.heap.size o2 d2 a2 b2 m2) := Lib.hid (hX ▸ ins_at o2 d2 a2 b2 m2 w4)
  have HXB : Hid (Below U.heap.size U X) := Lib.hid (hX ▸ HA.out _ _ HB4.out)
  clear hX
  go_wp2_with fail
  rw [show w4.alloc (.cells #[.int .i64 o2, .int .i64 d2, .int .i64 a2, .int .i64 b2, .int .i64 m2] 23) = X from HX.out.symm]
  refine (E2.out X _ HXT.out (Below.refl _ _)).mono ?_
  rintro e w5 ⟨rfl, hb5⟩
  obtain ⟨r0, r1, r2, r3, r4⟩ := (HXI.out.more hb5).cells
  have HB5 := Lib.hid hb5
  clear hb5
  go_wp2_with fail
  refine (V2.out X _ HXT.out HB5.out).mono ?_
  rintro e w6 ⟨rfl, hb6⟩
  have HB6 := Lib.hid hb6
  clear hb6 r0 r1 r2 r3 r4
  go_wp2_with fail
  refine (awake_any HB6.out HXT.out).mono ?_
  rintro e w7 ⟨rfl, hb7⟩
  have HE := Lib.hid (HB0.out.trans ((HXB.out.trans (hb7.mono HXB.out.size)).mono HB0.out.size))
  clear hb7
  go_wp2
  go_ret
  exact ⟨rfl, HE.out⟩
theorem back_tf (o d a b m : Int) (x : Nat) (hx : x < 4294967296) (hv : validB o d a b m = true) (ht : decT x = false) (w : World) (hw : HasT w) :
    Calls Tryd.prog 4 #[insV o d a b m, .int .u32 x] w fun e w' => e = .returned (.bool true) ∧ Below w.heap.size w w' := by
  obtain ⟨y, hy, ey, ez, dy, vy⟩ := dec_enc o d a b m hv
  obtain ⟨U, hU⟩ : ∃ U, U = insW o d a b m w := ⟨_, rfl⟩
  have HU := Lib.hid hU
  have HB0 : Hid (Below w.heap.size w U) := Lib.hid (hU ▸ ins_below o d a b m w)
  have HT : Hid (HasT U) := Lib.hid (hw.more HB0.out)
  have HI : Hid (InsAt U w.heap.size o d a b m) := Lib.hid (hU ▸ ins_at o d a b m w)
  have E1 : Hid (∀ v, Below U.heap.size U v → Calls Tryd.prog 7 #[insV o d a b m] v fun e w' => e = .returned (.tuple #[.int .u32 y, .int .i64 0]) ∧ Below U.heap.size U w') := Lib.hid fun v hb => keep hb (enc_any o d a b m _ _ ey ez v (HT.out.more hb))
  have V1 : Hid (∀ v, Below U.heap.size U v → Calls Tryd.prog 13 #[insV o d a b m] v fun e w' => e = .returned (.bool true) ∧ Below U.heap.size U w') := Lib.hid fun v hb => keep hb (valid_any o d a b m _ hv v (HT.out.more hb))
  have D1 : Hid (∀ v, Below U.heap.size U v → Calls Tryd.prog 9 #[.int .u32 y] v fun e w' => e = .returned (.tuple #[insV o d a b m, .bool true]) ∧ Below U.heap.size U w') := Lib.hid fun v hb => keep hb (by have := dec_any y hy v (HT.out.more hb); rw [dy, vy] at this; exact this)
  have vx : decV x = insV 0 0 0 0 0 := if_neg (by rw [ht]; decide)
  have D2 : Hid (∀ v, Below U.heap.size U v → Calls Tryd.prog 9 #[.int .u32 x] v fun e w' => e = .returned (.tuple #[insV 0 0 0 0 0, .bool false]) ∧ Below U.heap.size U w') := Lib.hid fun v hb => keep hb (by have := dec_any x hx v (HT.out.more hb); rw [ht, vx] at this; exact this)
  have HA : Hid (∀ (W : World) (o : Obj), Below U.heap.size U W → Below U.heap.size U (W.alloc o)) := Lib.hid fun W o h => h.alloc h.size _
  clear ey ez hv hw ht vx dy vy hx
  go_enter Tryd.func4, Tryd.ntmps4
  go_wp2_with fail
  rw [show w.alloc (.cells #[.int .i64 o, .int .i64 d, .int .i64 a, .int .i64 b, .int .i64 m] 23) = U from HU.out.symm]
  refine (E1.out _ (Below.refl _ _)).mono ?_
  rintro e w1 ⟨rfl, hb1⟩
  obtain ⟨r0, r1, r2, r3, r4⟩ := (HI.out.more hb1).cells
  have HB1 := Lib.hid hb1
  clear hb1 hU
  go_wp2_with fail
  refine (V1.out _ HB1.out).mono ?_
  rintro e w2 ⟨rfl, hb2⟩
  clear r0 r1 r2 r3 r4
  have HB2 := Lib.hid hb2
  clear hb2
  go_wp2_with fail
  refine (D1.out _ HB2.out).mono ?_
  rintro e w3 ⟨rfl, hb3⟩
  obtain ⟨r0, r1, r2, r3, r4⟩ := (HI.out.more hb3).cells
  have hz : w.heap.size < w3.heap.size := (HI.out.more hb3).lt
  have HB3 := Lib.hid hb3
  clear hb3
  go_wp2_with fail
  refine (D2.out _ (HA.out _ _ HB3.out)).mono ?_
  rintro e w4 ⟨rfl, hb4⟩
  clear r0 r1 r2 r3 r4
  have HB4 := Lib.hid hb4
  clear hb4
  go_wp2_with fail
  refine (awake_any (HA.out _ _ HB4.out) HT.out).mono ?_
  rintro e w7 ⟨rfl, hb7⟩
  have HE := Lib.hid (HB0.out.trans (hb7.mono HB0.out.size))
  clear hb7
  go_wp2
  go_ret
  exact ⟨rfl, HE.out⟩
theorem back_ft (o d a b m : Int) (x : Nat) (hx : x < 4294967296) (hv : validB o d a b m = false) (ht : decT x = true) (w : World) (hw : HasT w) :
    Calls Tryd.prog 4 #[insV o d a b m, .int .u32 x] w fun e w' => e = .returned (.bool true) ∧ Below w.heap.size w w' := by
  have ey : encZ o d a b m = 0 := if_neg (by rw [hv]; decide)
  have ez : encE o d a b m = 6 := if_neg (by rw [hv]; decide)
  obtain ⟨U, hU⟩ : ∃ U, U = insW o d a b m w := ⟨_, rfl⟩
  have HU := Lib.hid hU
  have HB0 : Hid (Below w.heap.size w U) := Lib.hid (hU ▸ ins_below o d a b m w)
  have HT : Hid (HasT U) := Lib.hid (hw.more HB0.out)
  have HI : Hid (InsAt U w.heap.size o d a b m) := Lib.hid (hU ▸ ins_at o d a b m w)
  have E1 : Hid (∀ v, Below U.heap.size U v → Calls Tryd.prog 7 #[insV o d a b m] v fun e w' => e = .returned (.tuple #[.int .u32 0, .int .i64 6]) ∧ Below U.heap.size U w') := Lib.hid fun v hb => keep hb (enc_any o d a b m _ _ ey ez v (HT.out.more hb))
  have V1 : Hid (∀ v, Below U.heap.size U v → Calls Tryd.prog 13 #[insV o d a b m] v fun e w' => e = .returned (.bool false) ∧ Below U.heap.size U w') := Lib.hid fun v hb => keep hb (valid_any o d a b m _ hv v (HT.out.more hb))
  obtain ⟨ey2, ez2⟩ := enc_dec x hx ht
  have vx : decV x = insV (wO x) (wD x) (wA x) (wB x) (immZ x) := if_pos ht
  have vt : validB (wO x) (wD x) (wA x) (wB x) (immZ x) = true := ht
  generalize ((wO x : Nat) : Int) = o2 at vx ey2 ez2 vt
  generalize ((wD x : Nat) : Int) = d2 at vx ey2 ez2 vt
  generalize ((wA x : Nat) : Int) = a2 at vx ey2 ez2 vt
  generalize ((wB x : Nat) : Int) = b2 at vx ey2 ez2 vt
  generalize immZ x = m2 at vx ey2 ez2 vt
  have D2 : Hid (∀ v, Below U.heap.size U v → Calls Tryd.prog 9 #[.int .u32 x] v fun e w' => e = .returned (.tuple #[insV o2 d2 a2 b2 m2, .bool true]) ∧ Below U.heap.size U w') := Lib.hid fun v hb => keep hb (by have := dec_any x hx v (HT.out.more hb); rw [ht, vx] at this; exact this)
  have E2 : Hid (∀ W v, HasT W → Below W.heap.size W v → Calls Tryd.prog 7 #[insV o2 d2 a2 b2 m2] v fun e w' => e = .returned (.tuple #[.int .u32 x, .int .i64 0]) ∧ Below W.heap.size W w') := Lib.hid fun W v hw hb => keep hb (enc_any o2 d2 a2 b2 m2 _ _ ey2 ez2 v (hw.more hb))
  have V2 : Hid (∀ W v, HasT W → Below W.heap.size W v → Calls Tryd.prog 13 #[insV o2 d2 a2 b2 m2] v fun e w' => e = .returned (.bool true) ∧ Below W.heap.size W w') := Lib.hid fun W v hw hb => keep hb (valid_any o2 d2 a2 b2 m2 _ vt v (hw.more hb))
  have HA : Hid (∀ (W : World) (o : Obj), Below U.heap.size U W → Below U.heap.size U (W.alloc o)) := Lib.hid fun W o h => h.alloc h.size _
  clear ey ez hv hw ht vx hx ey2 ez2 vt
  go_enter Tryd.func4, Tryd.ntmps4
  go_wp2_with fail
  rw [show w.alloc (.cells #[.int .i64 o, .int .i64 d, .int .i64 a, .int .i64 b, .int .i64 m] 23) = U from HU.out.symm]
  refine (E1.out _ (Below.refl _ _)).mono ?_
  rintro e w1 ⟨rfl, hb1⟩
  obtain ⟨r0, r1, r2, r3, r4⟩ := (HI.out.more hb1).cells
  have HB1 := Lib.hid hb1
  clear hb1 hU
  go_wp2_with fail
  refine (V1.out _ HB1.out).mono ?_
  rintro e w2 ⟨rfl, hb2⟩
  clear r0 r1 r2 r3 r4
  have HB2 := Lib.hid hb2
  clear hb2
  go_wp2_with fail
  refine (D2.out _ HB2.out).mono ?_
  rintro e w4 ⟨rfl, hb4⟩
  have HB4 := Lib.hid hb4
  clear hb4
  obtain ⟨X, hX⟩ : ∃ X, X = insW o2 d2 a2 b2 m2 w4 := ⟨_, rfl⟩
  have HX := Lib.hid hX
  have HXT : Hid (HasT X) := Lib.hid ((HT.out.more HB4.out).more (hX ▸ ins_below o2 d2 a2 b2 m2 w4))
  have HXI : Hid (InsAt X w4.heap.size o2 d2 a2 b2 m2) := Lib.hid (hX ▸ ins_at o2 d2 a2 b2 m2 w4)
  have HXB : Hid (Below U.heap.size U X) := Lib.hid (hX ▸ HA.out _ _ HB4.out)
  clear hX
  go_wp2_with fail
  rw [show w4.alloc (.cells #[.int .i64 o2, .int .i64 d2, .int .i64 a2, .int .i64 b2, .int .i64 m2] 23) = X from HX.out.symm]
  refine (E2.out X _ HXT.out (Below.refl _ _)).mono ?_
  rintro e w5 ⟨rfl, hb5⟩
  obtain ⟨r0, r1, r2, r3, r4⟩ := (HXI.out.more hb5).cells
  have HB5 := Lib.hid hb5
  clear hb5
  go_wp2_with fail
  refine (V2.out X _ HXT.out HB5.out).mono ?_
  rintro e w6 ⟨rfl, hb6⟩
  have HB6 := Lib.hid hb6
  clear hb6 r0 r1 r2 r3 r4
  go_wp2_with fail
  refine (awake_any HB6.out HXT.out).mono ?_
  rintro e w7 ⟨rfl, hb7⟩
  have HE := Lib.hid (HB0.out.trans ((HXB.out.trans (hb7.mono HXB.out.size)).mono HB0.out.size))
  clear hb7
  go_wp2
  go_ret
  exact ⟨rfl, HE.out⟩
theorem back_ff (o d a b m : Int) (x : Nat) (hx : x < 4294967296) (hv : validB o d a b m = false) (ht : decT x = false) (w : World) (hw : HasT w) :
    Calls Tryd.prog 4 #[insV o d a b m, .int .u32 x] w fun e w' => e = .returned (.bool true) ∧ Below w.heap.size w w' := by
  have ey : encZ o d a b m = 0 := if_neg (by rw [hv]; decide)
  have ez : encE o d a b m = 6 := if_neg (by rw [hv]; decide)
  obtain ⟨U, hU⟩ : ∃ U, U = insW o d a b m w := ⟨_, rfl⟩
  have HU := Lib.hid hU
  have HB0 : Hid (Below w.heap.size w U) := Lib.hid (hU ▸ ins_below o d a b m w)
  have HT : Hid (HasT U) := Lib.hid (hw.more HB0.out)
  have HI : Hid (InsAt U w.heap.size o d a b m) := Lib.hid (hU ▸ ins_at o d a b m w)
  have E1 : Hid (∀ v, Below U.heap.size U v → Calls Tryd.prog 7 #[insV o d a b m] v fun e w' => e = .returned (.tuple #[.int .u32 0, .int .i64 6]) ∧ Below U.heap.size U w') := Lib.hid fun v hb => keep hb (enc_any o d a b m _ _ ey ez v (HT.out.more hb))
  have V1 : Hid (∀ v, Below U.heap.size U v → Calls Tryd.prog 13 #[insV o d a b m] v fun e w' => e = .returned (.bool false) ∧ Below U.heap.size U w') := Lib.hid fun v hb => keep hb (valid_any o d a b m _ hv v (HT.out.more hb))
  have vx : decV x = insV 0 0 0 0 0 := if_neg (by rw [ht]; decide)
  have D2 : Hid (∀ v, Below U.heap.size U v → Calls Tryd.prog 9 #[.int .u32 x] v fun e w' => e = .returned (.tuple #[insV 0 0 0 0 0, .bool false]) ∧ Below U.heap.size U w') := Lib.hid fun v hb => keep hb (by have := dec_any x hx v (HT.out.more hb); rw [ht, vx] at this; exact this)
  have HA : Hid (∀ (W : World) (o : Obj), Below U.heap.size U W → Below U.heap.size U (W.alloc o)) := Lib.hid fun W o h => h.alloc h.size _
  clear ey ez hv hw ht vx hx
  go_enter Tryd.func4, Tryd.ntmps4
  go_wp2_with fail
  rw [show w.alloc (.cells #[.int .i64 o, .int .i64 d, .int .i64 a, .int .i64 b, .int .i64 m] 23) = U from HU.out.symm]
  refine (E1.out _ (Below.refl _ _)).mono ?_
  rintro e w1 ⟨rfl, hb1⟩
  obtain ⟨r0, r1, r2, r3, r4⟩ := (HI.out.more hb1).cells
  have HB1 := Lib.hid hb1
  clear hb1 hU
  go_wp2_with fail
  refine (V1.out _ HB1.out).mono ?_
  rintro e w2 ⟨rfl, hb2⟩
  clear r0 r1 r2 r3 r4
  have HB2 := Lib.hid hb2
  clear hb2
  go_wp2_with fail
  refine (D2.out _ HB2.out).mono ?_
  rintro e w4 ⟨rfl, hb4⟩
  have HB4 := Lib.hid hb4
  clear hb4
  go_wp2_with fail
  refine (awake_any (HA.out _ _ HB4.out) HT.out).mono ?_
  rintro e w7 ⟨rfl, hb7⟩
  have HE := Lib.hid (HB0.out.trans (hb7.mono HB0.out.size))
  clear hb7
  go_wp2
  go_ret
  exact ⟨rfl, HE.out⟩
/-- the law, any instruction, any word -/
theorem back_any (o d a b m : Int) (x : Nat) (hx : x < 4294967296) (w : World) (hw : HasT w) :
    Calls Tryd.prog 4 #[insV o d a b m, .int .u32 x] w fun e w' => e = .returned (.bool true) ∧ Below w.heap.size w w' := by
  cases hv : validB o d a b m
  all_goals cases ht : decT x
  · exact back_ff o d a b m x hx hv ht w hw
  · exact back_ft o d a b m x hx hv ht w hw
  · exact back_tf o d a b m x hx hv ht w hw
  · exact back_tt o d a b m x hx hv ht w hw
end Go.Proofs.YtklakehhckipfaaDoor.Is
