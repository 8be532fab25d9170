/- The walk of hermitagelaw14.PteBack. -/
import Derived.Test.YtfifflepgfpjiaaBj
namespace Go.Proofs.Ytfifflepgfpjiaa.Pe
open Go.RowKit Ut
set_option linter.unusedVariables false
set_option maxRecDepth 100000
set_option maxHeartbeats 8000000

theorem put_cases (o : Bool) (r g : Int) : putE o r g = 6 ∨ (o = false ∧ r = 0 ∧ g = 0) ∨ (o = true ∧ ∃ a b : Nat, r = a ∧ g = b ∧ a ≤ 15 ∧ b ≤ 31) := by
  by_cases h : fitsB o r g = true
  · cases o
    · unfold fitsB at h
      simp at h
      exact .inr (.inl ⟨rfl, h⟩)
    · exact .inr (.inr ⟨rfl, fits_in h⟩)
  · exact .inl (if_neg h)
theorem put_word (a b : Nat) (ha : a ≤ 15) (hb : b ≤ 31) : putZ true a b = 1 + 2 * a + 256 * b ∧ putE true a b = 0 := by
  have e1 : fitsB true a b = true := by unfold fitsB; simp; omega
  unfold putZ putE
  rw [e1]
  exact ⟨by show wordN a b = _; unfold wordN; simp, rfl⟩
theorem word_get (a b : Nat) (ha : a ≤ 15) (hb : b ≤ 31) : getF (1 + 2 * a + 256 * b) = 0 ∧ rOf (1 + 2 * a + 256 * b) = a ∧ gOf (1 + 2 * a + 256 * b) = b := by
  have e1 : rOf (1 + 2 * a + 256 * b) = a := by unfold rOf; omega
  have e2 : gOf (1 + 2 * a + 256 * b) = b := by unfold gOf; omega
  unfold getF
  rw [e1, e2, if_neg (by omega), if_pos rfl]
  exact ⟨rfl, rfl, rfl⟩
theorem get_cases (x : Nat) : (getF x = 4 ∧ x % 2 = 0) ∨ (getF x = 5 ∧ x % 2 = 1) ∨ (getF x = 0 ∧ rOf x ≤ 15 ∧ gOf x ≤ 31 ∧ 1 + 2 * rOf x + 256 * gOf x = x) := by
  unfold getF
  by_cases h : x % 2 = 0
  · rw [if_pos h]; exact .inl ⟨rfl, h⟩
  rw [if_neg h]
  by_cases h2 : 1 + 2 * rOf x + 256 * gOf x = x
  · rw [if_pos h2]; exact .inr (.inr ⟨rfl, by unfold rOf; omega, by unfold gOf; omega, h2⟩)
  · rw [if_neg h2]; exact .inr (.inl ⟨rfl, by omega⟩)
theorem back_bad_even (x : Nat) (o : Bool) (r g : Int) (z1 : Nat) (P1 : Hid (∀ w, Calls Try.prog 7 #[pteV o r g] w fun e w' => e = .returned (.tuple #[.int .u32 z1, .int .i64 6]) ∧ Below w.heap.size w w')) (G2 : Hid (∀ w, Calls Try.prog 9 #[.int .u32 x] w fun e w' => e = .returned (.tuple #[pteV false 0 0, .int .i64 4]) ∧ Below w.heap.size w w')) (hx : (x : Int) % 2 = 0) (w : World) :
    Calls Try.prog 4 #[pteV o r g, .int .u32 x] w fun e w' => e = .returned (.bool true) ∧ Below w.heap.size w w' := by
  obtain ⟨U, hU⟩ : ∃ U, U = pteW o r g w := ⟨_, rfl⟩
  have HU := Lib.hid hU
  have HB0 : Hid (Below w.heap.size w U) := Lib.hid (hU ▸ pte_below o r g w)
  have HI : Hid (PteAt U w.heap.size o r g) := Lib.hid (hU ▸ pte_at o r g w)
  clear hU
  go_enter Try.func4, Try.ntmps4
  go_wp2_with fail
  rw [show w.alloc (.cells #[.bool o, .int .i64 r, .int .i64 g] 23) = U from HU.out.symm]
  refine (P1.out U).mono ?_
  rintro e W ⟨rfl, hb1⟩
  have HBW := Lib.hid (HB0.out.trans (hb1.mono HB0.out.size))
  clear hb1
  go_wp2_with fail
  refine (G2.out W).mono ?_
  rintro e w3 ⟨rfl, hb3⟩
  have HB3 := Lib.hid (HBW.out.trans (hb3.mono HBW.out.size))
  clear hb3
  go_wp2_with fail
  refine (awake_any _).mono ?_
  rintro e w4 ⟨rfl, hb4⟩
  have HB4 := Lib.hid (HB3.out.trans ((((pte_below false 0 0 w3).trans (hb4.mono (by simp))).mono HB3.out.size)))
  clear hb4
  go_wp2
  go_ret
  exact ⟨rfl, HB4.out⟩
theorem back_bad_form (x : Nat) (o : Bool) (r g : Int) (z1 : Nat) (P1 : Hid (∀ w, Calls Try.prog 7 #[pteV o r g] w fun e w' => e = .returned (.tuple #[.int .u32 z1, .int .i64 6]) ∧ Below w.heap.size w w')) (G2 : Hid (∀ w, Calls Try.prog 9 #[.int .u32 x] w fun e w' => e = .returned (.tuple #[pteV false 0 0, .int .i64 5]) ∧ Below w.heap.size w w')) (hx : (x : Int) % 2 = 1) (w : World) :
    Calls Try.prog 4 #[pteV o r g, .int .u32 x] w fun e w' => e = .returned (.bool true) ∧ Below w.heap.size w w' := by
  obtain ⟨U, hU⟩ : ∃ U, U = pteW o r g w := ⟨_, rfl⟩
  have HU := Lib.hid hU
  have HB0 : Hid (Below w.heap.size w U) := Lib.hid (hU ▸ pte_below o r g w)
  have HI : Hid (PteAt U w.heap.size o r g) := Lib.hid (hU ▸ pte_at o r g w)
  clear hU
  go_enter Try.func4, Try.ntmps4
  go_wp2_with fail
  rw [show w.alloc (.cells #[.bool o, .int .i64 r, .int .i64 g] 23) = U from HU.out.symm]
  refine (P1.out U).mono ?_
  rintro e W ⟨rfl, hb1⟩
  have HBW := Lib.hid (HB0.out.trans (hb1.mono HB0.out.size))
  clear hb1
  go_wp2_with fail
  refine (G2.out W).mono ?_
  rintro e w3 ⟨rfl, hb3⟩
  have HB3 := Lib.hid (HBW.out.trans (hb3.mono HBW.out.size))
  clear hb3
  go_wp2_with fail
  refine (awake_any _).mono ?_
  rintro e w4 ⟨rfl, hb4⟩
  have HB4 := Lib.hid (HB3.out.trans ((((pte_below false 0 0 w3).trans (hb4.mono (by simp))).mono HB3.out.size)))
  clear hb4
  go_wp2
  go_ret
  exact ⟨rfl, HB4.out⟩
theorem back_bad_is (x : Nat) (o : Bool) (r g : Int) (z1 : Nat) (P1 : Hid (∀ w, Calls Try.prog 7 #[pteV o r g] w fun e w' => e = .returned (.tuple #[.int .u32 z1, .int .i64 6]) ∧ Below w.heap.size w w')) (a b : Int) (G2 : Hid (∀ w, Calls Try.prog 9 #[.int .u32 x] w fun e w' => e = .returned (.tuple #[pteV true a b, .int .i64 0]) ∧ Below w.heap.size w w')) (P2 : Hid (∀ w, Calls Try.prog 7 #[pteV true a b] w fun e w' => e = .returned (.tuple #[.int .u32 x, .int .i64 0]) ∧ Below w.heap.size w w')) (w : World) :
    Calls Try.prog 4 #[pteV o r g, .int .u32 x] w fun e w' => e = .returned (.bool true) ∧ Below w.heap.size w w' := by
  obtain ⟨U, hU⟩ : ∃ U, U = pteW o r g w := ⟨_, rfl⟩
  have HU := Lib.hid hU
  have HB0 : Hid (Below w.heap.size w U) := Lib.hid (hU ▸ pte_below o r g w)
  have HI : Hid (PteAt U w.heap.size o r g) := Lib.hid (hU ▸ pte_at o r g w)
  clear hU
  go_enter Try.func4, Try.ntmps4
  go_wp2_with fail
  rw [show w.alloc (.cells #[.bool o, .int .i64 r, .int .i64 g] 23) = U from HU.out.symm]
  refine (P1.out U).mono ?_
  rintro e W ⟨rfl, hb1⟩
  have HBW := Lib.hid (HB0.out.trans (hb1.mono HB0.out.size))
  clear hb1
  go_wp2_with fail
  refine (G2.out W).mono ?_
  rintro e w3 ⟨rfl, hb3⟩
  have HB3 := Lib.hid (HBW.out.trans (hb3.mono HBW.out.size))
  clear hb3
  obtain ⟨X, hX⟩ : ∃ X, X = pteW true a b w3 := ⟨_, rfl⟩
  have HX := Lib.hid hX
  have HC : Hid (PteAt X w3.heap.size true a b) := Lib.hid (hX ▸ pte_at true a b w3)
  have HBX : Hid (Below w.heap.size w X) := Lib.hid (by rw [hX]; exact HB3.out.trans ((pte_below true a b w3).mono HB3.out.size))
  clear hX
  go_wp2_with fail
  rw [show w3.alloc (.cells #[.bool true, .int .i64 a, .int .i64 b] 23) = X from HX.out.symm]
  refine (P2.out X).mono ?_
  rintro e w4 ⟨rfl, hb4⟩
  obtain ⟨s0, s1, s2⟩ := (HC.out.more hb4).cells
  have HB4 := Lib.hid (HBX.out.trans (hb4.mono HBX.out.size))
  clear hb4
  go_wp2_with fail
  refine (awake_any _).mono ?_
  rintro e w5 ⟨rfl, hb5⟩
  have HB5 := Lib.hid (HB4.out.trans (hb5.mono HB4.out.size))
  clear hb5
  go_wp2
  go_ret
  exact ⟨rfl, HB5.out⟩
theorem back_off_even (x : Nat) (r g : Int) (z1 : Nat) (P1 : Hid (∀ w, Calls Try.prog 7 #[pteV false r g] w fun e w' => e = .returned (.tuple #[.int .u32 z1, .int .i64 0]) ∧ Below w.heap.size w w')) (G1 : Hid (∀ w, Calls Try.prog 9 #[.int .u32 z1] w fun e w' => e = .returned (.tuple #[pteV false r g, .int .i64 4]) ∧ Below w.heap.size w w')) (G2 : Hid (∀ w, Calls Try.prog 9 #[.int .u32 x] w fun e w' => e = .returned (.tuple #[pteV false 0 0, .int .i64 4]) ∧ Below w.heap.size w w')) (hx : (x : Int) % 2 = 0) (w : World) :
    Calls Try.prog 4 #[pteV false r g, .int .u32 x] w fun e w' => e = .returned (.bool true) ∧ Below w.heap.size w w' := by
  obtain ⟨U, hU⟩ : ∃ U, U = pteW false r g w := ⟨_, rfl⟩
  have HU := Lib.hid hU
  have HB0 : Hid (Below w.heap.size w U) := Lib.hid (hU ▸ pte_below false r g w)
  have HI : Hid (PteAt U w.heap.size false r g) := Lib.hid (hU ▸ pte_at false r g w)
  clear hU
  go_enter Try.func4, Try.ntmps4
  go_wp2_with fail
  rw [show w.alloc (.cells #[.bool false, .int .i64 r, .int .i64 g] 23) = U from HU.out.symm]
  refine (P1.out U).mono ?_
  rintro e w1 ⟨rfl, hb1⟩
  have HB1 := Lib.hid hb1
  clear hb1
  go_wp2_with fail
  refine (G1.out w1).mono ?_
  rintro e w2 ⟨rfl, hb2⟩
  have HB2 := Lib.hid (HB1.out.trans (hb2.mono HB1.out.size))
  clear hb2 HB1
  obtain ⟨r0, r1, r2⟩ := (HI.out.more HB2.out).cells
  have hz := (HI.out.more HB2.out).lt
  obtain ⟨W, hW⟩ : ∃ W, W = pteW false r g w2 := ⟨_, rfl⟩
  have HW := Lib.hid hW
  have HBW : Hid (Below w.heap.size w W) := Lib.hid (by rw [hW]; exact HB0.out.trans ((HB2.out.trans ((pte_below false r g w2).mono HB2.out.size)).mono HB0.out.size))
  clear hW
  go_wp2_with fail
  rw [show w2.alloc (.cells #[.bool false, .int .i64 r, .int .i64 g] 23) = W from HW.out.symm]
  clear r0 r1 r2 hz
  refine (G2.out W).mono ?_
  rintro e w3 ⟨rfl, hb3⟩
  have HB3 := Lib.hid (HBW.out.trans (hb3.mono HBW.out.size))
  clear hb3
  go_wp2_with fail
  refine (awake_any _).mono ?_
  rintro e w4 ⟨rfl, hb4⟩
  have HB4 := Lib.hid (HB3.out.trans ((((pte_below false 0 0 w3).trans (hb4.mono (by simp))).mono HB3.out.size)))
  clear hb4
  go_wp2
  go_ret
  exact ⟨rfl, HB4.out⟩
theorem back_off_form (x : Nat) (r g : Int) (z1 : Nat) (P1 : Hid (∀ w, Calls Try.prog 7 #[pteV false r g] w fun e w' => e = .returned (.tuple #[.int .u32 z1, .int .i64 0]) ∧ Below w.heap.size w w')) (G1 : Hid (∀ w, Calls Try.prog 9 #[.int .u32 z1] w fun e w' => e = .returned (.tuple #[pteV false r g, .int .i64 4]) ∧ Below w.heap.size w w')) (G2 : Hid (∀ w, Calls Try.prog 9 #[.int .u32 x] w fun e w' => e = .returned (.tuple #[pteV false 0 0, .int .i64 5]) ∧ Below w.heap.size w w')) (hx : (x : Int) % 2 = 1) (w : World) :
    Calls Try.prog 4 #[pteV false r g, .int .u32 x] w fun e w' => e = .returned (.bool true) ∧ Below w.heap.size w w' := by
  obtain ⟨U, hU⟩ : ∃ U, U = pteW false r g w := ⟨_, rfl⟩
  have HU := Lib.hid hU
  have HB0 : Hid (Below w.heap.size w U) := Lib.hid (hU ▸ pte_below false r g w)
  have HI : Hid (PteAt U w.heap.size false r g) := Lib.hid (hU ▸ pte_at false r g w)
  clear hU
  go_enter Try.func4, Try.ntmps4
  go_wp2_with fail
  rw [show w.alloc (.cells #[.bool false, .int .i64 r, .int .i64 g] 23) = U from HU.out.symm]
  refine (P1.out U).mono ?_
  rintro e w1 ⟨rfl, hb1⟩
  have HB1 := Lib.hid hb1
  clear hb1
  go_wp2_with fail
  refine (G1.out w1).mono ?_
  rintro e w2 ⟨rfl, hb2⟩
  have HB2 := Lib.hid (HB1.out.trans (hb2.mono HB1.out.size))
  clear hb2 HB1
  obtain ⟨r0, r1, r2⟩ := (HI.out.more HB2.out).cells
  have hz := (HI.out.more HB2.out).lt
  obtain ⟨W, hW⟩ : ∃ W, W = pteW false r g w2 := ⟨_, rfl⟩
  have HW := Lib.hid hW
  have HBW : Hid (Below w.heap.size w W) := Lib.hid (by rw [hW]; exact HB0.out.trans ((HB2.out.trans ((pte_below false r g w2).mono HB2.out.size)).mono HB0.out.size))
  clear hW
  go_wp2_with fail
  rw [show w2.alloc (.cells #[.bool false, .int .i64 r, .int .i64 g] 23) = W from HW.out.symm]
  clear r0 r1 r2 hz
  refine (G2.out W).mono ?_
  rintro e w3 ⟨rfl, hb3⟩
  have HB3 := Lib.hid (HBW.out.trans (hb3.mono HBW.out.size))
  clear hb3
  go_wp2_with fail
  refine (awake_any _).mono ?_
  rintro e w4 ⟨rfl, hb4⟩
  have HB4 := Lib.hid (HB3.out.trans ((((pte_below false 0 0 w3).trans (hb4.mono (by simp))).mono HB3.out.size)))
  clear hb4
  go_wp2
  go_ret
  exact ⟨rfl, HB4.out⟩
theorem back_off_is (x : Nat) (r g : Int) (z1 : Nat) (P1 : Hid (∀ w, Calls Try.prog 7 #[pteV false r g] w fun e w' => e = .returned (.tuple #[.int .u32 z1, .int .i64 0]) ∧ Below w.heap.size w w')) (G1 : Hid (∀ w, Calls Try.prog 9 #[.int .u32 z1] w fun e w' => e = .returned (.tuple #[pteV false r g, .int .i64 4]) ∧ Below w.heap.size w w')) (a b : Int) (G2 : Hid (∀ w, Calls Try.prog 9 #[.int .u32 x] w fun e w' => e = .returned (.tuple #[pteV true a b, .int .i64 0]) ∧ Below w.heap.size w w')) (P2 : Hid (∀ w, Calls Try.prog 7 #[pteV true a b] w fun e w' => e = .returned (.tuple #[.int .u32 x, .int .i64 0]) ∧ Below w.heap.size w w')) (w : World) :
    Calls Try.prog 4 #[pteV false r g, .int .u32 x] w fun e w' => e = .returned (.bool true) ∧ Below w.heap.size w w' := by
  obtain ⟨U, hU⟩ : ∃ U, U = pteW false r g w := ⟨_, rfl⟩
  have HU := Lib.hid hU
  have HB0 : Hid (Below w.heap.size w U) := Lib.hid (hU ▸ pte_below false r g w)
  have HI : Hid (PteAt U w.heap.size false r g) := Lib.hid (hU ▸ pte_at false r g w)
  clear hU
  go_enter Try.func4, Try.ntmps4
  go_wp2_with fail
  rw [show w.alloc (.cells #[.bool false, .int .i64 r, .int .i64 g] 23) = U from HU.out.symm]
  refine (P1.out U).mono ?_
  rintro e w1 ⟨rfl, hb1⟩
  have HB1 := Lib.hid hb1
  clear hb1
  go_wp2_with fail
  refine (G1.out w1).mono ?_
  rintro e w2 ⟨rfl, hb2⟩
  have HB2 := Lib.hid (HB1.out.trans (hb2.mono HB1.out.size))
  clear hb2 HB1
  obtain ⟨r0, r1, r2⟩ := (HI.out.more HB2.out).cells
  have hz := (HI.out.more HB2.out).lt
  obtain ⟨W, hW⟩ : ∃ W, W = pteW false r g w2 := ⟨_, rfl⟩
  have HW := Lib.hid hW
  have HBW : Hid (Below w.heap.size w W) := Lib.hid (by rw [hW]; exact HB0.out.trans ((HB2.out.trans ((pte_below false r g w2).mono HB2.out.size)).mono HB0.out.size))
  clear hW
  go_wp2_with fail
  rw [show w2.alloc (.cells #[.bool false, .int .i64 r, .int .i64 g] 23) = W from HW.out.symm]
  clear r0 r1 r2 hz
  refine (G2.out W).mono ?_
  rintro e w3 ⟨rfl, hb3⟩
  have HB3 := Lib.hid (HBW.out.trans (hb3.mono HBW.out.size))
  clear hb3
  obtain ⟨X, hX⟩ : ∃ X, X = pteW true a b w3 := ⟨_, rfl⟩
  have HX := Lib.hid hX
  have HC : Hid (PteAt X w3.heap.size true a b) := Lib.hid (hX ▸ pte_at true a b w3)
  have HBX : Hid (Below w.heap.size w X) := Lib.hid (by rw [hX]; exact HB3.out.trans ((pte_below true a b w3).mono HB3.out.size))
  clear hX
  go_wp2_with fail
  rw [show w3.alloc (.cells #[.bool true, .int .i64 a, .int .i64 b] 23) = X from HX.out.symm]
  refine (P2.out X).mono ?_
  rintro e w4 ⟨rfl, hb4⟩
  obtain ⟨s0, s1, s2⟩ := (HC.out.more hb4).cells
  have HB4 := Lib.hid (HBX.out.trans (hb4.mono HBX.out.size))
  clear hb4
  go_wp2_with fail
  refine (awake_any _).mono ?_
  rintro e w5 ⟨rfl, hb5⟩
  have HB5 := Lib.hid (HB4.out.trans (hb5.mono HB4.out.size))
  clear hb5
  go_wp2
  go_ret
  exact ⟨rfl, HB5.out⟩
theorem back_on_even (x : Nat) (r g : Int) (z1 : Nat) (P1 : Hid (∀ w, Calls Try.prog 7 #[pteV true r g] w fun e w' => e = .returned (.tuple #[.int .u32 z1, .int .i64 0]) ∧ Below w.heap.size w w')) (G1 : Hid (∀ w, Calls Try.prog 9 #[.int .u32 z1] w fun e w' => e = .returned (.tuple #[pteV true r g, .int .i64 0]) ∧ Below w.heap.size w w')) (G2 : Hid (∀ w, Calls Try.prog 9 #[.int .u32 x] w fun e w' => e = .returned (.tuple #[pteV false 0 0, .int .i64 4]) ∧ Below w.heap.size w w')) (hx : (x : Int) % 2 = 0) (w : World) :
    Calls Try.prog 4 #[pteV true r g, .int .u32 x] w fun e w' => e = .returned (.bool true) ∧ Below w.heap.size w w' := by
  obtain ⟨U, hU⟩ : ∃ U, U = pteW true r g w := ⟨_, rfl⟩
  have HU := Lib.hid hU
  have HB0 : Hid (Below w.heap.size w U) := Lib.hid (hU ▸ pte_below true r g w)
  have HI : Hid (PteAt U w.heap.size true r g) := Lib.hid (hU ▸ pte_at true r g w)
  clear hU
  go_enter Try.func4, Try.ntmps4
  go_wp2_with fail
  rw [show w.alloc (.cells #[.bool true, .int .i64 r, .int .i64 g] 23) = U from HU.out.symm]
  refine (P1.out U).mono ?_
  rintro e w1 ⟨rfl, hb1⟩
  have HB1 := Lib.hid hb1
  clear hb1
  go_wp2_with fail
  refine (G1.out w1).mono ?_
  rintro e w2 ⟨rfl, hb2⟩
  have HB2 := Lib.hid (HB1.out.trans (hb2.mono HB1.out.size))
  clear hb2 HB1
  obtain ⟨r0, r1, r2⟩ := (HI.out.more HB2.out).cells
  have hz := (HI.out.more HB2.out).lt
  obtain ⟨W, hW⟩ : ∃ W, W = pteW true r g w2 := ⟨_, rfl⟩
  have HW := Lib.hid hW
  have HBW : Hid (Below w.heap.size w W) := Lib.hid (by rw [hW]; exact HB0.out.trans ((HB2.out.trans ((pte_below true r g w2).mono HB2.out.size)).mono HB0.out.size))
  clear hW
  go_wp2_with fail
  rw [show w2.alloc (.cells #[.bool true, .int .i64 r, .int .i64 g] 23) = W from HW.out.symm]
  clear r0 r1 r2 hz
  refine (G2.out W).mono ?_
  rintro e w3 ⟨rfl, hb3⟩
  have HB3 := Lib.hid (HBW.out.trans (hb3.mono HBW.out.size))
  clear hb3
  go_wp2_with fail
  refine (awake_any _).mono ?_
  rintro e w4 ⟨rfl, hb4⟩
  have HB4 := Lib.hid (HB3.out.trans ((((pte_below false 0 0 w3).trans (hb4.mono (by simp))).mono HB3.out.size)))
  clear hb4
  go_wp2
  go_ret
  exact ⟨rfl, HB4.out⟩
theorem back_on_form (x : Nat) (r g : Int) (z1 : Nat) (P1 : Hid (∀ w, Calls Try.prog 7 #[pteV true r g] w fun e w' => e = .returned (.tuple #[.int .u32 z1, .int .i64 0]) ∧ Below w.heap.size w w')) (G1 : Hid (∀ w, Calls Try.prog 9 #[.int .u32 z1] w fun e w' => e = .returned (.tuple #[pteV true r g, .int .i64 0]) ∧ Below w.heap.size w w')) (G2 : Hid (∀ w, Calls Try.prog 9 #[.int .u32 x] w fun e w' => e = .returned (.tuple #[pteV false 0 0, .int .i64 5]) ∧ Below w.heap.size w w')) (hx : (x : Int) % 2 = 1) (w : World) :
    Calls Try.prog 4 #[pteV true r g, .int .u32 x] w fun e w' => e = .returned (.bool true) ∧ Below w.heap.size w w' := by
  obtain ⟨U, hU⟩ : ∃ U, U = pteW true r g w := ⟨_, rfl⟩
  have HU := Lib.hid hU
  have HB0 : Hid (Below w.heap.size w U) := Lib.hid (hU ▸ pte_below true r g w)
  have HI : Hid (PteAt U w.heap.size true r g) := Lib.hid (hU ▸ pte_at true r g w)
  clear hU
  go_enter Try.func4, Try.ntmps4
  go_wp2_with fail
  rw [show w.alloc (.cells #[.bool true, .int .i64 r, .int .i64 g] 23) = U from HU.out.symm]
  refine (P1.out U).mono ?_
  rintro e w1 ⟨rfl, hb1⟩
  have HB1 := Lib.hid hb1
  clear hb1
  go_wp2_with fail
  refine (G1.out w1).mono ?_
  rintro e w2 ⟨rfl, hb2⟩
  have HB2 := Lib.hid (HB1.out.trans (hb2.mono HB1.out.size))
  clear hb2 HB1
  obtain ⟨r0, r1, r2⟩ := (HI.out.more HB2.out).cells
  have hz := (HI.out.more HB2.out).lt
  obtain ⟨W, hW⟩ : ∃ W, W = pteW true r g w2 := ⟨_, rfl⟩
  have HW := Lib.hid hW
  have HBW : Hid (Below w.heap.size w W) := Lib.hid (by rw [hW]; exact HB0.out.trans ((HB2.out.trans ((pte_below true r g w2).mono HB2.out.size)).mono HB0.out.size))
  clear hW
  go_wp2_with fail
  rw [show w2.alloc (.cells #[.bool true, .int .i64 r, .int .i64 g] 23) = W from HW.out.symm]
  clear r0 r1 r2 hz
  refine (G2.out W).mono ?_
  rintro e w3 ⟨rfl, hb3⟩
  have HB3 := Lib.hid (HBW.out.trans (hb3.mono HBW.out.size))
  clear hb3
  go_wp2_with fail
  refine (awake_any _).mono ?_
  rintro e w4 ⟨rfl, hb4⟩
  have HB4 := Lib.hid (HB3.out.trans ((((pte_below false 0 0 w3).trans (hb4.mono (by simp))).mono HB3.out.size)))
  clear hb4
  go_wp2
  go_ret
  exact ⟨rfl, HB4.out⟩
theorem back_on_is (x : Nat) (r g : Int) (z1 : Nat) (P1 : Hid (∀ w, Calls Try.prog 7 #[pteV true r g] w fun e w' => e = .returned (.tuple #[.int .u32 z1, .int .i64 0]) ∧ Below w.heap.size w w')) (G1 : Hid (∀ w, Calls Try.prog 9 #[.int .u32 z1] w fun e w' => e = .returned (.tuple #[pteV true r g, .int .i64 0]) ∧ Below w.heap.size w w')) (a b : Int) (G2 : Hid (∀ w, Calls Try.prog 9 #[.int .u32 x] w fun e w' => e = .returned (.tuple #[pteV true a b, .int .i64 0]) ∧ Below w.heap.size w w')) (P2 : Hid (∀ w, Calls Try.prog 7 #[pteV true a b] w fun e w' => e = .returned (.tuple #[.int .u32 x, .int .i64 0]) ∧ Below w.heap.size w w')) (w : World) :
    Calls Try.prog 4 #[pteV true r g, .int .u32 x] w fun e w' => e = .returned (.bool true) ∧ Below w.heap.size w w' := by
  obtain ⟨U, hU⟩ : ∃ U, U = pteW true r g w := ⟨_, rfl⟩
  have HU := Lib.hid hU
  have HB0 : Hid (Below w.heap.size w U) := Lib.hid (hU ▸ pte_below true r g w)
  have HI : Hid (PteAt U w.heap.size true r g) := Lib.hid (hU ▸ pte_at true r g w)
  clear hU
  go_enter Try.func4, Try.ntmps4
  go_wp2_with fail
  rw [show w.alloc (.cells #[.bool true, .int .i64 r, .int .i64 g] 23) = U from HU.out.symm]
  refine (P1.out U).mono ?_
  rintro e w1 ⟨rfl, hb1⟩
  have HB1 := Lib.hid hb1
  clear hb1
  go_wp2_with fail
  refine (G1.out w1).mono ?_
  rintro e w2 ⟨rfl, hb2⟩
  have HB2 := Lib.hid (HB1.out.trans (hb2.mono HB1.out.size))
  clear hb2 HB1
  obtain ⟨r0, r1, r2⟩ := (HI.out.more HB2.out).cells
  have hz := (HI.out.more HB2.out).lt
  obtain ⟨W, hW⟩ : ∃ W, W = pteW true r g w2 := ⟨_, rfl⟩
  have HW := Lib.hid hW
  have HBW : Hid (Below w.heap.size w W) := Lib.hid (by rw [hW]; exact HB0.out.trans ((HB2.out.trans ((pte_below true r g w2).mono HB2.out.size)).mono HB0.out.size))
  clear hW
  go_wp2_with fail
  rw [show w2.alloc (.cells #[.bool true, .int .i64 r, .int .i64 g] 23) = W from HW.out.symm]
  clear r0 r1 r2 hz
  refine (G2.out W).mono ?_
  rintro e w3 ⟨rfl, hb3⟩
  have HB3 := Lib.hid (HBW.out.trans (hb3.mono HBW.out.size))
  clear hb3
  obtain ⟨X, hX⟩ : ∃ X, X = pteW true a b w3 := ⟨_, rfl⟩
  have HX := Lib.hid hX
  have HC : Hid (PteAt X w3.heap.size true a b) := Lib.hid (hX ▸ pte_at true a b w3)
  have HBX : Hid (Below w.heap.size w X) := Lib.hid (by rw [hX]; exact HB3.out.trans ((pte_below true a b w3).mono HB3.out.size))
  clear hX
  go_wp2_with fail
  rw [show w3.alloc (.cells #[.bool true, .int .i64 a, .int .i64 b] 23) = X from HX.out.symm]
  refine (P2.out X).mono ?_
  rintro e w4 ⟨rfl, hb4⟩
  obtain ⟨s0, s1, s2⟩ := (HC.out.more hb4).cells
  have HB4 := Lib.hid (HBX.out.trans (hb4.mono HBX.out.size))
  clear hb4
  go_wp2_with fail
  refine (awake_any _).mono ?_
  rintro e w5 ⟨rfl, hb5⟩
  have HB5 := Lib.hid (HB4.out.trans (hb5.mono HB4.out.size))
  clear hb5
  go_wp2
  go_ret
  exact ⟨rfl, HB5.out⟩
/-- the law, any entry, any word -/
theorem back_any (o : Bool) (r g : Int) (x : Nat) (hx : x < 4294967296) (w : World) :
    Calls Try.prog 4 #[pteV o r g, .int .u32 x] w fun e w' => e = .returned (.bool true) ∧ Below w.heap.size w w' := by
  have X0 : ∀ a b : Nat, a ≤ 15 → b ≤ 31 → 1 + 2 * a + 256 * b = x → Hid (∀ w, Calls Try.prog 7 #[pteV true a b] w fun e w' => e = .returned (.tuple #[.int .u32 x, .int .i64 0]) ∧ Below w.heap.size w w') := fun a b ha hb hab => Lib.hid (put_any true a b x 0 ((put_word a b ha hb).1.trans hab) (put_word a b ha hb).2)
  rcases put_cases o r g with h | ⟨rfl, rfl, rfl⟩ | ⟨rfl, a, b, rfl, rfl, ha, hb⟩
  · have P1 := Lib.hid (put_any o r g _ 6 rfl h)
    rcases get_cases x with ⟨hf, h2⟩ | ⟨hf, h2⟩ | ⟨hf, h2, h3, h4⟩
    · exact back_bad_even x o r g _ P1 (Lib.hid (get_any x hx 4 hf)) (by omega) w
    · exact back_bad_form x o r g _ P1 (Lib.hid (get_any x hx 5 hf)) (by omega) w
    · exact back_bad_is x o r g _ P1 _ _ (Lib.hid (get_any x hx 0 hf)) (X0 _ _ h2 h3 h4) w
  · have P1 := Lib.hid (put_any false 0 0 0 0 rfl rfl)
    have G1 := Lib.hid (get_any 0 (by omega) 4 rfl)
    rcases get_cases x with ⟨hf, h2⟩ | ⟨hf, h2⟩ | ⟨hf, h2, h3, h4⟩
    · exact back_off_even x 0 0 _ P1 G1 (Lib.hid (get_any x hx 4 hf)) (by omega) w
    · exact back_off_form x 0 0 _ P1 G1 (Lib.hid (get_any x hx 5 hf)) (by omega) w
    · exact back_off_is x 0 0 _ P1 G1 _ _ (Lib.hid (get_any x hx 0 hf)) (X0 _ _ h2 h3 h4) w
  · obtain ⟨e1, e2⟩ := put_word a b ha hb
    obtain ⟨e3, e4, e5⟩ := word_get a b ha hb
    have P1 := Lib.hid (put_any true a b _ 0 e1 e2)
    have G1 : Hid (∀ w, Calls Try.prog 9 #[.int .u32 ((1 + 2 * a + 256 * b : Nat) : Int)] w fun e w' => e = .returned (.tuple #[pteV true a b, .int .i64 0]) ∧ Below w.heap.size w w') := Lib.hid fun w => by
      have H := get_any (1 + 2 * a + 256 * b) (by omega) 0 e3 w
      rw [show oF 0 = true from rfl, show rF 0 (1 + 2 * a + 256 * b) = (rOf (1 + 2 * a + 256 * b) : Nat) from rfl, show gF 0 (1 + 2 * a + 256 * b) = (gOf (1 + 2 * a + 256 * b) : Nat) from rfl, e4, e5] at H
      exact H
    generalize 1 + 2 * a + 256 * b = z1 at P1 G1
    rcases get_cases x with ⟨hf, h2⟩ | ⟨hf, h2⟩ | ⟨hf, h2, h3, h4⟩
    · exact back_on_even x _ _ _ P1 G1 (Lib.hid (get_any x hx 4 hf)) (by omega) w
    · exact back_on_form x _ _ _ P1 G1 (Lib.hid (get_any x hx 5 hf)) (by omega) w
    · exact back_on_is x _ _ _ P1 G1 _ _ (Lib.hid (get_any x hx 0 hf)) (X0 _ _ h2 h3 h4) w
end Go.Proofs.Ytfifflepgfpjiaa.Pe
