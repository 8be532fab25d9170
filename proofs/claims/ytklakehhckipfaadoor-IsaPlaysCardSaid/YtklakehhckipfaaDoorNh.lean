/- Package isa: Writes of both; what is carried on from the world in which a walk began; awake. -/
import Derived.Test.YtklakehhckipfaaDoorNg
namespace Go.Proofs.YtklakehhckipfaaDoor.Is
open Go.RowKit Ut
set_option linter.unusedVariables false
set_option maxRecDepth 100000
set_option maxHeartbeats 4000000

/-- what Writes answers -/
def wrB (o d a b m : Int) : Bool := validB o d a b m && hD o.toNat
def wrZ (o d a b m : Int) : Int := if wrB o d a b m = true then d else 0

theorem writes_none (o d a b m : Int) (hv : validB o d a b m = false) (w : World) (hw : HasT w) :
    Calls Tryd.prog 11 #[insV o d a b m] w fun e w' => e = .returned (.tuple #[.int .i64 0, .bool false]) ∧ Below w.heap.size w w' := by
  have hb := Lib.hid (ins_below o d a b m w)
  have HT := Lib.hid (hw.more hb.out)
  have HK : Hid (∀ w, HasT w → Calls Tryd.prog 13 #[insV o d a b m] w fun e w' => e = .returned (.bool false) ∧ Below w.heap.size w w') := Lib.hid fun w hw => valid_any o d a b m false hv w hw
  clear hv hw
  go_enter Tryd.func11, Tryd.ntmps11
  go_wp2_with fail
  refine (HK.out _ HT.out).mono ?_
  rintro e w1 ⟨rfl, hb1⟩
  have HB1 := Lib.hid (hb.out.trans (hb1.mono hb.out.size))
  clear hb1
  go_wp2
  go_ret2
  exact ⟨rfl, HB1.out⟩
theorem writes_some (n : Nat) (d a b m : Int) (t : Bool) (h2 : n ≤ 41) (hv : validB n d a b m = true) (ht : hD n = t) (w : World) (hw : HasT w) :
    Calls Tryd.prog 11 #[insV n d a b m] w fun e w' => e = .returned (.tuple #[.int .i64 (if t = true then d else 0), .bool t]) ∧ Below w.heap.size w w' := by
  have hb := Lib.hid (ins_below n d a b m w)
  have HT := Lib.hid (hw.more hb.out)
  have HK : Hid (∀ w, HasT w → Calls Tryd.prog 13 #[insV n d a b m] w fun e w' => e = .returned (.bool true) ∧ Below w.heap.size w w') := Lib.hid fun w hw => valid_any n d a b m true hv w hw
  have hc : Hid (∀ w, HasT w → w.cell? ⟨0, n, none⟩ = some (.int .u8 (hasN n : Nat))) := Lib.hid fun w hw => hw.at n (by omega)
  have hbit : (bits .and .u8 ((hasN n : Nat) : Int) 1 == 0) = !t := by
    rw [show (1 : Int) = ((1 : Nat) : Int) from rfl, u8_and_nat (hasN n) 1 (has_le n) (by omega), ← ht, Bool.eq_iff_iff]
    unfold hD
    simp
    omega
  have hx : (n : Int) < 42 := by omega
  generalize hasN n = z at hc hbit
  clear hv hw ht
  cases t
  · rw [if_neg (by decide)]
    have hbit2 : (bits .and .u8 (z : Int) 1 == 0) = true := hbit
    clear hbit
    go_enter Tryd.func11, Tryd.ntmps11
    go_wp2_with fail
    refine (HK.out _ HT.out).mono ?_
    rintro e w1 ⟨rfl, hb1⟩
    obtain ⟨r0, r1, r2, r3, r4⟩ := ((ins_at n d a b m w).more hb1).cells
    have rc := hc.out _ (HT.out.more hb1)
    have HB1 := Lib.hid (hb.out.trans (hb1.mono hb.out.size))
    clear hb1
    go_wp2
    go_ret2
    exact ⟨rfl, HB1.out⟩
  · rw [if_pos rfl]
    have hbit2 : (bits .and .u8 (z : Int) 1 == 0) = false := hbit
    clear hbit
    go_enter Tryd.func11, Tryd.ntmps11
    go_wp2_with fail
    refine (HK.out _ HT.out).mono ?_
    rintro e w1 ⟨rfl, hb1⟩
    obtain ⟨r0, r1, r2, r3, r4⟩ := ((ins_at n d a b m w).more hb1).cells
    have rc := hc.out _ (HT.out.more hb1)
    have HB1 := Lib.hid (hb.out.trans (hb1.mono hb.out.size))
    clear hb1
    go_wp2
    go_ret2
    exact ⟨rfl, HB1.out⟩
theorem writes_any (o d a b m x : Int) (t : Bool) (hx : wrZ o d a b m = x) (ht : wrB o d a b m = t) (w : World) (hw : HasT w) :
    Calls Tryd.prog 11 #[insV o d a b m] w fun e w' => e = .returned (.tuple #[.int .i64 x, .bool t]) ∧ Below w.heap.size w w' := by
  subst hx ht
  unfold wrZ
  by_cases h : validB o d a b m = true
  · obtain ⟨ho, _⟩ := valid_bounds h
    obtain ⟨n, rfl⟩ : ∃ n : Nat, o = n := ⟨o.toNat, by omega⟩
    rw [show wrB n d a b m = hD n by unfold wrB; rw [h, Int.toNat_natCast, Bool.true_and]]
    exact writes_some n d a b m _ (by omega) h rfl w hw
  · have hf : validB o d a b m = false := by simpa using h
    rw [show wrB o d a b m = false by unfold wrB; rw [hf, Bool.false_and], if_neg (by decide)]
    exact writes_none o d a b m hf w hw

theorem refWrites_none (o d a b m : Int) (hv : validB o d a b m = false) (w : World) :
    Calls Tryd.prog 12 #[insV o d a b m] w fun e w' => e = .returned (.tuple #[.int .i64 0, .bool false]) ∧ Below w.heap.size w w' := by
  have hb := Lib.hid (ins_below o d a b m w)
  have HK : Hid (∀ w, Calls Tryd.prog 14 #[insV o d a b m] w fun e w' => e = .returned (.bool false) ∧ Below w.heap.size w w') := Lib.hid fun w => refValid_any o d a b m false hv w
  clear hv
  go_enter Tryd.func12, Tryd.ntmps12
  go_wp2_with fail
  refine (HK.out _).mono ?_
  rintro e w1 ⟨rfl, hb1⟩
  have HB1 := Lib.hid (hb.out.trans (hb1.mono hb.out.size))
  clear hb1
  go_wp2
  go_ret2
  exact ⟨rfl, HB1.out⟩
theorem refWrites_some (n : Nat) (d a b m : Int) (t x1 x2 x3 : Bool) (h1 : 1 ≤ n) (h2 : n ≤ 41) (hv : validB n d a b m = true) (ht : hD n = t) (f1 : hA n = x1) (f2 : hB n = x2) (f3 : hI n = x3) (w : World) :
    Calls Tryd.prog 12 #[insV n d a b m] w fun e w' => e = .returned (.tuple #[.int .i64 (if t = true then d else 0), .bool t]) ∧ Below w.heap.size w w' := by
  have hb := Lib.hid (ins_below n d a b m w)
  have HK : Hid (∀ w, Calls Tryd.prog 14 #[insV n d a b m] w fun e w' => e = .returned (.bool true) ∧ Below w.heap.size w w') := Lib.hid fun w => refValid_any n d a b m true hv w
  have HH : Hid (∀ w, Calls Tryd.prog 20 #[.int .i64 n] w fun e w' => e = .returned (.tuple #[.bool t, .bool x1, .bool x2, .bool x3]) ∧ w = w') := Lib.hid fun w => by
    rw [← ht, ← f1, ← f2, ← f3]; exact refHas_any n h1 h2 w
  clear hv ht f1 f2 f3
  cases t
  · rw [if_neg (by decide)]
    go_enter Tryd.func12, Tryd.ntmps12
    go_wp2_with fail
    refine (HK.out _).mono ?_
    rintro e w1 ⟨rfl, hb1⟩
    obtain ⟨r0, r1, r2, r3, r4⟩ := ((ins_at n d a b m w).more hb1).cells
    have HB1 := Lib.hid (hb.out.trans (hb1.mono hb.out.size))
    clear hb1
    go_wp2_with fail
    refine (HH.out _).mono ?_
    rintro e w2 ⟨rfl, rfl⟩
    go_wp2
    go_ret2
    exact ⟨rfl, HB1.out⟩
  · rw [if_pos rfl]
    go_enter Tryd.func12, Tryd.ntmps12
    go_wp2_with fail
    refine (HK.out _).mono ?_
    rintro e w1 ⟨rfl, hb1⟩
    obtain ⟨r0, r1, r2, r3, r4⟩ := ((ins_at n d a b m w).more hb1).cells
    have HB1 := Lib.hid (hb.out.trans (hb1.mono hb.out.size))
    clear hb1
    go_wp2_with fail
    refine (HH.out _).mono ?_
    rintro e w2 ⟨rfl, rfl⟩
    go_wp2
    go_ret2
    exact ⟨rfl, HB1.out⟩
theorem refWrites_any (o d a b m x : Int) (t : Bool) (hx : wrZ o d a b m = x) (ht : wrB o d a b m = t) (w : World) :
    Calls Tryd.prog 12 #[insV o d a b m] w fun e w' => e = .returned (.tuple #[.int .i64 x, .bool t]) ∧ Below w.heap.size w w' := by
  subst hx ht
  unfold wrZ
  by_cases h : validB o d a b m = true
  · obtain ⟨ho, _⟩ := valid_bounds h
    obtain ⟨n, rfl⟩ : ∃ n : Nat, o = n := ⟨o.toNat, by omega⟩
    rw [show wrB n d a b m = hD n by unfold wrB; rw [h, Int.toNat_natCast, Bool.true_and]]
    exact refWrites_some n d a b m _ _ _ _ (by omega) (by omega) h rfl rfl rfl rfl w
  · have hf : validB o d a b m = false := by simpa using h
    rw [show wrB o d a b m = false by unfold wrB; rw [hf, Bool.false_and], if_neg (by decide)]
    exact refWrites_none o d a b m hf w

/-- a call, carried on from the world in which the walk began -/
theorem keep {f : Nat} {args : Array Value} {r : Ending} {w0 w : World} (h : Below w0.heap.size w0 w) (H : Calls Tryd.prog f args w fun e w' => e = r ∧ Below w.heap.size w w') :
    Calls Tryd.prog f args w fun e w' => e = r ∧ Below w0.heap.size w0 w' := H.mono fun _ _ ⟨he, hb⟩ => ⟨he, h.trans (hb.mono h.size)⟩

theorem enc_told : encZ 14 1 2 0 (-1) = 4294707278 := by decide +kernel
theorem enc_good : encE 14 1 2 0 (-1) = 0 := by decide +kernel
theorem dec_told : decT 0 = false := by decide +kernel
theorem dec_zero : decV 0 = insV 0 0 0 0 0 := by unfold decV; rw [dec_told]; rfl
theorem awake_any {w0 w : World} (h : Below w0.heap.size w0 w) (hw : HasT w0) :
    Calls Tryd.prog 17 #[] w fun e w' => e = .returned (.bool true) ∧ Below w0.heap.size w0 w' := by
  have HB := Lib.hid h
  have HT := Lib.hid hw
  have C1 : Hid (∀ w, Below w0.heap.size w0 w → Calls Tryd.prog 7 #[insV 14 1 2 0 (-1)] w fun e w' => e = .returned (.tuple #[.int .u32 4294707278, .int .i64 0]) ∧ Below w0.heap.size w0 w') :=
    Lib.hid fun w h => keep h (enc_any 14 1 2 0 (-1) _ _ enc_told enc_good w (HT.out.more h))
  have C2 : Hid (∀ w, Below w0.heap.size w0 w → Calls Tryd.prog 9 #[.int .u32 0] w fun e w' => e = .returned (.tuple #[insV 0 0 0 0 0, .bool false]) ∧ Below w0.heap.size w0 w') :=
    Lib.hid fun w h => keep h (by have := dec_any 0 (by omega) w (HT.out.more h); rw [dec_zero, dec_told] at this; exact this)
  have HA : Hid (∀ (W : World) (o : Obj), Below w0.heap.size w0 W → Below w0.heap.size w0 (W.alloc o)) := Lib.hid fun W o h => h.alloc h.size _
  clear h hw
  go_enter Tryd.func17, Tryd.ntmps17
  go_wp2_with fail
  refine (C1.out _ HB.out).mono ?_
  rintro e w1 ⟨rfl, hb1⟩
  have HB1 := Lib.hid hb1
  clear hb1
  go_wp2_with fail
  refine (C2.out _ HB1.out).mono ?_
  rintro e w2 ⟨rfl, hb2⟩
  have HB2 := Lib.hid hb2
  clear hb2
  go_wp2
  go_ret
  exact ⟨rfl, HA.out _ _ HB2.out⟩
end Go.Proofs.YtklakehhckipfaaDoor.Is
