/- Several texts in one: Ne Nc -/
import Derived.Test.YtniaclhmfmkikaaGreatDoorZ14
import Derived.Test.YtniaclhmfmkikaaGreatDoorZ13
section
/- Package isa: Encode of both. -/
namespace Go.Proofs.YtniaclhmfmkikaaGreatDoor.Is
open Go.RowKit Ut
set_option linter.unusedVariables false
set_option maxRecDepth 100000
set_option maxHeartbeats 4000000

theorem fit_bounds {n k : Nat} {r : Int} (h : fitB n k r = true) : 0 ≤ r ∧ r < 16 := by
  unfold fitB at h
  split at h
  · simp at h; omega
  · simp at h; omega
theorem valid_bounds {o d a b m : Int} (h : validB o d a b m = true) : (1 ≤ o ∧ o ≤ 41) ∧ (0 ≤ d ∧ d < 16) ∧ (0 ≤ a ∧ a < 16) ∧ (0 ≤ b ∧ b < 16) ∧ -8192 ≤ m ∧ m ≤ 8191 := by
  unfold validB at h
  simp only [Bool.and_eq_true, decide_eq_true_eq] at h
  obtain ⟨⟨⟨⟨⟨⟨h1, h2⟩, h3⟩, h4⟩, h5⟩, h6⟩, h7⟩ := h
  have hl : -8192 ≤ loZ o.toNat := by unfold loZ; split <;> omega
  have hh : hiZ o.toNat ≤ 8191 := by unfold hiZ; repeat' split
                                     all_goals omega
  exact ⟨⟨h1, h2⟩, fit_bounds h3, fit_bounds h4, fit_bounds h5, by omega, by omega⟩
/-- the word of a right instruction -/
def wordN (o d a b i : Nat) : Nat := o + d * 64 + a * 1024 + b * 16384 + i * 262144
theorem word_or (o d a b i : Nat) (ho : o < 64) (hd : d < 16) (ha : a < 16) (hb : b < 16) : o ||| d * 64 ||| a * 1024 ||| b * 16384 ||| i * 262144 = wordN o d a b i := by
  have e1 : o ||| d * 64 = o + d * 64 := by rw [Nat.or_comm, nat_join 6 _ _ (by omega) (by omega)]; omega
  have e2 : (o + d * 64) ||| a * 1024 = o + d * 64 + a * 1024 := by rw [Nat.or_comm, nat_join 10 _ _ (by omega) (by omega)]; omega
  have e3 : (o + d * 64 + a * 1024) ||| b * 16384 = o + d * 64 + a * 1024 + b * 16384 := by rw [Nat.or_comm, nat_join 14 _ _ (by omega) (by omega)]; omega
  have e4 : (o + d * 64 + a * 1024 + b * 16384) ||| i * 262144 = o + d * 64 + a * 1024 + b * 16384 + i * 262144 := by rw [Nat.or_comm, nat_join 18 _ _ (by omega) (by omega)]; omega
  rw [e1, e2, e3, e4]
  rfl
theorem word_bits (o d a b : Nat) (m : Int) (ho : o < 64) (hd : d < 16) (ha : a < 16) (hb : b < 16) :
    bits .or .u32 (bits .or .u32 (bits .or .u32 (bits .or .u32 (o : Int) ((d : Int) * 64)) ((a : Int) * 1024)) ((b : Int) * 16384)) (m % 4294967296 * 262144 % 4294967296) = (wordN o d a b (m % 16384).toNat : Nat) := by
  obtain ⟨i, hi⟩ : ∃ i : Nat, m % 16384 = i := ⟨(m % 16384).toNat, by omega⟩
  have hi2 : i < 16384 := by omega
  rw [show m % 4294967296 * 262144 % 4294967296 = ((i * 262144 : Nat) : Int) by omega, hi, Int.toNat_natCast]
  rw [show (d : Int) * 64 = ((d * 64 : Nat) : Int) by omega, show (a : Int) * 1024 = ((a * 1024 : Nat) : Int) by omega, show (b : Int) * 16384 = ((b * 16384 : Nat) : Int) by omega]
  have l1 : o ||| d * 64 < 2 ^ 32 := Nat.or_lt_two_pow (by omega) (by omega)
  have l2 : o ||| d * 64 ||| a * 1024 < 2 ^ 32 := Nat.or_lt_two_pow l1 (by omega)
  have l3 : o ||| d * 64 ||| a * 1024 ||| b * 16384 < 2 ^ 32 := Nat.or_lt_two_pow l2 (by omega)
  rw [u32_or_nat _ _ (by omega) (by omega), u32_or_nat _ _ l1 (by omega), u32_or_nat _ _ l2 (by omega), u32_or_nat _ _ l3 (by omega), word_or o d a b i ho hd ha hb]

theorem enc_in (o d a b : Nat) (m : Int) (ho : o < 64) (hd : d < 16) (ha : a < 16) (hb' : b < 16) (hv : validB o d a b m = true) (w : World) (hw : HasT w) :
    Calls Tryz.prog 43 #[insV o d a b m] w fun e w' => e = .returned (.tuple #[.int .u32 (wordN o d a b (m % 16384).toNat : Nat), .int .i64 0]) ∧ Below w.heap.size w w' := by
  have hb := Lib.hid (ins_below o d a b m w)
  have HT := Lib.hid (hw.more hb.out)
  have HK : Hid (∀ w, HasT w → Calls Tryz.prog 29 #[insV o d a b m] w fun e w' => e = .returned (.bool true) ∧ Below w.heap.size w w') := Lib.hid fun w hw => valid_any o d a b m true hv w hw
  have HX := Lib.hid (word_bits o d a b m ho hd ha hb')
  clear hv hw
  go_enter Tryz.func43, Tryz.ntmps43
  go_wp2_with fail
  refine (HK.out _ HT.out).mono ?_
  rintro e w1 ⟨rfl, hb1⟩
  obtain ⟨r0, r1, r2, r3, r4⟩ := ((ins_at o d a b m w).more hb1).cells
  have HB1 := Lib.hid (hb.out.trans (hb1.mono (by simp)))
  clear hb1
  go_wp2
  go_ret2
  exact ⟨by rw [← HX.out]; rfl, HB1.out⟩
theorem enc_out (o d a b m : Int) (hv : validB o d a b m = false) (w : World) (hw : HasT w) :
    Calls Tryz.prog 43 #[insV o d a b m] w fun e w' => e = .returned (.tuple #[.int .u32 0, .int .i64 6]) ∧ Below w.heap.size w w' := by
  have hb := Lib.hid (ins_below o d a b m w)
  have HT := Lib.hid (hw.more hb.out)
  have HK : Hid (∀ w, HasT w → Calls Tryz.prog 29 #[insV o d a b m] w fun e w' => e = .returned (.bool false) ∧ Below w.heap.size w w') := Lib.hid fun w hw => valid_any o d a b m false hv w hw
  clear hv hw
  go_enter Tryz.func43, Tryz.ntmps43
  go_wp2_with fail
  refine (HK.out _ HT.out).mono ?_
  rintro e w1 ⟨rfl, hb1⟩
  have HB1 := Lib.hid (hb.out.trans (hb1.mono (by simp)))
  clear hb1
  go_wp2
  go_ret2
  exact ⟨rfl, HB1.out⟩
theorem refEnc_in (o d a b : Nat) (m : Int) (ho : o < 64) (hd : d < 16) (ha : a < 16) (hb' : b < 16) (hv : validB o d a b m = true) (w : World) :
    Calls Tryz.prog 19 #[insV o d a b m] w fun e w' => e = .returned (.tuple #[.int .u32 (wordN o d a b (m % 16384).toNat : Nat), .int .i64 0]) ∧ Below w.heap.size w w' := by
  have hb := Lib.hid (ins_below o d a b m w)
  have HK : Hid (∀ w, Calls Tryz.prog 20 #[insV o d a b m] w fun e w' => e = .returned (.bool true) ∧ Below w.heap.size w w') := Lib.hid fun w => refValid_any o d a b m true hv w
  have HX : Hid ((o : Int) + d * 64 + a * 1024 + b * 16384 + m % 4294967296 * 262144 % 4294967296 = (wordN o d a b (m % 16384).toNat : Nat)) := Lib.hid (by unfold wordN; omega)
  clear hv
  go_enter Tryz.func19, Tryz.ntmps19
  go_wp2_with fail
  refine (HK.out _).mono ?_
  rintro e w1 ⟨rfl, hb1⟩
  obtain ⟨r0, r1, r2, r3, r4⟩ := ((ins_at o d a b m w).more hb1).cells
  have HB1 := Lib.hid (hb.out.trans (hb1.mono (by simp)))
  clear hb1
  go_wp2
  go_ret2
  exact ⟨by rw [← HX.out]; rfl, HB1.out⟩
theorem refEnc_out (o d a b m : Int) (hv : validB o d a b m = false) (w : World) :
    Calls Tryz.prog 19 #[insV o d a b m] w fun e w' => e = .returned (.tuple #[.int .u32 0, .int .i64 6]) ∧ Below w.heap.size w w' := by
  have hb := Lib.hid (ins_below o d a b m w)
  have HK : Hid (∀ w, Calls Tryz.prog 20 #[insV o d a b m] w fun e w' => e = .returned (.bool false) ∧ Below w.heap.size w w') := Lib.hid fun w => refValid_any o d a b m false hv w
  clear hv
  go_enter Tryz.func19, Tryz.ntmps19
  go_wp2_with fail
  refine (HK.out _).mono ?_
  rintro e w1 ⟨rfl, hb1⟩
  have HB1 := Lib.hid (hb.out.trans (hb1.mono (by simp)))
  clear hb1
  go_wp2
  go_ret2
  exact ⟨rfl, HB1.out⟩

/-- what Encode answers -/
def encZ (o d a b m : Int) : Int := if validB o d a b m = true then (wordN o.toNat d.toNat a.toNat b.toNat (m % 16384).toNat : Nat) else 0
def encE (o d a b m : Int) : Int := if validB o d a b m = true then 0 else 6
theorem enc_any (o d a b m x z : Int) (hx : encZ o d a b m = x) (hz : encE o d a b m = z) (w : World) (hw : HasT w) :
    Calls Tryz.prog 43 #[insV o d a b m] w fun e w' => e = .returned (.tuple #[.int .u32 x, .int .i64 z]) ∧ Below w.heap.size w w' := by
  subst hx hz
  unfold encZ encE
  by_cases h : validB o d a b m = true
  · rw [if_pos h, if_pos h]
    obtain ⟨ho, hd, ha, hb, hm⟩ := valid_bounds h
    obtain ⟨o, rfl⟩ : ∃ n : Nat, o = n := ⟨o.toNat, by omega⟩
    obtain ⟨d, rfl⟩ : ∃ n : Nat, d = n := ⟨d.toNat, by omega⟩
    obtain ⟨a, rfl⟩ : ∃ n : Nat, a = n := ⟨a.toNat, by omega⟩
    obtain ⟨b, rfl⟩ : ∃ n : Nat, b = n := ⟨b.toNat, by omega⟩
    simp only [Int.toNat_natCast]
    exact enc_in o d a b m (by omega) (by omega) (by omega) (by omega) h w hw
  · rw [if_neg h, if_neg h]
    exact enc_out o d a b m (by simpa using h) w hw
theorem refEnc_any (o d a b m x z : Int) (hx : encZ o d a b m = x) (hz : encE o d a b m = z) (w : World) :
    Calls Tryz.prog 19 #[insV o d a b m] w fun e w' => e = .returned (.tuple #[.int .u32 x, .int .i64 z]) ∧ Below w.heap.size w w' := by
  subst hx hz
  unfold encZ encE
  by_cases h : validB o d a b m = true
  · rw [if_pos h, if_pos h]
    obtain ⟨ho, hd, ha, hb, hm⟩ := valid_bounds h
    obtain ⟨o, rfl⟩ : ∃ n : Nat, o = n := ⟨o.toNat, by omega⟩
    obtain ⟨d, rfl⟩ : ∃ n : Nat, d = n := ⟨d.toNat, by omega⟩
    obtain ⟨a, rfl⟩ : ∃ n : Nat, a = n := ⟨a.toNat, by omega⟩
    obtain ⟨b, rfl⟩ : ∃ n : Nat, b = n := ⟨b.toNat, by omega⟩
    simp only [Int.toNat_natCast]
    exact refEnc_in o d a b m (by omega) (by omega) (by omega) (by omega) h w
  · rw [if_neg h, if_neg h]
    exact refEnc_out o d a b m (by simpa using h) w
end Go.Proofs.YtniaclhmfmkikaaGreatDoor.Is
end
section
/- Package isa: cut, of both kinds. -/
namespace Go.Proofs.YtniaclhmfmkikaaGreatDoor.Is
open Go.RowKit Ut
set_option linter.unusedVariables false
set_option maxRecDepth 100000
set_option maxHeartbeats 4000000

/-- a word's number, with its sign -/
def immZ (x : Nat) : Int := if x / 262144 < 8192 then ((x / 262144 : Nat) : Int) else ((x / 262144 : Nat) : Int) - 16384
end Go.Proofs.YtniaclhmfmkikaaGreatDoor.Is
end
