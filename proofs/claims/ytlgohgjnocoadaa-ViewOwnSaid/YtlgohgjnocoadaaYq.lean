/- The walk of hermitagelaw16.ViewOwn. -/
import Derived.Test.YtlgohgjnocoadaaYo
namespace Go.Proofs.Ytlgohgjnocoadaa.Vw
open Go.RowKit Go.Shelf Ut Oc
set_option maxRecDepth 100000
set_option linter.unusedVariables false
set_option maxHeartbeats 8000000

/-- the first i bytes from a on are own ones, each by itself -/
def ownI (n : Nat) (L : List Gm.Pl) (a i : Nat) : Bool := decide ((a : Int) ≤ 512) && (List.range i).all fun j => ownB n L ((a + j : Nat) : Int) 1
theorem ownI_succ (n : Nat) (L : List Gm.Pl) (a i : Nat) : ownI n L a (i + 1) = (ownI n L a i && ownB n L ((a + i : Nat) : Int) 1) := by
  unfold ownI
  rw [List.range_succ, List.all_append]
  simp [Bool.and_assoc]
theorem own_one (n : Nat) (L : List Gm.Pl) (p : Nat) : ownB n L (p : Int) 1 = (decide (p ≤ 511) && okA n L p) := by
  unfold ownB
  by_cases h : p ≤ 511
  · have h1 : (p : Int) ≤ 512 := by omega
    have h2 : (1 : Int) ≤ 512 - (p : Int) := by omega
    simp [h, h1, h2, List.range_succ]
  · have h2 : ¬ (1 : Int) ≤ 512 - (p : Int) := by omega
    simp [h, h2]
theorem own_all (n : Nat) (L : List Gm.Pl) (a k : Nat) : ownB n L (a : Int) (k : Int) = ownI n L a k := by
  rw [Bool.eq_iff_iff]
  unfold ownI
  simp only [Bool.and_eq_true, decide_eq_true_eq, List.all_eq_true, List.mem_range, own_one]
  unfold ownB
  simp only [Bool.and_eq_true, decide_eq_true_eq, List.all_eq_true, List.mem_range, Int.toNat_natCast]
  constructor
  · rintro ⟨⟨⟨_, h1⟩, h2⟩, h3⟩
    exact ⟨h1, fun j hj => ⟨by omega, h3 j hj⟩⟩
  · rintro ⟨h1, h2⟩
    refine ⟨⟨⟨by omega, h1⟩, ?_⟩, fun j hj => (h2 j hj).2⟩
    by_cases hk : k = 0
    · omega
    · have := (h2 (k - 1) (by omega)).1
      omega
theorem own_neg (n : Nat) (L : List Gm.Pl) (z : Int) : ownB n L z (-1) = false := by unfold ownB; simp
theorem own_end1 (n : Nat) (L : List Gm.Pl) : ownB n L 512 1 = false := by unfold ownB; simp
theorem own_end0 (n : Nat) (L : List Gm.Pl) : ownB n L 512 0 = true := by unfold ownB; simp

theorem viewOwn_any (x : Nat) (hx : x < 256) (ai ap : Option Addr) (li ci lp cp : Nat) (xs : List Int) (Z : Nat → Gm.Pl) (z : Int) (hz0 : 0 ≤ z) (hz1 : z < 4294967296) (y : Int) (hy0 : 0 ≤ y) (hy1 : y < 256) (w : World) (hli : li ≤ 9223372036854775807) (hlp : lp ≤ 9223372036854775807)
    (hi : RowK .i64 w w.heap.size ai li xs) (hp : Gm.PlRow w w.heap.size ap lp Z) :
    Calls Try.prog 5 #[.int .u8 x, .slice ai li ci, .slice ap lp cp, .int .u32 z, .int .u8 y] w fun e w' => e = .returned (.bool true) ∧ Below w.heap.size w w' := by
  have HMK := Lib.hid (made_any x hx ai ap li ci lp cp w.heap.size xs Z w hli hlp hi hp (Nat.le_refl _))
  generalize 1 + x % 32 = n at HMK
  generalize mkL xs Z (cnt li lp) = L at HMK
  obtain ⟨a, ea, ha⟩ : ∃ a : Nat, z % 1000 = (a : Int) ∧ a < 1000 := ⟨(z % 1000).toNat, by omega, by omega⟩
  obtain ⟨k, ek, hk⟩ : ∃ k : Nat, y % 100 = (k : Int) ∧ k < 100 := ⟨(y % 100).toNat, by omega, by omega⟩
  have ha0 : (a : Int) < 1000 := by omega
  have hk0 : (k : Int) < 100 := by omega
  have HA := Lib.hid ha
  have HK := Lib.hid hk
  clear hi hp ha hk
  go_enter Try.func5, Try.ntmps5
  go_wp2_with fail
  refine HMK.out.mono ?_
  rintro e w1 ⟨b, s, m, g, bt, B, q, gv, cap, rfl, hmk⟩
  have HP1 := Lib.hid hmk.pv
  have HB1 := Lib.hid hmk.blw
  clear hmk HMK
  obtain ⟨t0, ht0⟩ : ∃ t0, decide ((a : Int) ≤ 512) = t0 := ⟨_, rfl⟩
  have HT0 : Hid (ownI n L a 0 = t0) := Lib.hid (by unfold ownI; rw [← ht0]; simp)
  go_wp2
  have HEA := Lib.hid ea
  clear ht0 ea ek
  go_loopw [15, 16] (fun v j wr => ∃ i : Nat, i ≤ k ∧ v = .bool (ownI n L a i) ∧ j = .int .i64 i ∧ Hid (Below w1.heap.size w1 wr)) (fun _ j _ => k - (intOf j).toNat)
  case atStart => exact ⟨0, Nat.zero_le _, by rw [HT0.out], rfl, Lib.hid (Below.refl _ _)⟩
  case round =>
    obtain ⟨i, hik, rfl, rfl, HB⟩ := hrel
    by_cases hlt : i < k
    · have f1 : (i : Int) < (k : Int) := by omega
      have f2 : (i : Int) < 100 := by omega
      have f3 : (a : Int) + (i : Int) < 1100 := by omega
      have H3 := Lib.hid hlt
      have HS := Lib.hid (ownI_succ n L a i)
      obtain ⟨t1, ht1⟩ : ∃ t1, ownI n L a i = t1 := ⟨_, rfl⟩
      rw [ht1] at HS ⊢
      clear hlt hik ht1
      obtain ⟨t2, ht2⟩ : ∃ t2, ownB n L ((a + i : Nat) : Int) 1 = t2 := ⟨_, rfl⟩
      rw [ht2] at HS
      have HO := Lib.hid (own_any (b := b) (s := s) (m := m) ((a + i : Nat) : Int) 1 t2 (by omega) (by have := HA.out; have := HK.out; have := H3.out; omega) ht2 wr (HP1.out.more HB.out))
      rw [show ((a + i : Nat) : Int) = (a : Int) + (i : Int) by omega, ← HEA.out] at HO
      clear ht2
      cases t1
      · have HS2 : Hid (ownI n L a (i + 1) = false) := Lib.hid (by rw [HS.out]; rfl)
        clear HS HO
        go_wp2
        go_roundw
        case rel => exact ⟨i + 1, H3.out, by rw [HS2.out], by go_num, HB⟩
        case measure => have := H3.out; simp [intOf]; omega
      · have HS2 : Hid (ownI n L a (i + 1) = t2) := Lib.hid (by rw [HS.out]; simp)
        clear HS
        go_wp2_with fail
        refine HO.out.mono ?_
        rintro e w3 ⟨rfl, hb⟩
        have HB3 := Lib.hid (HB.out.trans (hb.mono HB.out.size))
        clear hb HB HO
        go_wp2
        go_roundw
        case rel => exact ⟨i + 1, H3.out, by rw [HS2.out], by go_num, HB3⟩
        case measure => have := H3.out; simp [intOf]; omega
    · have f1 : ¬ (i : Int) < (k : Int) := by omega
      obtain rfl : i = k := by omega
      have HO : Hid (∀ W, Below w1.heap.size w1 W → Calls Try.prog 21 #[.pointer (some ⟨b, 0, none⟩), .int .u32 a, .int .i64 i] W fun e w' => e = .returned (.bool (ownI n L a i)) ∧ Below W.heap.size W w') := Lib.hid fun W hW => own_any (b := b) (s := s) (m := m) (a : Int) (i : Int) _ (by omega) (by have := HA.out; omega) (own_all n L a i) W (HP1.out.more hW)
      have HO2 : Hid (∀ W, Below w1.heap.size w1 W → Calls Try.prog 21 #[.pointer (some ⟨b, 0, none⟩), .int .u32 a, .int .i64 (-1)] W fun e w' => e = .returned (.bool false) ∧ Below W.heap.size W w') := Lib.hid fun W hW => own_any (b := b) (s := s) (m := m) (a : Int) (-1) _ (by omega) (by have := HA.out; omega) (own_neg n L a) W (HP1.out.more hW)
      have HO3 : Hid (∀ W, Below w1.heap.size w1 W → Calls Try.prog 21 #[.pointer (some ⟨b, 0, none⟩), .int .u32 512, .int .i64 1] W fun e w' => e = .returned (.bool false) ∧ Below W.heap.size W w') := Lib.hid fun W hW => own_any (b := b) (s := s) (m := m) 512 1 _ (by omega) (by omega) (own_end1 n L) W (HP1.out.more hW)
      have HO4 : Hid (∀ W, Below w1.heap.size w1 W → Calls Try.prog 21 #[.pointer (some ⟨b, 0, none⟩), .int .u32 512, .int .i64 0] W fun e w' => e = .returned (.bool true) ∧ Below W.heap.size W w') := Lib.hid fun W hW => own_any (b := b) (s := s) (m := m) 512 0 _ (by omega) (by omega) (own_end0 n L) W (HP1.out.more hW)
      generalize ownI n L a i = t1 at HO ⊢
      rw [← HEA.out] at HO HO2
      clear hlt hik HP1 HT0
      go_wp2_with fail
      refine (HO.out _ HB.out).mono ?_
      rintro e w3 ⟨rfl, hb⟩
      have HB3 := Lib.hid (HB.out.trans (hb.mono HB.out.size))
      clear hb HB HO
      go_wp2_with fail
      refine (HO2.out _ HB3.out).mono ?_
      rintro e w4 ⟨rfl, hb⟩
      have HB4 := Lib.hid (HB3.out.trans (hb.mono HB3.out.size))
      clear hb HB3 HO2
      go_wp2_with fail
      refine (HO3.out _ HB4.out).mono ?_
      rintro e w5 ⟨rfl, hb⟩
      have HB5 := Lib.hid (HB4.out.trans (hb.mono HB4.out.size))
      clear hb HB4 HO3
      go_wp2_with fail
      refine (HO4.out _ HB5.out).mono ?_
      rintro e w6 ⟨rfl, hb⟩
      have HB6 := Lib.hid (HB5.out.trans (hb.mono HB5.out.size))
      clear hb HB5 HO4
      go_wp2_with fail
      refine (awake_any _).mono ?_
      rintro e w7 ⟨rfl, hb⟩
      have HB7 := Lib.hid (HB6.out.trans (hb.mono HB6.out.size))
      clear hb HB6
      go_wp2
      go_ret
      exact ⟨rfl, HB1.out.trans (HB7.out.mono HB1.out.size)⟩
end Go.Proofs.Ytlgohgjnocoadaa.Vw
