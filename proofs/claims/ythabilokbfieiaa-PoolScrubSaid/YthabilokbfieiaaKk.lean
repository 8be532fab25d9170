/- The walk of hermitagelaw07.PoolScrub. -/
import Derived.Test.YthabilokbfieiaaKj
namespace Go.Proofs.Ythabilokbfieiaa.Lo
open Go.RowKit Ut Hp Fr Oc
set_option linter.unusedVariables false
set_option maxRecDepth 100000
set_option maxHeartbeats 4000000

theorem scrub_any (n v : Int) (a : Option Addr) (len cap : Nat) (zs : List Int) (w : World) (hn0 : 0 ≤ n) (hn1 : n < 256) (hv0 : 0 ≤ v) (hv1 : v < 4294967296) (hlen : len ≤ 9223372036854775807) (hrow : RowK .u8 w w.heap.size a len zs) (hz : AreBytes zs) :
    Calls Try.prog 4 #[.int .u8 n, .slice a len cap, .int .u32 v] w fun e w' => e = .returned (.bool true) ∧ Below w.heap.size w w' := by
  obtain ⟨N, hN, hN1, hN2⟩ : ∃ N : Nat, 1 + n % 32 = (N : Int) ∧ 1 ≤ N ∧ N ≤ 32 := ⟨(1 + n % 32).toNat, by omega, by omega, by omega⟩
  have HR := Lib.hid hrow
  have HZ := Lib.hid hz
  clear hrow hz
  go_enter Try.func4, Try.ntmps4
  go_wp2_with fail
  refine (new_ok N w hN2).mono ?_
  rintro e w1 ⟨rfl, hS, hB⟩
  have HS := Lib.hid hS
  have HNN := Lib.hid (And.intro hN1 hN2)
  have HB := Lib.hid hB
  clear hS hN1 hN2 hB hN
  go_wp2_with fail
  refine (new_any w.heap.size N w1 HS.out.cell1 HNN.out.1 HNN.out.2).mono ?_
  rintro e w2 ⟨rfl, hP, hB2⟩
  have HNE := Lib.hid (Nat.ne_of_lt HS.out.lt)
  have HLT := Lib.hid (Nat.le_of_lt HS.out.lt)
  have HS2 := Lib.hid (HS.out.below hB2 HS.out.lt)
  have HP2 := Lib.hid hP
  have HB2 := Lib.hid (HB.out.trans (hB2.mono HB.out.size))
  have HPB := Lib.hid hP.1.lt
  clear hP hB2 HB HS
  generalize w1.heap.size = pb at HNE HLT HP2 HPB ⊢
  obtain ⟨b, hb⟩ : ∃ b, w.heap.size = b := ⟨_, rfl⟩
  have HBE := Lib.hid hb
  rw [hb] at HNE HLT HP2 HS2 ⊢
  clear hb
  go_wp2
  go_loopw [12] (fun j wr => ∃ (k : Nat) (L : List Int) (s : PS), k ≤ N ∧ j = .int .i64 k ∧ Hid (St wr b N L) ∧ Hid (PB wr pb b N s) ∧ Hid (All s k) ∧ Hid (NoT s) ∧ Hid (Below b w wr)) (fun j _ => N - (intOf j).toNat)
  case atStart => exact ⟨0, _, _, Nat.zero_le _, rfl, HS2, HP2, all_no, fun _ => rfl, by rw [← HBE.out]; exact HB2.out⟩
  case round =>
    clear HS2 HP2 HB2
    obtain ⟨k, L, s, hk, rfl, HS, HP, HA, HT, HB⟩ := hrel
    by_cases hkN : k < N
    · have f1 : decide ((k : Int) < (N : Int)) = true := by simpa using hkN
      have HKN := Lib.hid hkN
      have h32 : (k : Int) < 32 := by have := HNN.out; omega
      by_cases hkl : k < len
      · obtain ⟨x, rfl, hx, hc⟩ := HR.out.2 k hkl
        have hc2 := (HB.out.cell (p := x.add k) (by rw [block_of_add, ← HBE.out]; exact hx)).trans hc
        obtain ⟨z, hze⟩ : ∃ z, z = zs.getD k 0 := ⟨_, rfl⟩
        have hzb := HZ.out.at_ k
        rw [← hze] at hc2 hzb
        clear hze hc hx
        have f2 : decide ((k : Int) < (len : Int)) = true := by simpa using hkl
        obtain ⟨q, hq, hq4⟩ : ∃ q : Nat, z % 4 = (q : Int) ∧ q < 4 := ⟨(z % 4).toNat, by omega, by omega⟩
        have HQ := Lib.hid hq4
        have hz0 := hzb.1
        have hz1 := hzb.2
        clear hzb
        go_wp2_with fail
        refine (own_ok pb b N k q L s wr HS.out HP.out HNE.out HKN.out (by have := HQ.out; omega) (all_next HA.out)).mono ?_
        rintro e w3 ⟨rfl, hS3, hP3, hT3⟩
        have HS3 := Lib.hid hS3
        have HP3 := Lib.hid hP3
        have HA3 := Lib.hid (all_own HA.out HQ.out)
        have HT3 := Lib.hid (no_own (k := k) (q := q) HT.out)
        have HB3 := Lib.hid (hT3.below HB.out (by rw [← HBE.out]; exact HB.out.size) (Nat.le_refl _) HLT.out)
        clear hS3 hP3 hT3 hc2 hq
        go_wp2
        go_roundw
        case rel => exact ⟨k + 1, _, _, HKN.out, by go_num, HS3, HP3, HA3, HT3, HB3⟩
        case measure => have := HKN.out; simp [intOf]; omega
      · have f2 : decide ((k : Int) < (len : Int)) = false := by simpa using hkl
        go_wp2_with fail
        refine (own_ok pb b N k 0 L s wr HS.out HP.out HNE.out HKN.out (by omega) (all_next HA.out)).mono ?_
        rintro e w3 ⟨rfl, hS3, hP3, hT3⟩
        have HS3 := Lib.hid hS3
        have HP3 := Lib.hid hP3
        have HA3 := Lib.hid (all_own HA.out (show 0 < 4 by omega))
        have HT3 := Lib.hid (no_own (k := k) (q := 0) HT.out)
        have HB3 := Lib.hid (hT3.below HB.out (by rw [← HBE.out]; exact HB.out.size) (Nat.le_refl _) HLT.out)
        clear hS3 hP3 hT3
        go_wp2
        go_roundw
        case rel => exact ⟨k + 1, _, _, HKN.out, by go_num, HS3, HP3, HA3, HT3, HB3⟩
        case measure => have := HKN.out; simp [intOf]; omega
    · obtain rfl : N = k := by omega
      have f1 : decide ((N : Int) < (N : Int)) = false := by simp
      clear HR HZ hkN hk
      go_wp2
      obtain ⟨wo, hwo⟩ : ∃ wo : World, wo = wr := ⟨_, rfl⟩
      rw [← hwo] at HS HP HB ⊢
      clear hwo wr f1
      go_loopw [14] (fun j wr => ∃ (t : Nat) (L : List Int) (s : PS), t ≤ 2 ∧ j = .int .i64 t ∧ Hid (St wr b N L) ∧ Hid (PB wr pb b N s) ∧ Hid (All s N) ∧ Hid (NoT s) ∧ Hid (Below b w wr)) (fun j _ => 2 - (intOf j).toNat)
      case atStart => exact ⟨0, L, s, by omega, rfl, HS, HP, HA, HT, HB⟩
      case round =>
        clear HS HP HA HT HB
        obtain ⟨t, L, s, ht, rfl, HS, HP, HA, HT, HB⟩ := hrel
        by_cases ht2 : t < 2
        · have f1 : decide ((t : Int) < 2) = true := by simp; omega
          have HT2 := Lib.hid ht2
          have HTU := Lib.hid (turn_start HA.out HT.out)
          have HO : Hid (OwnI .i64 wr (pb + 1) 3 (.slice none 0 0) ([] : List Int).length []) := OwnI.nil _ _ _ _
          clear HA HT ht ht2
          go_wp2
          obtain ⟨wt, hwt⟩ : ∃ wt : World, wt = wr := ⟨_, rfl⟩
          rw [← hwt] at HS HP HB HO ⊢
          clear hwt wr f1
          go_loopw [15, 16] (fun lv j wr => ∃ (p : Nat) (L : List Int) (s : PS) (xs : List Int), p ≤ 4 ∧ j = .int .i64 p ∧ Hid (St wr b N L) ∧ Hid (PB wr pb b N s) ∧ Hid (Turn s N p xs) ∧ Hid (OwnI .i64 wr (pb + 1) 3 lv xs.length xs) ∧ Hid (Below b w wr)) (fun _ j _ => 4 - (intOf j).toNat)
          case atStart => exact ⟨0, L, s, [], by omega, rfl, HS, HP, HTU, HO, HB⟩
          case round =>
            clear HS HP HTU HO HB
            obtain ⟨p, L, s, xs, hp, rfl, HS, HP, HTU, HO, HB⟩ := hrel
            by_cases hp4 : p < 4
            · have f1 : decide ((p : Int) < 4) = true := by simp; omega
              have HP4 := Lib.hid hp4
              clear hp
              go_wp2_with fail
              refine (left_of pb b N p s wr HP.out (by omega)).mono ?_
              rintro e w3 ⟨rfl, rfl⟩
              have HMID := Lib.hid (mid_start HTU.out)
              have HCL := Lib.hid (Nat.le_trans (count_le (hit s p) N) HNN.out.2)
              generalize countN (hit s p) N = m at HMID HCL ⊢
              clear HTU f1 hp4
              go_wp2
              obtain ⟨wm, hwm⟩ : ∃ wm : World, wm = wr := ⟨_, rfl⟩
              rw [← hwm] at HS HP HB HO ⊢
              clear hwm wr
              go_loopw [15, 18] (fun lv j wr => ∃ (i : Nat) (L : List Int) (s : PS) (xs : List Int), i ≤ m ∧ j = .int .i64 i ∧ Hid (St wr b N L) ∧ Hid (PB wr pb b N s) ∧ Hid (Mid s N p (m - i) xs) ∧ Hid (OwnI .i64 wr (pb + 1) 3 lv xs.length xs) ∧ Hid (Below b w wr)) (fun _ j _ => m - (intOf j).toNat)
              case atStart => exact ⟨0, L, s, xs, Nat.zero_le _, rfl, HS, HP, HMID, HO, HB⟩
              case round =>
                clear HS HP HMID HO HB
                obtain ⟨i, L, s, xs, hi, rfl, HS, HP, HM, HO, HB⟩ := hrel
                by_cases him : i < m
                · have f1 : decide ((i : Int) < (m : Int)) = true := by simpa using him
                  have f2 : decide ((i : Int) < 40) = true := by have := HCL.out; simp; omega
                  have HIM := Lib.hid him
                  obtain ⟨r, hr⟩ : ∃ r, m - i = r + 1 := ⟨m - i - 1, by omega⟩
                  have HRR := Lib.hid (show m - (i + 1) = r by omega)
                  rw [hr] at HM
                  obtain ⟨f, hf, hh, hle⟩ := count_some (p := hit s p) (n := N) (by rw [HM.out.2.2.2.1]; omega)
                  have HF := Lib.hid hf
                  have HH := Lib.hid hh
                  have HLE := Lib.hid hle
                  have hhs : (s.ow f = true ∧ s.tk f = false) ∧ s.wh f = p := by simpa [hit] using hh
                  have HHS := Lib.hid hhs
                  clear hr hf hh hle hhs hi him
                  go_wp2_with fail
                  refine (take_some pb b N f p L s wr HS.out HP.out HNE.out HF.out (by have := HP4.out; omega) HH.out HLE.out).mono ?_
                  rintro e w3 ⟨rfl, hS3, hP3, hT3⟩
                  have HS3 := Lib.hid hS3
                  have HP3 := Lib.hid hP3
                  have HO3 := Lib.hid (own_two HO.out hT3 (by have := HLT.out; omega) (Nat.lt_succ_self pb))
                  have HB3 := Lib.hid (hT3.below HB.out (by rw [← HBE.out]; exact HB.out.size) (Nat.le_refl _) HLT.out)
                  have HL2 := Lib.hid HS.out.2.1
                  clear hS3 hP3 hT3 HS HP HO HB
                  go_wp2_with fail
                  refine (who_of pb b N f (tkS s f true) w3 HS3.out.cell1 HP3.out HF.out HHS.out.1.1).mono ?_
                  rintro e w4 ⟨rfl, rfl⟩
                  rw [show (tkS s f true).wh f = p from HHS.out.2]
                  go_wp2_with fail
                  refine (clean_in b N f _ w3 HS3.out HF.out).mono ?_
                  rintro e w4 ⟨rfl, rfl⟩
                  rw [frameL_lay HL2.out (by have := HF.out; have := HNN.out; omega) zer_len, beq_self_eq_true]
                  go_wp2_with fail
                  refine (taken_of pb b N f (tkS s f true) w3 HS3.out.cell1 HP3.out HF.out).mono ?_
                  rintro e w4 ⟨rfl, rfl⟩
                  rw [show (tkS s f true).tk f = true by simp [tkS]]
                  go_wp2_with fail
                  rw [show (4 : Int) * ((f : Int) % 16) = ((4 * (f % 16) : Nat) : Int) by omega]
                  refine (save_in b N f (4 * (f % 16)) 4 v _ w3 HS3.out HF.out (by decide) (by omega) hv0 hv1).mono ?_
                  rintro e w5 ⟨rfl, hS5, hg5⟩
                  have hT5 : Two w3 w5 b pb := Two.of_grown hg5
                  have HS5 := Lib.hid hS5
                  have HP5 := Lib.hid (HP3.out.save hg5 HNE.out)
                  have HO5 := Lib.hid (own_two HO3.out hT5 (by have := HLT.out; omega) (Nat.lt_succ_self pb))
                  have HB5 := Lib.hid (hT5.below HB3.out (by rw [← HBE.out]; exact HB3.out.size) (Nat.le_refl _) HLT.out)
                  have HM5 := Lib.hid (mid_step HM.out HF.out HH.out)
                  have HPZ : Hid (pb + 1 ≤ w5.heap.size) := HP5.out.1.lt
                  have HXL : Hid (xs.length ≤ 1000) := by
                    have e1 := HM.out.2.2.2.2.length_eq
                    have e2 := count_le s.tk N
                    have := HNN.out
                    rw [length_those] at e1
                    show xs.length ≤ 1000
                    omega
                  clear hS5 hg5 hT5 HS3 HP3 HO3 HB3 HL2
                  obtain ⟨lv', w6, hrun, ho6, hb6⟩ := own_more (f : Int) HO5.out HPZ.out HXL.out
                  have HRUN := Lib.hid hrun
                  have HS6 : Hid (St w6 b N _) := HS5.out.of_block (hb6.block b (by have := HLT.out; omega))
                  have HP6 := Lib.hid (HP5.out.under hb6)
                  have HO6 := Lib.hid ho6
                  have HB6 := Lib.hid (HB5.out.trans (hb6.mono (by have := HLT.out; omega)))
                  clear hrun ho6 hb6 HS5 HP5 HO5 HB5 HM HH HHS HLE
                  have hb40 : (i : Int) < 40 := by have := HIM.out; have := HCL.out; omega
                  go_wp2_with (at_builtin; go_loud (refine wpList_append_run rfl (.tmp 128) (.tmp 130) 23 rfl _ _ rfl rfl _ w6 HRUN.out ?_))
                  go_wp2
                  go_roundw
                  case rel => exact ⟨i + 1, _, _, _, HIM.out, by go_num, HS6, HP6, by rw [HRR.out]; exact HM5, HO6, HB6⟩
                  case measure => have := HIM.out; simp [intOf]; omega
                · obtain rfl : i = m := by omega
                  have f1 : decide ((i : Int) < (i : Int)) = false := by simp
                  rw [Nat.sub_self] at HM
                  have HME := Lib.hid (mid_end HM.out)
                  have hp4 := HP4.out
                  clear HM
                  go_wp2_with fail
                  refine (take_none pb b N p s wr HP.out (by have := HP4.out; omega) HME.out.1).mono ?_
                  rintro e w3 ⟨rfl, rfl⟩
                  go_wp2
                  go_roundw
                  case rel => exact ⟨p + 1, L, s, xs, by have := HP4.out; omega, by go_num, HS, HP, HME.out.2, HO, HB⟩
                  case measure => have := HP4.out; simp [intOf]; omega
            · obtain rfl : p = 4 := by omega
              have f1 : decide (((4 : Nat) : Int) < 4) = false := by simp
              obtain ⟨hx1, hx2⟩ := turn_end HTU.out
              have HBK : Hid (Back' s N xs) := ⟨HTU.out.1, fun f hf => (HTU.out.1.1 f).1 (HP.out.2.2 f hf), hx2⟩
              have HXL := Lib.hid hx1
              obtain ⟨g, cap2, hform, hg1, hg2, _⟩ := HO.out.form (by rw [hx1]; exact HNN.out.1)
              subst hform
              rw [hx1] at HO ⊢
              clear hx1 hx2 hg1 hg2 HTU hp hp4
              have f2 : ((N : Int) == (N : Int)) = true := by simp
              go_wp2
              obtain ⟨wb, hwb⟩ : ∃ wb : World, wb = wr := ⟨_, rfl⟩
              rw [← hwb] at HS HP HB HO ⊢
              clear hwb wr f1 f2
              go_loopw [25] (fun j wr => ∃ (i : Nat) (L : List Int) (s : PS), i ≤ N ∧ j = .int .i64 i ∧ Hid (St wr b N L) ∧ Hid (PB wr pb b N s) ∧ Hid (Back' s N (xs.drop i)) ∧ Hid (OwnI .i64 wr (pb + 1) 3 (.slice (some ⟨g, 0, none⟩) N cap2) N xs) ∧ Hid (Below b w wr)) (fun j _ => N - (intOf j).toNat)
              case atStart => exact ⟨0, L, s, Nat.zero_le _, rfl, HS, HP, by rw [List.drop_zero]; exact HBK, HO, HB⟩
              case round =>
                clear HS HP HBK HO HB
                obtain ⟨i, L, s, hi, rfl, HS, HP, HK, HO, HB⟩ := hrel
                by_cases hiN : i < N
                · have f1 : decide ((i : Int) < (N : Int)) = true := by simpa using hiN
                  have hi0 : (0 : Int) ≤ (i : Int) ∧ (i : Int) < (N : Int) := by omega
                  have HIN := Lib.hid hiN
                  have hdrop : xs.drop i = xs.getD i 0 :: xs.drop (i + 1) := by
                    rw [List.drop_eq_getElem_cons (by have := HXL.out; omega)]
                    simp [List.getD, show i < xs.length by have := HXL.out; omega]
                  rw [hdrop] at HK
                  obtain ⟨f, hx, hf, ht3, hK⟩ := back_step HK.out
                  have c1 := HO.out.cellAt i hiN
                  rw [hx] at c1
                  have HX := Lib.hid hx
                  have HF := Lib.hid hf
                  have HTK := Lib.hid ht3
                  have HK2 := Lib.hid hK
                  clear hdrop hx hf ht3 hK HK hi hiN
                  go_wp2_with fail
                  refine (back_ok pb b N f L s wr HS.out HP.out HNE.out HF.out HTK.out).mono ?_
                  rintro e w3 ⟨rfl, hS3, hP3, hT3⟩
                  have HS3 := Lib.hid hS3
                  have HP3 := Lib.hid hP3
                  have HO3 := Lib.hid (own_two HO.out hT3 (by have := HLT.out; omega) (Nat.lt_succ_self pb))
                  have HB3 := Lib.hid (hT3.below HB.out (by rw [← HBE.out]; exact HB.out.size) (Nat.le_refl _) HLT.out)
                  have HL2 := Lib.hid HS.out.2.1
                  have c3 := HO3.out.cellAt i HIN.out
                  rw [HX.out] at c3
                  clear hS3 hP3 hT3 HS HP HO HB c1
                  go_wp2_with fail
                  refine (back_none pb b N f (tkS s f false) w3 HS3.out.cell1 HP3.out HF.out (by simp [tkS])).mono ?_
                  rintro e w4 ⟨rfl, rfl⟩
                  go_wp2_with fail
                  refine (clean_in b N f _ w3 HS3.out HF.out).mono ?_
                  rintro e w4 ⟨rfl, rfl⟩
                  rw [frameL_lay HL2.out (by have := HF.out; have := HNN.out; omega) zer_len, beq_self_eq_true]
                  have hN32 : (N : Int) ≤ 32 := by have := HNN.out; omega
                  go_wp2
                  go_roundw
                  case rel =>
                    (repeat apply Exists.intro)
                    exact ⟨⟨i + 1, _, _, HIN.out, by go_num, HS3, HP3, HK2, HO3, HB3⟩, rfl⟩
                  case measure => have := HIN.out; simp [intOf]; omega
                · obtain rfl : N = i := by omega
                  have f1 : decide ((N : Int) < (N : Int)) = false := by simp
                  rw [List.drop_of_length_le (by rw [HXL.out]; exact Nat.le_refl _)] at HK
                  have HNT := Lib.hid (back_end HK.out)
                  have HAL := Lib.hid HK.out.1
                  have ht4 := HT2.out
                  go_wp2
                  go_roundw
                  case rel => exact ⟨t + 1, L, s, HT2.out, by go_num, HS, HP, HAL, HNT, HB⟩
                  case measure => have := HT2.out; simp [intOf]; omega
        · obtain rfl : t = 2 := by omega
          have f1 : decide (((2 : Nat) : Int) < 2) = false := by simp
          go_wp2_with fail
          refine (awake_any wr).mono ?_
          rintro e w3 ⟨rfl, hb3⟩
          have HB3 := Lib.hid (HB.out.trans (hb3.mono (by rw [← HBE.out]; exact HB.out.size)))
          clear hb3
          go_wp2
          go_ret
          exact ⟨rfl, by rw [HBE.out]; exact HB3.out⟩
end Go.Proofs.Ythabilokbfieiaa.Lo
