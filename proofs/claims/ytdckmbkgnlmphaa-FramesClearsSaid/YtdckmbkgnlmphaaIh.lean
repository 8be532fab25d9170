/- The walk of hermitagelaw06.FramesOne. -/
import Derived.Test.YtdckmbkgnlmphaaIg
import Derived.Test.YtdckmbkgnlmphaaRa
namespace Go.Proofs.Ytdckmbkgnlmphaa.Fr
open Go.RowKit Ut Oc
set_option linter.unusedVariables false

/-- a frame's bytes turned, said of all bytes -/
theorem layF_put (L : List Int) (f o m : Nat) (v : Int) (hL : L.length = 2048) (hf : f < 32) (hi : o + m ≤ 64) : layF L f (putZ (frameL L f) o m v) = putZ L (64 * f + o) m v := by
  have hp : (putZ (frameL L f) o m v).length = 64 := by rw [length_putZ _ _ _ _ (by rw [length_frameL hL hf]; exact hi), length_frameL hL hf]
  refine ext_getD (by rw [length_layF hL hf hp, length_putZ _ _ _ _ (by omega), hL]) fun j hj => ?_
  rw [length_layF hL hf hp] at hj
  rw [getD_putZ _ _ _ _ (by omega)]
  have key : ∀ (xs : List Int), xs.length = 64 → (layF L f xs).getD j 0 = if 64 * f ≤ j ∧ j < 64 * f + 64 then xs.getD (j - 64 * f) 0 else L.getD j 0 := by
    intro xs hx
    unfold layF splice
    simp only [List.getD, List.getElem?_append, List.getElem?_take, List.getElem?_drop, List.length_take]
    rw [Nat.min_eq_left (by omega)]
    by_cases h1 : j < 64 * f
    · rw [if_pos h1, if_pos h1, if_neg (by omega)]
    · rw [if_neg h1]
      by_cases h2 : j < 64 * f + 64
      · rw [if_pos (by omega), if_pos ⟨by omega, h2⟩]
      · rw [if_neg (by omega), if_neg (by omega), hx, show 64 * f + 64 + (j - 64 * f - 64) = j by omega]
  rw [key _ hp, getD_putZ _ _ _ _ (by rw [length_frameL hL hf]; exact hi)]
  by_cases h1 : 64 * f ≤ j ∧ j < 64 * f + 64
  · rw [if_pos h1]
    by_cases h2 : o ≤ j - 64 * f ∧ j - 64 * f < o + m
    · rw [if_pos h2, if_pos ⟨by omega, by omega⟩, show j - 64 * f - o = j - (64 * f + o) by omega]
    · rw [if_neg h2, if_neg (by omega)]
      unfold frameL
      simp only [List.getD, List.getElem?_take, List.getElem?_drop]
      rw [if_pos (by omega), show 64 * f + (j - 64 * f) = j by omega]
  · rw [if_neg h1, if_neg (by omega)]

/-- what comes ahead of the place of a number that was laid, and behind it, is as it was -/
theorem put_ahead (L : List Int) (q p m : Nat) (v : Int) (hq : p + m ≤ q) (hL : q ≤ L.length) : (strOfNums ((putZ L p m v).take q)).extract 0 p = (strOfNums (L.take q)).extract 0 p := by
  have e : ∀ zs : List Int, (strOfNums zs).extract 0 p = strOfNums (zs.take p) := fun zs => by
    unfold strOfNums
    rw [ByteArray.extract_mk]
    congr 1
    simp [List.map_take]
  rw [e, e, List.take_take, List.take_take, Nat.min_eq_left (by omega)]
  congr 1
  unfold putZ
  rw [List.take_append_of_le_length (by simp; omega), List.take_take, Nat.min_self]
theorem put_behind (L : List Int) (q p m s : Nat) (v : Int) (hq : p + m ≤ q) (hL : q ≤ L.length) (hs : s = q) : (strOfNums ((putZ L p m v).take q)).extract (p + m) s = (strOfNums (L.take q)).extract (p + m) s := by
  have e : ∀ zs : List Int, (strOfNums zs).extract (p + m) s = strOfNums ((zs.take s).drop (p + m)) := fun zs => by
    unfold strOfNums
    rw [ByteArray.extract_mk]
    congr 1
    simp [List.map_take, List.map_drop, List.drop_take]
  subst hs
  rw [e, e, List.take_take, List.take_take, Nat.min_self]
  congr 1
  rw [List.drop_take, List.drop_take]
  congr 1
  unfold putZ
  rw [← List.append_assoc, List.drop_append_of_le_length (by simp [length_bytesN]; omega), List.drop_of_length_le (by simp [length_bytesN]; omega), List.nil_append]

set_option maxHeartbeats 4000000 in
set_option maxRecDepth 100000 in
theorem one_true (n f off v : Int) (w : World) (hn0 : 0 ≤ n) (hn1 : n < 256) (hv0 : 0 ≤ v) (hv1 : v < 4294967296) (hf0 : -9223372036854775808 ≤ f) (hf1 : f < 9223372036854775808) (ho0 : -9223372036854775808 ≤ off) (ho1 : off < 9223372036854775808) :
    Calls Try.prog 4 #[.int .u8 n, .int .i64 f, .int .i64 off, .bool true, .int .u32 v] w fun e w' => e = .returned (.bool true) ∧ Below w.heap.size w w' := by
  obtain ⟨N, hN, hN1, hN2⟩ : ∃ N : Nat, 1 + n % 32 = (N : Int) ∧ 1 ≤ N ∧ N ≤ 32 := ⟨(1 + n % 32).toNat, by omega, by omega, by omega⟩
  go_enter Try.func4, Try.ntmps4
  go_wp2_with fail
  refine (new_ok N w hN2).mono ?_
  rintro e w1 ⟨rfl, hS, hB⟩
  have HS := Lib.hid hS
  have HNN := Lib.hid (And.intro hN1 hN2)
  have HB := Lib.hid hB
  clear hS hN hN1 hN2 hB hn0 hn1
  go_wp2_with fail
  go_loopw [13] (fun j wr => ∃ (k : Nat) (L : List Int), k ≤ N ∧ j = .int .i64 k ∧ Hid (St wr w.heap.size N L) ∧ Hid (Below w.heap.size w wr)) (fun j _ => N - (intOf j).toNat)
  case atStart => exact ⟨0, _, Nat.zero_le _, rfl, HS, HB⟩
  case round =>
    clear HS HB
    obtain ⟨k, L, hk, rfl, HS, HB⟩ := hrel
    by_cases hlt : k < N
    · have f1 : decide ((k : Int) < (N : Int)) = true := by simpa using hlt
      have f2 : decide ((k : Int) < 64) = true := by have := HNN.out; simp; omega
      have hk0 : (k : Int) < 32 := by have := HNN.out; omega
      go_wp2_with (go_at_call 20; refine (len_of w.heap.size N _ HS.out.cell1).mono ?_; rintro e w1 ⟨rfl, rfl⟩)
      have e1 : (4 * ((k : Int) % 16)) = ((4 * (k % 16) : Nat) : Int) := by omega
      rw [e1]
      refine (save_in w.heap.size N k (4 * (k % 16)) 4 (7 * (k : Int) + 1) L wr HS.out hlt (by decide) (by omega) (by omega) (by omega)).mono ?_
      rintro e w2 ⟨rfl, hS2, hg⟩
      have HS2 := Lib.hid hS2
      have HB2 := Lib.hid (below_grown HB.out hg HB.out.size (Nat.le_refl _))
      clear hS2 hg e1
      go_wp2
      go_roundw
      case rel => exact ⟨k + 1, _, by omega, by go_num, HS2, HB2⟩
      case measure => simp [intOf]; omega
    · obtain rfl : k = N := by omega
      have f1 : decide ((k : Int) < (k : Int)) = false := by simp
      go_wp2_with (go_at_call 20; refine (len_of w.heap.size k _ HS.out.cell1).mono ?_; rintro e w1 ⟨rfl, rfl⟩)
      refine (all_any w.heap.size k L wr HS.out).mono ?_
      rintro e w1 ⟨rfl, hb1⟩
      have HS1 := Lib.hid (HS.out.below hb1 HS.out.lt)
      have HB1 := Lib.hid (HB.out.trans (hb1.mono HB.out.size))
      clear HS HB hb1
      generalize hS0 : strOfNums (L.take (64 * k)) = S0
      have HS0 := Lib.hid hS0
      clear hS0
      go_wp2_with fail
      rcases save_cases w.heap.size k f off 1 v L w1 HS1.out with hno | ⟨F, O, M, rfl, rfl, hM, hF, hW, hO⟩
      · refine hno.mono ?_
        rintro e w2 ⟨rfl, rfl⟩
        go_wp2_with fail
        refine (all_any w.heap.size k L w1 HS1.out).mono ?_
        rintro e w2 ⟨rfl, hb2⟩
        rw [HS0.out]
        have HB2 := Lib.hid (HB1.out.trans (hb2.mono HB1.out.size))
        clear hb2 HB1
        go_wp2_with fail
        refine (awake_any w2).mono ?_
        rintro e w3 ⟨rfl, hb3⟩
        have HB3 := Lib.hid (HB2.out.trans (hb3.mono HB2.out.size))
        clear hb3 HB2
        go_wp2
        go_ret
        exact ⟨rfl, HB3.out⟩
      · obtain rfl : M = 1 := by omega
        clear hM
        refine (save_in w.heap.size k F O 1 v L w1 HS1.out hF hW hO hv0 hv1).mono ?_
        rintro e w2 ⟨rfl, hS2, hg⟩
        have hk32 := HS1.out.2.2.2
        have hLL := HS1.out.2.1
        rw [layF_put L F O 1 v hLL (by omega) hO] at hS2
        have HS2 := Lib.hid hS2
        have HB2 := Lib.hid (below_grown HB1.out hg HB1.out.size (Nat.le_refl _))
        have HLO := Lib.hid (load_in w.heap.size k F O 1 _ w2 hS2 hF hW hO)
        have hnum : num (((frameL (putZ L (64 * F + O) 1 v) F).drop O).take 1) = num (bytesN v 1) := by
          rw [← layF_put L F O 1 v hLL (by omega) hO, frameL_lay hLL (by omega) (by rw [length_putZ _ _ _ _ (by rw [length_frameL hLL (by omega)]; exact hO), length_frameL hLL (by omega)]), putZ_part _ _ _ _ (by rw [length_frameL hLL (by omega)]; exact hO)]
        rw [hnum, num_bytes1 v] at HLO
        have hsz : 64 * k ≤ L.length := by omega
        have hlen : 64 * F + O + 1 ≤ 64 * k := by omega
        have hL2 := HS2.out.2.1
        have HSZ0 := Lib.hid (show S0.size = 64 * k by rw [← HS0.out, strOfNums_size, List.length_take]; omega)
        have HSZ1 := Lib.hid (show (strOfNums ((putZ L (64 * F + O) 1 v).take (64 * k))).size = 64 * k by rw [strOfNums_size, List.length_take]; omega)
        have HA := Lib.hid (put_ahead L (64 * k) (64 * F + O) 1 v hlen hsz)
        have HBE := Lib.hid (put_behind L (64 * k) (64 * F + O) 1 (64 * k) v hlen hsz rfl)
        rw [HS0.out] at HA HBE
        clear hS2 hg HS1 HB1 hnum HS0
        generalize putZ L (64 * F + O) 1 v = L2 at HS2 HSZ1 HA HBE HLO
        go_wp2_with fail
        refine HLO.out.mono ?_
        rintro e w3 ⟨rfl, rfl⟩
        clear HLO
        go_wp2_with fail
        refine (all_any w.heap.size k L2 w2 HS2.out).mono ?_
        rintro e w3 ⟨rfl, hb3⟩
        have HB3 := Lib.hid (HB2.out.trans (hb3.mono HB2.out.size))
        clear hb3 HB2
        generalize strOfNums (L2.take (64 * k)) = S1 at HSZ1 HA HBE
        have hz0 := HSZ0.out
        have hz1 := HSZ1.out
        have hqb : 64 * k ≤ 2048 := by omega
        generalize 64 * k = q at hlen hz0 hz1 HBE hqb
        go_upto_region 19 with fail
        rw [show 64 * (F : Int) + (O : Int) = ((64 * F + O : Nat) : Int) by omega]
        generalize 64 * F + O = p at hlen HA HBE ⊢
        have a1 : decide ((0 : Int) ≤ (p : Int)) = true := by simp
        have a2 : decide ((p : Int) + 1 ≤ (q : Int)) = true := by simp; omega
        have a3 : (0 : Int) ≤ (p : Int) ∧ (p : Int) ≤ (q : Int) := by omega
        have a4 : (0 : Int) ≤ (p : Int) + 1 ∧ (p : Int) + 1 ≤ (q : Int) := by omega
        have a5 : ((p : Int) + 1).toNat = p + 1 := by omega
        have hwk : IntKind.i64.wrap ((p : Int) + 1) = (p : Int) + 1 := IntWalk.i64_in _ (by omega)
        have hha := HA.out
        have hhb := HBE.out
        apply wp_region_auto [105, 106, 107, 108, 109, 110, 111, 112, 113, 114, 115, 116, 117, 118, 119, 120, 121, 122, 123, 124, 125, 126, 127, 128, 129, 130, 131, 132, 133, 134, 135, 136, 137, 138, 139, 140, 141, 142, 143, 144, 145, 146] [_, _, _, _, _, _, _, _, _, _, _, _, _, _, _, _, _, _, _, _, _, _, _, _, _, _, _, _, _, _, _, _, _, _, _, _, _, _, _, _, _, _] (fun W' => Below w3.heap.size w3 W')
        case hm => kernel_rfl
        case hT => intro y; simp only [setAll, List.setIfInBounds_toArray, List.set_cons_succ, List.set_cons_zero]; exact rfl
        case hok => kernel_rfl
        case hn => decide
        case hw => exact (Below.refl _ _).drew
        case hs =>
          refine auto_op 105 [] (by kernel_rfl) (fun y w' HW hd K hK => ?_) ?_
          · go_simp
            refine hK _ _ ?_ ?_ HW
            · simp [upd]
            · exact rfl
          refine auto_op 106 [0] (by kernel_rfl) (fun y w' HW hd K hK => ?_) ?_
          · have e0 := hd_nth (hd 0 (by simp)) rfl
            go_simp
            refine hK _ _ ?_ ?_ HW
            · simp [upd, e0]
            · exact rfl
          refine auto_op 107 [] (by kernel_rfl) (fun y w' HW hd K hK => ?_) ?_
          · go_simp
            refine hK _ _ ?_ ?_ HW
            · simp [upd]
            · exact rfl
          refine auto_op 108 [2] (by kernel_rfl) (fun y w' HW hd K hK => ?_) ?_
          · have e2 := hd_nth (hd 2 (by simp)) rfl
            go_simp
            refine hK _ _ ?_ ?_ HW
            · simp [upd, e2]
            · exact rfl
          refine auto_op 109 [1, 3] (by kernel_rfl) (fun y w' HW hd K hK => ?_) ?_
          · have e1 := hd_nth (hd 1 (by simp)) rfl
            have e3 := hd_nth (hd 3 (by simp)) rfl
            go_simp
            refine hK _ _ ?_ ?_ HW
            · simp [upd, e1, e3]
            · exact rfl
          refine auto_op 110 [4] (by kernel_rfl) (fun y w' HW hd K hK => ?_) ?_
          · have e4 := hd_nth (hd 4 (by simp)) rfl
            go_simp
            refine hK _ _ ?_ ?_ HW
            · simp [upd, e4]
            · exact rfl
          refine auto_op 111 [5] (by kernel_rfl) (fun y w' HW hd K hK => ?_) ?_
          · have e5 := hd_nth (hd 5 (by simp)) rfl
            go_simp
            refine hK _ _ ?_ ?_ HW
            · simp [upd, e5]
            · exact rfl
          refine auto_op 112 [6, 5] (by kernel_rfl) (fun y w' HW hd K hK => ?_) ?_
          · have e5 := hd_nth (hd 5 (by simp)) rfl
            have e6 := hd_nth (hd 6 (by simp)) rfl
            go_simp
            refine hK _ _ ?_ ?_ HW
            · simp [upd, e5, e6]
            · exact rfl
          refine auto_op 113 [5, 7] (by kernel_rfl) (fun y w' HW hd K hK => ?_) ?_
          · have e5 := hd_nth (hd 5 (by simp)) rfl
            have e7 := hd_nth (hd 7 (by simp)) rfl
            go_simp
            refine hK _ _ ?_ ?_ HW
            · simp [upd, e5, e7]
            · exact rfl
          refine auto_op 114 [8, 5] (by kernel_rfl) (fun y w' HW hd K hK => ?_) ?_
          · have e5 := hd_nth (hd 5 (by simp)) rfl
            have e8 := hd_nth (hd 8 (by simp)) rfl
            go_simp
            refine hK _ _ ?_ ?_ HW
            · simp [upd, e5, e8]
            · exact rfl
          refine auto_op 115 [9] (by kernel_rfl) (fun y w' HW hd K hK => ?_) ?_
          · have e9 := hd_nth (hd 9 (by simp)) rfl
            go_simp
            refine hK _ _ ?_ ?_ HW
            · simp [upd, e9]
            · exact rfl
          refine auto_op 116 [9] (by kernel_rfl) (fun y w' HW hd K hK => ?_) ?_
          · have e9 := hd_nth (hd 9 (by simp)) rfl
            go_simp
            refine hK _ _ ?_ ?_ HW
            · simp [upd, e9]
            · exact rfl
          refine auto_op 117 [10, 11, 9] (by kernel_rfl) (fun y w' HW hd K hK => ?_) ?_
          · have e9 := hd_nth (hd 9 (by simp)) rfl
            have e10 := hd_nth (hd 10 (by simp)) rfl
            have e11 := hd_nth (hd 11 (by simp)) rfl
            go_simp
            refine hK _ _ ?_ ?_ HW
            · simp [upd, e9, e10, e11]
            · exact rfl
          refine auto_op 118 [9] (by kernel_rfl) (fun y w' HW hd K hK => ?_) ?_
          · have e9 := hd_nth (hd 9 (by simp)) rfl
            go_simp
            refine hK _ _ ?_ ?_ HW
            · simp [upd, e9]
            · exact rfl
          refine auto_op 119 [13, 9] (by kernel_rfl) (fun y w' HW hd K hK => ?_) ?_
          · have e9 := hd_nth (hd 9 (by simp)) rfl
            have e13 := hd_nth (hd 13 (by simp)) rfl
            go_simp
            refine hK _ _ ?_ ?_ HW
            · simp [upd, e9, e13]
            · exact rfl
          refine auto_op 120 [12, 14, 9] (by kernel_rfl) (fun y w' HW hd K hK => ?_) ?_
          · have e9 := hd_nth (hd 9 (by simp)) rfl
            have e12 := hd_nth (hd 12 (by simp)) rfl
            have e14 := hd_nth (hd 14 (by simp)) rfl
            go_simp
            refine hK _ _ ?_ ?_ HW
            · simp [upd, e9, e12, e14]
            · exact rfl
          refine auto_op 121 [9, 15] (by kernel_rfl) (fun y w' HW hd K hK => ?_) ?_
          · have e9 := hd_nth (hd 9 (by simp)) rfl
            have e15 := hd_nth (hd 15 (by simp)) rfl
            go_simp
            refine hK _ _ ?_ ?_ HW
            · simp [upd, e9, e15]
            · exact rfl
          refine auto_op 122 [16, 9] (by kernel_rfl) (fun y w' HW hd K hK => ?_) ?_
          · have e9 := hd_nth (hd 9 (by simp)) rfl
            have e16 := hd_nth (hd 16 (by simp)) rfl
            go_simp
            refine hK _ _ ?_ ?_ HW
            · simp [upd, e9, e16]
            · exact rfl
          refine auto_op 123 [17] (by kernel_rfl) (fun y w' HW hd K hK => ?_) ?_
          · have e17 := hd_nth (hd 17 (by simp)) rfl
            go_simp
            refine hK _ _ ?_ ?_ HW
            · simp [upd, e17]
            · exact rfl
          refine auto_op 124 [17] (by kernel_rfl) (fun y w' HW hd K hK => ?_) ?_
          · have e17 := hd_nth (hd 17 (by simp)) rfl
            go_simp
            refine hK _ _ ?_ ?_ HW
            · simp [upd, e17]
            · exact rfl
          refine auto_op 125 [18, 19, 17] (by kernel_rfl) (fun y w' HW hd K hK => ?_) ?_
          · have e17 := hd_nth (hd 17 (by simp)) rfl
            have e18 := hd_nth (hd 18 (by simp)) rfl
            have e19 := hd_nth (hd 19 (by simp)) rfl
            go_simp
            refine hK _ _ ?_ ?_ HW
            · simp [upd, e17, e18, e19]
            · exact rfl
          refine auto_op 126 [17] (by kernel_rfl) (fun y w' HW hd K hK => ?_) ?_
          · have e17 := hd_nth (hd 17 (by simp)) rfl
            go_simp
            refine hK _ _ ?_ ?_ HW
            · simp [upd, e17]
            · exact rfl
          refine auto_op 127 [17] (by kernel_rfl) (fun y w' HW hd K hK => ?_) ?_
          · have e17 := hd_nth (hd 17 (by simp)) rfl
            go_simp
            refine hK _ _ ?_ ?_ HW
            · simp [upd, e17]
            · exact rfl
          refine auto_op 128 [21, 22, 17] (by kernel_rfl) (fun y w' HW hd K hK => ?_) ?_
          · have e17 := hd_nth (hd 17 (by simp)) rfl
            have e21 := hd_nth (hd 21 (by simp)) rfl
            have e22 := hd_nth (hd 22 (by simp)) rfl
            go_simp
            refine hK _ _ ?_ ?_ HW
            · simp [upd, e17, e21, e22]
            · exact rfl
          refine auto_op 129 [20, 23, 17] (by kernel_rfl) (fun y w' HW hd K hK => ?_) ?_
          · have e17 := hd_nth (hd 17 (by simp)) rfl
            have e20 := hd_nth (hd 20 (by simp)) rfl
            have e23 := hd_nth (hd 23 (by simp)) rfl
            go_simp
            refine hK _ _ ?_ ?_ HW
            · simp [upd, e17, e20, e23]
            · exact rfl
          refine auto_op 130 [17, 24] (by kernel_rfl) (fun y w' HW hd K hK => ?_) ?_
          · have e17 := hd_nth (hd 17 (by simp)) rfl
            have e24 := hd_nth (hd 24 (by simp)) rfl
            go_simp
            refine hK _ _ ?_ ?_ HW
            · simp [upd, e17, e24]
            · exact rfl
          refine auto_op 131 [25, 17] (by kernel_rfl) (fun y w' HW hd K hK => ?_) ?_
          · have e17 := hd_nth (hd 17 (by simp)) rfl
            have e25 := hd_nth (hd 25 (by simp)) rfl
            go_simp
            refine hK _ _ ?_ ?_ HW
            · simp [upd, e17, e25]
            · exact rfl
          refine auto_op 132 [26] (by kernel_rfl) (fun y w' HW hd K hK => ?_) ?_
          · have e26 := hd_nth (hd 26 (by simp)) rfl
            go_simp
            refine hK _ _ ?_ ?_ HW
            · simp [upd, e26]
            · exact rfl
          refine auto_op 133 [26] (by kernel_rfl) (fun y w' HW hd K hK => ?_) ?_
          · have e26 := hd_nth (hd 26 (by simp)) rfl
            go_simp
            refine hK _ _ ?_ ?_ HW
            · simp [upd, e26]
            · exact rfl
          refine auto_op 134 [26] (by kernel_rfl) (fun y w' HW hd K hK => ?_) ?_
          · have e26 := hd_nth (hd 26 (by simp)) rfl
            go_simp
            refine hK _ _ ?_ ?_ HW
            · simp [upd, e26]
            · exact rfl
          refine auto_op 135 [28, 29, 26] (by kernel_rfl) (fun y w' HW hd K hK => ?_) ?_
          · have e26 := hd_nth (hd 26 (by simp)) rfl
            have e28 := hd_nth (hd 28 (by simp)) rfl
            have e29 := hd_nth (hd 29 (by simp)) rfl
            go_simp
            refine hK _ _ ?_ ?_ HW
            · simp [upd, e26, e28, e29]
            · exact rfl
          refine auto_op 136 [27, 30, 26] (by kernel_rfl) (fun y w' HW hd K hK => ?_) ?_
          · have e26 := hd_nth (hd 26 (by simp)) rfl
            have e27 := hd_nth (hd 27 (by simp)) rfl
            have e30 := hd_nth (hd 30 (by simp)) rfl
            go_simp
            refine hK _ _ ?_ ?_ HW
            · simp [upd, e26, e27, e30]
            · exact rfl
          refine auto_op 137 [26] (by kernel_rfl) (fun y w' HW hd K hK => ?_) ?_
          · have e26 := hd_nth (hd 26 (by simp)) rfl
            go_simp
            refine hK _ _ ?_ ?_ HW
            · simp [upd, e26]
            · exact rfl
          refine auto_op 138 [26] (by kernel_rfl) (fun y w' HW hd K hK => ?_) ?_
          · have e26 := hd_nth (hd 26 (by simp)) rfl
            go_simp
            refine hK _ _ ?_ ?_ HW
            · simp [upd, e26]
            · exact rfl
          refine auto_op 139 [26] (by kernel_rfl) (fun y w' HW hd K hK => ?_) ?_
          · have e26 := hd_nth (hd 26 (by simp)) rfl
            go_simp
            refine hK _ _ ?_ ?_ HW
            · simp [upd, e26]
            · exact rfl
          refine auto_op 140 [33, 34, 26] (by kernel_rfl) (fun y w' HW hd K hK => ?_) ?_
          · have e26 := hd_nth (hd 26 (by simp)) rfl
            have e33 := hd_nth (hd 33 (by simp)) rfl
            have e34 := hd_nth (hd 34 (by simp)) rfl
            go_simp
            refine hK _ _ ?_ ?_ HW
            · simp [upd, e26, e33, e34]
            · exact rfl
          refine auto_op 141 [32, 35, 26] (by kernel_rfl) (fun y w' HW hd K hK => ?_) ?_
          · have e26 := hd_nth (hd 26 (by simp)) rfl
            have e32 := hd_nth (hd 32 (by simp)) rfl
            have e35 := hd_nth (hd 35 (by simp)) rfl
            go_simp
            refine hK _ _ ?_ ?_ HW
            · simp [upd, e26, e32, e35]
            · exact rfl
          refine auto_op 142 [31, 36, 26] (by kernel_rfl) (fun y w' HW hd K hK => ?_) ?_
          · have e26 := hd_nth (hd 26 (by simp)) rfl
            have e31 := hd_nth (hd 31 (by simp)) rfl
            have e36 := hd_nth (hd 36 (by simp)) rfl
            go_simp
            refine hK _ _ ?_ ?_ HW
            · simp [upd, e26, e31, e36]
            · exact rfl
          refine auto_op 143 [26, 37] (by kernel_rfl) (fun y w' HW hd K hK => ?_) ?_
          · have e26 := hd_nth (hd 26 (by simp)) rfl
            have e37 := hd_nth (hd 37 (by simp)) rfl
            go_simp
            refine hK _ _ ?_ ?_ HW
            · simp [upd, e26, e37]
            · exact rfl
          refine auto_op 144 [38, 26] (by kernel_rfl) (fun y w' HW hd K hK => ?_) ?_
          · have e26 := hd_nth (hd 26 (by simp)) rfl
            have e38 := hd_nth (hd 38 (by simp)) rfl
            go_simp
            refine hK _ _ ?_ ?_ HW
            · simp [upd, e26, e38]
            · exact rfl
          refine auto_op 145 [39, 39] (by kernel_rfl) (fun y w' HW hd K hK => ?_) ?_
          · have e39 := hd_nth (hd 39 (by simp)) rfl
            go_simp
            refine (awake_any _).mono ?_
            rintro e w4 ⟨rfl, hb4⟩
            refine hK _ _ ?_ ?_ (HW.trans (hb4.mono HW.size))
            · simp [upd, e39]
            · exact rfl
          refine auto_op 146 [39, 40] (by kernel_rfl) (fun y w' HW hd K hK => ?_) ?_
          · have e39 := hd_nth (hd 39 (by simp)) rfl
            have e40 := hd_nth (hd 40 (by simp)) rfl
            go_simp
            refine hK _ _ ?_ ?_ HW
            · simp [upd, e39, e40]
            · exact rfl
          refine auto_last fun y w' HW hd K hK => ?_
          have e0 := hd_nth (hd 0 (by omega)) rfl
          have e1 := hd_nth (hd 1 (by omega)) rfl
          have e2 := hd_nth (hd 2 (by omega)) rfl
          have e3 := hd_nth (hd 3 (by omega)) rfl
          have e4 := hd_nth (hd 4 (by omega)) rfl
          have e5 := hd_nth (hd 5 (by omega)) rfl
          have e6 := hd_nth (hd 6 (by omega)) rfl
          have e7 := hd_nth (hd 7 (by omega)) rfl
          have e8 := hd_nth (hd 8 (by omega)) rfl
          have e9 := hd_nth (hd 9 (by omega)) rfl
          have e10 := hd_nth (hd 10 (by omega)) rfl
          have e11 := hd_nth (hd 11 (by omega)) rfl
          have e12 := hd_nth (hd 12 (by omega)) rfl
          have e13 := hd_nth (hd 13 (by omega)) rfl
          have e14 := hd_nth (hd 14 (by omega)) rfl
          have e15 := hd_nth (hd 15 (by omega)) rfl
          have e16 := hd_nth (hd 16 (by omega)) rfl
          have e17 := hd_nth (hd 17 (by omega)) rfl
          have e18 := hd_nth (hd 18 (by omega)) rfl
          have e19 := hd_nth (hd 19 (by omega)) rfl
          have e20 := hd_nth (hd 20 (by omega)) rfl
          have e21 := hd_nth (hd 21 (by omega)) rfl
          have e22 := hd_nth (hd 22 (by omega)) rfl
          have e23 := hd_nth (hd 23 (by omega)) rfl
          have e24 := hd_nth (hd 24 (by omega)) rfl
          have e25 := hd_nth (hd 25 (by omega)) rfl
          have e26 := hd_nth (hd 26 (by omega)) rfl
          have e27 := hd_nth (hd 27 (by omega)) rfl
          have e28 := hd_nth (hd 28 (by omega)) rfl
          have e29 := hd_nth (hd 29 (by omega)) rfl
          have e30 := hd_nth (hd 30 (by omega)) rfl
          have e31 := hd_nth (hd 31 (by omega)) rfl
          have e32 := hd_nth (hd 32 (by omega)) rfl
          have e33 := hd_nth (hd 33 (by omega)) rfl
          have e34 := hd_nth (hd 34 (by omega)) rfl
          have e35 := hd_nth (hd 35 (by omega)) rfl
          have e36 := hd_nth (hd 36 (by omega)) rfl
          have e37 := hd_nth (hd 37 (by omega)) rfl
          have e38 := hd_nth (hd 38 (by omega)) rfl
          have e39 := hd_nth (hd 39 (by omega)) rfl
          have e40 := hd_nth (hd 40 (by omega)) rfl
          have e41 := hd_nth (hd 41 (by omega)) rfl
          go_simp
          refine hK _ _ ?_
          clear hd hK K e0 e1 e2 e3 e4 e5 e6 e7 e8 e9 e10 e11 e12 e13 e14 e15 e16 e17 e18 e19 e20 e21 e22 e23 e24 e25 e26 e27 e28 e29 e30 e31 e32 e33 e34 e35 e36 e37 e38 e39 e40 e41
          go_wp2
          go_ret
          exact ⟨rfl, HB3.out.trans (HW.mono HB3.out.size)⟩

set_option maxHeartbeats 4000000 in
set_option maxRecDepth 100000 in
theorem one_false (n f off v : Int) (w : World) (hn0 : 0 ≤ n) (hn1 : n < 256) (hv0 : 0 ≤ v) (hv1 : v < 4294967296) (hf0 : -9223372036854775808 ≤ f) (hf1 : f < 9223372036854775808) (ho0 : -9223372036854775808 ≤ off) (ho1 : off < 9223372036854775808) :
    Calls Try.prog 4 #[.int .u8 n, .int .i64 f, .int .i64 off, .bool false, .int .u32 v] w fun e w' => e = .returned (.bool true) ∧ Below w.heap.size w w' := by
  obtain ⟨N, hN, hN1, hN2⟩ : ∃ N : Nat, 1 + n % 32 = (N : Int) ∧ 1 ≤ N ∧ N ≤ 32 := ⟨(1 + n % 32).toNat, by omega, by omega, by omega⟩
  go_enter Try.func4, Try.ntmps4
  go_wp2_with fail
  refine (new_ok N w hN2).mono ?_
  rintro e w1 ⟨rfl, hS, hB⟩
  have HS := Lib.hid hS
  have HNN := Lib.hid (And.intro hN1 hN2)
  have HB := Lib.hid hB
  clear hS hN hN1 hN2 hB hn0 hn1
  go_wp2_with fail
  go_loopw [13] (fun j wr => ∃ (k : Nat) (L : List Int), k ≤ N ∧ j = .int .i64 k ∧ Hid (St wr w.heap.size N L) ∧ Hid (Below w.heap.size w wr)) (fun j _ => N - (intOf j).toNat)
  case atStart => exact ⟨0, _, Nat.zero_le _, rfl, HS, HB⟩
  case round =>
    clear HS HB
    obtain ⟨k, L, hk, rfl, HS, HB⟩ := hrel
    by_cases hlt : k < N
    · have f1 : decide ((k : Int) < (N : Int)) = true := by simpa using hlt
      have f2 : decide ((k : Int) < 64) = true := by have := HNN.out; simp; omega
      have hk0 : (k : Int) < 32 := by have := HNN.out; omega
      go_wp2_with (go_at_call 20; refine (len_of w.heap.size N _ HS.out.cell1).mono ?_; rintro e w1 ⟨rfl, rfl⟩)
      have e1 : (4 * ((k : Int) % 16)) = ((4 * (k % 16) : Nat) : Int) := by omega
      rw [e1]
      refine (save_in w.heap.size N k (4 * (k % 16)) 4 (7 * (k : Int) + 1) L wr HS.out hlt (by decide) (by omega) (by omega) (by omega)).mono ?_
      rintro e w2 ⟨rfl, hS2, hg⟩
      have HS2 := Lib.hid hS2
      have HB2 := Lib.hid (below_grown HB.out hg HB.out.size (Nat.le_refl _))
      clear hS2 hg e1
      go_wp2
      go_roundw
      case rel => exact ⟨k + 1, _, by omega, by go_num, HS2, HB2⟩
      case measure => simp [intOf]; omega
    · obtain rfl : k = N := by omega
      have f1 : decide ((k : Int) < (k : Int)) = false := by simp
      go_wp2_with (go_at_call 20; refine (len_of w.heap.size k _ HS.out.cell1).mono ?_; rintro e w1 ⟨rfl, rfl⟩)
      refine (all_any w.heap.size k L wr HS.out).mono ?_
      rintro e w1 ⟨rfl, hb1⟩
      have HS1 := Lib.hid (HS.out.below hb1 HS.out.lt)
      have HB1 := Lib.hid (HB.out.trans (hb1.mono HB.out.size))
      clear HS HB hb1
      generalize hS0 : strOfNums (L.take (64 * k)) = S0
      have HS0 := Lib.hid hS0
      clear hS0
      go_wp2_with fail
      rcases save_cases w.heap.size k f off 4 v L w1 HS1.out with hno | ⟨F, O, M, rfl, rfl, hM, hF, hW, hO⟩
      · refine hno.mono ?_
        rintro e w2 ⟨rfl, rfl⟩
        go_wp2_with fail
        refine (all_any w.heap.size k L w1 HS1.out).mono ?_
        rintro e w2 ⟨rfl, hb2⟩
        rw [HS0.out]
        have HB2 := Lib.hid (HB1.out.trans (hb2.mono HB1.out.size))
        clear hb2 HB1
        go_wp2_with fail
        refine (awake_any w2).mono ?_
        rintro e w3 ⟨rfl, hb3⟩
        have HB3 := Lib.hid (HB2.out.trans (hb3.mono HB2.out.size))
        clear hb3 HB2
        go_wp2
        go_ret
        exact ⟨rfl, HB3.out⟩
      · obtain rfl : M = 4 := by omega
        clear hM
        refine (save_in w.heap.size k F O 4 v L w1 HS1.out hF hW hO hv0 hv1).mono ?_
        rintro e w2 ⟨rfl, hS2, hg⟩
        have hk32 := HS1.out.2.2.2
        have hLL := HS1.out.2.1
        rw [layF_put L F O 4 v hLL (by omega) hO] at hS2
        have HS2 := Lib.hid hS2
        have HB2 := Lib.hid (below_grown HB1.out hg HB1.out.size (Nat.le_refl _))
        have HLO := Lib.hid (load_in w.heap.size k F O 4 _ w2 hS2 hF hW hO)
        have hnum : num (((frameL (putZ L (64 * F + O) 4 v) F).drop O).take 4) = num (bytesN v 4) := by
          rw [← layF_put L F O 4 v hLL (by omega) hO, frameL_lay hLL (by omega) (by rw [length_putZ _ _ _ _ (by rw [length_frameL hLL (by omega)]; exact hO), length_frameL hLL (by omega)]), putZ_part _ _ _ _ (by rw [length_frameL hLL (by omega)]; exact hO)]
        rw [hnum, num_bytes4 v hv0 hv1] at HLO
        have hsz : 64 * k ≤ L.length := by omega
        have hlen : 64 * F + O + 4 ≤ 64 * k := by omega
        have hL2 := HS2.out.2.1
        have HSZ0 := Lib.hid (show S0.size = 64 * k by rw [← HS0.out, strOfNums_size, List.length_take]; omega)
        have HSZ1 := Lib.hid (show (strOfNums ((putZ L (64 * F + O) 4 v).take (64 * k))).size = 64 * k by rw [strOfNums_size, List.length_take]; omega)
        have HA := Lib.hid (put_ahead L (64 * k) (64 * F + O) 4 v hlen hsz)
        have HBE := Lib.hid (put_behind L (64 * k) (64 * F + O) 4 (64 * k) v hlen hsz rfl)
        rw [HS0.out] at HA HBE
        clear hS2 hg HS1 HB1 hnum HS0
        generalize putZ L (64 * F + O) 4 v = L2 at HS2 HSZ1 HA HBE HLO
        go_wp2_with fail
        refine HLO.out.mono ?_
        rintro e w3 ⟨rfl, rfl⟩
        clear HLO
        go_wp2_with fail
        refine (all_any w.heap.size k L2 w2 HS2.out).mono ?_
        rintro e w3 ⟨rfl, hb3⟩
        have HB3 := Lib.hid (HB2.out.trans (hb3.mono HB2.out.size))
        clear hb3 HB2
        generalize strOfNums (L2.take (64 * k)) = S1 at HSZ1 HA HBE
        have hz0 := HSZ0.out
        have hz1 := HSZ1.out
        have hqb : 64 * k ≤ 2048 := by omega
        generalize 64 * k = q at hlen hz0 hz1 HBE hqb
        go_upto_region 19 with fail
        rw [show 64 * (F : Int) + (O : Int) = ((64 * F + O : Nat) : Int) by omega]
        generalize 64 * F + O = p at hlen HA HBE ⊢
        have a1 : decide ((0 : Int) ≤ (p : Int)) = true := by simp
        have a2 : decide ((p : Int) + 4 ≤ (q : Int)) = true := by simp; omega
        have a3 : (0 : Int) ≤ (p : Int) ∧ (p : Int) ≤ (q : Int) := by omega
        have a4 : (0 : Int) ≤ (p : Int) + 4 ∧ (p : Int) + 4 ≤ (q : Int) := by omega
        have a5 : ((p : Int) + 4).toNat = p + 4 := by omega
        have hwk : IntKind.i64.wrap ((p : Int) + 4) = (p : Int) + 4 := IntWalk.i64_in _ (by omega)
        have hha := HA.out
        have hhb := HBE.out
        apply wp_region_auto [105, 106, 107, 108, 109, 110, 111, 112, 113, 114, 115, 116, 117, 118, 119, 120, 121, 122, 123, 124, 125, 126, 127, 128, 129, 130, 131, 132, 133, 134, 135, 136, 137, 138, 139, 140, 141, 142, 143, 144, 145, 146] [_, _, _, _, _, _, _, _, _, _, _, _, _, _, _, _, _, _, _, _, _, _, _, _, _, _, _, _, _, _, _, _, _, _, _, _, _, _, _, _, _, _] (fun W' => Below w3.heap.size w3 W')
        case hm => kernel_rfl
        case hT => intro y; simp only [setAll, List.setIfInBounds_toArray, List.set_cons_succ, List.set_cons_zero]; exact rfl
        case hok => kernel_rfl
        case hn => decide
        case hw => exact (Below.refl _ _).drew
        case hs =>
          refine auto_op 105 [] (by kernel_rfl) (fun y w' HW hd K hK => ?_) ?_
          · go_simp
            refine hK _ _ ?_ ?_ HW
            · simp [upd]
            · exact rfl
          refine auto_op 106 [0] (by kernel_rfl) (fun y w' HW hd K hK => ?_) ?_
          · have e0 := hd_nth (hd 0 (by simp)) rfl
            go_simp
            refine hK _ _ ?_ ?_ HW
            · simp [upd, e0]
            · exact rfl
          refine auto_op 107 [] (by kernel_rfl) (fun y w' HW hd K hK => ?_) ?_
          · go_simp
            refine hK _ _ ?_ ?_ HW
            · simp [upd]
            · exact rfl
          refine auto_op 108 [2] (by kernel_rfl) (fun y w' HW hd K hK => ?_) ?_
          · have e2 := hd_nth (hd 2 (by simp)) rfl
            go_simp
            refine hK _ _ ?_ ?_ HW
            · simp [upd, e2]
            · exact rfl
          refine auto_op 109 [1, 3] (by kernel_rfl) (fun y w' HW hd K hK => ?_) ?_
          · have e1 := hd_nth (hd 1 (by simp)) rfl
            have e3 := hd_nth (hd 3 (by simp)) rfl
            go_simp
            refine hK _ _ ?_ ?_ HW
            · simp [upd, e1, e3]
            · exact rfl
          refine auto_op 110 [4] (by kernel_rfl) (fun y w' HW hd K hK => ?_) ?_
          · have e4 := hd_nth (hd 4 (by simp)) rfl
            go_simp
            refine hK _ _ ?_ ?_ HW
            · simp [upd, e4]
            · exact rfl
          refine auto_op 111 [5] (by kernel_rfl) (fun y w' HW hd K hK => ?_) ?_
          · have e5 := hd_nth (hd 5 (by simp)) rfl
            go_simp
            refine hK _ _ ?_ ?_ HW
            · simp [upd, e5]
            · exact rfl
          refine auto_op 112 [6, 5] (by kernel_rfl) (fun y w' HW hd K hK => ?_) ?_
          · have e5 := hd_nth (hd 5 (by simp)) rfl
            have e6 := hd_nth (hd 6 (by simp)) rfl
            go_simp
            refine hK _ _ ?_ ?_ HW
            · simp [upd, e5, e6]
            · exact rfl
          refine auto_op 113 [5, 7] (by kernel_rfl) (fun y w' HW hd K hK => ?_) ?_
          · have e5 := hd_nth (hd 5 (by simp)) rfl
            have e7 := hd_nth (hd 7 (by simp)) rfl
            go_simp
            refine hK _ _ ?_ ?_ HW
            · simp [upd, e5, e7]
            · exact rfl
          refine auto_op 114 [8, 5] (by kernel_rfl) (fun y w' HW hd K hK => ?_) ?_
          · have e5 := hd_nth (hd 5 (by simp)) rfl
            have e8 := hd_nth (hd 8 (by simp)) rfl
            go_simp
            refine hK _ _ ?_ ?_ HW
            · simp [upd, e5, e8]
            · exact rfl
          refine auto_op 115 [9] (by kernel_rfl) (fun y w' HW hd K hK => ?_) ?_
          · have e9 := hd_nth (hd 9 (by simp)) rfl
            go_simp
            refine hK _ _ ?_ ?_ HW
            · simp [upd, e9]
            · exact rfl
          refine auto_op 116 [9] (by kernel_rfl) (fun y w' HW hd K hK => ?_) ?_
          · have e9 := hd_nth (hd 9 (by simp)) rfl
            go_simp
            refine hK _ _ ?_ ?_ HW
            · simp [upd, e9]
            · exact rfl
          refine auto_op 117 [10, 11, 9] (by kernel_rfl) (fun y w' HW hd K hK => ?_) ?_
          · have e9 := hd_nth (hd 9 (by simp)) rfl
            have e10 := hd_nth (hd 10 (by simp)) rfl
            have e11 := hd_nth (hd 11 (by simp)) rfl
            go_simp
            refine hK _ _ ?_ ?_ HW
            · simp [upd, e9, e10, e11]
            · exact rfl
          refine auto_op 118 [9] (by kernel_rfl) (fun y w' HW hd K hK => ?_) ?_
          · have e9 := hd_nth (hd 9 (by simp)) rfl
            go_simp
            refine hK _ _ ?_ ?_ HW
            · simp [upd, e9]
            · exact rfl
          refine auto_op 119 [13, 9] (by kernel_rfl) (fun y w' HW hd K hK => ?_) ?_
          · have e9 := hd_nth (hd 9 (by simp)) rfl
            have e13 := hd_nth (hd 13 (by simp)) rfl
            go_simp
            refine hK _ _ ?_ ?_ HW
            · simp [upd, e9, e13]
            · exact rfl
          refine auto_op 120 [12, 14, 9] (by kernel_rfl) (fun y w' HW hd K hK => ?_) ?_
          · have e9 := hd_nth (hd 9 (by simp)) rfl
            have e12 := hd_nth (hd 12 (by simp)) rfl
            have e14 := hd_nth (hd 14 (by simp)) rfl
            go_simp
            refine hK _ _ ?_ ?_ HW
            · simp [upd, e9, e12, e14]
            · exact rfl
          refine auto_op 121 [9, 15] (by kernel_rfl) (fun y w' HW hd K hK => ?_) ?_
          · have e9 := hd_nth (hd 9 (by simp)) rfl
            have e15 := hd_nth (hd 15 (by simp)) rfl
            go_simp
            refine hK _ _ ?_ ?_ HW
            · simp [upd, e9, e15]
            · exact rfl
          refine auto_op 122 [16, 9] (by kernel_rfl) (fun y w' HW hd K hK => ?_) ?_
          · have e9 := hd_nth (hd 9 (by simp)) rfl
            have e16 := hd_nth (hd 16 (by simp)) rfl
            go_simp
            refine hK _ _ ?_ ?_ HW
            · simp [upd, e9, e16]
            · exact rfl
          refine auto_op 123 [17] (by kernel_rfl) (fun y w' HW hd K hK => ?_) ?_
          · have e17 := hd_nth (hd 17 (by simp)) rfl
            go_simp
            refine hK _ _ ?_ ?_ HW
            · simp [upd, e17]
            · exact rfl
          refine auto_op 124 [17] (by kernel_rfl) (fun y w' HW hd K hK => ?_) ?_
          · have e17 := hd_nth (hd 17 (by simp)) rfl
            go_simp
            refine hK _ _ ?_ ?_ HW
            · simp [upd, e17]
            · exact rfl
          refine auto_op 125 [18, 19, 17] (by kernel_rfl) (fun y w' HW hd K hK => ?_) ?_
          · have e17 := hd_nth (hd 17 (by simp)) rfl
            have e18 := hd_nth (hd 18 (by simp)) rfl
            have e19 := hd_nth (hd 19 (by simp)) rfl
            go_simp
            refine hK _ _ ?_ ?_ HW
            · simp [upd, e17, e18, e19]
            · exact rfl
          refine auto_op 126 [17] (by kernel_rfl) (fun y w' HW hd K hK => ?_) ?_
          · have e17 := hd_nth (hd 17 (by simp)) rfl
            go_simp
            refine hK _ _ ?_ ?_ HW
            · simp [upd, e17]
            · exact rfl
          refine auto_op 127 [17] (by kernel_rfl) (fun y w' HW hd K hK => ?_) ?_
          · have e17 := hd_nth (hd 17 (by simp)) rfl
            go_simp
            refine hK _ _ ?_ ?_ HW
            · simp [upd, e17]
            · exact rfl
          refine auto_op 128 [21, 22, 17] (by kernel_rfl) (fun y w' HW hd K hK => ?_) ?_
          · have e17 := hd_nth (hd 17 (by simp)) rfl
            have e21 := hd_nth (hd 21 (by simp)) rfl
            have e22 := hd_nth (hd 22 (by simp)) rfl
            go_simp
            refine hK _ _ ?_ ?_ HW
            · simp [upd, e17, e21, e22]
            · exact rfl
          refine auto_op 129 [20, 23, 17] (by kernel_rfl) (fun y w' HW hd K hK => ?_) ?_
          · have e17 := hd_nth (hd 17 (by simp)) rfl
            have e20 := hd_nth (hd 20 (by simp)) rfl
            have e23 := hd_nth (hd 23 (by simp)) rfl
            go_simp
            refine hK _ _ ?_ ?_ HW
            · simp [upd, e17, e20, e23]
            · exact rfl
          refine auto_op 130 [17, 24] (by kernel_rfl) (fun y w' HW hd K hK => ?_) ?_
          · have e17 := hd_nth (hd 17 (by simp)) rfl
            have e24 := hd_nth (hd 24 (by simp)) rfl
            go_simp
            refine hK _ _ ?_ ?_ HW
            · simp [upd, e17, e24]
            · exact rfl
          refine auto_op 131 [25, 17] (by kernel_rfl) (fun y w' HW hd K hK => ?_) ?_
          · have e17 := hd_nth (hd 17 (by simp)) rfl
            have e25 := hd_nth (hd 25 (by simp)) rfl
            go_simp
            refine hK _ _ ?_ ?_ HW
            · simp [upd, e17, e25]
            · exact rfl
          refine auto_op 132 [26] (by kernel_rfl) (fun y w' HW hd K hK => ?_) ?_
          · have e26 := hd_nth (hd 26 (by simp)) rfl
            go_simp
            refine hK _ _ ?_ ?_ HW
            · simp [upd, e26]
            · exact rfl
          refine auto_op 133 [26] (by kernel_rfl) (fun y w' HW hd K hK => ?_) ?_
          · have e26 := hd_nth (hd 26 (by simp)) rfl
            go_simp
            refine hK _ _ ?_ ?_ HW
            · simp [upd, e26]
            · exact rfl
          refine auto_op 134 [26] (by kernel_rfl) (fun y w' HW hd K hK => ?_) ?_
          · have e26 := hd_nth (hd 26 (by simp)) rfl
            go_simp
            refine hK _ _ ?_ ?_ HW
            · simp [upd, e26]
            · exact rfl
          refine auto_op 135 [28, 29, 26] (by kernel_rfl) (fun y w' HW hd K hK => ?_) ?_
          · have e26 := hd_nth (hd 26 (by simp)) rfl
            have e28 := hd_nth (hd 28 (by simp)) rfl
            have e29 := hd_nth (hd 29 (by simp)) rfl
            go_simp
            refine hK _ _ ?_ ?_ HW
            · simp [upd, e26, e28, e29]
            · exact rfl
          refine auto_op 136 [27, 30, 26] (by kernel_rfl) (fun y w' HW hd K hK => ?_) ?_
          · have e26 := hd_nth (hd 26 (by simp)) rfl
            have e27 := hd_nth (hd 27 (by simp)) rfl
            have e30 := hd_nth (hd 30 (by simp)) rfl
            go_simp
            refine hK _ _ ?_ ?_ HW
            · simp [upd, e26, e27, e30]
            · exact rfl
          refine auto_op 137 [26] (by kernel_rfl) (fun y w' HW hd K hK => ?_) ?_
          · have e26 := hd_nth (hd 26 (by simp)) rfl
            go_simp
            refine hK _ _ ?_ ?_ HW
            · simp [upd, e26]
            · exact rfl
          refine auto_op 138 [26] (by kernel_rfl) (fun y w' HW hd K hK => ?_) ?_
          · have e26 := hd_nth (hd 26 (by simp)) rfl
            go_simp
            refine hK _ _ ?_ ?_ HW
            · simp [upd, e26]
            · exact rfl
          refine auto_op 139 [26] (by kernel_rfl) (fun y w' HW hd K hK => ?_) ?_
          · have e26 := hd_nth (hd 26 (by simp)) rfl
            go_simp
            refine hK _ _ ?_ ?_ HW
            · simp [upd, e26]
            · exact rfl
          refine auto_op 140 [33, 34, 26] (by kernel_rfl) (fun y w' HW hd K hK => ?_) ?_
          · have e26 := hd_nth (hd 26 (by simp)) rfl
            have e33 := hd_nth (hd 33 (by simp)) rfl
            have e34 := hd_nth (hd 34 (by simp)) rfl
            go_simp
            refine hK _ _ ?_ ?_ HW
            · simp [upd, e26, e33, e34]
            · exact rfl
          refine auto_op 141 [32, 35, 26] (by kernel_rfl) (fun y w' HW hd K hK => ?_) ?_
          · have e26 := hd_nth (hd 26 (by simp)) rfl
            have e32 := hd_nth (hd 32 (by simp)) rfl
            have e35 := hd_nth (hd 35 (by simp)) rfl
            go_simp
            refine hK _ _ ?_ ?_ HW
            · simp [upd, e26, e32, e35]
            · exact rfl
          refine auto_op 142 [31, 36, 26] (by kernel_rfl) (fun y w' HW hd K hK => ?_) ?_
          · have e26 := hd_nth (hd 26 (by simp)) rfl
            have e31 := hd_nth (hd 31 (by simp)) rfl
            have e36 := hd_nth (hd 36 (by simp)) rfl
            go_simp
            refine hK _ _ ?_ ?_ HW
            · simp [upd, e26, e31, e36]
            · exact rfl
          refine auto_op 143 [26, 37] (by kernel_rfl) (fun y w' HW hd K hK => ?_) ?_
          · have e26 := hd_nth (hd 26 (by simp)) rfl
            have e37 := hd_nth (hd 37 (by simp)) rfl
            go_simp
            refine hK _ _ ?_ ?_ HW
            · simp [upd, e26, e37]
            · exact rfl
          refine auto_op 144 [38, 26] (by kernel_rfl) (fun y w' HW hd K hK => ?_) ?_
          · have e26 := hd_nth (hd 26 (by simp)) rfl
            have e38 := hd_nth (hd 38 (by simp)) rfl
            go_simp
            refine hK _ _ ?_ ?_ HW
            · simp [upd, e26, e38]
            · exact rfl
          refine auto_op 145 [39, 39] (by kernel_rfl) (fun y w' HW hd K hK => ?_) ?_
          · have e39 := hd_nth (hd 39 (by simp)) rfl
            go_simp
            refine (awake_any _).mono ?_
            rintro e w4 ⟨rfl, hb4⟩
            refine hK _ _ ?_ ?_ (HW.trans (hb4.mono HW.size))
            · simp [upd, e39]
            · exact rfl
          refine auto_op 146 [39, 40] (by kernel_rfl) (fun y w' HW hd K hK => ?_) ?_
          · have e39 := hd_nth (hd 39 (by simp)) rfl
            have e40 := hd_nth (hd 40 (by simp)) rfl
            go_simp
            refine hK _ _ ?_ ?_ HW
            · simp [upd, e39, e40]
            · exact rfl
          refine auto_last fun y w' HW hd K hK => ?_
          have e0 := hd_nth (hd 0 (by omega)) rfl
          have e1 := hd_nth (hd 1 (by omega)) rfl
          have e2 := hd_nth (hd 2 (by omega)) rfl
          have e3 := hd_nth (hd 3 (by omega)) rfl
          have e4 := hd_nth (hd 4 (by omega)) rfl
          have e5 := hd_nth (hd 5 (by omega)) rfl
          have e6 := hd_nth (hd 6 (by omega)) rfl
          have e7 := hd_nth (hd 7 (by omega)) rfl
          have e8 := hd_nth (hd 8 (by omega)) rfl
          have e9 := hd_nth (hd 9 (by omega)) rfl
          have e10 := hd_nth (hd 10 (by omega)) rfl
          have e11 := hd_nth (hd 11 (by omega)) rfl
          have e12 := hd_nth (hd 12 (by omega)) rfl
          have e13 := hd_nth (hd 13 (by omega)) rfl
          have e14 := hd_nth (hd 14 (by omega)) rfl
          have e15 := hd_nth (hd 15 (by omega)) rfl
          have e16 := hd_nth (hd 16 (by omega)) rfl
          have e17 := hd_nth (hd 17 (by omega)) rfl
          have e18 := hd_nth (hd 18 (by omega)) rfl
          have e19 := hd_nth (hd 19 (by omega)) rfl
          have e20 := hd_nth (hd 20 (by omega)) rfl
          have e21 := hd_nth (hd 21 (by omega)) rfl
          have e22 := hd_nth (hd 22 (by omega)) rfl
          have e23 := hd_nth (hd 23 (by omega)) rfl
          have e24 := hd_nth (hd 24 (by omega)) rfl
          have e25 := hd_nth (hd 25 (by omega)) rfl
          have e26 := hd_nth (hd 26 (by omega)) rfl
          have e27 := hd_nth (hd 27 (by omega)) rfl
          have e28 := hd_nth (hd 28 (by omega)) rfl
          have e29 := hd_nth (hd 29 (by omega)) rfl
          have e30 := hd_nth (hd 30 (by omega)) rfl
          have e31 := hd_nth (hd 31 (by omega)) rfl
          have e32 := hd_nth (hd 32 (by omega)) rfl
          have e33 := hd_nth (hd 33 (by omega)) rfl
          have e34 := hd_nth (hd 34 (by omega)) rfl
          have e35 := hd_nth (hd 35 (by omega)) rfl
          have e36 := hd_nth (hd 36 (by omega)) rfl
          have e37 := hd_nth (hd 37 (by omega)) rfl
          have e38 := hd_nth (hd 38 (by omega)) rfl
          have e39 := hd_nth (hd 39 (by omega)) rfl
          have e40 := hd_nth (hd 40 (by omega)) rfl
          have e41 := hd_nth (hd 41 (by omega)) rfl
          go_simp
          refine hK _ _ ?_
          clear hd hK K e0 e1 e2 e3 e4 e5 e6 e7 e8 e9 e10 e11 e12 e13 e14 e15 e16 e17 e18 e19 e20 e21 e22 e23 e24 e25 e26 e27 e28 e29 e30 e31 e32 e33 e34 e35 e36 e37 e38 e39 e40 e41
          go_wp2
          go_ret
          exact ⟨rfl, HB3.out.trans (HW.mono HB3.out.size)⟩
end Go.Proofs.Ytdckmbkgnlmphaa.Fr
