/- The walk of hermitagelaw06.FramesClears. -/
import Derived.Test.YtdckmbkgnlmphaaIh
import Derived.StillTailTactics
import Derived.Deep.DeepCutAuto
import Derived.Deep.CutBlock
namespace Go.Proofs.Ytdckmbkgnlmphaa.Fr
open Go.RowKit Ut Oc
set_option linter.unusedVariables false

/-- what comes ahead of a frame that was cleared, and behind it, is as it was -/
theorem cut_ahead (L : List Int) (q p : Nat) (xs : List Int) (hx : xs.length = 64) (hq : p + 64 ≤ q) (hL : q ≤ L.length) : (strOfNums ((splice L p xs).take q)).extract 0 p = (strOfNums (L.take q)).extract 0 p := by
  have e : ∀ zs : List Int, (strOfNums zs).extract 0 p = strOfNums (zs.take p) := fun zs => by
    unfold strOfNums
    rw [ByteArray.extract_mk]
    congr 1
    simp [List.map_take]
  rw [e, e, List.take_take, List.take_take, Nat.min_eq_left (by omega)]
  congr 1
  unfold splice
  rw [List.take_append_of_le_length (by simp; omega), List.take_take, Nat.min_self]
theorem cut_behind (L : List Int) (q p : Nat) (xs : List Int) (hx : xs.length = 64) (hq : p + 64 ≤ q) (hL : q ≤ L.length) : (strOfNums ((splice L p xs).take q)).extract (p + 64) q = (strOfNums (L.take q)).extract (p + 64) q := by
  have e : ∀ zs : List Int, (strOfNums zs).extract (p + 64) q = strOfNums ((zs.take q).drop (p + 64)) := fun zs => by
    unfold strOfNums
    rw [ByteArray.extract_mk]
    congr 1
    simp [List.map_take, List.map_drop, List.drop_take]
  rw [e, e, List.take_take, List.take_take, Nat.min_self]
  congr 1
  rw [List.drop_take, List.drop_take]
  congr 1
  unfold splice
  rw [← List.append_assoc, List.drop_append_of_le_length (by simp [hx]; omega), List.drop_of_length_le (by simp [hx]; omega), List.nil_append, hx]

set_option maxHeartbeats 4000000 in
set_option maxRecDepth 100000 in
theorem clears_any (n f v : Int) (a : Option Addr) (len cap : Nat) (zs : List Int) (w : World) (hn0 : 0 ≤ n) (hn1 : n < 256) (hv0 : 0 ≤ v) (hv1 : v < 4294967296) (hlen : len ≤ 9223372036854775807) (hrow : RowK .u8 w w.heap.size a len zs) (hz : AreBytes zs) :
    Calls Try.prog 5 #[.int .u8 n, .int .i64 f, .slice a len cap, .int .u32 v] w fun e w' => e = .returned (.bool true) ∧ Below w.heap.size w w' := by
  obtain ⟨N, hN, hN1, hN2⟩ : ∃ N : Nat, 1 + n % 32 = (N : Int) ∧ 1 ≤ N ∧ N ≤ 32 := ⟨(1 + n % 32).toNat, by omega, by omega, by omega⟩
  have HR := Lib.hid hrow
  have HZ := Lib.hid hz
  clear hrow hz
  go_enter Try.func5, Try.ntmps5
  go_wp2_with fail
  refine (new_ok N w hN2).mono ?_
  rintro e w1 ⟨rfl, hS, hB⟩
  have HS := Lib.hid hS
  have HNN := Lib.hid (And.intro hN1 hN2)
  have HB := Lib.hid hB
  have HN := Lib.hid hN
  clear hS hN hN1 hN2 hB
  go_upto_block 0 with fail
  go_cut [11] (fun _ wx => ∃ L, Hid (St wx w.heap.size N L) ∧ Hid (Below w.heap.size w wx))
  case first =>
    go_wp2
    go_loopw [11] (fun j wr => ∃ (k : Nat) (L : List Int), k ≤ 100 ∧ j = .int .i64 k ∧ Hid (St wr w.heap.size N L) ∧ Hid (Below w.heap.size w wr)) (fun j _ => 100 - (intOf j).toNat)
    case atStart => exact ⟨0, _, Nat.zero_le _, rfl, HS, HB⟩
    case round =>
      clear HS HB
      obtain ⟨k, L, hk, rfl, HS, HB⟩ := hrel
      by_cases hlt1 : k < len
      · by_cases hlt2 : k < 100
        · have hlt := And.intro hlt1 hlt2
          clear hlt1 hlt2
          obtain ⟨x, rfl, hx, hc⟩ := HR.out.2 k hlt.1
          have hc2 := (HB.out.cell (p := x.add k) (by rw [block_of_add]; exact hx)).trans hc
          obtain ⟨z, hze⟩ : ∃ z, z = zs.getD k 0 := ⟨_, rfl⟩
          have hzb := HZ.out.at_ k
          rw [← hze] at hc2 hzb
          clear hze hc hx
          have f1 : decide ((k : Int) < (len : Int)) = true := by simpa using hlt.1
          have f2 : decide ((k : Int) < 100) = true := by have := hlt.2; simp; omega
          have hk1 : (0 : Int) ≤ (k : Int) ∧ (k : Int) < (len : Int) := by have := hlt.1; omega
          have hn := HN.out
          have hb1 := hzb.1
          have hb2 := hzb.2
          have HLT := Lib.hid hlt.2
          clear hzb hlt
          have hN3 : ¬ (N : Int) = 0 := by have := HNN.out; omega
          have hN5 : ¬ N = 0 := by have := HNN.out; omega
          have hN6 : (N == 0) = false := by simpa using hN5
          have hN4 : ((N : Int) == 0) = false := by simpa using hN3
          have t1 : n.tmod 32 = n % 32 := Int.tmod_eq_emod_of_nonneg hn0
          have t2 : IntKind.i64.wrap (n % 32) = n % 32 := IntWalk.i64_in _ (by omega)
          have t3 : IntKind.i64.wrap (N : Int) = (N : Int) := IntWalk.i64_in _ (by have := HNN.out; omega)
          obtain ⟨r, hr, t4⟩ : ∃ r : Nat, r < N ∧ (k : Int).tmod (N : Int) = (r : Int) := ⟨k % N, Nat.mod_lt _ (by have := HNN.out; omega), by rw [Int.tmod_eq_emod_of_nonneg (by omega)]; omega⟩
          have t5 : IntKind.i64.wrap (r : Int) = (r : Int) := IntWalk.i64_in _ (by have := HNN.out; omega)
          obtain ⟨o, ho, t6⟩ : ∃ o : Nat, o ≤ 60 ∧ z.tmod 61 = (o : Int) := ⟨(z % 61).toNat, by omega, by rw [Int.tmod_eq_emod_of_nonneg hb1]; omega⟩
          have t7 : IntKind.i64.wrap (o : Int) = (o : Int) := IntWalk.i64_in _ (by omega)
          have t8 : IntKind.u8.wrap (n % 32) = n % 32 := by simp [IntKind.wrap, IntKind.bits, IntKind.signed]; omega
          have t9 : IntKind.u8.wrap (o : Int) = (o : Int) := by simp [IntKind.wrap, IntKind.bits, IntKind.signed]; omega
          go_upto_region 7 with fail
          go_still_tail 14, (by kernel_rfl)
          change wpList _ _ _ _ _ wr.drew
          have HSd : Hid (St wr.drew w.heap.size N L) := HS
          have hbd : Below w.heap.size w wr.drew := HB.out.drew
          obtain ⟨W2, hW2⟩ : ∃ W2, wr.drew = W2 := ⟨_, rfl⟩
          rw [hW2] at HSd hbd ⊢
          clear hW2 t1 t2 t3 t4 t5 t6 t7 t8 t9
          go_wp2_with fail
          refine (save_in w.heap.size N r o 4 v L W2 HSd.out hr (by decide) (by omega) hv0 hv1).mono ?_
          rintro e w3 ⟨rfl, hS3, hg3⟩
          have HS3 := Lib.hid hS3
          have HB3 := Lib.hid (below_grown hbd hg3 hbd.size (Nat.le_refl _))
          clear hS3 hg3
          go_wp2
          go_roundw
          case rel => exact ⟨k + 1, _, HLT.out, by go_num, HS3, HB3⟩
          case measure => have := HLT.out; simp [intOf]; omega
        · have f1 : decide ((k : Int) < (len : Int)) = true := by simpa using hlt1
          have f2 : decide ((k : Int) < 100) = false := by simp; omega
          go_wp2
          go_meet
          exact ⟨L, HS, HB⟩
      · have f1 : decide ((k : Int) < (len : Int)) = false := by simpa using hlt1
        go_wp2
        go_meet
        exact ⟨L, HS, HB⟩
  case rest =>
    clear HS HB
    obtain ⟨L, HS, HB⟩ := hcut
    go_wp2_with fail
    refine (all_any w.heap.size N L _ HS.out).mono ?_
    rintro e w1 ⟨rfl, hb1⟩
    have HS1 := Lib.hid (HS.out.below hb1 HS.out.lt)
    have HB1 := Lib.hid (HB.out.trans (hb1.mono HB.out.size))
    clear HS HB hb1
    generalize hS0 : strOfNums (L.take (64 * N)) = S0
    have HS0 := Lib.hid hS0
    clear hS0
    go_wp2_with fail
    by_cases hf : f < 0 ∨ (N : Int) ≤ f
    · refine (clear_no _ f 1 w1 (.inl rfl) (find_out w.heap.size N f L w1 HS1.out hf)).mono ?_
      rintro e w2 ⟨rfl, rfl⟩
      go_wp2_with fail
      refine (all_any w.heap.size N L w1 HS1.out).mono ?_
      rintro e w2 ⟨rfl, hb2⟩
      rw [HS0.out]
      have HS2 := Lib.hid (HS1.out.below hb2 HS1.out.lt)
      have HB2 := Lib.hid (HB1.out.trans (hb2.mono HB1.out.size))
      clear hb2 HB1
      go_wp2_with fail
      refine (clean_no _ f 1 w2 (.inl rfl) (find_out w.heap.size N f L w2 HS2.out hf)).mono ?_
      rintro e w3 ⟨rfl, rfl⟩
      go_wp2_with fail
      refine (awake_any w2).mono ?_
      rintro e w3 ⟨rfl, hb3⟩
      have HB3 := Lib.hid (HB2.out.trans (hb3.mono HB2.out.size))
      clear hb3 HB2
      go_wp2
      go_ret
      exact ⟨rfl, HB3.out⟩
    · obtain ⟨F, rfl⟩ := Int.eq_ofNat_of_zero_le (show 0 ≤ f by omega)
      have hF : F < N := by omega
      clear hf
      refine (clear_in w.heap.size N F L w1 HS1.out hF).mono ?_
      rintro e w2 ⟨rfl, hS2, hg⟩
      have hk32 := HS1.out.2.2.2
      have hLL := HS1.out.2.1
      have hq : 64 * F + 64 ≤ 64 * N := by omega
      have hqL : 64 * N ≤ L.length := by omega
      have HS2 := Lib.hid hS2
      have HB2 := Lib.hid (below_grown HB1.out hg HB1.out.size (Nat.le_refl _))
      have HFC : Hid (frameL (layF L F zer) F = zer) := frameL_lay hLL (by omega) zer_len
      have hL2 := HS2.out.2.1
      have HSZ0 := Lib.hid (show S0.size = 64 * N by rw [← HS0.out, strOfNums_size, List.length_take]; omega)
      have HSZ1 := Lib.hid (show (strOfNums ((layF L F zer).take (64 * N))).size = 64 * N by rw [strOfNums_size, List.length_take]; omega)
      have HA : Hid ((strOfNums ((layF L F zer).take (64 * N))).extract 0 (64 * F) = (strOfNums (L.take (64 * N))).extract 0 (64 * F)) := cut_ahead L (64 * N) (64 * F) zer zer_len hq hqL
      have HBE : Hid ((strOfNums ((layF L F zer).take (64 * N))).extract (64 * F + 64) (64 * N) = (strOfNums (L.take (64 * N))).extract (64 * F + 64) (64 * N)) := cut_behind L (64 * N) (64 * F) zer zer_len hq hqL
      rw [HS0.out] at HA HBE
      have hqb : 64 * N ≤ 2048 := by omega
      clear hS2 hg HS1 HB1 HS0 hk32 hLL hqL hL2
      generalize layF L F zer = L2 at HS2 HSZ1 HA HBE HFC
      go_wp2_with fail
      refine (all_any w.heap.size N L2 w2 HS2.out).mono ?_
      rintro e w3 ⟨rfl, hb3⟩
      have HCL : Hid (∀ W, Below w3.heap.size w3 W → Calls Try.prog 18 #[.pointer (some ⟨w.heap.size, 0, none⟩), .int .i64 F] W fun e w' => e = .returned (.bool true) ∧ W = w') := fun W hW => by
        have hS3 := HS2.out.below hb3 HS2.out.lt
        have := clean_in w.heap.size N F L2 W (hS3.below hW hS3.lt) hF
        rwa [HFC.out, beq_self_eq_true] at this
      have HB3 := Lib.hid (HB2.out.trans (hb3.mono HB2.out.size))
      clear hb3 HB2
      generalize strOfNums (L2.take (64 * N)) = S1 at HSZ1 HA HBE
      have hz0 := HSZ0.out
      have hz1 := HSZ1.out
      generalize 64 * N = q at hz0 hz1 HBE hqb hq
      go_upto_region 13 with fail
      rw [show 64 * (F : Int) = ((64 * F : Nat) : Int) by omega]
      generalize 64 * F = p at hq HA HBE ⊢
      have a1 : decide ((0 : Int) ≤ (p : Int)) = true := by simp
      have a2 : decide ((p : Int) + 64 ≤ (q : Int)) = true := by simp; omega
      have a3 : (0 : Int) ≤ (p : Int) ∧ (p : Int) ≤ (q : Int) := by omega
      have a4 : (0 : Int) ≤ (p : Int) + 64 ∧ (p : Int) + 64 ≤ (q : Int) := by omega
      have a5 : ((p : Int) + 64).toNat = p + 64 := by omega
      have hwk : IntKind.i64.wrap ((p : Int) + 64) = (p : Int) + 64 := IntWalk.i64_in _ (by omega)
      have hha := HA.out
      have hhb := HBE.out
      apply wp_region_auto [77, 78, 79, 80, 81, 82, 83, 84, 85, 86, 87, 88, 89, 90, 91, 92, 93, 94, 95, 96, 97, 98, 99, 100, 101, 102, 103, 104, 105, 106, 107, 108, 109, 110, 111, 112, 113, 114, 115, 116, 117, 118, 119, 120] [_, _, _, _, _, _, _, _, _, _, _, _, _, _, _, _, _, _, _, _, _, _, _, _, _, _, _, _, _, _, _, _, _, _, _, _, _, _, _, _, _, _, _, _] (fun W' => Below w3.heap.size w3 W')
      case hm => kernel_rfl
      case hT => intro y; simp only [setAll, List.setIfInBounds_toArray, List.set_cons_succ, List.set_cons_zero]; exact rfl
      case hok => kernel_rfl
      case hn => decide
      case hw => exact (Below.refl _ _).drew
      case hs =>
        refine auto_op 77 [] (by kernel_rfl) (fun y w' HW hd K hK => ?_) ?_
        · go_simp
          refine hK _ _ ?_ ?_ HW
          · simp [upd]
          · exact rfl
        refine auto_op 78 [] (by kernel_rfl) (fun y w' HW hd K hK => ?_) ?_
        · go_simp
          refine hK _ _ ?_ ?_ HW
          · simp [upd]
          · exact rfl
        refine auto_op 79 [0, 1] (by kernel_rfl) (fun y w' HW hd K hK => ?_) ?_
        · have e0 := hd_nth (hd 0 (by simp)) rfl
          have e1 := hd_nth (hd 1 (by simp)) rfl
          go_simp
          refine (HCL.out _ HW).mono ?_
          rintro e w4 ⟨rfl, rfl⟩
          refine hK _ _ ?_ ?_ HW
          · simp [upd, e0, e1]
          · exact rfl
        refine auto_op 80 [2, 2] (by kernel_rfl) (fun y w' HW hd K hK => ?_) ?_
        · have e2 := hd_nth (hd 2 (by simp)) rfl
          go_simp
          refine hK _ _ ?_ ?_ HW
          · simp [upd, e2]
          · exact rfl
        refine auto_op 81 [3] (by kernel_rfl) (fun y w' HW hd K hK => ?_) ?_
        · have e3 := hd_nth (hd 3 (by simp)) rfl
          go_simp
          refine hK _ _ ?_ ?_ HW
          · simp [upd, e3]
          · exact rfl
        refine auto_op 82 [4, 3] (by kernel_rfl) (fun y w' HW hd K hK => ?_) ?_
        · have e3 := hd_nth (hd 3 (by simp)) rfl
          have e4 := hd_nth (hd 4 (by simp)) rfl
          go_simp
          refine hK _ _ ?_ ?_ HW
          · simp [upd, e3, e4]
          · exact rfl
        refine auto_op 83 [3] (by kernel_rfl) (fun y w' HW hd K hK => ?_) ?_
        · have e3 := hd_nth (hd 3 (by simp)) rfl
          go_simp
          refine hK _ _ ?_ ?_ HW
          · simp [upd, e3]
          · exact rfl
        refine auto_op 84 [6, 3] (by kernel_rfl) (fun y w' HW hd K hK => ?_) ?_
        · have e3 := hd_nth (hd 3 (by simp)) rfl
          have e6 := hd_nth (hd 6 (by simp)) rfl
          go_simp
          refine hK _ _ ?_ ?_ HW
          · simp [upd, e3, e6]
          · exact rfl
        refine auto_op 85 [5, 7, 3] (by kernel_rfl) (fun y w' HW hd K hK => ?_) ?_
        · have e3 := hd_nth (hd 3 (by simp)) rfl
          have e5 := hd_nth (hd 5 (by simp)) rfl
          have e7 := hd_nth (hd 7 (by simp)) rfl
          go_simp
          refine hK _ _ ?_ ?_ HW
          · simp [upd, e3, e5, e7]
          · exact rfl
        refine auto_op 86 [3, 8] (by kernel_rfl) (fun y w' HW hd K hK => ?_) ?_
        · have e3 := hd_nth (hd 3 (by simp)) rfl
          have e8 := hd_nth (hd 8 (by simp)) rfl
          go_simp
          refine hK _ _ ?_ ?_ HW
          · simp [upd, e3, e8]
          · exact rfl
        refine auto_op 87 [9, 3] (by kernel_rfl) (fun y w' HW hd K hK => ?_) ?_
        · have e3 := hd_nth (hd 3 (by simp)) rfl
          have e9 := hd_nth (hd 9 (by simp)) rfl
          go_simp
          refine hK _ _ ?_ ?_ HW
          · simp [upd, e3, e9]
          · exact rfl
        refine auto_op 88 [10] (by kernel_rfl) (fun y w' HW hd K hK => ?_) ?_
        · have e10 := hd_nth (hd 10 (by simp)) rfl
          go_simp
          refine hK _ _ ?_ ?_ HW
          · simp [upd, e10]
          · exact rfl
        refine auto_op 89 [11, 10] (by kernel_rfl) (fun y w' HW hd K hK => ?_) ?_
        · have e10 := hd_nth (hd 10 (by simp)) rfl
          have e11 := hd_nth (hd 11 (by simp)) rfl
          go_simp
          refine hK _ _ ?_ ?_ HW
          · simp [upd, e10, e11]
          · exact rfl
        refine auto_op 90 [10, 12] (by kernel_rfl) (fun y w' HW hd K hK => ?_) ?_
        · have e10 := hd_nth (hd 10 (by simp)) rfl
          have e12 := hd_nth (hd 12 (by simp)) rfl
          go_simp
          refine hK _ _ ?_ ?_ HW
          · simp [upd, e10, e12]
          · exact rfl
        refine auto_op 91 [13, 10] (by kernel_rfl) (fun y w' HW hd K hK => ?_) ?_
        · have e10 := hd_nth (hd 10 (by simp)) rfl
          have e13 := hd_nth (hd 13 (by simp)) rfl
          go_simp
          refine hK _ _ ?_ ?_ HW
          · simp [upd, e10, e13]
          · exact rfl
        refine auto_op 92 [14] (by kernel_rfl) (fun y w' HW hd K hK => ?_) ?_
        · have e14 := hd_nth (hd 14 (by simp)) rfl
          go_simp
          refine hK _ _ ?_ ?_ HW
          · simp [upd, e14]
          · exact rfl
        refine auto_op 93 [15, 14] (by kernel_rfl) (fun y w' HW hd K hK => ?_) ?_
        · have e14 := hd_nth (hd 14 (by simp)) rfl
          have e15 := hd_nth (hd 15 (by simp)) rfl
          go_simp
          refine hK _ _ ?_ ?_ HW
          · simp [upd, e14, e15]
          · exact rfl
        refine auto_op 94 [14] (by kernel_rfl) (fun y w' HW hd K hK => ?_) ?_
        · have e14 := hd_nth (hd 14 (by simp)) rfl
          go_simp
          refine hK _ _ ?_ ?_ HW
          · simp [upd, e14]
          · exact rfl
        refine auto_op 95 [17, 14] (by kernel_rfl) (fun y w' HW hd K hK => ?_) ?_
        · have e14 := hd_nth (hd 14 (by simp)) rfl
          have e17 := hd_nth (hd 17 (by simp)) rfl
          go_simp
          refine hK _ _ ?_ ?_ HW
          · simp [upd, e14, e17]
          · exact rfl
        refine auto_op 96 [16, 18, 14] (by kernel_rfl) (fun y w' HW hd K hK => ?_) ?_
        · have e14 := hd_nth (hd 14 (by simp)) rfl
          have e16 := hd_nth (hd 16 (by simp)) rfl
          have e18 := hd_nth (hd 18 (by simp)) rfl
          go_simp
          refine hK _ _ ?_ ?_ HW
          · simp [upd, e14, e16, e18]
          · exact rfl
        refine auto_op 97 [14, 19] (by kernel_rfl) (fun y w' HW hd K hK => ?_) ?_
        · have e14 := hd_nth (hd 14 (by simp)) rfl
          have e19 := hd_nth (hd 19 (by simp)) rfl
          go_simp
          refine hK _ _ ?_ ?_ HW
          · simp [upd, e14, e19]
          · exact rfl
        refine auto_op 98 [20, 14] (by kernel_rfl) (fun y w' HW hd K hK => ?_) ?_
        · have e14 := hd_nth (hd 14 (by simp)) rfl
          have e20 := hd_nth (hd 20 (by simp)) rfl
          go_simp
          refine hK _ _ ?_ ?_ HW
          · simp [upd, e14, e20]
          · exact rfl
        refine auto_op 99 [21] (by kernel_rfl) (fun y w' HW hd K hK => ?_) ?_
        · have e21 := hd_nth (hd 21 (by simp)) rfl
          go_simp
          refine hK _ _ ?_ ?_ HW
          · simp [upd, e21]
          · exact rfl
        refine auto_op 100 [21] (by kernel_rfl) (fun y w' HW hd K hK => ?_) ?_
        · have e21 := hd_nth (hd 21 (by simp)) rfl
          go_simp
          refine hK _ _ ?_ ?_ HW
          · simp [upd, e21]
          · exact rfl
        refine auto_op 101 [22, 23, 21] (by kernel_rfl) (fun y w' HW hd K hK => ?_) ?_
        · have e21 := hd_nth (hd 21 (by simp)) rfl
          have e22 := hd_nth (hd 22 (by simp)) rfl
          have e23 := hd_nth (hd 23 (by simp)) rfl
          go_simp
          refine hK _ _ ?_ ?_ HW
          · simp [upd, e21, e22, e23]
          · exact rfl
        refine auto_op 102 [21] (by kernel_rfl) (fun y w' HW hd K hK => ?_) ?_
        · have e21 := hd_nth (hd 21 (by simp)) rfl
          go_simp
          refine hK _ _ ?_ ?_ HW
          · simp [upd, e21]
          · exact rfl
        refine auto_op 103 [21] (by kernel_rfl) (fun y w' HW hd K hK => ?_) ?_
        · have e21 := hd_nth (hd 21 (by simp)) rfl
          go_simp
          refine hK _ _ ?_ ?_ HW
          · simp [upd, e21]
          · exact rfl
        refine auto_op 104 [25, 26, 21] (by kernel_rfl) (fun y w' HW hd K hK => ?_) ?_
        · have e21 := hd_nth (hd 21 (by simp)) rfl
          have e25 := hd_nth (hd 25 (by simp)) rfl
          have e26 := hd_nth (hd 26 (by simp)) rfl
          go_simp
          refine hK _ _ ?_ ?_ HW
          · simp [upd, e21, e25, e26]
          · exact rfl
        refine auto_op 105 [24, 27, 21] (by kernel_rfl) (fun y w' HW hd K hK => ?_) ?_
        · have e21 := hd_nth (hd 21 (by simp)) rfl
          have e24 := hd_nth (hd 24 (by simp)) rfl
          have e27 := hd_nth (hd 27 (by simp)) rfl
          go_simp
          refine hK _ _ ?_ ?_ HW
          · simp [upd, e21, e24, e27]
          · exact rfl
        refine auto_op 106 [21, 28] (by kernel_rfl) (fun y w' HW hd K hK => ?_) ?_
        · have e21 := hd_nth (hd 21 (by simp)) rfl
          have e28 := hd_nth (hd 28 (by simp)) rfl
          go_simp
          refine hK _ _ ?_ ?_ HW
          · simp [upd, e21, e28]
          · exact rfl
        refine auto_op 107 [29, 21] (by kernel_rfl) (fun y w' HW hd K hK => ?_) ?_
        · have e21 := hd_nth (hd 21 (by simp)) rfl
          have e29 := hd_nth (hd 29 (by simp)) rfl
          go_simp
          refine hK _ _ ?_ ?_ HW
          · simp [upd, e21, e29]
          · exact rfl
        refine auto_op 108 [30] (by kernel_rfl) (fun y w' HW hd K hK => ?_) ?_
        · have e30 := hd_nth (hd 30 (by simp)) rfl
          go_simp
          refine hK _ _ ?_ ?_ HW
          · simp [upd, e30]
          · exact rfl
        refine auto_op 109 [30] (by kernel_rfl) (fun y w' HW hd K hK => ?_) ?_
        · have e30 := hd_nth (hd 30 (by simp)) rfl
          go_simp
          refine hK _ _ ?_ ?_ HW
          · simp [upd, e30]
          · exact rfl
        refine auto_op 110 [32, 30] (by kernel_rfl) (fun y w' HW hd K hK => ?_) ?_
        · have e30 := hd_nth (hd 30 (by simp)) rfl
          have e32 := hd_nth (hd 32 (by simp)) rfl
          go_simp
          refine hK _ _ ?_ ?_ HW
          · simp [upd, e30, e32]
          · exact rfl
        refine auto_op 111 [31, 33, 30] (by kernel_rfl) (fun y w' HW hd K hK => ?_) ?_
        · have e30 := hd_nth (hd 30 (by simp)) rfl
          have e31 := hd_nth (hd 31 (by simp)) rfl
          have e33 := hd_nth (hd 33 (by simp)) rfl
          go_simp
          refine hK _ _ ?_ ?_ HW
          · simp [upd, e30, e31, e33]
          · exact rfl
        refine auto_op 112 [30] (by kernel_rfl) (fun y w' HW hd K hK => ?_) ?_
        · have e30 := hd_nth (hd 30 (by simp)) rfl
          go_simp
          refine hK _ _ ?_ ?_ HW
          · simp [upd, e30]
          · exact rfl
        refine auto_op 113 [30] (by kernel_rfl) (fun y w' HW hd K hK => ?_) ?_
        · have e30 := hd_nth (hd 30 (by simp)) rfl
          go_simp
          refine hK _ _ ?_ ?_ HW
          · simp [upd, e30]
          · exact rfl
        refine auto_op 114 [36, 30] (by kernel_rfl) (fun y w' HW hd K hK => ?_) ?_
        · have e30 := hd_nth (hd 30 (by simp)) rfl
          have e36 := hd_nth (hd 36 (by simp)) rfl
          go_simp
          refine hK _ _ ?_ ?_ HW
          · simp [upd, e30, e36]
          · exact rfl
        refine auto_op 115 [35, 37, 30] (by kernel_rfl) (fun y w' HW hd K hK => ?_) ?_
        · have e30 := hd_nth (hd 30 (by simp)) rfl
          have e35 := hd_nth (hd 35 (by simp)) rfl
          have e37 := hd_nth (hd 37 (by simp)) rfl
          go_simp
          refine hK _ _ ?_ ?_ HW
          · simp [upd, e30, e35, e37]
          · exact rfl
        refine auto_op 116 [34, 38, 30] (by kernel_rfl) (fun y w' HW hd K hK => ?_) ?_
        · have e30 := hd_nth (hd 30 (by simp)) rfl
          have e34 := hd_nth (hd 34 (by simp)) rfl
          have e38 := hd_nth (hd 38 (by simp)) rfl
          go_simp
          refine hK _ _ ?_ ?_ HW
          · simp [upd, e30, e34, e38]
          · exact rfl
        refine auto_op 117 [30, 39] (by kernel_rfl) (fun y w' HW hd K hK => ?_) ?_
        · have e30 := hd_nth (hd 30 (by simp)) rfl
          have e39 := hd_nth (hd 39 (by simp)) rfl
          go_simp
          refine hK _ _ ?_ ?_ HW
          · simp [upd, e30, e39]
          · exact rfl
        refine auto_op 118 [40, 30] (by kernel_rfl) (fun y w' HW hd K hK => ?_) ?_
        · have e30 := hd_nth (hd 30 (by simp)) rfl
          have e40 := hd_nth (hd 40 (by simp)) rfl
          go_simp
          refine hK _ _ ?_ ?_ HW
          · simp [upd, e30, e40]
          · exact rfl
        refine auto_op 119 [41, 41] (by kernel_rfl) (fun y w' HW hd K hK => ?_) ?_
        · have e41 := hd_nth (hd 41 (by simp)) rfl
          go_simp
          refine (awake_any _).mono ?_
          rintro e w4 ⟨rfl, hb4⟩
          refine hK _ _ ?_ ?_ (HW.trans (hb4.mono HW.size))
          · simp [upd, e41]
          · exact rfl
        refine auto_op 120 [41, 42] (by kernel_rfl) (fun y w' HW hd K hK => ?_) ?_
        · have e41 := hd_nth (hd 41 (by simp)) rfl
          have e42 := hd_nth (hd 42 (by simp)) rfl
          go_simp
          refine hK _ _ ?_ ?_ HW
          · simp [upd, e41, e42]
          · exact rfl
        refine auto_last fun y w' HW hd K hK => ?_
        have e0 := hd_nth (hd 0 (by omega)) rfl
        have e1 := hd_nth (hd 1 (by omega)) rfl
        have e2 := hd_nth (hd 2 (by omega)) rfl
        have e3 := hd_nth (hd 3 (by omega)) rfl
        have e4 := hd_nth (hd 4 (by omega)) rfl
        have e5 := hd_nth (hd 5 (by omega)) rfl
        have e6 := hd_nth (hd 6 (by omega)) rfl
        have e7 := hd_nth (hd 7 (by omega)) rfl
        have e8 := hd_nth (hd 8 (by omega)) rfl
        have e9 := hd_nth (hd 9 (by omega)) rfl
        have e10 := hd_nth (hd 10 (by omega)) rfl
        have e11 := hd_nth (hd 11 (by omega)) rfl
        have e12 := hd_nth (hd 12 (by omega)) rfl
        have e13 := hd_nth (hd 13 (by omega)) rfl
        have e14 := hd_nth (hd 14 (by omega)) rfl
        have e15 := hd_nth (hd 15 (by omega)) rfl
        have e16 := hd_nth (hd 16 (by omega)) rfl
        have e17 := hd_nth (hd 17 (by omega)) rfl
        have e18 := hd_nth (hd 18 (by omega)) rfl
        have e19 := hd_nth (hd 19 (by omega)) rfl
        have e20 := hd_nth (hd 20 (by omega)) rfl
        have e21 := hd_nth (hd 21 (by omega)) rfl
        have e22 := hd_nth (hd 22 (by omega)) rfl
        have e23 := hd_nth (hd 23 (by omega)) rfl
        have e24 := hd_nth (hd 24 (by omega)) rfl
        have e25 := hd_nth (hd 25 (by omega)) rfl
        have e26 := hd_nth (hd 26 (by omega)) rfl
        have e27 := hd_nth (hd 27 (by omega)) rfl
        have e28 := hd_nth (hd 28 (by omega)) rfl
        have e29 := hd_nth (hd 29 (by omega)) rfl
        have e30 := hd_nth (hd 30 (by omega)) rfl
        have e31 := hd_nth (hd 31 (by omega)) rfl
        have e32 := hd_nth (hd 32 (by omega)) rfl
        have e33 := hd_nth (hd 33 (by omega)) rfl
        have e34 := hd_nth (hd 34 (by omega)) rfl
        have e35 := hd_nth (hd 35 (by omega)) rfl
        have e36 := hd_nth (hd 36 (by omega)) rfl
        have e37 := hd_nth (hd 37 (by omega)) rfl
        have e38 := hd_nth (hd 38 (by omega)) rfl
        have e39 := hd_nth (hd 39 (by omega)) rfl
        have e40 := hd_nth (hd 40 (by omega)) rfl
        have e41 := hd_nth (hd 41 (by omega)) rfl
        have e42 := hd_nth (hd 42 (by omega)) rfl
        have e43 := hd_nth (hd 43 (by omega)) rfl
        go_simp
        refine hK _ _ ?_
        clear hd hK K e0 e1 e2 e3 e4 e5 e6 e7 e8 e9 e10 e11 e12 e13 e14 e15 e16 e17 e18 e19 e20 e21 e22 e23 e24 e25 e26 e27 e28 e29 e30 e31 e32 e33 e34 e35 e36 e37 e38 e39 e40 e41 e42 e43
        go_wp2
        go_ret
        exact ⟨rfl, HB3.out.trans (HW.mono HB3.out.size)⟩
end Go.Proofs.Ytdckmbkgnlmphaa.Fr
