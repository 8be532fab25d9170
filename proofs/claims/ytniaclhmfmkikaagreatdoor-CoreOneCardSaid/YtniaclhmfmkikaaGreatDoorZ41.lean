/- Several texts in one: Sm -/
import Derived.Test.YtniaclhmfmkikaaGreatDoorZ40
import Derived.Test.YtniaclhmfmkikaaGreatDoorZ03
section
/- The walk of hermitagelaw13.CoreOne: what is not done. -/
namespace Go.Proofs.YtniaclhmfmkikaaGreatDoor.Ex
open Go.RowKit Ut
set_option maxRecDepth 100000
set_option linter.unusedVariables false
set_option maxHeartbeats 4000000

theorem one_form (al : Option Addr) (n cap : Nat) (zs : List Int) (pc : Int) (status : Nat) (o d a b m : Int) (hv : Is.validB o d a b m = false) (w : World) (hn : n ≤ 9223372036854775807) (hs : status < 4294967296) (hz : RowK .u32 w w.heap.size al n zs) (hzb : ∀ z ∈ zs, 0 ≤ z ∧ z < 4294967296) (hw : Is.HasT w) :
    Calls Tryz.prog 4 #[.slice al n cap, .int .u32 pc, .int .u32 (status : Int), Is.insV o d a b m] w fun e w' => e = .returned (.bool true) ∧ Below w.heap.size w w' := by
  obtain ⟨U, hU⟩ : ∃ U, U = Is.insW o d a b m w := ⟨_, rfl⟩
  have HU := Lib.hid hU
  have HI : Hid (Is.InsAt U w.heap.size o d a b m) := Lib.hid (hU ▸ Is.ins_at o d a b m w)
  have HB0 : Hid (Below w.heap.size w U) := Lib.hid (hU ▸ Is.ins_below o d a b m w)
  have HTU := Lib.hid (hw.more HB0.out)
  have HM := Lib.hid (made_any al n cap zs pc status U hn hs ((hz.below HB0.out).more HB0.out.size) HTU.out)
  have hR := ldR_ok hzb n
  have HLEN := Lib.hid (wordR_len hR)
  have HLQ : Hid ((qS status).length = 7) := Lib.hid rfl
  have HOK : Hid (Cs.Ok (qS status)) := Lib.hid (by
    have h1 : Cs.Ok [0, 64, 32, 0, 0, 4, 0] := ⟨rfl, by decide, by decide⟩
    have := Cs.wrR_ok h1 5 status hs
    rwa [qS_3] at this)
  generalize ldR zs n = R at HM hR HLEN
  generalize qS status = Q at HM HLQ HOK
  obtain ⟨dz, hdz⟩ : ∃ x, Is.wrZ o d a b m = x := ⟨_, rfl⟩
  obtain ⟨wb, hwb⟩ : ∃ x, Is.wrB o d a b m = x := ⟨_, rfl⟩
  have HWR : Hid (∀ V, Is.HasT V → Calls Tryz.prog 17 #[Is.insV o d a b m] V fun e w' => e = .returned (.tuple #[.int .i64 dz, .bool wb]) ∧ Below V.heap.size V w') := Lib.hid fun V hV => Is.writes_any o d a b m dz wb hdz hwb V hV
  obtain ⟨E, hE⟩ : ∃ E, zeroE = E := ⟨_, rfl⟩
  have HX : ∀ rb cb, Hid (∀ W, Fil W rb cb 2 pc R Q → Calls Tryz.prog 8 #[Is.insV o d a b m, .pointer (some ⟨rb, 0, none⟩), .pointer (some ⟨cb, 0, none⟩), .int .i64 3] W fun e w' => e = .returned (.tuple #[E.val, .int .i64 6]) ∧ Fil w' rb cb 2 pc R Q ∧ Kp [rb, cb] W w') := fun rb cb => by
    rw [← hE]
    exact exec_at hR 3 o d a b m (stayX zeroE R pc Q) 6 (by unfold exX; rw [hv, if_neg (by decide)]) (by unfold exZ; rw [hv, if_neg (by decide)])
  clear hE hdz hwb hv
  clear hU hz hzb hw hn hR hs HOK
  go_enter Tryz.func4, Tryz.ntmps4
  go_wp2_with fail
  rw [show w.alloc (.cells #[.int .i64 o, .int .i64 d, .int .i64 a, .int .i64 b, .int .i64 m] 37) = U from HU.out.symm]
  refine HM.out.mono ?_
  rintro e w1 ⟨rb, cb, ab, bb, rfl, hO⟩
  have HO1 := Lib.hid hO
  clear hO HM HU
  go_wp2_with fail
  refine (Rg.all_any rb pc R w1 HO1.out.f.reg).mono ?_
  rintro e v1 ⟨rfl, hb2⟩
  have HO := Lib.hid (HO1.out.below hb2)
  clear hb2 HO1
  go_simp
  rename_i hK
  refine hK _ _ ?_
  clear hK
  refine Great.wpList_allocTo rfl (some 13) rfl (.pointer (some ⟨v1.heap.size, 0, none⟩)) (.cells (Rg.wordsV Rg.zer).toArray 40) (Rg.run_new_words v1 _ _ rfl) ?_
  refine wpList_store_rowTo rfl 40 _ _ rfl rfl v1.heap.size (Rg.wordsV R).toArray (by kernel_rfl) (by kernel_rfl) 40 (Rg.wordsV Rg.zer).toArray (Blk.new v1 _ _) (size_old _ HLEN.out) (by simp [Rg.wordsV, HLEN.out, Rg.zer]) (one_old _) ?_
  obtain ⟨hb, hN⟩ := old_put v1 R HLEN.out
  generalize (v1.alloc (.cells (Rg.wordsV Rg.zer).toArray 40)).setRow v1.heap.size (Rg.wordsV R).toArray = w2 at hb hN ⊢
  have HN2 := Lib.hid hN
  have HO2 := Lib.hid (HO.out.below hb)
  have HNE : Hid (v1.heap.size ∉ [rb, cb]) := Lib.hid (by have := HO.out.f.lts; simp; omega)
  clear hb hN HO
  generalize v1.heap.size = ob at HN2 HNE ⊢
  go_wp2_with fail
  refine (Cs.all_any cb 2 Q w2 HO2.out.f.csr).mono ?_
  rintro e v2 ⟨rfl, hb2⟩
  have HO := Lib.hid (HO2.out.below hb2)
  have HN := Lib.hid (HN2.out.below hb2 HN2.out.lt)
  clear hb2 HO2 HN2
  go_simp
  rename_i hK
  refine hK _ _ ?_
  clear hK
  refine Great.wpList_allocTo rfl (some 14) rfl (.pointer (some ⟨v2.heap.size, 0, none⟩)) (.cells (Cs.wordsV Cs.zer).toArray 45) (Cs.run_new_words v2 _ _ rfl) ?_
  refine wpList_store_rowTo rfl 45 _ _ rfl rfl v2.heap.size (Cs.wordsV Q).toArray (by kernel_rfl) (by kernel_rfl) 45 (Cs.wordsV Cs.zer).toArray (Blk.new v2 _ _) (size_ker _ HLQ.out) (by simp [Cs.wordsV, HLQ.out, Cs.zer]) (one_ker _) ?_
  obtain ⟨hb, hN⟩ := ker_put v2 Q
  generalize (v2.alloc (.cells (Cs.wordsV Cs.zer).toArray 45)).setRow v2.heap.size (Cs.wordsV Q).toArray = w3 at hb hN ⊢
  have HQ3 := Lib.hid hN
  have HO3 := Lib.hid (HO.out.below hb)
  have HN3 := Lib.hid (HN.out.below hb HN.out.lt)
  have HNK : Hid (v2.heap.size ∉ [rb, cb]) := Lib.hid (by have := HO.out.f.lts; simp; omega)
  clear hb hN HO HN
  generalize v2.heap.size = kb at HQ3 HNK ⊢
  obtain ⟨r0, r1, r2, r3, r4⟩ := (HI.out.below HO3.out.b HI.out.lt).cells
  have hlt := (HI.out.below HO3.out.b HI.out.lt).lt
  go_wp2_with fail
  clear r0 r1 r2 r3 r4 hlt
  refine ((HX rb cb).out w3 HO3.out.f).mono ?_
  rintro e w4 ⟨rfl, hF, hk⟩
  have HO4 := Lib.hid (HO3.out.fexec hF hk)
  have HN4 := Lib.hid (Blk.kp HN3.out hk HNE.out)
  have HQ4 := Lib.hid (Blk.kp HQ3.out hk HNK.out)
  clear hF hk HO3 HN3 HQ3 HX
  go_simp
  rename_i hK
  refine hK _ _ ?_
  clear hK
  refine Great.wpList_readTo rfl _ rfl (.tuple #[Eff.val E, .int .i64 6]) (by kernel_rfl) ?_
  refine Great.wpList_readTo rfl _ rfl (Eff.val E) (by kernel_rfl) ?_
  refine Great.wpList_readTo rfl _ rfl (.int .i64 6) (by kernel_rfl) ?_
  refine Great.wpList_allocTo rfl (some 15) rfl (.pointer (some ⟨w4.heap.size, 0, none⟩)) (.cells zeroE.cs.toArray 32) ((eff_run w4).out _ _ rfl) ?_
  refine wpList_store_rowTo rfl 32 _ _ rfl rfl w4.heap.size (Eff.cs E).toArray (by kernel_rfl) (by kernel_rfl) 32 zeroE.cs.toArray (Blk.new w4 _ _) (size_eff _) (rfl) (one_eff _) ?_
  obtain ⟨hb, hN⟩ := eff_put w4 E
  generalize (w4.alloc (.cells zeroE.cs.toArray 32)).setRow w4.heap.size (Eff.cs E).toArray = w5 at hb hN ⊢
  have HE5 := Lib.hid hN
  have HO5 := Lib.hid (HO4.out.below hb)
  have HN5 := Lib.hid (HN4.out.below hb HN4.out.lt)
  have HQ5 := Lib.hid (HQ4.out.below hb HQ4.out.lt)
  clear hb hN HO4 HN4 HQ4
  generalize w4.heap.size = eb at HE5 ⊢
  go_wp2_with fail
  refine (Rg.all_any rb pc R w5 HO5.out.f.reg).mono ?_
  rintro e w6 ⟨rfl, hb⟩
  have HO6 := Lib.hid (HO5.out.below hb)
  have HN6 := Lib.hid (HN5.out.below hb HN5.out.lt)
  have HQ6 := Lib.hid (HQ5.out.below hb HQ5.out.lt)
  have HE6 := Lib.hid (HE5.out.below hb HE5.out.lt)
  clear hb HO5 HN5 HQ5 HE5
  go_simp
  rename_i hK
  refine hK _ _ ?_
  clear hK
  refine Great.wpList_allocTo rfl (some 17) rfl (.pointer (some ⟨w6.heap.size, 0, none⟩)) (.cells (Rg.wordsV Rg.zer).toArray 40) (Rg.run_new_words w6 _ _ rfl) ?_
  refine wpList_store_rowTo rfl 40 _ _ rfl rfl w6.heap.size (Rg.wordsV R).toArray (by kernel_rfl) (by kernel_rfl) 40 (Rg.wordsV Rg.zer).toArray (Blk.new w6 _ _) (size_old _ HLEN.out) (by simp [Rg.wordsV, HLEN.out, Rg.zer]) (one_old _) ?_
  obtain ⟨hb, hN⟩ := old_put w6 R HLEN.out
  generalize (w6.alloc (.cells (Rg.wordsV Rg.zer).toArray 40)).setRow w6.heap.size (Rg.wordsV R).toArray = w7 at hb hN ⊢
  have HW7 := Lib.hid hN
  have HO7 := Lib.hid (HO6.out.below hb)
  have HN7 := Lib.hid (HN6.out.below hb HN6.out.lt)
  have HQ7 := Lib.hid (HQ6.out.below hb HQ6.out.lt)
  have HE7 := Lib.hid (HE6.out.below hb HE6.out.lt)
  clear hb hN HO6 HN6 HQ6 HE6
  generalize w6.heap.size = nb at HW7 ⊢
  obtain ⟨r0, r1, r2, r3, r4⟩ := (HI.out.below HO7.out.b HI.out.lt).cells
  have hlt := (HI.out.below HO7.out.b HI.out.lt).lt
  go_wp2_with fail
  clear r0 r1 r2 r3 r4 hlt
  refine (HWR.out w7 HO7.out.f.tab).mono ?_
  rintro e W ⟨rfl, hb⟩
  have HO := Lib.hid (HO7.out.below hb)
  have HN := Lib.hid (HN7.out.below hb HN7.out.lt)
  have HQ := Lib.hid (HQ7.out.below hb HQ7.out.lt)
  have HE := Lib.hid (HE7.out.below hb HE7.out.lt)
  have HW0 := Lib.hid (HW7.out.below hb HW7.out.lt)
  clear hb HO7 HN7 HQ7 HE7 HW7 HWR
  go_wp2
  go_loopw [20] (fun j wr => ∃ n : Nat, n ≤ 16 ∧ j = .int .i64 n ∧ Hid (Below W.heap.size W wr)) (fun j _ => 16 - (intOf j).toNat)
  case atStart => exact ⟨0, Nat.zero_le _, rfl, Lib.hid (Below.refl _ _)⟩
  case round =>
    obtain ⟨n, hn, rfl, HV⟩ := hrel
    by_cases hn16 : n < 16
    · have f4 : (n : Int) < 16 := by omega
      have H16 := Lib.hid hn16
      have c1 := old_cell (HW0.out.below HV.out HW0.out.lt) HLEN.out n hn16 _ rfl
      have c2 := old_cell (HN.out.below HV.out HN.out.lt) HLEN.out n hn16 _ rfl
      have c3 : wr.cell? ⟨eb, 0, none⟩ = some (.int .i64 E.k) := (HE.out.below HV.out HE.out.lt).cell rfl
      have b1 := (HW0.out.below HV.out HW0.out.lt).lt
      have b2 := (HN.out.below HV.out HN.out.lt).lt
      have b3 := (HE.out.below HV.out HE.out.lt).lt
      generalize Rg.getR R (n : Int) = xx at c1 c2
      generalize E.k = kk at c3
      clear hn hn16
      go_upto_region 12 with fail
      apply wp_region_auto [54, 55, 56, 57, 58, 59, 60, 61, 62, 63, 64, 65, 66, 67, 68, 69, 70, 71, 72, 73] [_, _, _, _, _, _, _, _, _, _, _, _, _, _, _, _, _, _, _, _] (fun W' => Below wr.heap.size wr W')
      case hm => kernel_rfl
      case hT => intro y; simp only [setAll, List.setIfInBounds_toArray, List.set_cons_succ, List.set_cons_zero]; exact rfl
      case hok => kernel_rfl
      case hn => decide
      case hw => exact (Below.refl _ _).drew
      case hs =>
        refine auto_op 54 [] (by kernel_rfl) (fun y w' HW hd K hK => ?_) ?_
        · go_simp
          refine hK _ _ ?_ ?_ HW
          · simp [upd]
          · exact rfl
        refine auto_op 55 [0] (by kernel_rfl) (fun y w' HW hd K hK => ?_) ?_
        · have e0 := hd_nth (hd 0 (by simp)) rfl
          go_simp
          refine hK _ _ ?_ ?_ HW
          · simp [upd, e0]
          · exact rfl
        refine auto_op 56 [1] (by kernel_rfl) (fun y w' HW hd K hK => ?_) ?_
        · have e1 := hd_nth (hd 1 (by simp)) rfl
          have hcl : ∀ p : Addr, p.block < wr.heap.size → w'.cell? p = wr.cell? p := fun p hp => HW.cell hp
          go_simp
          refine hK _ _ ?_ ?_ HW
          · simp [upd, e1]
          · exact rfl
        refine auto_op 57 [] (by kernel_rfl) (fun y w' HW hd K hK => ?_) ?_
        · go_simp
          refine hK _ _ ?_ ?_ HW
          · simp [upd]
          · exact rfl
        refine auto_op 58 [3] (by kernel_rfl) (fun y w' HW hd K hK => ?_) ?_
        · have e3 := hd_nth (hd 3 (by simp)) rfl
          go_simp
          refine hK _ _ ?_ ?_ HW
          · simp [upd, e3]
          · exact rfl
        refine auto_op 59 [4] (by kernel_rfl) (fun y w' HW hd K hK => ?_) ?_
        · have e4 := hd_nth (hd 4 (by simp)) rfl
          have hcl : ∀ p : Addr, p.block < wr.heap.size → w'.cell? p = wr.cell? p := fun p hp => HW.cell hp
          go_simp
          refine hK _ _ ?_ ?_ HW
          · simp [upd, e4]
          · exact rfl
        refine auto_op 60 [2, 5] (by kernel_rfl) (fun y w' HW hd K hK => ?_) ?_
        · have e2 := hd_nth (hd 2 (by simp)) rfl
          have e5 := hd_nth (hd 5 (by simp)) rfl
          go_simp
          refine hK _ _ ?_ ?_ HW
          · simp [upd, e2, e5]
          · exact rfl
        refine auto_op 61 [6] (by kernel_rfl) (fun y w' HW hd K hK => ?_) ?_
        · have e6 := hd_nth (hd 6 (by simp)) rfl
          go_simp
          refine hK _ _ ?_ ?_ HW
          · simp [upd, e6]
          · exact rfl
        refine auto_op 62 [7] (by kernel_rfl) (fun y w' HW hd K hK => ?_) ?_
        · have e7 := hd_nth (hd 7 (by simp)) rfl
          go_simp
          refine hK _ _ ?_ ?_ HW
          · simp [upd, e7]
          · exact rfl
        refine auto_op 63 [8, 7] (by kernel_rfl) (fun y w' HW hd K hK => ?_) ?_
        · have e7 := hd_nth (hd 7 (by simp)) rfl
          have e8 := hd_nth (hd 8 (by simp)) rfl
          go_simp
          refine hK _ _ ?_ ?_ HW
          · simp [upd, e7, e8]
          · exact rfl
        refine auto_op 64 [9, 7, 7] (by kernel_rfl) (fun y w' HW hd K hK => ?_) ?_
        · have e7 := hd_nth (hd 7 (by simp)) rfl
          have e9 := hd_nth (hd 9 (by simp)) rfl
          go_simp
          refine hK _ _ ?_ ?_ HW
          · simp [upd, e7, e9]
          · exact rfl
        refine auto_op 65 [10] (by kernel_rfl) (fun y w' HW hd K hK => ?_) ?_
        · have e10 := hd_nth (hd 10 (by simp)) rfl
          go_simp
          refine hK _ _ ?_ ?_ HW
          · simp [upd, e10]
          · exact rfl
        refine auto_op 66 [10] (by kernel_rfl) (fun y w' HW hd K hK => ?_) ?_
        · have e10 := hd_nth (hd 10 (by simp)) rfl
          go_simp
          refine hK _ _ ?_ ?_ HW
          · simp [upd, e10]
          · exact rfl
        refine auto_op 67 [11, 12, 10] (by kernel_rfl) (fun y w' HW hd K hK => ?_) ?_
        · have e10 := hd_nth (hd 10 (by simp)) rfl
          have e11 := hd_nth (hd 11 (by simp)) rfl
          have e12 := hd_nth (hd 12 (by simp)) rfl
          go_simp
          refine hK _ _ ?_ ?_ HW
          · simp [upd, e10, e11, e12]
          · exact rfl
        refine auto_op 68 [10, 13, 7] (by kernel_rfl) (fun y w' HW hd K hK => ?_) ?_
        · have e7 := hd_nth (hd 7 (by simp)) rfl
          have e10 := hd_nth (hd 10 (by simp)) rfl
          have e13 := hd_nth (hd 13 (by simp)) rfl
          go_simp
          refine hK _ _ ?_ ?_ HW
          · simp [upd, e7, e10, e13]
          · exact rfl
        refine auto_op 69 [14, 10, 7] (by kernel_rfl) (fun y w' HW hd K hK => ?_) ?_
        · have e7 := hd_nth (hd 7 (by simp)) rfl
          have e10 := hd_nth (hd 10 (by simp)) rfl
          have e14 := hd_nth (hd 14 (by simp)) rfl
          go_simp
          refine hK _ _ ?_ ?_ HW
          · simp [upd, e7, e10, e14]
          · exact rfl
        refine auto_op 70 [15] (by kernel_rfl) (fun y w' HW hd K hK => ?_) ?_
        · have e15 := hd_nth (hd 15 (by simp)) rfl
          go_simp
          refine hK _ _ ?_ ?_ HW
          · simp [upd, e15]
          · exact rfl
        refine auto_op 71 [16, 15] (by kernel_rfl) (fun y w' HW hd K hK => ?_) ?_
        · have e15 := hd_nth (hd 15 (by simp)) rfl
          have e16 := hd_nth (hd 16 (by simp)) rfl
          have hcl : ∀ p : Addr, p.block < wr.heap.size → w'.cell? p = wr.cell? p := fun p hp => HW.cell hp
          go_simp
          refine hK _ _ ?_ ?_ HW
          · simp [upd, e15, e16]
          · exact rfl
        refine auto_op 72 [17, 15] (by kernel_rfl) (fun y w' HW hd K hK => ?_) ?_
        · have e15 := hd_nth (hd 15 (by simp)) rfl
          have e17 := hd_nth (hd 17 (by simp)) rfl
          go_simp
          refine hK _ _ ?_ ?_ HW
          · simp [upd, e15, e17]
          · exact rfl
        refine auto_op 73 [15, 18, 7] (by kernel_rfl) (fun y w' HW hd K hK => ?_) ?_
        · have e7 := hd_nth (hd 7 (by simp)) rfl
          have e15 := hd_nth (hd 15 (by simp)) rfl
          have e18 := hd_nth (hd 18 (by simp)) rfl
          go_simp
          refine hK _ _ ?_ ?_ HW
          · simp [upd, e7, e15, e18]
          · exact rfl
        refine auto_last fun y w' HW hd K hK => ?_
        have e0 := hd_nth (hd 0 (by omega)) rfl
        have e1 := hd_nth (hd 1 (by omega)) rfl
        have e2 := hd_nth (hd 2 (by omega)) rfl
        have e3 := hd_nth (hd 3 (by omega)) rfl
        have e4 := hd_nth (hd 4 (by omega)) rfl
        have e5 := hd_nth (hd 5 (by omega)) rfl
        have e6 := hd_nth (hd 6 (by omega)) rfl
        have e7 := hd_nth (hd 7 (by omega)) rfl
        have e8 := hd_nth (hd 8 (by omega)) rfl
        have e9 := hd_nth (hd 9 (by omega)) rfl
        have e10 := hd_nth (hd 10 (by omega)) rfl
        have e11 := hd_nth (hd 11 (by omega)) rfl
        have e12 := hd_nth (hd 12 (by omega)) rfl
        have e13 := hd_nth (hd 13 (by omega)) rfl
        have e14 := hd_nth (hd 14 (by omega)) rfl
        have e15 := hd_nth (hd 15 (by omega)) rfl
        have e16 := hd_nth (hd 16 (by omega)) rfl
        have e17 := hd_nth (hd 17 (by omega)) rfl
        have e18 := hd_nth (hd 18 (by omega)) rfl
        have e19 := hd_nth (hd 19 (by omega)) rfl
        go_simp
        refine hK _ _ ?_
        clear hd hK K e0 e1 e2 e3 e4 e5 e6 e7 e8 e9 e10 e11 e12 e13 e14 e15 e16 e17 e18 e19
        go_wp2
        go_roundw
        case rel => exact ⟨n + 1, H16.out, by go_num, Lib.hid (HV.out.trans (HW.mono HV.out.size))⟩
        case measure => have := H16.out; simp [intOf]; omega
    · have f4 : ¬ (n : Int) < 16 := by omega
      clear hn hn16
      have HO1 := Lib.hid (HO.out.below HV.out)
      have HQ1 := Lib.hid (HQ.out.below HV.out HQ.out.lt)
      have HE1 := Lib.hid (HE.out.below HV.out HE.out.lt)
      clear HO HQ HE HN HW0 HV
      go_upto_region 14 with fail
      have HAL : Hid (∀ V, Cs.FAt V cb 2 Q → Calls Tryz.prog 12 #[.pointer (some ⟨cb, 0, none⟩)] V fun e w' => e = .returned (Cs.arrV Q) ∧ Below V.heap.size V w') := Lib.hid fun V hV => Cs.all_any cb 2 Q V hV
      have HLD : Hid (∀ (V : World) (ρ : Operand → Value) (oo : Oper), Blk V kb 45 (Cs.wordsV Q) → oo.op = .load 45 (.tmp 14) → ρ (.tmp 14) = .pointer (some ⟨kb, 0, none⟩) → (execOp ρ oo).run Tryz.prog V = .ok (.value (Cs.arrV Q)) V) := Lib.hid fun V ρ oo hV ho hx => exec_load_blk hV 0 45 _ ho hx (Cs.wordsV Q) (fun j v h => by rw [Nat.zero_add]; exact h) _ Tryz.underlying45 rfl (Cs.size_words Q HLQ.out)
      have HPC : Hid (∀ V, Rg.FAt V rb pc R → Calls Tryz.prog 11 #[.pointer (some ⟨rb, 0, none⟩)] V fun e w' => e = .returned (.int .u32 pc) ∧ V = w') := Lib.hid fun V hV => Rg.pc_any rb pc R V hV
      have hge : ∀ (x y : Operand) (V : World), (eqGuard .eql 45 x y (Cs.arrV Q) (Cs.arrV Q)).run Tryz.prog V = .ok () V := fun x y V => Cs.guard_words _ x y _ _ V
      have hgn : ∀ (x y : Operand) (V : World), (eqGuard .neq 45 x y (Cs.arrV Q) (Cs.arrV Q)).run Tryz.prog V = .ok () V := fun x y V => Cs.guard_words _ x y _ _ V
      have hqn : ∀ V : World, (binOp .neq 45 (Cs.arrV Q) (Cs.arrV Q)).run Tryz.prog V = .ok (.bool false) V := fun V => Cs.bin_neq Q HLQ.out V
      have hqe : ∀ V : World, (binOp .eql 45 (Cs.arrV Q) (Cs.arrV Q)).run Tryz.prog V = .ok (.bool true) V := fun V => Cs.bin_eql Q HLQ.out V
      generalize Cs.arrV Q = A7 at HAL HLD hge hgn hqn hqe
      have hleb := HE1.out.lt
      apply wp_region_auto [75, 76, 77, 78, 79, 80, 81, 82, 83, 84, 85, 86, 87, 88, 89, 90, 91, 92, 93, 94, 95, 96, 97, 98, 99, 100, 101, 102, 103, 104, 105, 106, 107, 108] [_, _, _, _, _, _, _, _, _, _, _, _, _, _, _, _, _, _, _, _, _, _, _, _, _, _, _, _, _, _, _, _, _, _] (fun W' => Below wr.heap.size wr W')
      case hm => kernel_rfl
      case hT => intro y; simp only [setAll, List.setIfInBounds_toArray, List.set_cons_succ, List.set_cons_zero]; exact rfl
      case hok => kernel_rfl
      case hn => decide
      case hw => exact (Below.refl _ _).drew
      case hs =>
        refine auto_op 75 [] (by kernel_rfl) (fun y w' HW hd K hK => ?_) ?_
        · go_simp
          refine hK _ _ ?_ ?_ HW
          · simp [upd]
          · exact rfl
        refine auto_op 76 [0] (by kernel_rfl) (fun y w' HW hd K hK => ?_) ?_
        · have e0 := hd_nth (hd 0 (by simp)) rfl
          go_simp
          refine hK _ _ ?_ ?_ HW
          · simp [upd, e0]
          · exact rfl
        refine auto_op 77 [1] (by kernel_rfl) (fun y w' HW hd K hK => ?_) ?_
        · have e1 := hd_nth (hd 1 (by simp)) rfl
          go_simp
          refine hK _ _ ?_ ?_ HW
          · simp [upd, e1]
          · exact rfl
        refine auto_op 78 [2] (by kernel_rfl) (fun y w' HW hd K hK => ?_) ?_
        · have e2 := hd_nth (hd 2 (by simp)) rfl
          go_simp
          refine hK _ _ ?_ ?_ HW
          · simp [upd, e2]
          · exact rfl
        refine auto_op 79 [3, 2] (by kernel_rfl) (fun y w' HW hd K hK => ?_) ?_
        · have e2 := hd_nth (hd 2 (by simp)) rfl
          have e3 := hd_nth (hd 3 (by simp)) rfl
          have hcl : ∀ p : Addr, p.block < wr.heap.size → w'.cell? p = wr.cell? p := fun p hp => HW.cell hp
          go_simp
          refine hK _ _ ?_ ?_ HW
          · simp [upd, e2, e3]
          · exact rfl
        refine auto_op 80 [4, 2] (by kernel_rfl) (fun y w' HW hd K hK => ?_) ?_
        · have e2 := hd_nth (hd 2 (by simp)) rfl
          have e4 := hd_nth (hd 4 (by simp)) rfl
          go_simp
          refine hK _ _ ?_ ?_ HW
          · simp [upd, e2, e4]
          · exact rfl
        refine auto_op 81 [2, 5] (by kernel_rfl) (fun y w' HW hd K hK => ?_) ?_
        · have e2 := hd_nth (hd 2 (by simp)) rfl
          have e5 := hd_nth (hd 5 (by simp)) rfl
          go_simp
          refine hK _ _ ?_ ?_ HW
          · simp [upd, e2, e5]
          · exact rfl
        refine auto_op 82 [6, 2] (by kernel_rfl) (fun y w' HW hd K hK => ?_) ?_
        · have e2 := hd_nth (hd 2 (by simp)) rfl
          have e6 := hd_nth (hd 6 (by simp)) rfl
          go_simp
          refine hK _ _ ?_ ?_ HW
          · simp [upd, e2, e6]
          · exact rfl
        refine auto_op 83 [7] (by kernel_rfl) (fun y w' HW hd K hK => ?_) ?_
        · have e7 := hd_nth (hd 7 (by simp)) rfl
          go_simp
          refine hK _ _ ?_ ?_ HW
          · simp [upd, e7]
          · exact rfl
        refine auto_op 84 [8, 7, 7] (by kernel_rfl) (fun y w' HW hd K hK => ?_) ?_
        · have e7 := hd_nth (hd 7 (by simp)) rfl
          have e8 := hd_nth (hd 8 (by simp)) rfl
          go_simp
          refine (HPC.out _ (HO1.out.f.reg.below HW HO1.out.f.reg.1.lt)).mono ?_
          rintro e w3 ⟨rfl, rfl⟩
          refine hK _ _ ?_ ?_ HW
          · simp [upd, e7, e8]
          · exact rfl
        refine auto_op 85 [7] (by kernel_rfl) (fun y w' HW hd K hK => ?_) ?_
        · have e7 := hd_nth (hd 7 (by simp)) rfl
          go_simp
          refine hK _ _ ?_ ?_ HW
          · simp [upd, e7]
          · exact rfl
        refine auto_op 86 [9, 10, 7] (by kernel_rfl) (fun y w' HW hd K hK => ?_) ?_
        · have e7 := hd_nth (hd 7 (by simp)) rfl
          have e9 := hd_nth (hd 9 (by simp)) rfl
          have e10 := hd_nth (hd 10 (by simp)) rfl
          go_simp
          refine hK _ _ ?_ ?_ HW
          · simp [upd, e7, e9, e10]
          · exact rfl
        refine auto_op 87 [11, 9, 7] (by kernel_rfl) (fun y w' HW hd K hK => ?_) ?_
        · have e7 := hd_nth (hd 7 (by simp)) rfl
          have e9 := hd_nth (hd 9 (by simp)) rfl
          have e11 := hd_nth (hd 11 (by simp)) rfl
          go_simp
          refine hK _ _ ?_ ?_ HW
          · simp [upd, e7, e9, e11]
          · exact rfl
        refine auto_op 88 [12] (by kernel_rfl) (fun y w' HW hd K hK => ?_) ?_
        · have e12 := hd_nth (hd 12 (by simp)) rfl
          go_simp
          refine hK _ _ ?_ ?_ HW
          · simp [upd, e12]
          · exact rfl
        refine auto_op 89 [13, 12, 12] (by kernel_rfl) (fun y w' HW hd K hK => ?_) ?_
        · have e12 := hd_nth (hd 12 (by simp)) rfl
          have e13 := hd_nth (hd 13 (by simp)) rfl
          go_simp
          refine (HAL.out _ (HO1.out.f.csr.below HW HO1.out.f.csr.1.lt)).mono ?_
          rintro e w3 ⟨rfl, hb3⟩
          refine hK _ _ ?_ ?_ (HW.trans (hb3.mono HW.size))
          · simp [upd, e12, e13]
          · exact rfl
        refine auto_op 90 [12] (by kernel_rfl) (fun y w' HW hd K hK => ?_) ?_
        · have e12 := hd_nth (hd 12 (by simp)) rfl
          have hcl : ∀ p : Addr, p.block < wr.heap.size → w'.cell? p = wr.cell? p := fun p hp => HW.cell hp
          refine step_val (a := ⟨_, _⟩) ?_ A7 ?_ ?_
          · go_simp
          · exact HLD.out _ _ _ (HQ1.out.below HW HQ1.out.lt) rfl rfl
          refine hK _ _ ?_ ?_ HW
          · simp [upd, e12]
          · exact rfl
        refine auto_op 91 [14, 15, 12] (by kernel_rfl) (fun y w' HW hd K hK => ?_) ?_
        · have e12 := hd_nth (hd 12 (by simp)) rfl
          have e14 := hd_nth (hd 14 (by simp)) rfl
          have e15 := hd_nth (hd 15 (by simp)) rfl
          go_simp
          refine hK _ _ ?_ ?_ HW
          · simp [upd, e12, e14, e15]
          · exact rfl
        refine auto_op 92 [12, 16, 7] (by kernel_rfl) (fun y w' HW hd K hK => ?_) ?_
        · have e7 := hd_nth (hd 7 (by simp)) rfl
          have e12 := hd_nth (hd 12 (by simp)) rfl
          have e16 := hd_nth (hd 16 (by simp)) rfl
          go_simp
          refine hK _ _ ?_ ?_ HW
          · simp [upd, e7, e12, e16]
          · exact rfl
        refine auto_op 93 [7, 17] (by kernel_rfl) (fun y w' HW hd K hK => ?_) ?_
        · have e7 := hd_nth (hd 7 (by simp)) rfl
          have e17 := hd_nth (hd 17 (by simp)) rfl
          go_simp
          refine hK _ _ ?_ ?_ HW
          · simp [upd, e7, e17]
          · exact rfl
        refine auto_op 94 [18, 14] (by kernel_rfl) (fun y w' HW hd K hK => ?_) ?_
        · have e14 := hd_nth (hd 14 (by simp)) rfl
          have e18 := hd_nth (hd 18 (by simp)) rfl
          go_simp
          refine hK _ _ ?_ ?_ HW
          · simp [upd, e14, e18]
          · exact rfl
        refine auto_op 95 [19] (by kernel_rfl) (fun y w' HW hd K hK => ?_) ?_
        · have e19 := hd_nth (hd 19 (by simp)) rfl
          go_simp
          refine hK _ _ ?_ ?_ HW
          · simp [upd, e19]
          · exact rfl
        refine auto_op 96 [20, 19] (by kernel_rfl) (fun y w' HW hd K hK => ?_) ?_
        · have e19 := hd_nth (hd 19 (by simp)) rfl
          have e20 := hd_nth (hd 20 (by simp)) rfl
          go_simp
          refine hK _ _ ?_ ?_ HW
          · simp [upd, e19, e20]
          · exact rfl
        refine auto_op 97 [21, 19, 19] (by kernel_rfl) (fun y w' HW hd K hK => ?_) ?_
        · have e19 := hd_nth (hd 19 (by simp)) rfl
          have e21 := hd_nth (hd 21 (by simp)) rfl
          go_simp
          refine hK _ _ ?_ ?_ HW
          · simp [upd, e19, e21]
          · exact rfl
        refine auto_op 98 [22] (by kernel_rfl) (fun y w' HW hd K hK => ?_) ?_
        · have e22 := hd_nth (hd 22 (by simp)) rfl
          go_simp
          refine hK _ _ ?_ ?_ HW
          · simp [upd, e22]
          · exact rfl
        refine auto_op 99 [23, 22] (by kernel_rfl) (fun y w' HW hd K hK => ?_) ?_
        · have e22 := hd_nth (hd 22 (by simp)) rfl
          have e23 := hd_nth (hd 23 (by simp)) rfl
          have hcl : ∀ p : Addr, p.block < wr.heap.size → w'.cell? p = wr.cell? p := fun p hp => HW.cell hp
          go_simp
          refine hK _ _ ?_ ?_ HW
          · simp [upd, e22, e23]
          · exact rfl
        refine auto_op 100 [24, 22] (by kernel_rfl) (fun y w' HW hd K hK => ?_) ?_
        · have e22 := hd_nth (hd 22 (by simp)) rfl
          have e24 := hd_nth (hd 24 (by simp)) rfl
          go_simp
          refine hK _ _ ?_ ?_ HW
          · simp [upd, e22, e24]
          · exact rfl
        refine auto_op 101 [22, 25, 19] (by kernel_rfl) (fun y w' HW hd K hK => ?_) ?_
        · have e19 := hd_nth (hd 19 (by simp)) rfl
          have e22 := hd_nth (hd 22 (by simp)) rfl
          have e25 := hd_nth (hd 25 (by simp)) rfl
          go_simp
          refine hK _ _ ?_ ?_ HW
          · simp [upd, e19, e22, e25]
          · exact rfl
        refine auto_op 102 [26, 22, 19] (by kernel_rfl) (fun y w' HW hd K hK => ?_) ?_
        · have e19 := hd_nth (hd 19 (by simp)) rfl
          have e22 := hd_nth (hd 22 (by simp)) rfl
          have e26 := hd_nth (hd 26 (by simp)) rfl
          go_simp
          refine hK _ _ ?_ ?_ HW
          · simp [upd, e19, e22, e26]
          · exact rfl
        refine auto_op 103 [27] (by kernel_rfl) (fun y w' HW hd K hK => ?_) ?_
        · have e27 := hd_nth (hd 27 (by simp)) rfl
          go_simp
          refine hK _ _ ?_ ?_ HW
          · simp [upd, e27]
          · exact rfl
        refine auto_op 104 [28, 27, 27] (by kernel_rfl) (fun y w' HW hd K hK => ?_) ?_
        · have e27 := hd_nth (hd 27 (by simp)) rfl
          have e28 := hd_nth (hd 28 (by simp)) rfl
          go_simp
          refine hK _ _ ?_ ?_ HW
          · simp [upd, e27, e28]
          · exact rfl
        refine auto_op 105 [27] (by kernel_rfl) (fun y w' HW hd K hK => ?_) ?_
        · have e27 := hd_nth (hd 27 (by simp)) rfl
          go_simp
          refine hK _ _ ?_ ?_ HW
          · simp [upd, e27]
          · exact rfl
        refine auto_op 106 [30, 27] (by kernel_rfl) (fun y w' HW hd K hK => ?_) ?_
        · have e27 := hd_nth (hd 27 (by simp)) rfl
          have e30 := hd_nth (hd 30 (by simp)) rfl
          have hcl : ∀ p : Addr, p.block < wr.heap.size → w'.cell? p = wr.cell? p := fun p hp => HW.cell hp
          go_simp
          refine hK _ _ ?_ ?_ HW
          · simp [upd, e27, e30]
          · exact rfl
        refine auto_op 107 [29, 31, 27] (by kernel_rfl) (fun y w' HW hd K hK => ?_) ?_
        · have e27 := hd_nth (hd 27 (by simp)) rfl
          have e29 := hd_nth (hd 29 (by simp)) rfl
          have e31 := hd_nth (hd 31 (by simp)) rfl
          go_simp
          refine hK _ _ ?_ ?_ HW
          · simp [upd, e27, e29, e31]
          · exact rfl
        refine auto_op 108 [27, 32, 19] (by kernel_rfl) (fun y w' HW hd K hK => ?_) ?_
        · have e19 := hd_nth (hd 19 (by simp)) rfl
          have e27 := hd_nth (hd 27 (by simp)) rfl
          have e32 := hd_nth (hd 32 (by simp)) rfl
          go_simp
          refine hK _ _ ?_ ?_ HW
          · simp [upd, e19, e27, e32]
          · exact rfl
        refine auto_last fun y w' HW hd K hK => ?_
        have e0 := hd_nth (hd 0 (by omega)) rfl
        have e1 := hd_nth (hd 1 (by omega)) rfl
        have e2 := hd_nth (hd 2 (by omega)) rfl
        have e3 := hd_nth (hd 3 (by omega)) rfl
        have e4 := hd_nth (hd 4 (by omega)) rfl
        have e5 := hd_nth (hd 5 (by omega)) rfl
        have e6 := hd_nth (hd 6 (by omega)) rfl
        have e7 := hd_nth (hd 7 (by omega)) rfl
        have e8 := hd_nth (hd 8 (by omega)) rfl
        have e9 := hd_nth (hd 9 (by omega)) rfl
        have e10 := hd_nth (hd 10 (by omega)) rfl
        have e11 := hd_nth (hd 11 (by omega)) rfl
        have e12 := hd_nth (hd 12 (by omega)) rfl
        have e13 := hd_nth (hd 13 (by omega)) rfl
        have e14 := hd_nth (hd 14 (by omega)) rfl
        have e15 := hd_nth (hd 15 (by omega)) rfl
        have e16 := hd_nth (hd 16 (by omega)) rfl
        have e17 := hd_nth (hd 17 (by omega)) rfl
        have e18 := hd_nth (hd 18 (by omega)) rfl
        have e19 := hd_nth (hd 19 (by omega)) rfl
        have e20 := hd_nth (hd 20 (by omega)) rfl
        have e21 := hd_nth (hd 21 (by omega)) rfl
        have e22 := hd_nth (hd 22 (by omega)) rfl
        have e23 := hd_nth (hd 23 (by omega)) rfl
        have e24 := hd_nth (hd 24 (by omega)) rfl
        have e25 := hd_nth (hd 25 (by omega)) rfl
        have e26 := hd_nth (hd 26 (by omega)) rfl
        have e27 := hd_nth (hd 27 (by omega)) rfl
        have e28 := hd_nth (hd 28 (by omega)) rfl
        have e29 := hd_nth (hd 29 (by omega)) rfl
        have e30 := hd_nth (hd 30 (by omega)) rfl
        have e31 := hd_nth (hd 31 (by omega)) rfl
        have e32 := hd_nth (hd 32 (by omega)) rfl
        have e33 := hd_nth (hd 33 (by omega)) rfl
        go_simp
        refine hK _ _ ?_
        clear hd hK K e0 e1 e2 e3 e4 e5 e6 e7 e8 e9 e10 e11 e12 e13 e14 e15 e16 e17 e18 e19 e20 e21 e22 e23 e24 e25 e26 e27 e28 e29 e30 e31 e32 e33
        have HO2 := Lib.hid (HO1.out.below HW)
        have HQ2 := Lib.hid (HQ1.out.below HW HQ1.out.lt)
        clear HW HO1 HQ1 HE1 hleb
        obtain ⟨v9, hv9⟩ : ∃ v, w' = v := ⟨_, rfl⟩
        rw [hv9] at HO2 HQ2 ⊢
        clear hv9 w'
        obtain ⟨r0, r1, r2, r3, r4⟩ := (HI.out.below HO2.out.b HI.out.lt).cells
        have hlt := (HI.out.below HO2.out.b HI.out.lt).lt
        go_upto_region 16 with fail
        apply wp_region_auto [110, 111, 112, 113, 114, 115, 116, 117, 118, 119, 120, 121, 122, 123, 124, 125, 126] [_, _, _, _, _, _, _, _, _, _, _, _, _, _, _, _, _] (fun W' => Below v9.heap.size v9 W')
        case hm => kernel_rfl
        case hT => intro y; simp only [setAll, List.setIfInBounds_toArray, List.set_cons_succ, List.set_cons_zero]; exact rfl
        case hok => kernel_rfl
        case hn => decide
        case hw => exact (Below.refl _ _).drew
        case hs =>
          refine auto_op 110 [] (by kernel_rfl) (fun y w' HW hd K hK => ?_) ?_
          · go_simp
            refine hK _ _ ?_ ?_ HW
            · simp [upd]
            · exact rfl
          refine auto_op 111 [0] (by kernel_rfl) (fun y w' HW hd K hK => ?_) ?_
          · have e0 := hd_nth (hd 0 (by simp)) rfl
            go_simp
            refine (HAL.out _ (HO2.out.f.csr.below HW HO2.out.f.csr.1.lt)).mono ?_
            rintro e w3 ⟨rfl, hb3⟩
            refine hK _ _ ?_ ?_ (HW.trans (hb3.mono HW.size))
            · simp [upd, e0]
            · exact rfl
          refine auto_op 112 [] (by kernel_rfl) (fun y w' HW hd K hK => ?_) ?_
          · have hcl : ∀ p : Addr, p.block < v9.heap.size → w'.cell? p = v9.cell? p := fun p hp => HW.cell hp
            refine step_val (a := ⟨_, _⟩) ?_ A7 ?_ ?_
            · go_simp
            · exact HLD.out _ _ _ (HQ2.out.below HW HQ2.out.lt) rfl rfl
            refine hK _ _ ?_ ?_ HW
            · simp [upd]
            · exact rfl
          refine auto_op 113 [1, 2] (by kernel_rfl) (fun y w' HW hd K hK => ?_) ?_
          · have e1 := hd_nth (hd 1 (by simp)) rfl
            have e2 := hd_nth (hd 2 (by simp)) rfl
            go_simp
            refine hK _ _ ?_ ?_ HW
            · simp [upd, e1, e2]
            · exact rfl
          refine auto_op 114 [3, 1] (by kernel_rfl) (fun y w' HW hd K hK => ?_) ?_
          · have e1 := hd_nth (hd 1 (by simp)) rfl
            have e3 := hd_nth (hd 3 (by simp)) rfl
            go_simp
            refine hK _ _ ?_ ?_ HW
            · simp [upd, e1, e3]
            · exact rfl
          refine auto_op 115 [4] (by kernel_rfl) (fun y w' HW hd K hK => ?_) ?_
          · have e4 := hd_nth (hd 4 (by simp)) rfl
            go_simp
            refine hK _ _ ?_ ?_ HW
            · simp [upd, e4]
            · exact rfl
          refine auto_op 116 [5, 4] (by kernel_rfl) (fun y w' HW hd K hK => ?_) ?_
          · have e4 := hd_nth (hd 4 (by simp)) rfl
            have e5 := hd_nth (hd 5 (by simp)) rfl
            have hcl : ∀ p : Addr, p.block < v9.heap.size → w'.cell? p = v9.cell? p := fun p hp => HW.cell hp
            go_simp
            refine hK _ _ ?_ ?_ HW
            · simp [upd, e4, e5]
            · exact rfl
          refine auto_op 117 [6, 4] (by kernel_rfl) (fun y w' HW hd K hK => ?_) ?_
          · have e4 := hd_nth (hd 4 (by simp)) rfl
            have e6 := hd_nth (hd 6 (by simp)) rfl
            go_simp
            refine hK _ _ ?_ ?_ HW
            · simp [upd, e4, e6]
            · exact rfl
          refine auto_op 118 [4, 7] (by kernel_rfl) (fun y w' HW hd K hK => ?_) ?_
          · have e4 := hd_nth (hd 4 (by simp)) rfl
            have e7 := hd_nth (hd 7 (by simp)) rfl
            go_simp
            refine hK _ _ ?_ ?_ HW
            · simp [upd, e4, e7]
            · exact rfl
          refine auto_op 119 [8, 4] (by kernel_rfl) (fun y w' HW hd K hK => ?_) ?_
          · have e4 := hd_nth (hd 4 (by simp)) rfl
            have e8 := hd_nth (hd 8 (by simp)) rfl
            go_simp
            refine hK _ _ ?_ ?_ HW
            · simp [upd, e4, e8]
            · exact rfl
          refine auto_op 120 [9] (by kernel_rfl) (fun y w' HW hd K hK => ?_) ?_
          · have e9 := hd_nth (hd 9 (by simp)) rfl
            go_simp
            refine hK _ _ ?_ ?_ HW
            · simp [upd, e9]
            · exact rfl
          refine auto_op 121 [10, 9] (by kernel_rfl) (fun y w' HW hd K hK => ?_) ?_
          · have e9 := hd_nth (hd 9 (by simp)) rfl
            have e10 := hd_nth (hd 10 (by simp)) rfl
            have hcl : ∀ p : Addr, p.block < v9.heap.size → w'.cell? p = v9.cell? p := fun p hp => HW.cell hp
            go_simp
            refine hK _ _ ?_ ?_ HW
            · simp [upd, e9, e10]
            · exact rfl
          refine auto_op 122 [11, 9] (by kernel_rfl) (fun y w' HW hd K hK => ?_) ?_
          · have e9 := hd_nth (hd 9 (by simp)) rfl
            have e11 := hd_nth (hd 11 (by simp)) rfl
            go_simp
            refine hK _ _ ?_ ?_ HW
            · simp [upd, e9, e11]
            · exact rfl
          refine auto_op 123 [9, 12] (by kernel_rfl) (fun y w' HW hd K hK => ?_) ?_
          · have e9 := hd_nth (hd 9 (by simp)) rfl
            have e12 := hd_nth (hd 12 (by simp)) rfl
            go_simp
            refine hK _ _ ?_ ?_ HW
            · simp [upd, e9, e12]
            · exact rfl
          refine auto_op 124 [13, 9] (by kernel_rfl) (fun y w' HW hd K hK => ?_) ?_
          · have e9 := hd_nth (hd 9 (by simp)) rfl
            have e13 := hd_nth (hd 13 (by simp)) rfl
            go_simp
            refine hK _ _ ?_ ?_ HW
            · simp [upd, e9, e13]
            · exact rfl
          refine auto_op 125 [14, 14] (by kernel_rfl) (fun y w' HW hd K hK => ?_) ?_
          · have e14 := hd_nth (hd 14 (by simp)) rfl
            go_simp
            refine (awake13_any _ (HO2.out.f.tab.more HW)).mono ?_
            rintro e w3 ⟨rfl, hb3⟩
            refine hK _ _ ?_ ?_ (HW.trans (hb3.mono HW.size))
            · simp [upd, e14]
            · exact rfl
          refine auto_op 126 [14, 15] (by kernel_rfl) (fun y w' HW hd K hK => ?_) ?_
          · have e14 := hd_nth (hd 14 (by simp)) rfl
            have e15 := hd_nth (hd 15 (by simp)) rfl
            go_simp
            refine hK _ _ ?_ ?_ HW
            · simp [upd, e14, e15]
            · exact rfl
          refine auto_last fun y w' HW hd K hK => ?_
          have e0 := hd_nth (hd 0 (by omega)) rfl
          have e1 := hd_nth (hd 1 (by omega)) rfl
          have e2 := hd_nth (hd 2 (by omega)) rfl
          have e3 := hd_nth (hd 3 (by omega)) rfl
          have e4 := hd_nth (hd 4 (by omega)) rfl
          have e5 := hd_nth (hd 5 (by omega)) rfl
          have e6 := hd_nth (hd 6 (by omega)) rfl
          have e7 := hd_nth (hd 7 (by omega)) rfl
          have e8 := hd_nth (hd 8 (by omega)) rfl
          have e9 := hd_nth (hd 9 (by omega)) rfl
          have e10 := hd_nth (hd 10 (by omega)) rfl
          have e11 := hd_nth (hd 11 (by omega)) rfl
          have e12 := hd_nth (hd 12 (by omega)) rfl
          have e13 := hd_nth (hd 13 (by omega)) rfl
          have e14 := hd_nth (hd 14 (by omega)) rfl
          have e15 := hd_nth (hd 15 (by omega)) rfl
          have e16 := hd_nth (hd 16 (by omega)) rfl
          go_simp
          refine hK _ _ ?_
          clear hd hK K e0 e1 e2 e3 e4 e5 e6 e7 e8 e9 e10 e11 e12 e13 e14 e15 e16
          go_wp2
          go_ret
          exact ⟨rfl, HB0.out.trans ((HO2.out.b.trans (HW.mono HO2.out.b.size)).mono HB0.out.size)⟩
theorem one_stay (al : Option Addr) (n cap : Nat) (zs : List Int) (pc : Int) (status : Nat) (o d a b m : Int) (hv : Is.validB o d a b m = true) (hk : (exX (ldR zs n) pc (qS status) 2 3 o d a b m).E.k ≠ 0) (w : World) (hn : n ≤ 9223372036854775807) (hs : status < 4294967296) (hz : RowK .u32 w w.heap.size al n zs) (hzb : ∀ z ∈ zs, 0 ≤ z ∧ z < 4294967296) (hw : Is.HasT w) :
    Calls Tryz.prog 4 #[.slice al n cap, .int .u32 pc, .int .u32 (status : Int), Is.insV o d a b m] w fun e w' => e = .returned (.bool true) ∧ Below w.heap.size w w' := by
  obtain ⟨U, hU⟩ : ∃ U, U = Is.insW o d a b m w := ⟨_, rfl⟩
  have HU := Lib.hid hU
  have HI : Hid (Is.InsAt U w.heap.size o d a b m) := Lib.hid (hU ▸ Is.ins_at o d a b m w)
  have HB0 : Hid (Below w.heap.size w U) := Lib.hid (hU ▸ Is.ins_below o d a b m w)
  have HTU := Lib.hid (hw.more HB0.out)
  have HM := Lib.hid (made_any al n cap zs pc status U hn hs ((hz.below HB0.out).more HB0.out.size) HTU.out)
  have hR := ldR_ok hzb n
  have HLEN := Lib.hid (wordR_len hR)
  have HLQ : Hid ((qS status).length = 7) := Lib.hid rfl
  have HOK : Hid (Cs.Ok (qS status)) := Lib.hid (by
    have h1 : Cs.Ok [0, 64, 32, 0, 0, 4, 0] := ⟨rfl, by decide, by decide⟩
    have := Cs.wrR_ok h1 5 status hs
    rwa [qS_3] at this)
  generalize ldR zs n = R at HM hR HLEN hk
  generalize qS status = Q at HM HLQ HOK hk
  obtain ⟨dz, hdz⟩ : ∃ x, Is.wrZ o d a b m = x := ⟨_, rfl⟩
  obtain ⟨wb, hwb⟩ : ∃ x, Is.wrB o d a b m = x := ⟨_, rfl⟩
  have HWR : Hid (∀ V, Is.HasT V → Calls Tryz.prog 17 #[Is.insV o d a b m] V fun e w' => e = .returned (.tuple #[.int .i64 dz, .bool wb]) ∧ Below V.heap.size V w') := Lib.hid fun V hV => Is.writes_any o d a b m dz wb hdz hwb V hV
  obtain ⟨r, hr⟩ : ∃ r, exX R pc Q 2 3 o d a b m = r := ⟨_, rfl⟩
  have h1 := (one_all R pc Q 2 3 o d a b m hv).1
  rw [hr] at h1 hk
  obtain ⟨h2, h3, h4⟩ := h1 hk
  obtain ⟨E, hE⟩ : ∃ E, r.E = E := ⟨_, rfl⟩
  have HX : ∀ rb cb, Hid (∀ W, Fil W rb cb 2 pc R Q → Calls Tryz.prog 8 #[Is.insV o d a b m, .pointer (some ⟨rb, 0, none⟩), .pointer (some ⟨cb, 0, none⟩), .int .i64 3] W fun e w' => e = .returned (.tuple #[E.val, .int .i64 0]) ∧ Fil w' rb cb 2 pc R Q ∧ Kp [rb, cb] W w') := fun rb cb => by
    have := exec_at (rb := rb) (cb := cb) hR 3 o d a b m r 0 hr (if_pos hv)
    rw [h2, h3, h4, hE] at this
    exact this
  rw [hE] at hk
  have HKK := Lib.hid hk
  clear hE hdz hwb hv hr h1 h2 h3 h4 hk
  clear hU hz hzb hw hn hR hs HOK
  go_enter Tryz.func4, Tryz.ntmps4
  go_wp2_with fail
  rw [show w.alloc (.cells #[.int .i64 o, .int .i64 d, .int .i64 a, .int .i64 b, .int .i64 m] 37) = U from HU.out.symm]
  refine HM.out.mono ?_
  rintro e w1 ⟨rb, cb, ab, bb, rfl, hO⟩
  have HO1 := Lib.hid hO
  clear hO HM HU
  go_wp2_with fail
  refine (Rg.all_any rb pc R w1 HO1.out.f.reg).mono ?_
  rintro e v1 ⟨rfl, hb2⟩
  have HO := Lib.hid (HO1.out.below hb2)
  clear hb2 HO1
  go_simp
  rename_i hK
  refine hK _ _ ?_
  clear hK
  refine Great.wpList_allocTo rfl (some 13) rfl (.pointer (some ⟨v1.heap.size, 0, none⟩)) (.cells (Rg.wordsV Rg.zer).toArray 40) (Rg.run_new_words v1 _ _ rfl) ?_
  refine wpList_store_rowTo rfl 40 _ _ rfl rfl v1.heap.size (Rg.wordsV R).toArray (by kernel_rfl) (by kernel_rfl) 40 (Rg.wordsV Rg.zer).toArray (Blk.new v1 _ _) (size_old _ HLEN.out) (by simp [Rg.wordsV, HLEN.out, Rg.zer]) (one_old _) ?_
  obtain ⟨hb, hN⟩ := old_put v1 R HLEN.out
  generalize (v1.alloc (.cells (Rg.wordsV Rg.zer).toArray 40)).setRow v1.heap.size (Rg.wordsV R).toArray = w2 at hb hN ⊢
  have HN2 := Lib.hid hN
  have HO2 := Lib.hid (HO.out.below hb)
  have HNE : Hid (v1.heap.size ∉ [rb, cb]) := Lib.hid (by have := HO.out.f.lts; simp; omega)
  clear hb hN HO
  generalize v1.heap.size = ob at HN2 HNE ⊢
  go_wp2_with fail
  refine (Cs.all_any cb 2 Q w2 HO2.out.f.csr).mono ?_
  rintro e v2 ⟨rfl, hb2⟩
  have HO := Lib.hid (HO2.out.below hb2)
  have HN := Lib.hid (HN2.out.below hb2 HN2.out.lt)
  clear hb2 HO2 HN2
  go_simp
  rename_i hK
  refine hK _ _ ?_
  clear hK
  refine Great.wpList_allocTo rfl (some 14) rfl (.pointer (some ⟨v2.heap.size, 0, none⟩)) (.cells (Cs.wordsV Cs.zer).toArray 45) (Cs.run_new_words v2 _ _ rfl) ?_
  refine wpList_store_rowTo rfl 45 _ _ rfl rfl v2.heap.size (Cs.wordsV Q).toArray (by kernel_rfl) (by kernel_rfl) 45 (Cs.wordsV Cs.zer).toArray (Blk.new v2 _ _) (size_ker _ HLQ.out) (by simp [Cs.wordsV, HLQ.out, Cs.zer]) (one_ker _) ?_
  obtain ⟨hb, hN⟩ := ker_put v2 Q
  generalize (v2.alloc (.cells (Cs.wordsV Cs.zer).toArray 45)).setRow v2.heap.size (Cs.wordsV Q).toArray = w3 at hb hN ⊢
  have HQ3 := Lib.hid hN
  have HO3 := Lib.hid (HO.out.below hb)
  have HN3 := Lib.hid (HN.out.below hb HN.out.lt)
  have HNK : Hid (v2.heap.size ∉ [rb, cb]) := Lib.hid (by have := HO.out.f.lts; simp; omega)
  clear hb hN HO HN
  generalize v2.heap.size = kb at HQ3 HNK ⊢
  obtain ⟨r0, r1, r2, r3, r4⟩ := (HI.out.below HO3.out.b HI.out.lt).cells
  have hlt := (HI.out.below HO3.out.b HI.out.lt).lt
  go_wp2_with fail
  clear r0 r1 r2 r3 r4 hlt
  refine ((HX rb cb).out w3 HO3.out.f).mono ?_
  rintro e w4 ⟨rfl, hF, hk⟩
  have HO4 := Lib.hid (HO3.out.fexec hF hk)
  have HN4 := Lib.hid (Blk.kp HN3.out hk HNE.out)
  have HQ4 := Lib.hid (Blk.kp HQ3.out hk HNK.out)
  clear hF hk HO3 HN3 HQ3 HX
  go_simp
  rename_i hK
  refine hK _ _ ?_
  clear hK
  refine Great.wpList_readTo rfl _ rfl (.tuple #[Eff.val E, .int .i64 0]) (by kernel_rfl) ?_
  refine Great.wpList_readTo rfl _ rfl (Eff.val E) (by kernel_rfl) ?_
  refine Great.wpList_readTo rfl _ rfl (.int .i64 0) (by kernel_rfl) ?_
  refine Great.wpList_allocTo rfl (some 15) rfl (.pointer (some ⟨w4.heap.size, 0, none⟩)) (.cells zeroE.cs.toArray 32) ((eff_run w4).out _ _ rfl) ?_
  refine wpList_store_rowTo rfl 32 _ _ rfl rfl w4.heap.size (Eff.cs E).toArray (by kernel_rfl) (by kernel_rfl) 32 zeroE.cs.toArray (Blk.new w4 _ _) (size_eff _) (rfl) (one_eff _) ?_
  obtain ⟨hb, hN⟩ := eff_put w4 E
  generalize (w4.alloc (.cells zeroE.cs.toArray 32)).setRow w4.heap.size (Eff.cs E).toArray = w5 at hb hN ⊢
  have HE5 := Lib.hid hN
  have HO5 := Lib.hid (HO4.out.below hb)
  have HN5 := Lib.hid (HN4.out.below hb HN4.out.lt)
  have HQ5 := Lib.hid (HQ4.out.below hb HQ4.out.lt)
  clear hb hN HO4 HN4 HQ4
  generalize w4.heap.size = eb at HE5 ⊢
  go_wp2_with fail
  refine (Rg.all_any rb pc R w5 HO5.out.f.reg).mono ?_
  rintro e w6 ⟨rfl, hb⟩
  have HO6 := Lib.hid (HO5.out.below hb)
  have HN6 := Lib.hid (HN5.out.below hb HN5.out.lt)
  have HQ6 := Lib.hid (HQ5.out.below hb HQ5.out.lt)
  have HE6 := Lib.hid (HE5.out.below hb HE5.out.lt)
  clear hb HO5 HN5 HQ5 HE5
  go_simp
  rename_i hK
  refine hK _ _ ?_
  clear hK
  refine Great.wpList_allocTo rfl (some 17) rfl (.pointer (some ⟨w6.heap.size, 0, none⟩)) (.cells (Rg.wordsV Rg.zer).toArray 40) (Rg.run_new_words w6 _ _ rfl) ?_
  refine wpList_store_rowTo rfl 40 _ _ rfl rfl w6.heap.size (Rg.wordsV R).toArray (by kernel_rfl) (by kernel_rfl) 40 (Rg.wordsV Rg.zer).toArray (Blk.new w6 _ _) (size_old _ HLEN.out) (by simp [Rg.wordsV, HLEN.out, Rg.zer]) (one_old _) ?_
  obtain ⟨hb, hN⟩ := old_put w6 R HLEN.out
  generalize (w6.alloc (.cells (Rg.wordsV Rg.zer).toArray 40)).setRow w6.heap.size (Rg.wordsV R).toArray = w7 at hb hN ⊢
  have HW7 := Lib.hid hN
  have HO7 := Lib.hid (HO6.out.below hb)
  have HN7 := Lib.hid (HN6.out.below hb HN6.out.lt)
  have HQ7 := Lib.hid (HQ6.out.below hb HQ6.out.lt)
  have HE7 := Lib.hid (HE6.out.below hb HE6.out.lt)
  clear hb hN HO6 HN6 HQ6 HE6
  generalize w6.heap.size = nb at HW7 ⊢
  obtain ⟨r0, r1, r2, r3, r4⟩ := (HI.out.below HO7.out.b HI.out.lt).cells
  have hlt := (HI.out.below HO7.out.b HI.out.lt).lt
  go_wp2_with fail
  clear r0 r1 r2 r3 r4 hlt
  refine (HWR.out w7 HO7.out.f.tab).mono ?_
  rintro e W ⟨rfl, hb⟩
  have HO := Lib.hid (HO7.out.below hb)
  have HN := Lib.hid (HN7.out.below hb HN7.out.lt)
  have HQ := Lib.hid (HQ7.out.below hb HQ7.out.lt)
  have HE := Lib.hid (HE7.out.below hb HE7.out.lt)
  have HW0 := Lib.hid (HW7.out.below hb HW7.out.lt)
  clear hb HO7 HN7 HQ7 HE7 HW7 HWR
  go_wp2
  go_loopw [20] (fun j wr => ∃ n : Nat, n ≤ 16 ∧ j = .int .i64 n ∧ Hid (Below W.heap.size W wr)) (fun j _ => 16 - (intOf j).toNat)
  case atStart => exact ⟨0, Nat.zero_le _, rfl, Lib.hid (Below.refl _ _)⟩
  case round =>
    obtain ⟨n, hn, rfl, HV⟩ := hrel
    by_cases hn16 : n < 16
    · have f4 : (n : Int) < 16 := by omega
      have H16 := Lib.hid hn16
      have c1 := old_cell (HW0.out.below HV.out HW0.out.lt) HLEN.out n hn16 _ rfl
      have c2 := old_cell (HN.out.below HV.out HN.out.lt) HLEN.out n hn16 _ rfl
      have c3 : wr.cell? ⟨eb, 0, none⟩ = some (.int .i64 E.k) := (HE.out.below HV.out HE.out.lt).cell rfl
      have b1 := (HW0.out.below HV.out HW0.out.lt).lt
      have b2 := (HN.out.below HV.out HN.out.lt).lt
      have b3 := (HE.out.below HV.out HE.out.lt).lt
      generalize Rg.getR R (n : Int) = xx at c1 c2
      generalize E.k = kk at c3
      clear hn hn16
      go_upto_region 12 with fail
      apply wp_region_auto [54, 55, 56, 57, 58, 59, 60, 61, 62, 63, 64, 65, 66, 67, 68, 69, 70, 71, 72, 73] [_, _, _, _, _, _, _, _, _, _, _, _, _, _, _, _, _, _, _, _] (fun W' => Below wr.heap.size wr W')
      case hm => kernel_rfl
      case hT => intro y; simp only [setAll, List.setIfInBounds_toArray, List.set_cons_succ, List.set_cons_zero]; exact rfl
      case hok => kernel_rfl
      case hn => decide
      case hw => exact (Below.refl _ _).drew
      case hs =>
        refine auto_op 54 [] (by kernel_rfl) (fun y w' HW hd K hK => ?_) ?_
        · go_simp
          refine hK _ _ ?_ ?_ HW
          · simp [upd]
          · exact rfl
        refine auto_op 55 [0] (by kernel_rfl) (fun y w' HW hd K hK => ?_) ?_
        · have e0 := hd_nth (hd 0 (by simp)) rfl
          go_simp
          refine hK _ _ ?_ ?_ HW
          · simp [upd, e0]
          · exact rfl
        refine auto_op 56 [1] (by kernel_rfl) (fun y w' HW hd K hK => ?_) ?_
        · have e1 := hd_nth (hd 1 (by simp)) rfl
          have hcl : ∀ p : Addr, p.block < wr.heap.size → w'.cell? p = wr.cell? p := fun p hp => HW.cell hp
          go_simp
          refine hK _ _ ?_ ?_ HW
          · simp [upd, e1]
          · exact rfl
        refine auto_op 57 [] (by kernel_rfl) (fun y w' HW hd K hK => ?_) ?_
        · go_simp
          refine hK _ _ ?_ ?_ HW
          · simp [upd]
          · exact rfl
        refine auto_op 58 [3] (by kernel_rfl) (fun y w' HW hd K hK => ?_) ?_
        · have e3 := hd_nth (hd 3 (by simp)) rfl
          go_simp
          refine hK _ _ ?_ ?_ HW
          · simp [upd, e3]
          · exact rfl
        refine auto_op 59 [4] (by kernel_rfl) (fun y w' HW hd K hK => ?_) ?_
        · have e4 := hd_nth (hd 4 (by simp)) rfl
          have hcl : ∀ p : Addr, p.block < wr.heap.size → w'.cell? p = wr.cell? p := fun p hp => HW.cell hp
          go_simp
          refine hK _ _ ?_ ?_ HW
          · simp [upd, e4]
          · exact rfl
        refine auto_op 60 [2, 5] (by kernel_rfl) (fun y w' HW hd K hK => ?_) ?_
        · have e2 := hd_nth (hd 2 (by simp)) rfl
          have e5 := hd_nth (hd 5 (by simp)) rfl
          go_simp
          refine hK _ _ ?_ ?_ HW
          · simp [upd, e2, e5]
          · exact rfl
        refine auto_op 61 [6] (by kernel_rfl) (fun y w' HW hd K hK => ?_) ?_
        · have e6 := hd_nth (hd 6 (by simp)) rfl
          go_simp
          refine hK _ _ ?_ ?_ HW
          · simp [upd, e6]
          · exact rfl
        refine auto_op 62 [7] (by kernel_rfl) (fun y w' HW hd K hK => ?_) ?_
        · have e7 := hd_nth (hd 7 (by simp)) rfl
          go_simp
          refine hK _ _ ?_ ?_ HW
          · simp [upd, e7]
          · exact rfl
        refine auto_op 63 [8, 7] (by kernel_rfl) (fun y w' HW hd K hK => ?_) ?_
        · have e7 := hd_nth (hd 7 (by simp)) rfl
          have e8 := hd_nth (hd 8 (by simp)) rfl
          go_simp
          refine hK _ _ ?_ ?_ HW
          · simp [upd, e7, e8]
          · exact rfl
        refine auto_op 64 [9, 7, 7] (by kernel_rfl) (fun y w' HW hd K hK => ?_) ?_
        · have e7 := hd_nth (hd 7 (by simp)) rfl
          have e9 := hd_nth (hd 9 (by simp)) rfl
          go_simp
          refine hK _ _ ?_ ?_ HW
          · simp [upd, e7, e9]
          · exact rfl
        refine auto_op 65 [10] (by kernel_rfl) (fun y w' HW hd K hK => ?_) ?_
        · have e10 := hd_nth (hd 10 (by simp)) rfl
          go_simp
          refine hK _ _ ?_ ?_ HW
          · simp [upd, e10]
          · exact rfl
        refine auto_op 66 [10] (by kernel_rfl) (fun y w' HW hd K hK => ?_) ?_
        · have e10 := hd_nth (hd 10 (by simp)) rfl
          go_simp
          refine hK _ _ ?_ ?_ HW
          · simp [upd, e10]
          · exact rfl
        refine auto_op 67 [11, 12, 10] (by kernel_rfl) (fun y w' HW hd K hK => ?_) ?_
        · have e10 := hd_nth (hd 10 (by simp)) rfl
          have e11 := hd_nth (hd 11 (by simp)) rfl
          have e12 := hd_nth (hd 12 (by simp)) rfl
          go_simp
          refine hK _ _ ?_ ?_ HW
          · simp [upd, e10, e11, e12]
          · exact rfl
        refine auto_op 68 [10, 13, 7] (by kernel_rfl) (fun y w' HW hd K hK => ?_) ?_
        · have e7 := hd_nth (hd 7 (by simp)) rfl
          have e10 := hd_nth (hd 10 (by simp)) rfl
          have e13 := hd_nth (hd 13 (by simp)) rfl
          go_simp
          refine hK _ _ ?_ ?_ HW
          · simp [upd, e7, e10, e13]
          · exact rfl
        refine auto_op 69 [14, 10, 7] (by kernel_rfl) (fun y w' HW hd K hK => ?_) ?_
        · have e7 := hd_nth (hd 7 (by simp)) rfl
          have e10 := hd_nth (hd 10 (by simp)) rfl
          have e14 := hd_nth (hd 14 (by simp)) rfl
          go_simp
          refine hK _ _ ?_ ?_ HW
          · simp [upd, e7, e10, e14]
          · exact rfl
        refine auto_op 70 [15] (by kernel_rfl) (fun y w' HW hd K hK => ?_) ?_
        · have e15 := hd_nth (hd 15 (by simp)) rfl
          go_simp
          refine hK _ _ ?_ ?_ HW
          · simp [upd, e15]
          · exact rfl
        refine auto_op 71 [16, 15] (by kernel_rfl) (fun y w' HW hd K hK => ?_) ?_
        · have e15 := hd_nth (hd 15 (by simp)) rfl
          have e16 := hd_nth (hd 16 (by simp)) rfl
          have hcl : ∀ p : Addr, p.block < wr.heap.size → w'.cell? p = wr.cell? p := fun p hp => HW.cell hp
          go_simp
          refine hK _ _ ?_ ?_ HW
          · simp [upd, e15, e16]
          · exact rfl
        refine auto_op 72 [17, 15] (by kernel_rfl) (fun y w' HW hd K hK => ?_) ?_
        · have e15 := hd_nth (hd 15 (by simp)) rfl
          have e17 := hd_nth (hd 17 (by simp)) rfl
          go_simp
          refine hK _ _ ?_ ?_ HW
          · simp [upd, e15, e17]
          · exact rfl
        refine auto_op 73 [15, 18, 7] (by kernel_rfl) (fun y w' HW hd K hK => ?_) ?_
        · have e7 := hd_nth (hd 7 (by simp)) rfl
          have e15 := hd_nth (hd 15 (by simp)) rfl
          have e18 := hd_nth (hd 18 (by simp)) rfl
          go_simp
          refine hK _ _ ?_ ?_ HW
          · simp [upd, e7, e15, e18]
          · exact rfl
        refine auto_last fun y w' HW hd K hK => ?_
        have e0 := hd_nth (hd 0 (by omega)) rfl
        have e1 := hd_nth (hd 1 (by omega)) rfl
        have e2 := hd_nth (hd 2 (by omega)) rfl
        have e3 := hd_nth (hd 3 (by omega)) rfl
        have e4 := hd_nth (hd 4 (by omega)) rfl
        have e5 := hd_nth (hd 5 (by omega)) rfl
        have e6 := hd_nth (hd 6 (by omega)) rfl
        have e7 := hd_nth (hd 7 (by omega)) rfl
        have e8 := hd_nth (hd 8 (by omega)) rfl
        have e9 := hd_nth (hd 9 (by omega)) rfl
        have e10 := hd_nth (hd 10 (by omega)) rfl
        have e11 := hd_nth (hd 11 (by omega)) rfl
        have e12 := hd_nth (hd 12 (by omega)) rfl
        have e13 := hd_nth (hd 13 (by omega)) rfl
        have e14 := hd_nth (hd 14 (by omega)) rfl
        have e15 := hd_nth (hd 15 (by omega)) rfl
        have e16 := hd_nth (hd 16 (by omega)) rfl
        have e17 := hd_nth (hd 17 (by omega)) rfl
        have e18 := hd_nth (hd 18 (by omega)) rfl
        have e19 := hd_nth (hd 19 (by omega)) rfl
        go_simp
        refine hK _ _ ?_
        clear hd hK K e0 e1 e2 e3 e4 e5 e6 e7 e8 e9 e10 e11 e12 e13 e14 e15 e16 e17 e18 e19
        go_wp2
        go_roundw
        case rel => exact ⟨n + 1, H16.out, by go_num, Lib.hid (HV.out.trans (HW.mono HV.out.size))⟩
        case measure => have := H16.out; simp [intOf]; omega
    · have f4 : ¬ (n : Int) < 16 := by omega
      clear hn hn16
      have HO1 := Lib.hid (HO.out.below HV.out)
      have HQ1 := Lib.hid (HQ.out.below HV.out HQ.out.lt)
      have HE1 := Lib.hid (HE.out.below HV.out HE.out.lt)
      clear HO HQ HE HN HW0 HV
      go_upto_region 14 with fail
      have HAL : Hid (∀ V, Cs.FAt V cb 2 Q → Calls Tryz.prog 12 #[.pointer (some ⟨cb, 0, none⟩)] V fun e w' => e = .returned (Cs.arrV Q) ∧ Below V.heap.size V w') := Lib.hid fun V hV => Cs.all_any cb 2 Q V hV
      have HLD : Hid (∀ (V : World) (ρ : Operand → Value) (oo : Oper), Blk V kb 45 (Cs.wordsV Q) → oo.op = .load 45 (.tmp 14) → ρ (.tmp 14) = .pointer (some ⟨kb, 0, none⟩) → (execOp ρ oo).run Tryz.prog V = .ok (.value (Cs.arrV Q)) V) := Lib.hid fun V ρ oo hV ho hx => exec_load_blk hV 0 45 _ ho hx (Cs.wordsV Q) (fun j v h => by rw [Nat.zero_add]; exact h) _ Tryz.underlying45 rfl (Cs.size_words Q HLQ.out)
      have HPC : Hid (∀ V, Rg.FAt V rb pc R → Calls Tryz.prog 11 #[.pointer (some ⟨rb, 0, none⟩)] V fun e w' => e = .returned (.int .u32 pc) ∧ V = w') := Lib.hid fun V hV => Rg.pc_any rb pc R V hV
      have hge : ∀ (x y : Operand) (V : World), (eqGuard .eql 45 x y (Cs.arrV Q) (Cs.arrV Q)).run Tryz.prog V = .ok () V := fun x y V => Cs.guard_words _ x y _ _ V
      have hgn : ∀ (x y : Operand) (V : World), (eqGuard .neq 45 x y (Cs.arrV Q) (Cs.arrV Q)).run Tryz.prog V = .ok () V := fun x y V => Cs.guard_words _ x y _ _ V
      have hqn : ∀ V : World, (binOp .neq 45 (Cs.arrV Q) (Cs.arrV Q)).run Tryz.prog V = .ok (.bool false) V := fun V => Cs.bin_neq Q HLQ.out V
      have hqe : ∀ V : World, (binOp .eql 45 (Cs.arrV Q) (Cs.arrV Q)).run Tryz.prog V = .ok (.bool true) V := fun V => Cs.bin_eql Q HLQ.out V
      generalize Cs.arrV Q = A7 at HAL HLD hge hgn hqn hqe
      have c3 : wr.cell? ⟨eb, 0, none⟩ = some (.int .i64 E.k) := HE1.out.cell rfl
      have k1 : (E.k != 0) = true := by simpa using HKK.out
      have k2 : (E.k == 0) = false := by simpa using HKK.out
      generalize E.k = kk at c3 k1 k2
      have hleb := HE1.out.lt
      apply wp_region_auto [75, 76, 77, 78, 79, 80, 81, 82, 83, 84, 85, 86, 87, 88, 89, 90, 91, 92, 93, 94, 95, 96, 97, 98, 99, 100, 101, 102, 103, 104, 105, 106, 107, 108] [_, _, _, _, _, _, _, _, _, _, _, _, _, _, _, _, _, _, _, _, _, _, _, _, _, _, _, _, _, _, _, _, _, _] (fun W' => Below wr.heap.size wr W')
      case hm => kernel_rfl
      case hT => intro y; simp only [setAll, List.setIfInBounds_toArray, List.set_cons_succ, List.set_cons_zero]; exact rfl
      case hok => kernel_rfl
      case hn => decide
      case hw => exact (Below.refl _ _).drew
      case hs =>
        refine auto_op 75 [] (by kernel_rfl) (fun y w' HW hd K hK => ?_) ?_
        · go_simp
          refine hK _ _ ?_ ?_ HW
          · simp [upd]
          · exact rfl
        refine auto_op 76 [0] (by kernel_rfl) (fun y w' HW hd K hK => ?_) ?_
        · have e0 := hd_nth (hd 0 (by simp)) rfl
          go_simp
          refine hK _ _ ?_ ?_ HW
          · simp [upd, e0]
          · exact rfl
        refine auto_op 77 [1] (by kernel_rfl) (fun y w' HW hd K hK => ?_) ?_
        · have e1 := hd_nth (hd 1 (by simp)) rfl
          go_simp
          refine hK _ _ ?_ ?_ HW
          · simp [upd, e1]
          · exact rfl
        refine auto_op 78 [2] (by kernel_rfl) (fun y w' HW hd K hK => ?_) ?_
        · have e2 := hd_nth (hd 2 (by simp)) rfl
          go_simp
          refine hK _ _ ?_ ?_ HW
          · simp [upd, e2]
          · exact rfl
        refine auto_op 79 [3, 2] (by kernel_rfl) (fun y w' HW hd K hK => ?_) ?_
        · have e2 := hd_nth (hd 2 (by simp)) rfl
          have e3 := hd_nth (hd 3 (by simp)) rfl
          have hcl : ∀ p : Addr, p.block < wr.heap.size → w'.cell? p = wr.cell? p := fun p hp => HW.cell hp
          go_simp
          refine hK _ _ ?_ ?_ HW
          · simp [upd, e2, e3]
          · exact rfl
        refine auto_op 80 [4, 2] (by kernel_rfl) (fun y w' HW hd K hK => ?_) ?_
        · have e2 := hd_nth (hd 2 (by simp)) rfl
          have e4 := hd_nth (hd 4 (by simp)) rfl
          go_simp
          refine hK _ _ ?_ ?_ HW
          · simp [upd, e2, e4]
          · exact rfl
        refine auto_op 81 [2, 5] (by kernel_rfl) (fun y w' HW hd K hK => ?_) ?_
        · have e2 := hd_nth (hd 2 (by simp)) rfl
          have e5 := hd_nth (hd 5 (by simp)) rfl
          go_simp
          refine hK _ _ ?_ ?_ HW
          · simp [upd, e2, e5]
          · exact rfl
        refine auto_op 82 [6, 2] (by kernel_rfl) (fun y w' HW hd K hK => ?_) ?_
        · have e2 := hd_nth (hd 2 (by simp)) rfl
          have e6 := hd_nth (hd 6 (by simp)) rfl
          go_simp
          refine hK _ _ ?_ ?_ HW
          · simp [upd, e2, e6]
          · exact rfl
        refine auto_op 83 [7] (by kernel_rfl) (fun y w' HW hd K hK => ?_) ?_
        · have e7 := hd_nth (hd 7 (by simp)) rfl
          go_simp
          refine hK _ _ ?_ ?_ HW
          · simp [upd, e7]
          · exact rfl
        refine auto_op 84 [8, 7, 7] (by kernel_rfl) (fun y w' HW hd K hK => ?_) ?_
        · have e7 := hd_nth (hd 7 (by simp)) rfl
          have e8 := hd_nth (hd 8 (by simp)) rfl
          go_simp
          refine (HPC.out _ (HO1.out.f.reg.below HW HO1.out.f.reg.1.lt)).mono ?_
          rintro e w3 ⟨rfl, rfl⟩
          refine hK _ _ ?_ ?_ HW
          · simp [upd, e7, e8]
          · exact rfl
        refine auto_op 85 [7] (by kernel_rfl) (fun y w' HW hd K hK => ?_) ?_
        · have e7 := hd_nth (hd 7 (by simp)) rfl
          go_simp
          refine hK _ _ ?_ ?_ HW
          · simp [upd, e7]
          · exact rfl
        refine auto_op 86 [9, 10, 7] (by kernel_rfl) (fun y w' HW hd K hK => ?_) ?_
        · have e7 := hd_nth (hd 7 (by simp)) rfl
          have e9 := hd_nth (hd 9 (by simp)) rfl
          have e10 := hd_nth (hd 10 (by simp)) rfl
          go_simp
          refine hK _ _ ?_ ?_ HW
          · simp [upd, e7, e9, e10]
          · exact rfl
        refine auto_op 87 [11, 9, 7] (by kernel_rfl) (fun y w' HW hd K hK => ?_) ?_
        · have e7 := hd_nth (hd 7 (by simp)) rfl
          have e9 := hd_nth (hd 9 (by simp)) rfl
          have e11 := hd_nth (hd 11 (by simp)) rfl
          go_simp
          refine hK _ _ ?_ ?_ HW
          · simp [upd, e7, e9, e11]
          · exact rfl
        refine auto_op 88 [12] (by kernel_rfl) (fun y w' HW hd K hK => ?_) ?_
        · have e12 := hd_nth (hd 12 (by simp)) rfl
          go_simp
          refine hK _ _ ?_ ?_ HW
          · simp [upd, e12]
          · exact rfl
        refine auto_op 89 [13, 12, 12] (by kernel_rfl) (fun y w' HW hd K hK => ?_) ?_
        · have e12 := hd_nth (hd 12 (by simp)) rfl
          have e13 := hd_nth (hd 13 (by simp)) rfl
          go_simp
          refine (HAL.out _ (HO1.out.f.csr.below HW HO1.out.f.csr.1.lt)).mono ?_
          rintro e w3 ⟨rfl, hb3⟩
          refine hK _ _ ?_ ?_ (HW.trans (hb3.mono HW.size))
          · simp [upd, e12, e13]
          · exact rfl
        refine auto_op 90 [12] (by kernel_rfl) (fun y w' HW hd K hK => ?_) ?_
        · have e12 := hd_nth (hd 12 (by simp)) rfl
          have hcl : ∀ p : Addr, p.block < wr.heap.size → w'.cell? p = wr.cell? p := fun p hp => HW.cell hp
          refine step_val (a := ⟨_, _⟩) ?_ A7 ?_ ?_
          · go_simp
          · exact HLD.out _ _ _ (HQ1.out.below HW HQ1.out.lt) rfl rfl
          refine hK _ _ ?_ ?_ HW
          · simp [upd, e12]
          · exact rfl
        refine auto_op 91 [14, 15, 12] (by kernel_rfl) (fun y w' HW hd K hK => ?_) ?_
        · have e12 := hd_nth (hd 12 (by simp)) rfl
          have e14 := hd_nth (hd 14 (by simp)) rfl
          have e15 := hd_nth (hd 15 (by simp)) rfl
          go_simp
          refine hK _ _ ?_ ?_ HW
          · simp [upd, e12, e14, e15]
          · exact rfl
        refine auto_op 92 [12, 16, 7] (by kernel_rfl) (fun y w' HW hd K hK => ?_) ?_
        · have e7 := hd_nth (hd 7 (by simp)) rfl
          have e12 := hd_nth (hd 12 (by simp)) rfl
          have e16 := hd_nth (hd 16 (by simp)) rfl
          go_simp
          refine hK _ _ ?_ ?_ HW
          · simp [upd, e7, e12, e16]
          · exact rfl
        refine auto_op 93 [7, 17] (by kernel_rfl) (fun y w' HW hd K hK => ?_) ?_
        · have e7 := hd_nth (hd 7 (by simp)) rfl
          have e17 := hd_nth (hd 17 (by simp)) rfl
          go_simp
          refine hK _ _ ?_ ?_ HW
          · simp [upd, e7, e17]
          · exact rfl
        refine auto_op 94 [18, 14] (by kernel_rfl) (fun y w' HW hd K hK => ?_) ?_
        · have e14 := hd_nth (hd 14 (by simp)) rfl
          have e18 := hd_nth (hd 18 (by simp)) rfl
          go_simp
          refine hK _ _ ?_ ?_ HW
          · simp [upd, e14, e18]
          · exact rfl
        refine auto_op 95 [19] (by kernel_rfl) (fun y w' HW hd K hK => ?_) ?_
        · have e19 := hd_nth (hd 19 (by simp)) rfl
          go_simp
          refine hK _ _ ?_ ?_ HW
          · simp [upd, e19]
          · exact rfl
        refine auto_op 96 [20, 19] (by kernel_rfl) (fun y w' HW hd K hK => ?_) ?_
        · have e19 := hd_nth (hd 19 (by simp)) rfl
          have e20 := hd_nth (hd 20 (by simp)) rfl
          go_simp
          refine hK _ _ ?_ ?_ HW
          · simp [upd, e19, e20]
          · exact rfl
        refine auto_op 97 [21, 19, 19] (by kernel_rfl) (fun y w' HW hd K hK => ?_) ?_
        · have e19 := hd_nth (hd 19 (by simp)) rfl
          have e21 := hd_nth (hd 21 (by simp)) rfl
          go_simp
          refine hK _ _ ?_ ?_ HW
          · simp [upd, e19, e21]
          · exact rfl
        refine auto_op 98 [22] (by kernel_rfl) (fun y w' HW hd K hK => ?_) ?_
        · have e22 := hd_nth (hd 22 (by simp)) rfl
          go_simp
          refine hK _ _ ?_ ?_ HW
          · simp [upd, e22]
          · exact rfl
        refine auto_op 99 [23, 22] (by kernel_rfl) (fun y w' HW hd K hK => ?_) ?_
        · have e22 := hd_nth (hd 22 (by simp)) rfl
          have e23 := hd_nth (hd 23 (by simp)) rfl
          have hcl : ∀ p : Addr, p.block < wr.heap.size → w'.cell? p = wr.cell? p := fun p hp => HW.cell hp
          go_simp
          refine hK _ _ ?_ ?_ HW
          · simp [upd, e22, e23]
          · exact rfl
        refine auto_op 100 [24, 22] (by kernel_rfl) (fun y w' HW hd K hK => ?_) ?_
        · have e22 := hd_nth (hd 22 (by simp)) rfl
          have e24 := hd_nth (hd 24 (by simp)) rfl
          go_simp
          refine hK _ _ ?_ ?_ HW
          · simp [upd, e22, e24]
          · exact rfl
        refine auto_op 101 [22, 25, 19] (by kernel_rfl) (fun y w' HW hd K hK => ?_) ?_
        · have e19 := hd_nth (hd 19 (by simp)) rfl
          have e22 := hd_nth (hd 22 (by simp)) rfl
          have e25 := hd_nth (hd 25 (by simp)) rfl
          go_simp
          refine hK _ _ ?_ ?_ HW
          · simp [upd, e19, e22, e25]
          · exact rfl
        refine auto_op 102 [26, 22, 19] (by kernel_rfl) (fun y w' HW hd K hK => ?_) ?_
        · have e19 := hd_nth (hd 19 (by simp)) rfl
          have e22 := hd_nth (hd 22 (by simp)) rfl
          have e26 := hd_nth (hd 26 (by simp)) rfl
          go_simp
          refine hK _ _ ?_ ?_ HW
          · simp [upd, e19, e22, e26]
          · exact rfl
        refine auto_op 103 [27] (by kernel_rfl) (fun y w' HW hd K hK => ?_) ?_
        · have e27 := hd_nth (hd 27 (by simp)) rfl
          go_simp
          refine hK _ _ ?_ ?_ HW
          · simp [upd, e27]
          · exact rfl
        refine auto_op 104 [28, 27, 27] (by kernel_rfl) (fun y w' HW hd K hK => ?_) ?_
        · have e27 := hd_nth (hd 27 (by simp)) rfl
          have e28 := hd_nth (hd 28 (by simp)) rfl
          go_simp
          refine hK _ _ ?_ ?_ HW
          · simp [upd, e27, e28]
          · exact rfl
        refine auto_op 105 [27] (by kernel_rfl) (fun y w' HW hd K hK => ?_) ?_
        · have e27 := hd_nth (hd 27 (by simp)) rfl
          go_simp
          refine hK _ _ ?_ ?_ HW
          · simp [upd, e27]
          · exact rfl
        refine auto_op 106 [30, 27] (by kernel_rfl) (fun y w' HW hd K hK => ?_) ?_
        · have e27 := hd_nth (hd 27 (by simp)) rfl
          have e30 := hd_nth (hd 30 (by simp)) rfl
          have hcl : ∀ p : Addr, p.block < wr.heap.size → w'.cell? p = wr.cell? p := fun p hp => HW.cell hp
          go_simp
          refine hK _ _ ?_ ?_ HW
          · simp [upd, e27, e30]
          · exact rfl
        refine auto_op 107 [29, 31, 27] (by kernel_rfl) (fun y w' HW hd K hK => ?_) ?_
        · have e27 := hd_nth (hd 27 (by simp)) rfl
          have e29 := hd_nth (hd 29 (by simp)) rfl
          have e31 := hd_nth (hd 31 (by simp)) rfl
          go_simp
          refine hK _ _ ?_ ?_ HW
          · simp [upd, e27, e29, e31]
          · exact rfl
        refine auto_op 108 [27, 32, 19] (by kernel_rfl) (fun y w' HW hd K hK => ?_) ?_
        · have e19 := hd_nth (hd 19 (by simp)) rfl
          have e27 := hd_nth (hd 27 (by simp)) rfl
          have e32 := hd_nth (hd 32 (by simp)) rfl
          go_simp
          refine hK _ _ ?_ ?_ HW
          · simp [upd, e19, e27, e32]
          · exact rfl
        refine auto_last fun y w' HW hd K hK => ?_
        have e0 := hd_nth (hd 0 (by omega)) rfl
        have e1 := hd_nth (hd 1 (by omega)) rfl
        have e2 := hd_nth (hd 2 (by omega)) rfl
        have e3 := hd_nth (hd 3 (by omega)) rfl
        have e4 := hd_nth (hd 4 (by omega)) rfl
        have e5 := hd_nth (hd 5 (by omega)) rfl
        have e6 := hd_nth (hd 6 (by omega)) rfl
        have e7 := hd_nth (hd 7 (by omega)) rfl
        have e8 := hd_nth (hd 8 (by omega)) rfl
        have e9 := hd_nth (hd 9 (by omega)) rfl
        have e10 := hd_nth (hd 10 (by omega)) rfl
        have e11 := hd_nth (hd 11 (by omega)) rfl
        have e12 := hd_nth (hd 12 (by omega)) rfl
        have e13 := hd_nth (hd 13 (by omega)) rfl
        have e14 := hd_nth (hd 14 (by omega)) rfl
        have e15 := hd_nth (hd 15 (by omega)) rfl
        have e16 := hd_nth (hd 16 (by omega)) rfl
        have e17 := hd_nth (hd 17 (by omega)) rfl
        have e18 := hd_nth (hd 18 (by omega)) rfl
        have e19 := hd_nth (hd 19 (by omega)) rfl
        have e20 := hd_nth (hd 20 (by omega)) rfl
        have e21 := hd_nth (hd 21 (by omega)) rfl
        have e22 := hd_nth (hd 22 (by omega)) rfl
        have e23 := hd_nth (hd 23 (by omega)) rfl
        have e24 := hd_nth (hd 24 (by omega)) rfl
        have e25 := hd_nth (hd 25 (by omega)) rfl
        have e26 := hd_nth (hd 26 (by omega)) rfl
        have e27 := hd_nth (hd 27 (by omega)) rfl
        have e28 := hd_nth (hd 28 (by omega)) rfl
        have e29 := hd_nth (hd 29 (by omega)) rfl
        have e30 := hd_nth (hd 30 (by omega)) rfl
        have e31 := hd_nth (hd 31 (by omega)) rfl
        have e32 := hd_nth (hd 32 (by omega)) rfl
        have e33 := hd_nth (hd 33 (by omega)) rfl
        go_simp
        refine hK _ _ ?_
        clear hd hK K e0 e1 e2 e3 e4 e5 e6 e7 e8 e9 e10 e11 e12 e13 e14 e15 e16 e17 e18 e19 e20 e21 e22 e23 e24 e25 e26 e27 e28 e29 e30 e31 e32 e33
        have HO2 := Lib.hid (HO1.out.below HW)
        have HQ2 := Lib.hid (HQ1.out.below HW HQ1.out.lt)
        clear HW HO1 HQ1 HE1 hleb
        obtain ⟨v9, hv9⟩ : ∃ v, w' = v := ⟨_, rfl⟩
        rw [hv9] at HO2 HQ2 ⊢
        clear hv9 w'
        obtain ⟨r0, r1, r2, r3, r4⟩ := (HI.out.below HO2.out.b HI.out.lt).cells
        have hlt := (HI.out.below HO2.out.b HI.out.lt).lt
        go_upto_region 16 with fail
        apply wp_region_auto [110, 111, 112, 113, 114, 115, 116, 117, 118, 119, 120, 121, 122, 123, 124, 125, 126] [_, _, _, _, _, _, _, _, _, _, _, _, _, _, _, _, _] (fun W' => Below v9.heap.size v9 W')
        case hm => kernel_rfl
        case hT => intro y; simp only [setAll, List.setIfInBounds_toArray, List.set_cons_succ, List.set_cons_zero]; exact rfl
        case hok => kernel_rfl
        case hn => decide
        case hw => exact (Below.refl _ _).drew
        case hs =>
          refine auto_op 110 [] (by kernel_rfl) (fun y w' HW hd K hK => ?_) ?_
          · go_simp
            refine hK _ _ ?_ ?_ HW
            · simp [upd]
            · exact rfl
          refine auto_op 111 [0] (by kernel_rfl) (fun y w' HW hd K hK => ?_) ?_
          · have e0 := hd_nth (hd 0 (by simp)) rfl
            go_simp
            refine (HAL.out _ (HO2.out.f.csr.below HW HO2.out.f.csr.1.lt)).mono ?_
            rintro e w3 ⟨rfl, hb3⟩
            refine hK _ _ ?_ ?_ (HW.trans (hb3.mono HW.size))
            · simp [upd, e0]
            · exact rfl
          refine auto_op 112 [] (by kernel_rfl) (fun y w' HW hd K hK => ?_) ?_
          · have hcl : ∀ p : Addr, p.block < v9.heap.size → w'.cell? p = v9.cell? p := fun p hp => HW.cell hp
            refine step_val (a := ⟨_, _⟩) ?_ A7 ?_ ?_
            · go_simp
            · exact HLD.out _ _ _ (HQ2.out.below HW HQ2.out.lt) rfl rfl
            refine hK _ _ ?_ ?_ HW
            · simp [upd]
            · exact rfl
          refine auto_op 113 [1, 2] (by kernel_rfl) (fun y w' HW hd K hK => ?_) ?_
          · have e1 := hd_nth (hd 1 (by simp)) rfl
            have e2 := hd_nth (hd 2 (by simp)) rfl
            go_simp
            refine hK _ _ ?_ ?_ HW
            · simp [upd, e1, e2]
            · exact rfl
          refine auto_op 114 [3, 1] (by kernel_rfl) (fun y w' HW hd K hK => ?_) ?_
          · have e1 := hd_nth (hd 1 (by simp)) rfl
            have e3 := hd_nth (hd 3 (by simp)) rfl
            go_simp
            refine hK _ _ ?_ ?_ HW
            · simp [upd, e1, e3]
            · exact rfl
          refine auto_op 115 [4] (by kernel_rfl) (fun y w' HW hd K hK => ?_) ?_
          · have e4 := hd_nth (hd 4 (by simp)) rfl
            go_simp
            refine hK _ _ ?_ ?_ HW
            · simp [upd, e4]
            · exact rfl
          refine auto_op 116 [5, 4] (by kernel_rfl) (fun y w' HW hd K hK => ?_) ?_
          · have e4 := hd_nth (hd 4 (by simp)) rfl
            have e5 := hd_nth (hd 5 (by simp)) rfl
            have hcl : ∀ p : Addr, p.block < v9.heap.size → w'.cell? p = v9.cell? p := fun p hp => HW.cell hp
            go_simp
            refine hK _ _ ?_ ?_ HW
            · simp [upd, e4, e5]
            · exact rfl
          refine auto_op 117 [6, 4] (by kernel_rfl) (fun y w' HW hd K hK => ?_) ?_
          · have e4 := hd_nth (hd 4 (by simp)) rfl
            have e6 := hd_nth (hd 6 (by simp)) rfl
            go_simp
            refine hK _ _ ?_ ?_ HW
            · simp [upd, e4, e6]
            · exact rfl
          refine auto_op 118 [4, 7] (by kernel_rfl) (fun y w' HW hd K hK => ?_) ?_
          · have e4 := hd_nth (hd 4 (by simp)) rfl
            have e7 := hd_nth (hd 7 (by simp)) rfl
            go_simp
            refine hK _ _ ?_ ?_ HW
            · simp [upd, e4, e7]
            · exact rfl
          refine auto_op 119 [8, 4] (by kernel_rfl) (fun y w' HW hd K hK => ?_) ?_
          · have e4 := hd_nth (hd 4 (by simp)) rfl
            have e8 := hd_nth (hd 8 (by simp)) rfl
            go_simp
            refine hK _ _ ?_ ?_ HW
            · simp [upd, e4, e8]
            · exact rfl
          refine auto_op 120 [9] (by kernel_rfl) (fun y w' HW hd K hK => ?_) ?_
          · have e9 := hd_nth (hd 9 (by simp)) rfl
            go_simp
            refine hK _ _ ?_ ?_ HW
            · simp [upd, e9]
            · exact rfl
          refine auto_op 121 [10, 9] (by kernel_rfl) (fun y w' HW hd K hK => ?_) ?_
          · have e9 := hd_nth (hd 9 (by simp)) rfl
            have e10 := hd_nth (hd 10 (by simp)) rfl
            have hcl : ∀ p : Addr, p.block < v9.heap.size → w'.cell? p = v9.cell? p := fun p hp => HW.cell hp
            go_simp
            refine hK _ _ ?_ ?_ HW
            · simp [upd, e9, e10]
            · exact rfl
          refine auto_op 122 [11, 9] (by kernel_rfl) (fun y w' HW hd K hK => ?_) ?_
          · have e9 := hd_nth (hd 9 (by simp)) rfl
            have e11 := hd_nth (hd 11 (by simp)) rfl
            go_simp
            refine hK _ _ ?_ ?_ HW
            · simp [upd, e9, e11]
            · exact rfl
          refine auto_op 123 [9, 12] (by kernel_rfl) (fun y w' HW hd K hK => ?_) ?_
          · have e9 := hd_nth (hd 9 (by simp)) rfl
            have e12 := hd_nth (hd 12 (by simp)) rfl
            go_simp
            refine hK _ _ ?_ ?_ HW
            · simp [upd, e9, e12]
            · exact rfl
          refine auto_op 124 [13, 9] (by kernel_rfl) (fun y w' HW hd K hK => ?_) ?_
          · have e9 := hd_nth (hd 9 (by simp)) rfl
            have e13 := hd_nth (hd 13 (by simp)) rfl
            go_simp
            refine hK _ _ ?_ ?_ HW
            · simp [upd, e9, e13]
            · exact rfl
          refine auto_op 125 [14, 14] (by kernel_rfl) (fun y w' HW hd K hK => ?_) ?_
          · have e14 := hd_nth (hd 14 (by simp)) rfl
            go_simp
            refine (awake13_any _ (HO2.out.f.tab.more HW)).mono ?_
            rintro e w3 ⟨rfl, hb3⟩
            refine hK _ _ ?_ ?_ (HW.trans (hb3.mono HW.size))
            · simp [upd, e14]
            · exact rfl
          refine auto_op 126 [14, 15] (by kernel_rfl) (fun y w' HW hd K hK => ?_) ?_
          · have e14 := hd_nth (hd 14 (by simp)) rfl
            have e15 := hd_nth (hd 15 (by simp)) rfl
            go_simp
            refine hK _ _ ?_ ?_ HW
            · simp [upd, e14, e15]
            · exact rfl
          refine auto_last fun y w' HW hd K hK => ?_
          have e0 := hd_nth (hd 0 (by omega)) rfl
          have e1 := hd_nth (hd 1 (by omega)) rfl
          have e2 := hd_nth (hd 2 (by omega)) rfl
          have e3 := hd_nth (hd 3 (by omega)) rfl
          have e4 := hd_nth (hd 4 (by omega)) rfl
          have e5 := hd_nth (hd 5 (by omega)) rfl
          have e6 := hd_nth (hd 6 (by omega)) rfl
          have e7 := hd_nth (hd 7 (by omega)) rfl
          have e8 := hd_nth (hd 8 (by omega)) rfl
          have e9 := hd_nth (hd 9 (by omega)) rfl
          have e10 := hd_nth (hd 10 (by omega)) rfl
          have e11 := hd_nth (hd 11 (by omega)) rfl
          have e12 := hd_nth (hd 12 (by omega)) rfl
          have e13 := hd_nth (hd 13 (by omega)) rfl
          have e14 := hd_nth (hd 14 (by omega)) rfl
          have e15 := hd_nth (hd 15 (by omega)) rfl
          have e16 := hd_nth (hd 16 (by omega)) rfl
          go_simp
          refine hK _ _ ?_
          clear hd hK K e0 e1 e2 e3 e4 e5 e6 e7 e8 e9 e10 e11 e12 e13 e14 e15 e16
          go_wp2
          go_ret
          exact ⟨rfl, HB0.out.trans ((HO2.out.b.trans (HW.mono HO2.out.b.size)).mono HB0.out.size)⟩
end Go.Proofs.YtniaclhmfmkikaaGreatDoor.Ex
end
