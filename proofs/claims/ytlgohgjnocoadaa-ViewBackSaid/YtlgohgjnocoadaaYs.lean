/- The walk of hermitagelaw16.ViewBack. -/
import Derived.Test.YtlgohgjnocoadaaYr
namespace Go.Proofs.Ytlgohgjnocoadaa.Vw
open Go.RowKit Go.Shelf Ut Oc
set_option maxRecDepth 100000
set_option linter.unusedVariables false
set_option maxHeartbeats 8000000

theorem pv_noint {w : World} {b s m n : Nat} {S : List Int} {L : List Gm.Pl} {D : List Bool} (h : PV w b s m n S L D) {x : Addr} {J : Int} (hc : w.cell? x = some (.int .i64 J)) : x.block ≠ b := fun e => by
  have hb : w.heap[x.block]? = some (.cells (vCells s m D).toArray 60 (0, 0)) := by rw [e]; exact h.blk
  have h2 : x.spot = none ∧ (vCells s m D)[x.off]? = some (.int .i64 J) := by simpa [World.cell?, hb] using hc
  have h3 := List.mem_of_getElem? h2.2
  unfold vCells at h3
  simp at h3
theorem viewBack_any (x : Nat) (hx : x < 256) (ai ap ba : Option Addr) (li ci lp cp K bc : Nat) (xs zs : List Int) (Z : Nat → Gm.Pl) (z : Int) (hz0 : 0 ≤ z) (hz1 : z < 4294967296) (v : Int) (hv0 : 0 ≤ v) (hv1 : v < 4294967296) (w : World) (hli : li ≤ 9223372036854775807) (hlp : lp ≤ 9223372036854775807)
    (hKc : K ≤ bc) (hi : RowK .i64 w w.heap.size ai li xs) (hp : Gm.PlRow w w.heap.size ap lp Z) (hb : RowK .u8 w w.heap.size ba K zs) (hzs : AreBytes zs) :
    Calls Try.prog 4 #[.int .u8 x, .slice ai li ci, .slice ap lp cp, .int .u32 z, .int .u32 v, .slice ba K bc] w fun e w' => e = .returned (.bool true) ∧ Below w.heap.size w w' := by
  have HMK := Lib.hid (made_any x hx ai ap li ci lp cp w.heap.size xs Z w hli hlp hi hp (Nat.le_refl _))
  generalize 1 + x % 32 = n at HMK
  generalize mkL xs Z (cnt li lp) = LM at HMK
  have HBR := Lib.hid hb
  have HZS := Lib.hid hzs
  clear hi hp hb hzs
  go_enter Try.func4, Try.ntmps4
  go_wp2_with fail
  refine HMK.out.mono ?_
  rintro e w1 ⟨b, s, m, g, bt, B, q, gv, cap, rfl, hmk⟩
  have HP1 := Lib.hid hmk.pv
  have HB1 := Lib.hid hmk.blw
  have HWS := Lib.hid hmk.ws
  have HOK := Lib.hid hmk.pv.mp.2
  have HSL := Lib.hid hmk.pv.st.2.1
  have HSB : Hid (∀ y ∈ [s, b], w.heap.size ≤ y) := Lib.hid fun y hy => by
    have h1 := hmk.ws
    have h2 := hmk.pv.sm
    have h3 := hmk.pv.mb
    rcases List.mem_cons.1 hy with rfl | hy
    · omega
    · have e : y = b := (by simpa using hy)
      omega
  have HBB : Hid (w.heap.size ≤ b) := Lib.hid (HSB.out b (by simp))
  clear hmk HMK
  obtain ⟨f, hf⟩ : ∃ f, findF n LM z 4 2 = f := ⟨_, rfl⟩
  by_cases hf0 : f = 0
  · subst hf0
    obtain ⟨M, j, fr, o, HT, hh⟩ := find_zero HOK.out hz0 hf
    obtain rfl : M = 4 := by have := HT.hm; omega
    obtain ⟨S1, hS1⟩ : ∃ S1, saveS n Fr.zeros LM z 4 v = S1 := ⟨_, rfl⟩
    have hS1' : S1 = Fr.layF Fr.zeros fr (putZ (Fr.frameL Fr.zeros fr) o 4 v) := by rw [← hS1]; exact saveS_is hf HT
    have hWB : num (((Fr.frameL S1 fr).drop o).take 4) = v := by rw [hS1']; exact word_back Fr.zeros_len HT.f32 HT.fit hv0 hv1
    have HFD := Lib.hid (find_any (b := b) (s := s) (m := m) (S := Fr.zeros) (D := noD) z 4 2 0 _ hz0 hz1 hf hh w1 HP1.out)
    have HSV : Hid (∀ W, PV W b s m n Fr.zeros LM noD → Calls Try.prog 13 #[.pointer (some ⟨b, 0, none⟩), .int .u32 z, .int .i64 4, .int .u32 v] W fun e w' => e = .returned (.int .i64 0) ∧ PV w' b s m n S1 LM (noD.set j true) ∧ Kq [s, b] W w') := Lib.hid fun W hW => save_any z 4 v 0 S1 (noD.set j true) hz0 hz1 hv0 hv1 hf hS1 (saveD_is hf HT) W hW
    have HLD : Hid (∀ W D, PV W b s m n S1 LM D → Calls Try.prog 25 #[.pointer (some ⟨s, 0, none⟩), .int .i64 fr, .int .i64 o, .int .i64 4] W fun e w' => e = .returned (.tuple #[.int .u32 v, .int .i64 0]) ∧ W = w') := Lib.hid fun W D hW => by
      have := Fr.load_in s n fr o 4 S1 W hW.st HT.fn (by decide) HT.fit
      rw [hWB] at this
      exact this
    obtain ⟨al, hal⟩ : ∃ al, Gm.alwF (Gm.atP LM (j : Int)) (j : Int) 1 = al := ⟨_, rfl⟩
    have HAL : Hid (∀ W D, PV W b s m n S1 LM D → Calls Try.prog 27 #[.pointer (some ⟨m, 0, none⟩), .int .i64 j, .int .i64 1] W fun e w' => e = .returned (.int .i64 al) ∧ Below W.heap.size W w') := Lib.hid fun W D hW => Gm.allows_any m LM (j : Int) 1 al hal W hW.mp
    -- what is loaded through the map
    obtain ⟨gl, hgl⟩ : ∃ gl, findF n LM z 4 1 = gl := ⟨_, rfl⟩
    obtain ⟨yl, hyl⟩ : ∃ yl, loadF n S1 LM z 4 = yl := ⟨_, rfl⟩
    have HVL : Hid (∀ W D, PV W b s m n S1 LM D → Calls Try.prog 17 #[.pointer (some ⟨b, 0, none⟩), .int .u32 z, .int .i64 4] W fun e w' => e = .returned (.tuple #[.int .u32 yl, .int .i64 gl]) ∧ Below W.heap.size W w') := Lib.hid fun W D hW => load_any z 4 gl yl hz0 hz1 hgl hyl W hW
    have HGY : Hid (al = 0 → gl = 0 ∧ yl = v) := Lib.hid fun h0 => by
      have h1 : gl = 0 := by
        rw [← hgl]
        have hmod : z % 4 = 0 := by
          have h2 := hf
          unfold findF fltF at h2
          by_cases h3 : (isW 4 && (z % 4 == 0)) = true
          · simpa [isW] using h3
          · rw [if_neg h3] at h2; simp at h2
        have hlt : ¬ 768 ≤ z := by have := HT.hj; have := HT.j12; omega
        have h4 : fltF LM z 4 1 = 0 := by
          unfold fltF
          rw [HT.hj, hal, h0]
          simp [isW, hmod, hlt]
        have h5 := HT.hat
        have h6 := HT.fn
        unfold findF
        rw [if_pos h4, h5, if_pos (by omega)]
      refine ⟨h1, ?_⟩
      rw [← hyl]
      rw [loadF_is (by rw [hgl, h1]) HT]
      exact hWB
    have HDO := Lib.hid (dirt_one j HT.j12)
    clear hS1 hS1' hWB hf hh HT hal hgl hyl
    generalize (j : Int) = J at HFD HAL HDO
    generalize (fr : Int) = F at HFD HLD
    generalize (o : Int) = O at HFD HLD
    have HBX : Hid (∀ W, Below w1.heap.size w1 W → Below w1.heap.size w1 (W.alloc (.cells #[.int .i64 J, .int .i64 F, .int .i64 O, .bool false] 38))) := Lib.hid fun W h => h.alloc h.size _
    go_wp2_with fail
    refine HFD.out.mono ?_
    rintro e w2 ⟨rfl, hb⟩
    have HB2 := Lib.hid (HBX.out _ hb)
    have HN : Hid (Blk (w2.alloc (.cells #[.int .i64 J, .int .i64 F, .int .i64 O, .bool false] 38)) w2.heap.size 38 (hitC (J, F, O))) := Lib.hid (Blk.new w2 _ _)
    have HNB : Hid (b < w2.heap.size ∧ s < w2.heap.size) := Lib.hid ⟨Nat.lt_of_lt_of_le HP1.out.lt hb.size, Nat.lt_of_lt_of_le HP1.out.st.lt hb.size⟩
    have HP2 := Lib.hid (HP1.out.more HB2.out)
    clear hb HBX HFD HP1
    unfold hitV
    go_wp2_with fail
    generalize w2.alloc (.cells #[.int .i64 J, .int .i64 F, .int .i64 O, .bool false] 38) = V2 at HB2 HN HP2 ⊢
    generalize w2.heap.size = hb at HN HNB ⊢
    refine (HSV.out V2 HP2.out).mono ?_
    rintro e w3 ⟨rfl, hp3, hk3⟩
    have HP3 := Lib.hid hp3
    have HN3 := Lib.hid (HN.out.kq hk3 (by have := HNB.out; simp; omega))
    have HB3 : Hid (Below w.heap.size w w3) := Lib.hid ((HB1.out.trans (HB2.out.mono HB1.out.size)).trans (hk3.under HSB.out (by have := HB1.out.size; have := HB2.out.size; omega)))
    clear hp3 hk3 HSV HP2 HN HB2
    go_upto_region 10 with fail
    have c0 := HP3.out.cell0
    obtain ⟨n0, n1, n2, _⟩ := HAt.cells HN3.out
    dsimp only at n0 n1 n2
    have b0 := HP3.out.lt
    have b1 := HN3.out.lt
    have HST : Hid (∀ W, Below w3.heap.size w3 W → Calls Try.prog 24 #[.pointer (some ⟨b, 0, none⟩)] W fun e w' => e = .returned (.pointer (some ⟨s, 0, none⟩)) ∧ W = w') := Lib.hid fun W hW => store_any W (HP3.out.more hW)
    have HLDW : Hid (∀ W, Below w3.heap.size w3 W → Calls Try.prog 25 #[.pointer (some ⟨s, 0, none⟩), .int .i64 F, .int .i64 O, .int .i64 4] W fun e w' => e = .returned (.tuple #[.int .u32 v, .int .i64 0]) ∧ W = w') := Lib.hid fun W hW => HLD.out W _ (HP3.out.more hW)
    apply wp_region_auto [53, 54, 55, 56, 57, 58, 59, 52, 60, 61, 17] [_, _, _, _, _, _, _, _, _, _, _] (fun W' => Below w3.heap.size w3 W')
    case hm => kernel_rfl
    case hT => intro y; simp only [setAll, List.setIfInBounds_toArray, List.set_cons_succ, List.set_cons_zero]; exact rfl
    case hok => kernel_rfl
    case hn => decide
    case hw => exact (Below.refl _ _).drew
    case hs =>
      refine auto_op 53 [] (by kernel_rfl) (fun y w' HW hd K hK => ?_) ?_
      · go_simp
        refine hK _ _ ?_ ?_ HW
        · simp [upd]
        · exact rfl
      refine auto_op 54 [0] (by kernel_rfl) (fun y w' HW hd K hK => ?_) ?_
      · have e0 := hd_nth (hd 0 (by simp)) rfl
        go_simp
        refine (HST.out _ HW).mono ?_
        rintro e w4 ⟨rfl, rfl⟩
        refine hK _ _ ?_ ?_ HW
        · simp [upd, e0]
        · exact rfl
      refine auto_op 55 [] (by kernel_rfl) (fun y w' HW hd K hK => ?_) ?_
      · go_simp
        refine hK _ _ ?_ ?_ HW
        · simp [upd]
        · exact rfl
      refine auto_op 56 [2] (by kernel_rfl) (fun y w' HW hd K hK => ?_) ?_
      · have e2 := hd_nth (hd 2 (by simp)) rfl
        have hcl : ∀ p : Addr, p.block < w3.heap.size → w'.cell? p = w3.cell? p := fun p hp => HW.cell hp
        go_simp
        refine hK _ _ ?_ ?_ HW
        · simp [upd, e2]
        · exact rfl
      refine auto_op 57 [] (by kernel_rfl) (fun y w' HW hd K hK => ?_) ?_
      · go_simp
        refine hK _ _ ?_ ?_ HW
        · simp [upd]
        · exact rfl
      refine auto_op 58 [4] (by kernel_rfl) (fun y w' HW hd K hK => ?_) ?_
      · have e4 := hd_nth (hd 4 (by simp)) rfl
        have hcl : ∀ p : Addr, p.block < w3.heap.size → w'.cell? p = w3.cell? p := fun p hp => HW.cell hp
        go_simp
        refine hK _ _ ?_ ?_ HW
        · simp [upd, e4]
        · exact rfl
      refine auto_op 59 [1, 3, 5, 1] (by kernel_rfl) (fun y w' HW hd K hK => ?_) ?_
      · have e1 := hd_nth (hd 1 (by simp)) rfl
        have e3 := hd_nth (hd 3 (by simp)) rfl
        have e5 := hd_nth (hd 5 (by simp)) rfl
        go_simp
        refine (HLDW.out _ HW).mono ?_
        rintro e w4 ⟨rfl, rfl⟩
        refine hK _ _ ?_ ?_ HW
        · simp [upd, e1, e3, e5]
        · exact rfl
      refine auto_op 52 [6] (by kernel_rfl) (fun y w' HW hd K hK => ?_) ?_
      · have e6 := hd_nth (hd 6 (by simp)) rfl
        go_simp
        refine hK _ _ ?_ ?_ HW
        · simp [upd, e6]
        · exact rfl
      refine auto_op 60 [7] (by kernel_rfl) (fun y w' HW hd K hK => ?_) ?_
      · have e7 := hd_nth (hd 7 (by simp)) rfl
        go_simp
        refine hK _ _ ?_ ?_ HW
        · simp [upd, e7]
        · exact rfl
      refine auto_op 61 [7] (by kernel_rfl) (fun y w' HW hd K hK => ?_) ?_
      · have e7 := hd_nth (hd 7 (by simp)) rfl
        go_simp
        refine hK _ _ ?_ ?_ HW
        · simp [upd, e7]
        · exact rfl
      refine auto_op 17 [8, 6, 0, 1, 2, 3, 4, 5, 6, 7, 8] (by kernel_rfl) (fun y w' HW hd K hK => ?_) ?_
      · have e0 := hd_nth (hd 0 (by simp)) rfl
        have e1 := hd_nth (hd 1 (by simp)) rfl
        have e2 := hd_nth (hd 2 (by simp)) rfl
        have e3 := hd_nth (hd 3 (by simp)) rfl
        have e4 := hd_nth (hd 4 (by simp)) rfl
        have e5 := hd_nth (hd 5 (by simp)) rfl
        have e6 := hd_nth (hd 6 (by simp)) rfl
        have e7 := hd_nth (hd 7 (by simp)) rfl
        have e8 := hd_nth (hd 8 (by simp)) rfl
        go_simp
        refine hK _ _ ?_ ?_ HW
        · simp [upd, e0, e1, e2, e3, e4, e5, e6, e7, e8]
        · exact rfl
      refine auto_last fun y w' HW hd K hK => ?_
      have e0 := hd_nth (hd 0 (by omega)) rfl
      have e1 := hd_nth (hd 1 (by omega)) rfl
      have e2 := hd_nth (hd 2 (by omega)) rfl
      have e3 := hd_nth (hd 3 (by omega)) rfl
      have e4 := hd_nth (hd 4 (by omega)) rfl
      have e5 := hd_nth (hd 5 (by omega)) rfl
      have e6 := hd_nth (hd 6 (by omega)) rfl
      have e7 := hd_nth (hd 7 (by omega)) rfl
      have e8 := hd_nth (hd 8 (by omega)) rfl
      have e9 := hd_nth (hd 9 (by omega)) rfl
      have e10 := hd_nth (hd 10 (by omega)) rfl
      go_simp
      refine hK _ _ ?_
      clear hd hK K e0 e1 e2 e3 e4 e5 e6 e7 e8 e9 e10
      have HP4 := Lib.hid (HP3.out.more HW)
      have HN4 := Lib.hid (HN3.out.more HW)
      have HB4 : Hid (Below w.heap.size w w') := Lib.hid (HB3.out.trans (HW.mono HB3.out.size))
      clear HW c0 n0 n1 n2 b0 b1 HST HLDW HLD HP3 HN3 HB3
      go_wp2_with fail
      refine (dirty_any w' HP4.out).mono ?_
      rintro e w5 ⟨da, dn, dc, rfl, HRD, hp5, hk5⟩
      rw [HDO.out] at HRD
      obtain rfl : 1 = dn := HRD.out.1
      obtain ⟨xl, rfl, hxb, hxc⟩ := HRD.out.2 0 (by omega)
      have HXC : Hid (w5.cell? xl = some (.int .i64 J)) := Lib.hid hxc
      have HXL : Hid (xl.block < w5.heap.size) := Lib.hid hxb
      have HP5 := Lib.hid hp5
      have HN5 := Lib.hid (HN4.out.kq hk5 (by have := HNB.out; simp; omega))
      have HB5 : Hid (Below w.heap.size w w5) := Lib.hid (HB4.out.trans (hk5.under (fun y hy => HSB.out y (by simp at hy; simp [hy])) HB4.out.size))
      have HXB : Hid (xl.block ≠ b) := Lib.hid (pv_noint hp5 hxc)
      clear hp5 hk5 HP4 HN4 HB4 hxb hxc HRD
      go_upto_region 12 with fail
      have HDI0 : Hid (DI w.heap.size w5 b s m n S1 LM xl hb J w5.drew) := Lib.hid ⟨(Below.refl _ _).drew, HP5.out.more (Below.refl _ _).drew, HXC.out, (HAt.cells HN5.out).1, HXB.out, by have := HNB.out; omega, HXL.out, HN5.out.lt⟩
      have HDN : Hid (∀ W, PV W b s m n S1 LM noD → Calls Try.prog 11 #[.pointer (some ⟨b, 0, none⟩)] W fun e w' => e = .returned (.slice none 0 0) ∧ PV w' b s m n S1 LM noD ∧ Kq [b] W w') := Lib.hid fun W hW => dirty_nil W hW
      apply wp_region_autoL [64, 65, 66, 67, 68, 69, 70, 71, 72, 73, 74, 75, 76, 77, 78, 79, 80, 81, 82, 83, 84, 85, 86, 87, 88] [_, _, _, _, _, _, _, _, _, _, _, _, _, _, _, _, _, _, _, _, _, _, _, _, _] (fun L_ W' => DI w.heap.size w5 b s m n S1 LM xl hb J W')
      case hm => kernel_rfl
      case hT => intro y; simp only [setAll, List.setIfInBounds_toArray, List.set_cons_succ, List.set_cons_zero]; exact rfl
      case hok => kernel_rfl
      case hn => decide
      case hw => exact fun L_ hL => HDI0.out
      case hs =>
        refine autoL_op 64 [] (by kernel_rfl) (fun L y w' hL HW hd K hK => ?_) ?_
        · go_simp
          refine hK _ _ ?_ ?_ HW
          · simp [upd]
          · exact rfl
        refine autoL_op 65 [] (by kernel_rfl) (fun L y w' hL HW hd K hK => ?_) ?_
        · go_simp
          refine hK _ _ ?_ ?_ HW
          · simp [upd]
          · exact rfl
        refine autoL_op 66 [0, 1] (by kernel_rfl) (fun L y w' hL HW hd K hK => ?_) ?_
        · have e0 := hd_nth (hd 0 (by simp)) rfl
          have e1 := hd_nth (hd 1 (by simp)) rfl
          go_simp
          refine hK _ _ ?_ ?_ HW
          · simp [upd, e0, e1]
          · exact rfl
        refine autoL_op 67 [2] (by kernel_rfl) (fun L y w' hL HW hd K hK => ?_) ?_
        · have e2 := hd_nth (hd 2 (by simp)) rfl
          go_simp
          refine hK _ _ ?_ ?_ HW
          · simp [upd, e2]
          · exact rfl
        refine autoL_op 68 [3] (by kernel_rfl) (fun L y w' hL HW hd K hK => ?_) ?_
        · have e3 := hd_nth (hd 3 (by simp)) rfl
          go_simp
          refine hK _ _ ?_ ?_ HW
          · simp [upd, e3]
          · exact rfl
        refine autoL_op 69 [4, 3] (by kernel_rfl) (fun L y w' hL HW hd K hK => ?_) ?_
        · have e3 := hd_nth (hd 3 (by simp)) rfl
          have e4 := hd_nth (hd 4 (by simp)) rfl
          go_simp
          refine hK _ _ ?_ ?_ HW
          · simp [upd, e3, e4]
          · exact rfl
        refine autoL_op 70 [3, 5] (by kernel_rfl) (fun L y w' hL HW hd K hK => ?_) ?_
        · have e3 := hd_nth (hd 3 (by simp)) rfl
          have e5 := hd_nth (hd 5 (by simp)) rfl
          go_simp
          refine hK _ _ ?_ ?_ HW
          · simp [upd, e3, e5]
          · exact rfl
        refine autoL_op 71 [6, 3] (by kernel_rfl) (fun L y w' hL HW hd K hK => ?_) ?_
        · have e3 := hd_nth (hd 3 (by simp)) rfl
          have e6 := hd_nth (hd 6 (by simp)) rfl
          go_simp
          refine hK _ _ ?_ ?_ HW
          · simp [upd, e3, e6]
          · exact rfl
        refine autoL_op 72 [7] (by kernel_rfl) (fun L y w' hL HW hd K hK => ?_) ?_
        · have e7 := hd_nth (hd 7 (by simp)) rfl
          go_simp
          refine hK _ _ ?_ ?_ HW
          · simp [upd, e7]
          · exact rfl
        refine autoL_op 73 [8, 7] (by kernel_rfl) (fun L y w' hL HW hd K hK => ?_) ?_
        · have e7 := hd_nth (hd 7 (by simp)) rfl
          have e8 := hd_nth (hd 8 (by simp)) rfl
          go_simp
          refine hK _ _ ?_ ?_ HW
          · simp [upd, e7, e8]
          · exact rfl
        refine autoL_op 74 [9, 7] (by kernel_rfl) (fun L y w' hL HW hd K hK => ?_) ?_
        · have e7 := hd_nth (hd 7 (by simp)) rfl
          have e9 := hd_nth (hd 9 (by simp)) rfl
          go_simp
          refine hK _ _ ?_ ?_ HW
          · simp [upd, e7, e9]
          · exact rfl
        refine autoL_op 75 [7, 10] (by kernel_rfl) (fun L y w' hL HW hd K hK => ?_) ?_
        · have e7 := hd_nth (hd 7 (by simp)) rfl
          have e10 := hd_nth (hd 10 (by simp)) rfl
          go_simp
          refine hK _ _ ?_ ?_ HW
          · simp [upd, e7, e10]
          · exact rfl
        refine autoL_op 76 [11, 7] (by kernel_rfl) (fun L y w' hL HW hd K hK => ?_) ?_
        · have e7 := hd_nth (hd 7 (by simp)) rfl
          have e11 := hd_nth (hd 11 (by simp)) rfl
          go_simp
          refine hK _ _ ?_ ?_ HW
          · simp [upd, e7, e11]
          · exact rfl
        refine autoL_op 77 [12] (by kernel_rfl) (fun L y w' hL HW hd K hK => ?_) ?_
        · have e12 := hd_nth (hd 12 (by simp)) rfl
          go_simp
          refine hK _ _ ?_ ?_ HW
          · simp [upd, e12]
          · exact rfl
        refine autoL_op 78 [13, 12] (by kernel_rfl) (fun L y w' hL HW hd K hK => ?_) ?_
        · have e12 := hd_nth (hd 12 (by simp)) rfl
          have e13 := hd_nth (hd 13 (by simp)) rfl
          go_simp
          refine hK _ _ ?_ ?_ HW
          · simp [upd, e12, e13]
          · exact rfl
        refine autoL_op 79 [14, 12] (by kernel_rfl) (fun L y w' hL HW hd K hK => ?_) ?_
        · have e12 := hd_nth (hd 12 (by simp)) rfl
          have e14 := hd_nth (hd 14 (by simp)) rfl
          have hcl : ∀ p : Addr, p.block < w.heap.size → w'.cell? p = w5.cell? p := fun p hp => HW.1.cell hp
          have q0 := HW.2.2.1
          go_simp
          refine hK _ _ ?_ ?_ HW
          · simp [upd, e12, e14]
          · exact rfl
        refine autoL_op 80 [12] (by kernel_rfl) (fun L y w' hL HW hd K hK => ?_) ?_
        · have e12 := hd_nth (hd 12 (by simp)) rfl
          go_simp
          refine hK _ _ ?_ ?_ HW
          · simp [upd, e12]
          · exact rfl
        refine autoL_op 81 [16, 12] (by kernel_rfl) (fun L y w' hL HW hd K hK => ?_) ?_
        · have e12 := hd_nth (hd 12 (by simp)) rfl
          have e16 := hd_nth (hd 16 (by simp)) rfl
          have hcl : ∀ p : Addr, p.block < w.heap.size → w'.cell? p = w5.cell? p := fun p hp => HW.1.cell hp
          have q0 := HW.2.2.2.1
          go_simp
          refine hK _ _ ?_ ?_ HW
          · simp [upd, e12, e16]
          · exact rfl
        refine autoL_op 82 [15, 17, 12] (by kernel_rfl) (fun L y w' hL HW hd K hK => ?_) ?_
        · have e12 := hd_nth (hd 12 (by simp)) rfl
          have e15 := hd_nth (hd 15 (by simp)) rfl
          have e17 := hd_nth (hd 17 (by simp)) rfl
          go_simp
          refine hK _ _ ?_ ?_ HW
          · simp [upd, e12, e15, e17]
          · exact rfl
        refine autoL_op 83 [12, 18] (by kernel_rfl) (fun L y w' hL HW hd K hK => ?_) ?_
        · have e12 := hd_nth (hd 12 (by simp)) rfl
          have e18 := hd_nth (hd 18 (by simp)) rfl
          go_simp
          refine hK _ _ ?_ ?_ HW
          · simp [upd, e12, e18]
          · exact rfl
        refine autoL_op 84 [19, 12] (by kernel_rfl) (fun L y w' hL HW hd K hK => ?_) ?_
        · have e12 := hd_nth (hd 12 (by simp)) rfl
          have e19 := hd_nth (hd 19 (by simp)) rfl
          go_simp
          refine hK _ _ ?_ ?_ HW
          · simp [upd, e12, e19]
          · exact rfl
        refine autoL_op 85 [20] (by kernel_rfl) (fun L y w' hL HW hd K hK => ?_) ?_
        · have e20 := hd_nth (hd 20 (by simp)) rfl
          go_simp
          refine hK _ _ ?_ ?_ HW
          · simp [upd, e20]
          · exact rfl
        refine autoL_op 86 [21, 20, 20] (by kernel_rfl) (fun L y w' hL HW hd K hK => ?_) ?_
        · have e20 := hd_nth (hd 20 (by simp)) rfl
          have e21 := hd_nth (hd 21 (by simp)) rfl
          go_simp
          refine (HDN.out _ HW.2.1).mono ?_
          rintro e w6 ⟨rfl, hp6, hk6⟩
          refine hK _ _ ?_ ?_ (HW.act hp6 hk6 HBB.out)
          · simp [upd, e20, e21]
          · exact rfl
        refine autoL_op 87 [22, 20] (by kernel_rfl) (fun L y w' hL HW hd K hK => ?_) ?_
        · have e20 := hd_nth (hd 20 (by simp)) rfl
          have e22 := hd_nth (hd 22 (by simp)) rfl
          go_simp
          refine hK _ _ ?_ ?_ HW
          · simp [upd, e20, e22]
          · exact rfl
        refine autoL_op 88 [23, 20] (by kernel_rfl) (fun L y w' hL HW hd K hK => ?_) ?_
        · have e20 := hd_nth (hd 20 (by simp)) rfl
          have e23 := hd_nth (hd 23 (by simp)) rfl
          go_simp
          refine hK _ _ ?_ ?_ HW
          · simp [upd, e20, e23]
          · exact rfl
        refine autoL_last fun L y w' hLs HW hd K hK => ?_
        have e0 := hd_nth (hd 0 (by omega)) rfl
        have e1 := hd_nth (hd 1 (by omega)) rfl
        have e2 := hd_nth (hd 2 (by omega)) rfl
        have e3 := hd_nth (hd 3 (by omega)) rfl
        have e4 := hd_nth (hd 4 (by omega)) rfl
        have e5 := hd_nth (hd 5 (by omega)) rfl
        have e6 := hd_nth (hd 6 (by omega)) rfl
        have e7 := hd_nth (hd 7 (by omega)) rfl
        have e8 := hd_nth (hd 8 (by omega)) rfl
        have e9 := hd_nth (hd 9 (by omega)) rfl
        have e10 := hd_nth (hd 10 (by omega)) rfl
        have e11 := hd_nth (hd 11 (by omega)) rfl
        have e12 := hd_nth (hd 12 (by omega)) rfl
        have e13 := hd_nth (hd 13 (by omega)) rfl
        have e14 := hd_nth (hd 14 (by omega)) rfl
        have e15 := hd_nth (hd 15 (by omega)) rfl
        have e16 := hd_nth (hd 16 (by omega)) rfl
        have e17 := hd_nth (hd 17 (by omega)) rfl
        have e18 := hd_nth (hd 18 (by omega)) rfl
        have e19 := hd_nth (hd 19 (by omega)) rfl
        have e20 := hd_nth (hd 20 (by omega)) rfl
        have e21 := hd_nth (hd 21 (by omega)) rfl
        have e22 := hd_nth (hd 22 (by omega)) rfl
        have e23 := hd_nth (hd 23 (by omega)) rfl
        have e24 := hd_nth (hd 24 (by omega)) rfl
        have HDIF := Lib.hid HW
        go_simp
        refine hK _ _ ?_
        clear hd hK K e0 e1 e2 e3 e4 e5 e6 e7 e8 e9 e10 e11 e12 e13 e14 e15 e16 e17 e18 e19 e20 e21 e22 e23 e24
        clear hLs HW
        have HP6 := Lib.hid HDIF.out.2.1
        have HB6 : Hid (Below w.heap.size w w') := Lib.hid (HB5.out.trans HDIF.out.1)
        have HN6 : Hid (w'.cell? ⟨hb, 0, none⟩ = some (.int .i64 J)) := Lib.hid HDIF.out.2.2.2.1
        have HL6 : Hid (hb < w'.heap.size) := Lib.hid HDIF.out.2.2.2.2.2.2.2
        clear HDIF HDI0 HDN HP5 HN5 HB5 HXC HXL HXB
        go_wp2_with fail
        refine (HVL.out _ _ HP6.out).mono ?_
        rintro e w7 ⟨rfl, hb7⟩
        have HP7 := Lib.hid (HP6.out.more hb7)
        have HB7 := Lib.hid (HB6.out.trans (hb7.mono HB6.out.size))
        have n0 : w7.cell? ⟨hb, 0, none⟩ = some (.int .i64 J) := (hb7.cell (p := ⟨hb, 0, none⟩) HL6.out).trans HN6.out
        have b1 : hb < w7.heap.size := Nat.lt_of_lt_of_le HL6.out hb7.size
        clear hb7 HP6 HB6 HN6 HL6
        go_upto_region 15 with fail
        have HMP : Hid (∀ W, Below w7.heap.size w7 W → Calls Try.prog 26 #[.pointer (some ⟨b, 0, none⟩)] W fun e w' => e = .returned (.pointer (some ⟨m, 0, none⟩)) ∧ W = w') := Lib.hid fun W hW => map_any W (HP7.out.more hW)
        have HAW : Hid (∀ W, Below w7.heap.size w7 W → Calls Try.prog 27 #[.pointer (some ⟨m, 0, none⟩), .int .i64 J, .int .i64 1] W fun e w' => e = .returned (.int .i64 al) ∧ Below W.heap.size W w') := Lib.hid fun W hW => HAL.out W _ (HP7.out.more hW)
        by_cases hal0 : al = 0
        · obtain ⟨hg0, hy0⟩ := HGY.out hal0
          subst hal0 hg0 hy0
          clear HGY HVL HAL
          apply wp_region_auto [96, 97, 98, 99, 100, 101, 102, 103, 104, 105, 106, 107, 108, 109] [_, _, _, _, _, _, _, _, _, _, _, _, _, _] (fun W' => Below w7.heap.size w7 W')
          case hm => kernel_rfl
          case hT => intro y; simp only [setAll, List.setIfInBounds_toArray, List.set_cons_succ, List.set_cons_zero]; exact rfl
          case hok => kernel_rfl
          case hn => decide
          case hw => exact (Below.refl _ _).drew
          case hs =>
            refine auto_op 96 [] (by kernel_rfl) (fun y w' HW hd K hK => ?_) ?_
            · go_simp
              refine hK _ _ ?_ ?_ HW
              · simp [upd]
              · exact rfl
            refine auto_op 97 [0] (by kernel_rfl) (fun y w' HW hd K hK => ?_) ?_
            · have e0 := hd_nth (hd 0 (by simp)) rfl
              go_simp
              refine (HMP.out _ HW).mono ?_
              rintro e w8 ⟨rfl, rfl⟩
              refine hK _ _ ?_ ?_ HW
              · simp [upd, e0]
              · exact rfl
            refine auto_op 98 [] (by kernel_rfl) (fun y w' HW hd K hK => ?_) ?_
            · go_simp
              refine hK _ _ ?_ ?_ HW
              · simp [upd]
              · exact rfl
            refine auto_op 99 [2] (by kernel_rfl) (fun y w' HW hd K hK => ?_) ?_
            · have e2 := hd_nth (hd 2 (by simp)) rfl
              have hcl : ∀ p : Addr, p.block < w7.heap.size → w'.cell? p = w7.cell? p := fun p hp => HW.cell hp
              go_simp
              refine hK _ _ ?_ ?_ HW
              · simp [upd, e2]
              · exact rfl
            refine auto_op 100 [1, 3, 1] (by kernel_rfl) (fun y w' HW hd K hK => ?_) ?_
            · have e1 := hd_nth (hd 1 (by simp)) rfl
              have e3 := hd_nth (hd 3 (by simp)) rfl
              go_simp
              refine (HAW.out _ HW).mono ?_
              rintro e w8 ⟨rfl, hb8⟩
              refine hK _ _ ?_ ?_ (HW.trans (hb8.mono HW.size))
              · simp [upd, e1, e3]
              · exact rfl
            refine auto_op 101 [4] (by kernel_rfl) (fun y w' HW hd K hK => ?_) ?_
            · have e4 := hd_nth (hd 4 (by simp)) rfl
              go_simp
              refine hK _ _ ?_ ?_ HW
              · simp [upd, e4]
              · exact rfl
            refine auto_op 102 [5, 4] (by kernel_rfl) (fun y w' HW hd K hK => ?_) ?_
            · have e4 := hd_nth (hd 4 (by simp)) rfl
              have e5 := hd_nth (hd 5 (by simp)) rfl
              go_simp
              refine hK _ _ ?_ ?_ HW
              · simp [upd, e4, e5]
              · exact rfl
            refine auto_op 103 [6] (by kernel_rfl) (fun y w' HW hd K hK => ?_) ?_
            · have e6 := hd_nth (hd 6 (by simp)) rfl
              go_simp
              refine hK _ _ ?_ ?_ HW
              · simp [upd, e6]
              · exact rfl
            refine auto_op 104 [6] (by kernel_rfl) (fun y w' HW hd K hK => ?_) ?_
            · have e6 := hd_nth (hd 6 (by simp)) rfl
              go_simp
              refine hK _ _ ?_ ?_ HW
              · simp [upd, e6]
              · exact rfl
            refine auto_op 105 [7, 8, 6] (by kernel_rfl) (fun y w' HW hd K hK => ?_) ?_
            · have e6 := hd_nth (hd 6 (by simp)) rfl
              have e7 := hd_nth (hd 7 (by simp)) rfl
              have e8 := hd_nth (hd 8 (by simp)) rfl
              go_simp
              refine hK _ _ ?_ ?_ HW
              · simp [upd, e6, e7, e8]
              · exact rfl
            refine auto_op 106 [9, 6, 6] (by kernel_rfl) (fun y w' HW hd K hK => ?_) ?_
            · have e6 := hd_nth (hd 6 (by simp)) rfl
              have e9 := hd_nth (hd 9 (by simp)) rfl
              go_simp
              refine hK _ _ ?_ ?_ HW
              · simp [upd, e6, e9]
              · exact rfl
            refine auto_op 107 [10] (by kernel_rfl) (fun y w' HW hd K hK => ?_) ?_
            · have e10 := hd_nth (hd 10 (by simp)) rfl
              go_simp
              refine hK _ _ ?_ ?_ HW
              · simp [upd, e10]
              · exact rfl
            refine auto_op 108 [11, 10] (by kernel_rfl) (fun y w' HW hd K hK => ?_) ?_
            · have e10 := hd_nth (hd 10 (by simp)) rfl
              have e11 := hd_nth (hd 11 (by simp)) rfl
              go_simp
              refine hK _ _ ?_ ?_ HW
              · simp [upd, e10, e11]
              · exact rfl
            refine auto_op 109 [10, 12, 6] (by kernel_rfl) (fun y w' HW hd K hK => ?_) ?_
            · have e6 := hd_nth (hd 6 (by simp)) rfl
              have e10 := hd_nth (hd 10 (by simp)) rfl
              have e12 := hd_nth (hd 12 (by simp)) rfl
              go_simp
              refine hK _ _ ?_ ?_ HW
              · simp [upd, e6, e10, e12]
              · exact rfl
            refine auto_last fun y w' HW hd K hK => ?_
            have e0 := hd_nth (hd 0 (by omega)) rfl
            have e1 := hd_nth (hd 1 (by omega)) rfl
            have e2 := hd_nth (hd 2 (by omega)) rfl
            have e3 := hd_nth (hd 3 (by omega)) rfl
            have e4 := hd_nth (hd 4 (by omega)) rfl
            have e5 := hd_nth (hd 5 (by omega)) rfl
            have e6 := hd_nth (hd 6 (by omega)) rfl
            have e7 := hd_nth (hd 7 (by omega)) rfl
            have e8 := hd_nth (hd 8 (by omega)) rfl
            have e9 := hd_nth (hd 9 (by omega)) rfl
            have e10 := hd_nth (hd 10 (by omega)) rfl
            have e11 := hd_nth (hd 11 (by omega)) rfl
            have e12 := hd_nth (hd 12 (by omega)) rfl
            have e13 := hd_nth (hd 13 (by omega)) rfl
            go_simp
            refine hK _ _ ?_
            clear hd hK K e0 e1 e2 e3 e4 e5 e6 e7 e8 e9 e10 e11 e12 e13
            have HPT := Lib.hid (HP7.out.more HW)
            have HBT : Hid (Below w.heap.size w w') := Lib.hid (HB7.out.trans (HW.mono HB7.out.size))
            have HS1 := Lib.hid HPT.out.st.2.1
            clear HW n0 b1 HMP HAW HP7 HB7 HNB HDO
            have HRW := Lib.hid (HBR.out.below HBT.out)
            obtain ⟨t, ht⟩ : ∃ t, ownB n LM z K = t := ⟨_, rfl⟩
            obtain ⟨S2, hS2⟩ : ∃ S2, wrtS n S1 LM z zs = S2 := ⟨_, rfl⟩
            obtain ⟨D2, hD2⟩ : ∃ D2, wrtD n LM noD z K = D2 := ⟨_, rfl⟩
            have HWR := Lib.hid (write_any (b := b) (s := s) (m := m) z ba K bc w.heap.size zs t S2 D2 hz0 hz1 ht hS2 hD2 hKc HZS.out w' HRW.out HPT.out HWS.out)
            have HRD : Hid (∀ W, PV W b s m n S2 LM D2 → Calls Try.prog 19 #[.pointer (some ⟨b, 0, none⟩), .int .u32 z, .int .i64 K] W fun e w' => ∃ p q c, e = .returned (.tuple #[.slice p q c, .bool t]) ∧ Hid (RowK .u8 w' w'.heap.size p q (rdL n S2 LM z K)) ∧ Below W.heap.size W w') := Lib.hid fun W hW => read_any z K t hz0 hz1 ht W hW
            have HOW : Hid (∀ W, PV W b s m n S2 LM D2 → Calls Try.prog 21 #[.pointer (some ⟨b, 0, none⟩), .int .u32 z, .int .i64 K] W fun e w' => e = .returned (.bool t) ∧ Below W.heap.size W w') := Lib.hid fun W hW => own_any z K t hz0 hz1 ht W hW
            have HKL := Lib.hid HBR.out.1
            have HBK : Hid (t = true → K ≤ 64 → rdL n S2 LM z K = zs) := Lib.hid fun h1 h2 => by
              rw [h1, ← HKL.out] at ht
              rw [← hS2, ← HKL.out]
              exact read_back HOK.out HS1.out hz0 ht (by rw [HKL.out]; exact h2)
            have HNO : Hid (t = false → D2 = noD ∧ rdL n S2 LM z K = []) := Lib.hid fun h1 => by
              rw [h1] at ht
              refine ⟨?_, ?_⟩
              · rw [← hD2]; unfold wrtD; rw [ht]; rfl
              · unfold rdL; rw [ht]; rfl
            clear ht hS2 hD2 HRW
            go_wp2_with fail
            refine HWR.out.mono ?_
            rintro e u1 ⟨rfl, hpu, hku⟩
            have HPU := Lib.hid hpu
            have HBU : Hid (Below w.heap.size w u1) := Lib.hid (HBT.out.trans (hku.under HSB.out HBT.out.size))
            clear hpu hku HWR HPT HBT
            go_wp2_with fail
            refine (HRD.out u1 HPU.out).mono ?_
            rintro e u2 ⟨rp, rq, rc, rfl, HRR, hb⟩
            have HPU2 := Lib.hid (HPU.out.more hb)
            have HBU2 : Hid (Below w.heap.size w u2) := Lib.hid (HBU.out.trans (hb.mono HBU.out.size))
            clear hb HPU HBU HRD
            go_wp2_with fail
            refine (HOW.out u2 HPU2.out).mono ?_
            rintro e u3 ⟨rfl, hb⟩
            have HPU3 := Lib.hid (HPU2.out.more hb)
            have HBU3 : Hid (Below w.heap.size w u3) := Lib.hid (HBU2.out.trans (hb.mono HBU2.out.size))
            have HRR3 := Lib.hid (HRR.out.below hb)
            have HRB := Lib.hid (HBR.out.below HBU3.out)
            clear hb HPU2 HBU2 HOW HRR
            cases t
            · obtain ⟨hd, hr⟩ := HNO.out rfl
              subst hd
              rw [hr] at HRR3
              obtain rfl : 0 = rq := HRR3.out.1
              clear hr HNO HBK
              go_wp2_with fail
              refine (dirty_nil u3 HPU3.out).mono ?_
              rintro e u4 ⟨rfl, hp4, hk4⟩
              have HBU4 : Hid (Below w.heap.size w u4) := Lib.hid (HBU3.out.trans (hk4.under (by simpa using HBB.out) HBU3.out.size))
              clear hp4 hk4
              go_wp2_with fail
              refine (awake_any u4).mono ?_
              rintro e u5 ⟨rfl, hb⟩
              have HBU5 : Hid (Below w.heap.size w u5) := Lib.hid (HBU4.out.trans (hb.mono HBU4.out.size))
              clear hb
              go_wp2
              go_ret
              exact ⟨rfl, HBU5.out⟩
            · by_cases h64 : K ≤ 64
              · have hr := HBK.out rfl h64
                rw [hr] at HRR3
                have k64 : (K : Int) ≤ 64 := by omega
                have hcv1 := run_convert_row (P := Try.prog) (cap := rc) (dst := 9) Try.underlying30 Try.underlying5 Try.underlying9 HRR3.out
                have hcv2 := run_convert_row (P := Try.prog) (cap := bc) (dst := 9) Try.underlying30 Try.underlying5 Try.underlying9 HRB.out
                clear hr HNO HBK h64
                go_wp2_with fail
                refine (awake_any u3).mono ?_
                rintro e u5 ⟨rfl, hb⟩
                have HBU5 : Hid (Below w.heap.size w u5) := Lib.hid (HBU3.out.trans (hb.mono HBU3.out.size))
                clear hb
                go_wp2
                go_ret
                exact ⟨rfl, HBU5.out⟩
              · have k64 : ¬ (K : Int) ≤ 64 := by omega
                clear HNO HBK h64
                go_wp2_with fail
                refine (awake_any u3).mono ?_
                rintro e u5 ⟨rfl, hb⟩
                have HBU5 : Hid (Below w.heap.size w u5) := Lib.hid (HBU3.out.trans (hb.mono HBU3.out.size))
                clear hb
                go_wp2
                go_ret
                exact ⟨rfl, HBU5.out⟩
        · have hal1 : (al == 0) = false := by simpa using hal0
          clear HGY HVL HAL hal0
          apply wp_region_auto [96, 97, 98, 99, 100, 101, 102, 103, 104, 105, 106, 107, 108, 109] [_, _, _, _, _, _, _, _, _, _, _, _, _, _] (fun W' => Below w7.heap.size w7 W')
          case hm => kernel_rfl
          case hT => intro y; simp only [setAll, List.setIfInBounds_toArray, List.set_cons_succ, List.set_cons_zero]; exact rfl
          case hok => kernel_rfl
          case hn => decide
          case hw => exact (Below.refl _ _).drew
          case hs =>
            refine auto_op 96 [] (by kernel_rfl) (fun y w' HW hd K hK => ?_) ?_
            · go_simp
              refine hK _ _ ?_ ?_ HW
              · simp [upd]
              · exact rfl
            refine auto_op 97 [0] (by kernel_rfl) (fun y w' HW hd K hK => ?_) ?_
            · have e0 := hd_nth (hd 0 (by simp)) rfl
              go_simp
              refine (HMP.out _ HW).mono ?_
              rintro e w8 ⟨rfl, rfl⟩
              refine hK _ _ ?_ ?_ HW
              · simp [upd, e0]
              · exact rfl
            refine auto_op 98 [] (by kernel_rfl) (fun y w' HW hd K hK => ?_) ?_
            · go_simp
              refine hK _ _ ?_ ?_ HW
              · simp [upd]
              · exact rfl
            refine auto_op 99 [2] (by kernel_rfl) (fun y w' HW hd K hK => ?_) ?_
            · have e2 := hd_nth (hd 2 (by simp)) rfl
              have hcl : ∀ p : Addr, p.block < w7.heap.size → w'.cell? p = w7.cell? p := fun p hp => HW.cell hp
              go_simp
              refine hK _ _ ?_ ?_ HW
              · simp [upd, e2]
              · exact rfl
            refine auto_op 100 [1, 3, 1] (by kernel_rfl) (fun y w' HW hd K hK => ?_) ?_
            · have e1 := hd_nth (hd 1 (by simp)) rfl
              have e3 := hd_nth (hd 3 (by simp)) rfl
              go_simp
              refine (HAW.out _ HW).mono ?_
              rintro e w8 ⟨rfl, hb8⟩
              refine hK _ _ ?_ ?_ (HW.trans (hb8.mono HW.size))
              · simp [upd, e1, e3]
              · exact rfl
            refine auto_op 101 [4] (by kernel_rfl) (fun y w' HW hd K hK => ?_) ?_
            · have e4 := hd_nth (hd 4 (by simp)) rfl
              go_simp
              refine hK _ _ ?_ ?_ HW
              · simp [upd, e4]
              · exact rfl
            refine auto_op 102 [5, 4] (by kernel_rfl) (fun y w' HW hd K hK => ?_) ?_
            · have e4 := hd_nth (hd 4 (by simp)) rfl
              have e5 := hd_nth (hd 5 (by simp)) rfl
              go_simp
              refine hK _ _ ?_ ?_ HW
              · simp [upd, e4, e5]
              · exact rfl
            refine auto_op 103 [6] (by kernel_rfl) (fun y w' HW hd K hK => ?_) ?_
            · have e6 := hd_nth (hd 6 (by simp)) rfl
              go_simp
              refine hK _ _ ?_ ?_ HW
              · simp [upd, e6]
              · exact rfl
            refine auto_op 104 [6] (by kernel_rfl) (fun y w' HW hd K hK => ?_) ?_
            · have e6 := hd_nth (hd 6 (by simp)) rfl
              go_simp
              refine hK _ _ ?_ ?_ HW
              · simp [upd, e6]
              · exact rfl
            refine auto_op 105 [7, 8, 6] (by kernel_rfl) (fun y w' HW hd K hK => ?_) ?_
            · have e6 := hd_nth (hd 6 (by simp)) rfl
              have e7 := hd_nth (hd 7 (by simp)) rfl
              have e8 := hd_nth (hd 8 (by simp)) rfl
              go_simp
              refine hK _ _ ?_ ?_ HW
              · simp [upd, e6, e7, e8]
              · exact rfl
            refine auto_op 106 [9, 6, 6] (by kernel_rfl) (fun y w' HW hd K hK => ?_) ?_
            · have e6 := hd_nth (hd 6 (by simp)) rfl
              have e9 := hd_nth (hd 9 (by simp)) rfl
              go_simp
              refine hK _ _ ?_ ?_ HW
              · simp [upd, e6, e9]
              · exact rfl
            refine auto_op 107 [10] (by kernel_rfl) (fun y w' HW hd K hK => ?_) ?_
            · have e10 := hd_nth (hd 10 (by simp)) rfl
              go_simp
              refine hK _ _ ?_ ?_ HW
              · simp [upd, e10]
              · exact rfl
            refine auto_op 108 [11, 10] (by kernel_rfl) (fun y w' HW hd K hK => ?_) ?_
            · have e10 := hd_nth (hd 10 (by simp)) rfl
              have e11 := hd_nth (hd 11 (by simp)) rfl
              go_simp
              refine hK _ _ ?_ ?_ HW
              · simp [upd, e10, e11]
              · exact rfl
            refine auto_op 109 [10, 12, 6] (by kernel_rfl) (fun y w' HW hd K hK => ?_) ?_
            · have e6 := hd_nth (hd 6 (by simp)) rfl
              have e10 := hd_nth (hd 10 (by simp)) rfl
              have e12 := hd_nth (hd 12 (by simp)) rfl
              go_simp
              refine hK _ _ ?_ ?_ HW
              · simp [upd, e6, e10, e12]
              · exact rfl
            refine auto_last fun y w' HW hd K hK => ?_
            have e0 := hd_nth (hd 0 (by omega)) rfl
            have e1 := hd_nth (hd 1 (by omega)) rfl
            have e2 := hd_nth (hd 2 (by omega)) rfl
            have e3 := hd_nth (hd 3 (by omega)) rfl
            have e4 := hd_nth (hd 4 (by omega)) rfl
            have e5 := hd_nth (hd 5 (by omega)) rfl
            have e6 := hd_nth (hd 6 (by omega)) rfl
            have e7 := hd_nth (hd 7 (by omega)) rfl
            have e8 := hd_nth (hd 8 (by omega)) rfl
            have e9 := hd_nth (hd 9 (by omega)) rfl
            have e10 := hd_nth (hd 10 (by omega)) rfl
            have e11 := hd_nth (hd 11 (by omega)) rfl
            have e12 := hd_nth (hd 12 (by omega)) rfl
            have e13 := hd_nth (hd 13 (by omega)) rfl
            go_simp
            refine hK _ _ ?_
            clear hd hK K e0 e1 e2 e3 e4 e5 e6 e7 e8 e9 e10 e11 e12 e13
            have HPT := Lib.hid (HP7.out.more HW)
            have HBT : Hid (Below w.heap.size w w') := Lib.hid (HB7.out.trans (HW.mono HB7.out.size))
            have HS1 := Lib.hid HPT.out.st.2.1
            clear HW n0 b1 HMP HAW HP7 HB7 HNB HDO
            have HRW := Lib.hid (HBR.out.below HBT.out)
            obtain ⟨t, ht⟩ : ∃ t, ownB n LM z K = t := ⟨_, rfl⟩
            obtain ⟨S2, hS2⟩ : ∃ S2, wrtS n S1 LM z zs = S2 := ⟨_, rfl⟩
            obtain ⟨D2, hD2⟩ : ∃ D2, wrtD n LM noD z K = D2 := ⟨_, rfl⟩
            have HWR := Lib.hid (write_any (b := b) (s := s) (m := m) z ba K bc w.heap.size zs t S2 D2 hz0 hz1 ht hS2 hD2 hKc HZS.out w' HRW.out HPT.out HWS.out)
            have HRD : Hid (∀ W, PV W b s m n S2 LM D2 → Calls Try.prog 19 #[.pointer (some ⟨b, 0, none⟩), .int .u32 z, .int .i64 K] W fun e w' => ∃ p q c, e = .returned (.tuple #[.slice p q c, .bool t]) ∧ Hid (RowK .u8 w' w'.heap.size p q (rdL n S2 LM z K)) ∧ Below W.heap.size W w') := Lib.hid fun W hW => read_any z K t hz0 hz1 ht W hW
            have HOW : Hid (∀ W, PV W b s m n S2 LM D2 → Calls Try.prog 21 #[.pointer (some ⟨b, 0, none⟩), .int .u32 z, .int .i64 K] W fun e w' => e = .returned (.bool t) ∧ Below W.heap.size W w') := Lib.hid fun W hW => own_any z K t hz0 hz1 ht W hW
            have HKL := Lib.hid HBR.out.1
            have HBK : Hid (t = true → K ≤ 64 → rdL n S2 LM z K = zs) := Lib.hid fun h1 h2 => by
              rw [h1, ← HKL.out] at ht
              rw [← hS2, ← HKL.out]
              exact read_back HOK.out HS1.out hz0 ht (by rw [HKL.out]; exact h2)
            have HNO : Hid (t = false → D2 = noD ∧ rdL n S2 LM z K = []) := Lib.hid fun h1 => by
              rw [h1] at ht
              refine ⟨?_, ?_⟩
              · rw [← hD2]; unfold wrtD; rw [ht]; rfl
              · unfold rdL; rw [ht]; rfl
            clear ht hS2 hD2 HRW
            go_wp2_with fail
            refine HWR.out.mono ?_
            rintro e u1 ⟨rfl, hpu, hku⟩
            have HPU := Lib.hid hpu
            have HBU : Hid (Below w.heap.size w u1) := Lib.hid (HBT.out.trans (hku.under HSB.out HBT.out.size))
            clear hpu hku HWR HPT HBT
            go_wp2_with fail
            refine (HRD.out u1 HPU.out).mono ?_
            rintro e u2 ⟨rp, rq, rc, rfl, HRR, hb⟩
            have HPU2 := Lib.hid (HPU.out.more hb)
            have HBU2 : Hid (Below w.heap.size w u2) := Lib.hid (HBU.out.trans (hb.mono HBU.out.size))
            clear hb HPU HBU HRD
            go_wp2_with fail
            refine (HOW.out u2 HPU2.out).mono ?_
            rintro e u3 ⟨rfl, hb⟩
            have HPU3 := Lib.hid (HPU2.out.more hb)
            have HBU3 : Hid (Below w.heap.size w u3) := Lib.hid (HBU2.out.trans (hb.mono HBU2.out.size))
            have HRR3 := Lib.hid (HRR.out.below hb)
            have HRB := Lib.hid (HBR.out.below HBU3.out)
            clear hb HPU2 HBU2 HOW HRR
            cases t
            · obtain ⟨hd, hr⟩ := HNO.out rfl
              subst hd
              rw [hr] at HRR3
              obtain rfl : 0 = rq := HRR3.out.1
              clear hr HNO HBK
              go_wp2_with fail
              refine (dirty_nil u3 HPU3.out).mono ?_
              rintro e u4 ⟨rfl, hp4, hk4⟩
              have HBU4 : Hid (Below w.heap.size w u4) := Lib.hid (HBU3.out.trans (hk4.under (by simpa using HBB.out) HBU3.out.size))
              clear hp4 hk4
              go_wp2_with fail
              refine (awake_any u4).mono ?_
              rintro e u5 ⟨rfl, hb⟩
              have HBU5 : Hid (Below w.heap.size w u5) := Lib.hid (HBU4.out.trans (hb.mono HBU4.out.size))
              clear hb
              go_wp2
              go_ret
              exact ⟨rfl, HBU5.out⟩
            · by_cases h64 : K ≤ 64
              · have hr := HBK.out rfl h64
                rw [hr] at HRR3
                have k64 : (K : Int) ≤ 64 := by omega
                have hcv1 := run_convert_row (P := Try.prog) (cap := rc) (dst := 9) Try.underlying30 Try.underlying5 Try.underlying9 HRR3.out
                have hcv2 := run_convert_row (P := Try.prog) (cap := bc) (dst := 9) Try.underlying30 Try.underlying5 Try.underlying9 HRB.out
                clear hr HNO HBK h64
                go_wp2_with fail
                refine (awake_any u3).mono ?_
                rintro e u5 ⟨rfl, hb⟩
                have HBU5 : Hid (Below w.heap.size w u5) := Lib.hid (HBU3.out.trans (hb.mono HBU3.out.size))
                clear hb
                go_wp2
                go_ret
                exact ⟨rfl, HBU5.out⟩
              · have k64 : ¬ (K : Int) ≤ 64 := by omega
                clear HNO HBK h64
                go_wp2_with fail
                refine (awake_any u3).mono ?_
                rintro e u5 ⟨rfl, hb⟩
                have HBU5 : Hid (Below w.heap.size w u5) := Lib.hid (HBU3.out.trans (hb.mono HBU3.out.size))
                clear hb
                go_wp2
                go_ret
                exact ⟨rfl, HBU5.out⟩
  · have hh : hitF n LM z 4 2 = (0, 0, 0) := by unfold hitF; rw [hf, if_neg hf0]
    have HFD := Lib.hid (find_any (b := b) (s := s) (m := m) (S := Fr.zeros) (D := noD) z 4 2 f _ hz0 hz1 hf hh w1 HP1.out)
    have HSV : Hid (∀ W, PV W b s m n Fr.zeros LM noD → Calls Try.prog 13 #[.pointer (some ⟨b, 0, none⟩), .int .u32 z, .int .i64 4, .int .u32 v] W fun e w' => e = .returned (.int .i64 f) ∧ Below W.heap.size W w') := Lib.hid fun W hW => save_bad z 4 v f hz0 hz1 hf hf0 W hW
    have hf1 : (f == 0) = false := by simpa using hf0
    have HBX : Hid (∀ W, Below w1.heap.size w1 W → Below w1.heap.size w1 (W.alloc (.cells #[.int .i64 0, .int .i64 0, .int .i64 0, .bool false] 38))) := Lib.hid fun W h => h.alloc h.size _
    clear hf hf0 hh
    go_wp2_with fail
    refine HFD.out.mono ?_
    rintro e w2 ⟨rfl, hb⟩
    have HB2 := Lib.hid (HBX.out _ hb)
    clear hb HBX HFD
    unfold hitV
    go_wp2_with fail
    generalize w2.alloc (.cells #[.int .i64 0, .int .i64 0, .int .i64 0, .bool false] 38) = V2 at HB2 ⊢
    generalize w2.heap.size = hb
    refine (HSV.out V2 (HP1.out.more HB2.out)).mono ?_
    rintro e w3 ⟨rfl, hb3⟩
    have HB3 := Lib.hid (HB2.out.trans (hb3.mono HB2.out.size))
    clear hb3 HB2 HSV
    go_wp2_with fail
    refine (dirty_nil w3 (HP1.out.more HB3.out)).mono ?_
    rintro e w4 ⟨rfl, hp4, hk4⟩
    obtain ⟨w', hw'⟩ : ∃ w', w4 = w' := ⟨_, rfl⟩
    rw [hw'] at hp4 hk4 ⊢
    clear hw'
    have hq4 : Below w.heap.size w3 w' := hk4.under (by simpa using HBB.out) (by have := HB1.out.size; have := HB3.out.size; omega)
    obtain ⟨S1, hS1⟩ : ∃ S1, Fr.zeros = S1 := ⟨_, rfl⟩
    rw [hS1] at hp4
    have HPT := Lib.hid hp4
    have HBT : Hid (Below w.heap.size w w') := Lib.hid ((HB1.out.trans (HB3.out.mono HB1.out.size)).trans hq4)
    have HS1 := Lib.hid HPT.out.st.2.1
    clear hp4 hk4 hq4 hS1 HB3 HP1
    have HRW := Lib.hid (HBR.out.below HBT.out)
    obtain ⟨t, ht⟩ : ∃ t, ownB n LM z K = t := ⟨_, rfl⟩
    obtain ⟨S2, hS2⟩ : ∃ S2, wrtS n S1 LM z zs = S2 := ⟨_, rfl⟩
    obtain ⟨D2, hD2⟩ : ∃ D2, wrtD n LM noD z K = D2 := ⟨_, rfl⟩
    have HWR := Lib.hid (write_any (b := b) (s := s) (m := m) z ba K bc w.heap.size zs t S2 D2 hz0 hz1 ht hS2 hD2 hKc HZS.out w' HRW.out HPT.out HWS.out)
    have HRD : Hid (∀ W, PV W b s m n S2 LM D2 → Calls Try.prog 19 #[.pointer (some ⟨b, 0, none⟩), .int .u32 z, .int .i64 K] W fun e w' => ∃ p q c, e = .returned (.tuple #[.slice p q c, .bool t]) ∧ Hid (RowK .u8 w' w'.heap.size p q (rdL n S2 LM z K)) ∧ Below W.heap.size W w') := Lib.hid fun W hW => read_any z K t hz0 hz1 ht W hW
    have HOW : Hid (∀ W, PV W b s m n S2 LM D2 → Calls Try.prog 21 #[.pointer (some ⟨b, 0, none⟩), .int .u32 z, .int .i64 K] W fun e w' => e = .returned (.bool t) ∧ Below W.heap.size W w') := Lib.hid fun W hW => own_any z K t hz0 hz1 ht W hW
    have HKL := Lib.hid HBR.out.1
    have HBK : Hid (t = true → K ≤ 64 → rdL n S2 LM z K = zs) := Lib.hid fun h1 h2 => by
      rw [h1, ← HKL.out] at ht
      rw [← hS2, ← HKL.out]
      exact read_back HOK.out HS1.out hz0 ht (by rw [HKL.out]; exact h2)
    have HNO : Hid (t = false → D2 = noD ∧ rdL n S2 LM z K = []) := Lib.hid fun h1 => by
      rw [h1] at ht
      refine ⟨?_, ?_⟩
      · rw [← hD2]; unfold wrtD; rw [ht]; rfl
      · unfold rdL; rw [ht]; rfl
    clear ht hS2 hD2 HRW
    go_wp2_with fail
    refine HWR.out.mono ?_
    rintro e u1 ⟨rfl, hpu, hku⟩
    have HPU := Lib.hid hpu
    have HBU : Hid (Below w.heap.size w u1) := Lib.hid (HBT.out.trans (hku.under HSB.out HBT.out.size))
    clear hpu hku HWR HPT HBT
    go_wp2_with fail
    refine (HRD.out u1 HPU.out).mono ?_
    rintro e u2 ⟨rp, rq, rc, rfl, HRR, hb⟩
    have HPU2 := Lib.hid (HPU.out.more hb)
    have HBU2 : Hid (Below w.heap.size w u2) := Lib.hid (HBU.out.trans (hb.mono HBU.out.size))
    clear hb HPU HBU HRD
    go_wp2_with fail
    refine (HOW.out u2 HPU2.out).mono ?_
    rintro e u3 ⟨rfl, hb⟩
    have HPU3 := Lib.hid (HPU2.out.more hb)
    have HBU3 : Hid (Below w.heap.size w u3) := Lib.hid (HBU2.out.trans (hb.mono HBU2.out.size))
    have HRR3 := Lib.hid (HRR.out.below hb)
    have HRB := Lib.hid (HBR.out.below HBU3.out)
    clear hb HPU2 HBU2 HOW HRR
    cases t
    · obtain ⟨hd, hr⟩ := HNO.out rfl
      subst hd
      rw [hr] at HRR3
      obtain rfl : 0 = rq := HRR3.out.1
      clear hr HNO HBK
      go_wp2_with fail
      refine (dirty_nil u3 HPU3.out).mono ?_
      rintro e u4 ⟨rfl, hp4, hk4⟩
      have HBU4 : Hid (Below w.heap.size w u4) := Lib.hid (HBU3.out.trans (hk4.under (by simpa using HBB.out) HBU3.out.size))
      clear hp4 hk4
      go_wp2_with fail
      refine (awake_any u4).mono ?_
      rintro e u5 ⟨rfl, hb⟩
      have HBU5 : Hid (Below w.heap.size w u5) := Lib.hid (HBU4.out.trans (hb.mono HBU4.out.size))
      clear hb
      go_wp2
      go_ret
      exact ⟨rfl, HBU5.out⟩
    · by_cases h64 : K ≤ 64
      · have hr := HBK.out rfl h64
        rw [hr] at HRR3
        have k64 : (K : Int) ≤ 64 := by omega
        have hcv1 := run_convert_row (P := Try.prog) (cap := rc) (dst := 9) Try.underlying30 Try.underlying5 Try.underlying9 HRR3.out
        have hcv2 := run_convert_row (P := Try.prog) (cap := bc) (dst := 9) Try.underlying30 Try.underlying5 Try.underlying9 HRB.out
        clear hr HNO HBK h64
        go_wp2_with fail
        refine (awake_any u3).mono ?_
        rintro e u5 ⟨rfl, hb⟩
        have HBU5 : Hid (Below w.heap.size w u5) := Lib.hid (HBU3.out.trans (hb.mono HBU3.out.size))
        clear hb
        go_wp2
        go_ret
        exact ⟨rfl, HBU5.out⟩
      · have k64 : ¬ (K : Int) ≤ 64 := by omega
        clear HNO HBK h64
        go_wp2_with fail
        refine (awake_any u3).mono ?_
        rintro e u5 ⟨rfl, hb⟩
        have HBU5 : Hid (Below w.heap.size w u5) := Lib.hid (HBU3.out.trans (hb.mono HBU3.out.size))
        clear hb
        go_wp2
        go_ret
        exact ⟨rfl, HBU5.out⟩
end Go.Proofs.Ytlgohgjnocoadaa.Vw
