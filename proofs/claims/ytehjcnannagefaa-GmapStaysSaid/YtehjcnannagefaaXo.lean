/- The walk of hermitagelaw15.GmapStays. -/
import Derived.Test.YtehjcnannagefaaXn
import Derived.StillTailTactics
namespace Go.Proofs.Ytehjcnannagefaa.Gm
open Go.RowKit Ut
set_option maxRecDepth 100000
set_option linter.unusedVariables false
set_option maxHeartbeats 8000000

theorem stays_any (x : Nat) (p : Pl) (ak ai ap : Option Addr) (lk ck li ci lp cp : Nat) (ks xs : List Int) (Z : Nat → Pl) (w : World) (hx : x < 256) (hlk : lk ≤ 9223372036854775807) (hli : li ≤ 9223372036854775807) (hlp : lp ≤ 9223372036854775807)
    (hz : RowK .u8 w w.heap.size ak lk ks) (hi : RowK .i64 w w.heap.size ai li xs) (hp : PlRow w w.heap.size ap lp Z) (hkb : ∀ z ∈ ks, 0 ≤ z ∧ z < 256) :
    Calls Try.prog 4 #[.int .u8 x, plV p, .slice ak lk ck, .slice ai li ci, .slice ap lp cp] w fun e w' => e = .returned (.bool true) ∧ Below w.heap.size w w' := by
  obtain ⟨k, hk, ek⟩ : ∃ k : Nat, k < 12 ∧ (x : Int) % 12 = k := ⟨x % 12, by omega, by omega⟩
  have HC := set_first (p := p) hk
  have HKK := Lib.hid hk
  have HZ := Lib.hid hz
  have HI := Lib.hid hi
  have HP := Lib.hid hp
  have HKB := Lib.hid hkb
  obtain ⟨f, r⟩ := p
  show Calls _ _ #[_, .agg #[.int .i64 f, .int .i64 r], _, _, _] _ _
  have HN : Hid (Blk (w.alloc (.cells #[.int .i64 f, .int .i64 r] 30)) w.heap.size 30 [.int .i64 f, .int .i64 r]) := Blk.new w _ _
  have HB := Lib.hid (box_below w f r)
  clear hk hz hi hp hkb
  go_enter Try.func4, Try.ntmps4
  go_wp2_with fail
  generalize w.alloc (.cells #[.int .i64 f, .int .i64 r] 30) = U at HN HB ⊢
  have HPB : Hid (w.heap.size ≤ w.heap.size) := Lib.hid (Nat.le_refl _)
  obtain ⟨pb, hpb⟩ : ∃ pb, w.heap.size = pb := ⟨_, rfl⟩
  rw [hpb] at HN ⊢
  clear hpb HPB
  refine (new_any U).mono ?_
  rintro e w1 ⟨rfl, hF, hb⟩
  have HF1 := Lib.hid hF
  have hn := HN.out.below hb HN.out.lt
  have n0 : w1.cell? ⟨pb, 0, none⟩ = some (.int .i64 f) := hn.cell rfl
  have n1 : w1.cell? ⟨pb, 1, none⟩ = some (.int .i64 r) := hn.cell rfl
  have HB1 := Lib.hid hb
  have HNU := Lib.hid HN.out.lt
  clear hF hb hn
  go_wp2_with fail
  clear n0 n1
  rcases HC with ⟨ho, hs, hl⟩ | ⟨ho, hs, hl⟩
  · refine (set_any U.heap.size noP noP k 1 (f, r) hs hl w1 HF1.out).mono ?_
    rintro e w2 ⟨rfl, hF, hg⟩
    have HF2 := Lib.hid hF
    have HB2 := Lib.hid (below_of_grown HB1.out hg HB1.out.size (Nat.le_refl _))
    have hat : atP noP k = (0, 0) := by rw [atP_is HKK.out, plN_no]
    have HG := Lib.hid (fun (W : World) (h : MAt W U.heap.size noP) => get_any U.heap.size noP k _ _ hat rfl W h)
    have HA := Lib.hid (fun (W : World) (h : MAt W U.heap.size noP) => allows_any U.heap.size noP k 1 7 (by rw [hat]; rfl) W h)
    clear hF hg ho hs hl hat
    go_wp2_with fail
    refine (HG.out w2 HF2.out).mono ?_
    rintro e w3 ⟨rfl, hb⟩
    have HF3 := Lib.hid (HF2.out.more (hb.trans ((box_below w3 0 0).mono hb.size)))
    have HB3 := Lib.hid (HB2.out.trans ((hb.trans ((box_below w3 0 0).mono hb.size)).mono HB2.out.size))
    clear hb
    unfold plV
    go_wp2_with fail
    refine (HA.out _ HF3.out).mono ?_
    rintro e w4 ⟨rfl, hb⟩
    have HB4 := Lib.hid (HB3.out.trans (hb.mono HB3.out.size))
    clear hb
    go_wp2_with fail
    refine (awake_any w4).mono ?_
    rintro e w5 ⟨rfl, hb⟩
    have HB5 := Lib.hid (HB.out.trans ((HB4.out.trans (hb.mono HB4.out.size)).mono HB.out.size))
    clear hb
    go_wp2
    go_ret
    exact ⟨rfl, HB5.out⟩
  · have ht := th_ok ho
    have hat : plN (noP.set k (f, r)) k = (f, r) := plN_set noP_ok k HKK.out _
    refine (set_any U.heap.size noP _ k 0 (f, r) hs hl w1 HF1.out).mono ?_
    rintro e w2 ⟨rfl, hF, hg⟩
    have HF2 := Lib.hid hF
    have HB2 := Lib.hid (below_of_grown HB1.out hg HB1.out.size (Nat.le_refl _))
    have HAT := Lib.hid hat
    have HT := Lib.hid ht
    generalize noP.set k (f, r) = L1 at HF2 HAT
    clear hF hg ho hs hl hat ht HF1 HB1
    go_wp2
    go_loopw [15] (fun j wr => ∃ (q : Nat) (L : List Pl), q ≤ 60 ∧ j = .int .i64 q ∧ Hid (MAt wr U.heap.size L) ∧ Hid (plN L k = (f, r)) ∧ Hid (Below U.heap.size U wr)) (fun j _ => 60 - (intOf j).toNat)
    case atStart => exact ⟨0, L1, Nat.zero_le _, rfl, HF2, HAT, HB2⟩
    case round =>
      clear HF2 HAT HB2
      obtain ⟨q, L, hq, rfl, HF, HAT, HBR⟩ := hrel
      by_cases hin : q < lk ∧ q < li ∧ q < lp ∧ q < 60
      · obtain ⟨h0, h1, h2, h3⟩ := hin
        obtain ⟨t, rfl, htb, htc⟩ := HZ.out.2 q h0
        obtain ⟨y, rfl, hyb, hyc⟩ := HI.out.2 q h1
        obtain ⟨v, rfl, hvb, hvc⟩ := HP.out q h2
        have HC0 := Lib.hid (And.intro (show (t.add q).block < w.heap.size by rw [block_of_add]; exact htb) htc)
        have HC1 := Lib.hid (And.intro (show (y.add q).block < w.heap.size by rw [block_of_add]; exact hyb) hyc)
        have HC2 := Lib.hid (And.intro hvb hvc)
        have hzb : 0 ≤ ks.getD q 0 ∧ ks.getD q 0 < 256 := HKB.out _ (by
          have hlt : q < ks.length := by rw [HZ.out.1]; exact h0
          rw [List.getD_eq_getElem?_getD, List.getElem?_eq_getElem hlt]
          exact List.getElem_mem hlt)
        generalize xs.getD q 0 = i at HC1
        generalize ks.getD q 0 = z at HC0 hzb
        generalize Z q = u at HC2
        obtain ⟨hz0, hz1⟩ := hzb
        have f0 : (q : Int) < (lk : Int) := by omega
        have f1 : (q : Int) < (li : Int) := by omega
        have f2 : (q : Int) < (lp : Int) := by omega
        have f3 : (q : Int) < 60 := by omega
        have H3 := Lib.hid h3
        have hbw := HB.out.trans (HBR.out.mono HB.out.size)
        have HBW := Lib.hid hbw
        have c0 := (hbw.cell HC0.out.1).trans HC0.out.2
        have c1 := (hbw.cell HC1.out.1).trans HC1.out.2
        clear htb htc hyb hyc hvb hvc hq h3 h0 h1 h2 HZ HI HP HKB hbw
        obtain ⟨e, he⟩ : ∃ e, z % 2 = e := ⟨_, rfl⟩
        have hev : (e == 0) = true ∨ (e == 0) = false := by cases h : (e == 0) <;> simp
        by_cases hik : i = k
        · have g1 : (i == (k : Int)) = true := by simpa using hik
          rcases hev with g2 | g2
          · clear hik
            go_wp2
            go_roundw
            case rel => exact ⟨q + 1, L, H3.out, by go_num, HF, HAT, HBR⟩
            case measure => have := H3.out; simp [intOf]; omega
          · clear hik
            obtain ⟨d0, d1⟩ := pl_cells HBW.out HC2.out.1 HC2.out.2
            go_upto_region 14 with fail
            go_still_tail 9, (by kernel_rfl)
            change wpList _ _ _ _ _ wr.drew
            have HF2 : Hid (MAt wr.drew U.heap.size L) := HF
            have HB2 : Hid (Below U.heap.size U wr.drew) := HBR.out.drew
            generalize wr.drew = w2 at HF2 HB2 ⊢
            clear c0 c1 d0 d1 HF HBR HBW
            go_wp2_with fail
            refine (set_any U.heap.size L _ i _ u rfl rfl w2 HF2.out).mono ?_
            rintro e1 w3 ⟨rfl, hF, hg⟩
            have HF3 := Lib.hid hF
            have HB3 := Lib.hid (below_of_grown HB2.out hg HB2.out.size (Nat.le_refl _))
            have HAT2 := Lib.hid (stay_set HAT.out HT.out i u)
            generalize setL L i u = L2 at HF3 HAT2
            clear hF hg
            have HG := Lib.hid (fun (W : World) (h : MAt W U.heap.size L2) => get_any U.heap.size L2 k (f, r) true (by rw [atP_is HKK.out]; exact HAT2.out) HT.out W h)
            go_wp2_with fail
            refine (HG.out w3 HF3.out).mono ?_
            rintro e1 w4 ⟨rfl, hb⟩
            have hb2 := hb.trans ((box_below w4 f r).mono hb.size)
            have HF5 := Lib.hid (HF3.out.more hb2)
            have HB5 := Lib.hid (HB3.out.trans (hb2.mono HB3.out.size))
            have hn := HN.out.below (HB3.out.trans (hb.mono HB3.out.size)) HNU.out
            have n0 : w4.cell? ⟨pb, 0, none⟩ = some (.int .i64 f) := hn.cell rfl
            have n1 : w4.cell? ⟨pb, 1, none⟩ = some (.int .i64 r) := hn.cell rfl
            have n2 : pb < w4.heap.size := hn.lt
            clear hb hb2 hn
            unfold plV
            go_wp2
            go_roundw
            case rel => exact ⟨q + 1, L2, H3.out, by go_num, HF5, HAT2, HB5⟩
            case measure => have := H3.out; simp [intOf]; omega
        · have g1 : (i == (k : Int)) = false := by simpa using hik
          rcases hev with g2 | g2
          · go_wp2_with fail
            refine (drop_any U.heap.size L _ i _ rfl rfl wr HF.out).mono ?_
            rintro e1 w3 ⟨rfl, hF, hg⟩
            have HF3 := Lib.hid hF
            have HB3 := Lib.hid (below_of_grown HBR.out hg HBR.out.size (Nat.le_refl _))
            have HAT2 := Lib.hid (stay_drop HAT.out i hik)
            generalize drL L i = L2 at HF3 HAT2
            clear hF hg c0 c1
            have HG := Lib.hid (fun (W : World) (h : MAt W U.heap.size L2) => get_any U.heap.size L2 k (f, r) true (by rw [atP_is HKK.out]; exact HAT2.out) HT.out W h)
            go_wp2_with fail
            refine (HG.out w3 HF3.out).mono ?_
            rintro e1 w4 ⟨rfl, hb⟩
            have hb2 := hb.trans ((box_below w4 f r).mono hb.size)
            have HF5 := Lib.hid (HF3.out.more hb2)
            have HB5 := Lib.hid (HB3.out.trans (hb2.mono HB3.out.size))
            have hn := HN.out.below (HB3.out.trans (hb.mono HB3.out.size)) HNU.out
            have n0 : w4.cell? ⟨pb, 0, none⟩ = some (.int .i64 f) := hn.cell rfl
            have n1 : w4.cell? ⟨pb, 1, none⟩ = some (.int .i64 r) := hn.cell rfl
            have n2 : pb < w4.heap.size := hn.lt
            clear hb hb2 hn
            unfold plV
            go_wp2
            go_roundw
            case rel => exact ⟨q + 1, L2, H3.out, by go_num, HF5, HAT2, HB5⟩
            case measure => have := H3.out; simp [intOf]; omega
          · clear hik
            obtain ⟨d0, d1⟩ := pl_cells HBW.out HC2.out.1 HC2.out.2
            go_upto_region 14 with fail
            go_still_tail 9, (by kernel_rfl)
            change wpList _ _ _ _ _ wr.drew
            have HF2 : Hid (MAt wr.drew U.heap.size L) := HF
            have HB2 : Hid (Below U.heap.size U wr.drew) := HBR.out.drew
            generalize wr.drew = w2 at HF2 HB2 ⊢
            clear c0 c1 d0 d1 HF HBR HBW
            go_wp2_with fail
            refine (set_any U.heap.size L _ i _ u rfl rfl w2 HF2.out).mono ?_
            rintro e1 w3 ⟨rfl, hF, hg⟩
            have HF3 := Lib.hid hF
            have HB3 := Lib.hid (below_of_grown HB2.out hg HB2.out.size (Nat.le_refl _))
            have HAT2 := Lib.hid (stay_set HAT.out HT.out i u)
            generalize setL L i u = L2 at HF3 HAT2
            clear hF hg
            have HG := Lib.hid (fun (W : World) (h : MAt W U.heap.size L2) => get_any U.heap.size L2 k (f, r) true (by rw [atP_is HKK.out]; exact HAT2.out) HT.out W h)
            go_wp2_with fail
            refine (HG.out w3 HF3.out).mono ?_
            rintro e1 w4 ⟨rfl, hb⟩
            have hb2 := hb.trans ((box_below w4 f r).mono hb.size)
            have HF5 := Lib.hid (HF3.out.more hb2)
            have HB5 := Lib.hid (HB3.out.trans (hb2.mono HB3.out.size))
            have hn := HN.out.below (HB3.out.trans (hb.mono HB3.out.size)) HNU.out
            have n0 : w4.cell? ⟨pb, 0, none⟩ = some (.int .i64 f) := hn.cell rfl
            have n1 : w4.cell? ⟨pb, 1, none⟩ = some (.int .i64 r) := hn.cell rfl
            have n2 : pb < w4.heap.size := hn.lt
            clear hb hb2 hn
            unfold plV
            go_wp2
            go_roundw
            case rel => exact ⟨q + 1, L2, H3.out, by go_num, HF5, HAT2, HB5⟩
            case measure => have := H3.out; simp [intOf]; omega
      · have HD : Hid (∀ W, MAt W U.heap.size L → Calls Try.prog 8 #[.pointer (some ⟨U.heap.size, 0, none⟩), .int .i64 k] W fun e w' => e = .returned (.int .i64 0) ∧ Hid (∃ L2, plN L2 k = (0, 0) ∧ MAt w' U.heap.size L2) ∧ Hid (W.grownBy w' (some U.heap.size))) := Lib.hid fun W h => by
          refine (drop_any U.heap.size L (L.set k (0, 0)) k 0 ?_ ?_ W h).mono fun e w' h2 => ⟨h2.1, ⟨_, plN_set h.2 k HKK.out _, h2.2.1⟩, h2.2.2⟩
          · rw [drE_is HKK.out, HAT.out, if_pos HT.out]
          · unfold drL
            rw [drE_is HKK.out, HAT.out, if_pos HT.out]
            simp
        clear HZ HI HP HKB HN HNU
        have hout : (¬ (q : Int) < (lk : Int)) ∨ ((q : Int) < (lk : Int) ∧ ¬ (q : Int) < (li : Int)) ∨ ((q : Int) < (lk : Int) ∧ (q : Int) < (li : Int) ∧ ¬ (q : Int) < (lp : Int)) ∨ ((q : Int) < (lk : Int) ∧ (q : Int) < (li : Int) ∧ (q : Int) < (lp : Int) ∧ ¬ (q : Int) < 60) := by omega
        rcases hout with f1 | ⟨f1, f2⟩ | ⟨f1, f2, f3⟩ | ⟨f1, f2, f3, f4⟩
        all_goals
          clear hin hq
          go_wp2_with fail
          refine (HD.out wr HF.out).mono ?_
          rintro e w3 ⟨rfl, hL, hg⟩
          obtain ⟨L2, hn2, hF⟩ := hL.out
          have hat2 : atP L2 k = (0, 0) := by rw [atP_is HKK.out, hn2]
          have HF3 := Lib.hid hF
          have HB3 := Lib.hid (below_of_grown HBR.out hg.out HBR.out.size (Nat.le_refl _))
          have HG := Lib.hid (fun (W : World) (h : MAt W U.heap.size L2) => get_any U.heap.size L2 k _ _ hat2 rfl W h)
          have HA := Lib.hid (fun (W : World) (h : MAt W U.heap.size L2) => allows_any U.heap.size L2 k 1 7 (by rw [hat2]; rfl) W h)
          clear hF hg hL hn2 hat2
          go_wp2_with fail
          refine (HG.out w3 HF3.out).mono ?_
          rintro e w4 ⟨rfl, hb⟩
          have HF4 := Lib.hid (HF3.out.more (hb.trans ((box_below w4 0 0).mono hb.size)))
          have HB4 := Lib.hid (HB3.out.trans ((hb.trans ((box_below w4 0 0).mono hb.size)).mono HB3.out.size))
          clear hb
          unfold plV
          go_wp2_with fail
          refine (HA.out _ HF4.out).mono ?_
          rintro e w5 ⟨rfl, hb⟩
          have HB5 := Lib.hid (HB4.out.trans (hb.mono HB4.out.size))
          clear hb
          go_wp2_with fail
          refine (awake_any w5).mono ?_
          rintro e w6 ⟨rfl, hb⟩
          have HB6 := Lib.hid (HB.out.trans ((HB5.out.trans (hb.mono HB5.out.size)).mono HB.out.size))
          clear hb
          go_wp2
          go_ret
          exact ⟨rfl, HB6.out⟩
end Go.Proofs.Ytehjcnannagefaa.Gm
