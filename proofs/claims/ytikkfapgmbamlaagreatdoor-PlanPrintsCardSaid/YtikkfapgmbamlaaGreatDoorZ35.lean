/- Several texts in one: Cr -/
import Derived.Test.YtikkfapgmbamlaaGreatDoorZ34
section
/- The document's own answer: ranges. -/
namespace Go.Proofs.YtikkfapgmbamlaaGreatDoor.Cf
open Go.RowKit Ut
set_option linter.unusedVariables false

set_option maxRecDepth 100000 in
set_option maxHeartbeats 2000000 in
theorem refRanges_any (c : Cfg) (B : Nat) (w : World) (hB : B ≤ w.heap.size) (hc : c.At w B) :
    Calls Tryz.prog 22 #[c.v] w fun e w' => e = .returned (.tuple #[.bool (foundZ (decide (8 < (c.rn : Int))) (firstI c.rn (wrongR c))).1, .int .i64 (foundZ (decide (8 < (c.rn : Int))) (firstI c.rn (wrongR c))).2]) ∧ Below w.heap.size w w' := by
  have HB0 := one_new w
  have hlc := hc.lr
  have hlg := hc.lg
  by_cases h1 : 8 < c.rn
  · have e : foundZ (decide (8 < (c.rn : Int))) (firstI c.rn (wrongR c)) = (true, 0) := by
      have h : decide (8 < (c.rn : Int)) = true := by simp; omega
      rw [h]; rfl
    rw [e]
    clear e hc
    have h1' : 8 < (c.rn : Int) := by omega
    go_enter Tryz.func22, Tryz.ntmps22
    go_wp2
    go_ret2
    exact ⟨rfl, HB0.out _⟩
  · have e : foundZ (decide (8 < (c.rn : Int))) (firstI c.rn (wrongR c)) = foundZ false (firstI c.rn (wrongR c)) := by
      have h : decide (8 < (c.rn : Int)) = false := by simp; omega
      rw [h]
    rw [e]
    clear e
    have HRr : Hid (RowT 3 w B c.ra c.rn c.R) := Lib.hid hc.r
    have HWr : Hid (∀ i, _) := Lib.hid (wrongR_cases c)
    have HOk : Hid (∀ k, Pt.Okay (secs c k)) := Lib.hid (secs_okay c)
    have HNx : Hid (∀ k, secs c (k + 1) = Pt.giveL (secs c k) (c.R k 1) (c.R k 2) k) := Lib.hid fun k => rfl
    have HZe : Hid (secs c 0 = List.replicate 32 (-1)) := Lib.hid rfl
    obtain ⟨WR, hWR⟩ : ∃ WR, WR = wrongR c := ⟨_, rfl⟩
    obtain ⟨SC, hSC⟩ : ∃ SC, SC = secs c := ⟨_, rfl⟩
    rw [← hWR, ← hSC] at HWr
    rw [← hWR]
    rw [← hSC] at HOk HNx HZe
    clear hc hWR hSC
    obtain ⟨cats, ga, gn, gc, ra, rn, rc, pa, pn, pc, na, nn, nc, sa, sn, sc, gate, quota, G, R, P, N, S⟩ := c
    dsimp only at h1 HRr HWr hlc hlg HNx ⊢
    have h1' : ¬ 8 < (rn : Int) := by omega
    go_enter Tryz.func22, Tryz.ntmps22
    go_wp2_with fail
    have hb00 := HB0.out (.cells #[.int .i64 cats, .slice ga gn gc, .slice ra rn rc, .slice pa pn pc, .slice na nn nc, .slice sa sn sc, .int .i64 gate, .int .i64 quota] 28)
    obtain ⟨w0, hw1⟩ : ∃ w0, w0 = w.alloc (.cells #[.int .i64 cats, .slice ga gn gc, .slice ra rn rc, .slice pa pn pc, .slice na nn nc, .slice sa sn sc, .int .i64 gate, .int .i64 quota] 28) := ⟨_, rfl⟩
    have HK0 : Hid (w0.cell? ⟨w.heap.size, 0, none⟩ = some (.int .i64 cats)) := Lib.hid (by rw [hw1]; simp)
    have HK1 : Hid (w0.cell? ⟨w.heap.size, 1, none⟩ = some (.slice ga gn gc)) := Lib.hid (by rw [hw1]; simp)
    have HK2 : Hid (w0.cell? ⟨w.heap.size, 2, none⟩ = some (.slice ra rn rc)) := Lib.hid (by rw [hw1]; simp)
    have HK3 : Hid (w0.cell? ⟨w.heap.size, 3, none⟩ = some (.slice pa pn pc)) := Lib.hid (by rw [hw1]; simp)
    have HK4 : Hid (w0.cell? ⟨w.heap.size, 4, none⟩ = some (.slice na nn nc)) := Lib.hid (by rw [hw1]; simp)
    have HK5 : Hid (w0.cell? ⟨w.heap.size, 5, none⟩ = some (.slice sa sn sc)) := Lib.hid (by rw [hw1]; simp)
    have HK6 : Hid (w0.cell? ⟨w.heap.size, 6, none⟩ = some (.int .i64 gate)) := Lib.hid (by rw [hw1]; simp)
    have HK7 : Hid (w0.cell? ⟨w.heap.size, 7, none⟩ = some (.int .i64 quota)) := Lib.hid (by rw [hw1]; simp)
    have s00 : w.heap.size < w0.heap.size := by rw [hw1]; simp
    rw [← hw1] at hb00 ⊢
    clear hw1
    refine (Pt.refNew_yes 32 _ (by omega)).mono ?_
    rintro e w1 ⟨rfl, hT, hbn⟩
    have HT0 : Hid (Pt.RefAt w1 w0.heap.size (SC 0)) := Lib.hid (by rw [HZe.out]; exact hT)
    clear hT
    obtain ⟨br, hbr⟩ : ∃ br, br = w0.heap.size := ⟨_, rfl⟩
    have hbrl : w0.heap.size ≤ br := by omega
    have hbr2 : w.heap.size < br := by omega
    have hbw : Below w.heap.size w w1 := hb00.trans (hbn.mono (by omega))
    have HL0 : Hid (w1.cell? ⟨w.heap.size, 0, none⟩ = some (.int .i64 cats)) := Lib.hid ((old_cells hbn _ 0 s00).trans HK0.out)
    have HL2 : Hid (w1.cell? ⟨w.heap.size, 2, none⟩ = some (.slice ra rn rc)) := Lib.hid ((old_cells hbn _ 2 s00).trans HK2.out)
    have s1 : w.heap.size < w1.heap.size := by have := hbn.size; omega
    rw [← hbr] at HT0 ⊢
    clear hbr hbrl hb00 hbn HK0 HK1 HK2 HK3 HK4 HK5 HK6 HK7 s00
    go_wp2
    go_loopw [6] (fun i wr => ∃ k : Nat, k ≤ rn ∧ i = .int .i64 k ∧ Hid (∀ j, j < k → WR j = false) ∧ Hid (Pt.RefAt wr br (SC k)) ∧ Hid (w1.grownBy wr (some br))) (fun i _ => rn - (intOf i).toNat)
    case atStart => exact ⟨0, Nat.zero_le _, rfl, fun j hj => absurd hj (by omega), HT0, Lib.hid (World.grownBy.refl _ _)⟩
    case round =>
      obtain ⟨k, hk, rfl, hno, HT, HGr⟩ := hrel
      have hbk : Below w.heap.size w wr := hbw.grown HGr.out hbw.size (fun q e => by injection e with e; omega)
      have hbx := HGr.out.block w.heap.size s1 (fun e => by injection e with e; omega)
      have k0 : wr.cell? ⟨w.heap.size, 0, none⟩ = _ := (World.cell?_of_block hbx).trans HL0.out
      have k2 : wr.cell? ⟨w.heap.size, 2, none⟩ = _ := (World.cell?_of_block hbx).trans HL2.out
      clear hbx
      have sr : w.heap.size < wr.heap.size := by have := HGr.out.size; omega
      by_cases hlt : k < rn
      · have hbd := HRr.out.bd k 2 hlt (by omega)
        obtain ⟨x, rfl, hx, c0, c1, c2⟩ := (HRr.out.below (hbk.mono hB)).at3 k hlt
        have b0 : (0 : Int) ≤ (k : Int) := by omega
        have b1 : (k : Int) < (rn : Int) := by omega
        have hw := HWr.out k
        have hs := firstI_some (n := rn) (k := k) (p := WR) hlt
        have HS : Hid (WR k = true → foundZ false (firstI rn WR) = (true, (k : Int))) := Lib.hid fun h => by rw [hs h hno.out]; rfl
        clear hs
        obtain ⟨V, hV⟩ : ∃ V, V = wr.alloc (.cells #[.int .i64 (R k 0), .int .i64 (R k 1), .int .i64 (R k 2)] 61) := ⟨_, rfl⟩
        have hbV : Below wr.heap.size wr V := by rw [hV]; exact (Below.refl _ _).alloc (Nat.le_refl _) _
        have HGive : Hid (Calls Tryz.prog 60 #[.pointer (some ⟨br, 0, none⟩), .int .i64 (R k 1), .int .i64 (R k 2), .int .i64 k] V fun e W' => e = .returned (.int .i64 (Pt.giveE (SC k) (R k 1) (R k 2) k)) ∧ Hid (Pt.RefAt W' br (SC (k + 1))) ∧ Hid (w1.grownBy W' (some br))) :=
          Lib.hid ((Pt.ref_give (HT.out.below hbV) (HOk.out k) (R k 1) (R k 2) k).mono fun e W' ⟨h1, h2, h3⟩ => ⟨h1, Lib.hid (by rw [HNx.out]; exact h2), Lib.hid (Pt.grownBy_trans (Pt.grownBy_trans HGr.out (Pt.grownBy_of_below _ hbV)) h3)⟩)
        rw [hV] at HGive
        clear hV hbV
        obtain ⟨ge, hge⟩ : ∃ ge, ge = Pt.giveE (SC k) (R k 1) (R k 2) k := ⟨_, rfl⟩
        rw [← hge] at hw HGive
        clear hge hbd
        rcases hw with ⟨v1, hw⟩ | ⟨v1, _, rfl, ⟨v2, hw⟩ | ⟨rfl, hw⟩⟩
        · have HF := Lib.hid (HS.out hw)
          clear HS hw
          go_wp2_with fail
          refine (La.refValid_gen _ _ _).mono ?_
          rintro e w3 ⟨rfl, rfl⟩
          go_wp2
          go_ret2
          exact ⟨by rw [HF.out]; rfl, hbk.alloc hbk.size _⟩
        · have HF := Lib.hid (HS.out hw)
          have v2b : (ge != 0) = true := by simpa using v2
          have v2c : (ge == 0) = false := by simpa using v2
          clear HS hw v2
          go_wp2_with fail
          refine (La.refValid_gen _ _ _).mono ?_
          rintro e w3 ⟨rfl, rfl⟩
          go_wp2_with fail
          refine HGive.out.mono ?_
          rintro e w4 ⟨rfl, hT4, hG4⟩
          go_wp2
          go_ret2
          exact ⟨by rw [HF.out]; rfl, hbw.grown hG4.out hbw.size (fun q e => by injection e with e; omega)⟩
        · have HNo : Hid (WR k = false) := Lib.hid hw
          clear HS hw
          go_wp2_with fail
          refine (La.refValid_gen _ _ _).mono ?_
          rintro e w3 ⟨rfl, rfl⟩
          go_wp2_with fail
          refine HGive.out.mono ?_
          rintro e w4 ⟨rfl, hT4, hG4⟩
          go_wp2
          go_roundw
          case rel => exact ⟨k + 1, by omega, by go_num, Lib.hid (more_false hno.out HNo.out), hT4, hG4⟩
          case measure => simp [intOf]; omega
      · have hkn : k = rn := by omega
        subst hkn
        have b1 : ¬ (k : Int) < (k : Int) := by omega
        have hres : foundZ false (firstI k WR) = (false, 0) := by rw [firstI_none hno.out]; rfl
        have HF := Lib.hid hres
        clear hres
        go_wp2
        go_ret2
        exact ⟨by rw [HF.out]; rfl, hbk⟩
end Go.Proofs.YtikkfapgmbamlaaGreatDoor.Cf
end
