/- Several texts in one: Cp -/
import Derived.Test.YtikkfapgmbamlaaGreatDoorZ32
section
/- The document's own answer: rings. -/
namespace Go.Proofs.YtikkfapgmbamlaaGreatDoor.Cf
open Go.RowKit Ut
set_option linter.unusedVariables false

set_option maxRecDepth 100000 in
set_option maxHeartbeats 2000000 in
theorem refRings_any (c : Cfg) (B : Nat) (w : World) (hB : B ≤ w.heap.size) (hc : c.At w B) :
    Calls Tryz.prog 24 #[c.v] w fun e w' => e = .returned (.tuple #[.bool (foundZ (decide (4 < (c.nn : Int))) (firstI c.nn (wrongN c))).1, .int .i64 (foundZ (decide (4 < (c.nn : Int))) (firstI c.nn (wrongN c))).2]) ∧ Below w.heap.size w w' := by
  have HB0 := one_new w
  have hlc := hc.ln
  have hlg := hc.lg
  by_cases h1 : 4 < c.nn
  · have e : foundZ (decide (4 < (c.nn : Int))) (firstI c.nn (wrongN c)) = (true, 0) := by
      have h : decide (4 < (c.nn : Int)) = true := by simp; omega
      rw [h]; rfl
    rw [e]
    clear e hc
    have h1' : 4 < (c.nn : Int) := by omega
    go_enter Tryz.func24, Tryz.ntmps24
    go_wp2
    go_ret2
    exact ⟨rfl, HB0.out _⟩
  · have e : foundZ (decide (4 < (c.nn : Int))) (firstI c.nn (wrongN c)) = foundZ false (firstI c.nn (wrongN c)) := by
      have h : decide (4 < (c.nn : Int)) = false := by simp; omega
      rw [h]
    rw [e]
    clear e
    have HN : Hid (RowT 2 w B c.na c.nn c.N) := Lib.hid hc.n
    have HG : Hid (RowT 3 w B c.ga c.gn c.G) := Lib.hid hc.g
    have HWr : Hid (∀ i, _) := Lib.hid (wrongN_cases c)
    obtain ⟨WR, hWR⟩ : ∃ WR, WR = wrongN c := ⟨_, rfl⟩
    rw [← hWR] at HWr ⊢
    clear hc hWR
    obtain ⟨cats, ga, gn, gc, ra, rn, rc, pa, pn, pc, na, nn, nc, sa, sn, sc, gate, quota, G, R, P, N, S⟩ := c
    dsimp only at h1 HN HG HWr hlc hlg ⊢
    have h1' : ¬ 4 < (nn : Int) := by omega
    have hgn : gn ≤ 140737488355328 := by omega
    go_enter Tryz.func24, Tryz.ntmps24
    go_wp2
    have hbw := HB0.out (.cells #[.int .i64 cats, .slice ga gn gc, .slice ra rn rc, .slice pa pn pc, .slice na nn nc, .slice sa sn sc, .int .i64 gate, .int .i64 quota] 28)
    obtain ⟨w1, hw1⟩ : ∃ w1, w1 = w.alloc (.cells #[.int .i64 cats, .slice ga gn gc, .slice ra rn rc, .slice pa pn pc, .slice na nn nc, .slice sa sn sc, .int .i64 gate, .int .i64 quota] 28) := ⟨_, rfl⟩
    have HK0 : Hid (w1.cell? ⟨w.heap.size, 0, none⟩ = some (.int .i64 cats)) := Lib.hid (by rw [hw1]; simp)
    have HK1 : Hid (w1.cell? ⟨w.heap.size, 1, none⟩ = some (.slice ga gn gc)) := Lib.hid (by rw [hw1]; simp)
    have HK2 : Hid (w1.cell? ⟨w.heap.size, 2, none⟩ = some (.slice ra rn rc)) := Lib.hid (by rw [hw1]; simp)
    have HK3 : Hid (w1.cell? ⟨w.heap.size, 3, none⟩ = some (.slice pa pn pc)) := Lib.hid (by rw [hw1]; simp)
    have HK4 : Hid (w1.cell? ⟨w.heap.size, 4, none⟩ = some (.slice na nn nc)) := Lib.hid (by rw [hw1]; simp)
    have HK5 : Hid (w1.cell? ⟨w.heap.size, 5, none⟩ = some (.slice sa sn sc)) := Lib.hid (by rw [hw1]; simp)
    have HK6 : Hid (w1.cell? ⟨w.heap.size, 6, none⟩ = some (.int .i64 gate)) := Lib.hid (by rw [hw1]; simp)
    have HK7 : Hid (w1.cell? ⟨w.heap.size, 7, none⟩ = some (.int .i64 quota)) := Lib.hid (by rw [hw1]; simp)
    have s1 : w.heap.size < w1.heap.size := by rw [hw1]; simp
    rw [← hw1] at hbw ⊢
    clear hw1
    go_loopw [4] (fun i wr => ∃ k : Nat, k ≤ nn ∧ i = .int .i64 k ∧ Hid (∀ j, j < k → WR j = false) ∧ Below w1.heap.size w1 wr) (fun i _ => nn - (intOf i).toNat)
    case atStart => exact ⟨0, Nat.zero_le _, rfl, fun j hj => absurd hj (by omega), Below.refl _ _⟩
    case round =>
      obtain ⟨k, hk, rfl, hno, hb⟩ := hrel
      have hbk : Below w.heap.size w wr := hbw.trans (hb.mono (by omega))
      by_cases hlt : k < nn
      · obtain ⟨x, rfl, hx, c0, c1⟩ := (HN.out.below (hbk.mono hB)).at2 k hlt
        have k0 := (old_cells hb _ 0 s1).trans HK0.out
        have k1 := (old_cells hb _ 1 s1).trans HK1.out
        have k2 := (old_cells hb _ 2 s1).trans HK2.out
        have k3 := (old_cells hb _ 3 s1).trans HK3.out
        have k4 := (old_cells hb _ 4 s1).trans HK4.out
        have k5 := (old_cells hb _ 5 s1).trans HK5.out
        have k6 := (old_cells hb _ 6 s1).trans HK6.out
        have k7 := (old_cells hb _ 7 s1).trans HK7.out
        have sr : w.heap.size < wr.heap.size := by have := hb.size; omega
        have b0 : (0 : Int) ≤ (k : Int) := by omega
        have b1 : (k : Int) < (nn : Int) := by omega
        have hw := HWr.out k
        have hs := firstI_some (n := nn) (k := k) (p := WR) hlt
        have HS : Hid (WR k = true → foundZ false (firstI nn WR) = (true, (k : Int))) := Lib.hid fun h => by rw [hs h hno.out]; rfl
        clear hs
        obtain ⟨fr, hfr⟩ : ∃ fr, fr = N k 0 := ⟨_, rfl⟩
        obtain ⟨tw, hto⟩ : ∃ tw, tw = N k 1 := ⟨_, rfl⟩
        rw [← hfr, ← hto] at hw
        rw [← hfr] at c0
        rw [← hto] at c1
        clear hfr hto
        have hbr : Hid (Below wr.heap.size wr (wr.alloc (.cells #[.int .i64 fr, .int .i64 tw] 65))) := Lib.hid ((Below.refl _ _).alloc (Nat.le_refl _) _)
        obtain ⟨WR', hWR'⟩ : ∃ W', W' = wr.alloc (.cells #[.int .i64 fr, .int .i64 tw] 65) := ⟨_, rfl⟩
        have HWR' := Lib.hid hWR'
        have d0 : WR'.cell? ⟨wr.heap.size, 0, none⟩ = some (.int .i64 fr) := by rw [hWR']; simp
        have d1 : WR'.cell? ⟨wr.heap.size, 1, none⟩ = some (.int .i64 tw) := by rw [hWR']; simp
        have sr2 : wr.heap.size < WR'.heap.size := by rw [hWR']; simp
        have sr3 : w.heap.size < WR'.heap.size := by omega
        clear hWR'
        have hbr2 : Below wr.heap.size wr WR' := by rw [HWR'.out]; exact hbr.out
        have m0 := (old_cells hbr2 _ 0 sr).trans k0
        have m1 := (old_cells hbr2 _ 1 sr).trans k1
        have m2 := (old_cells hbr2 _ 2 sr).trans k2
        have m3 := (old_cells hbr2 _ 3 sr).trans k3
        have m4 := (old_cells hbr2 _ 4 sr).trans k4
        have m5 := (old_cells hbr2 _ 5 sr).trans k5
        have m6 := (old_cells hbr2 _ 6 sr).trans k6
        have m7 := (old_cells hbr2 _ 7 sr).trans k7
        have hbW : Below w.heap.size w WR' := hbk.trans (hbr2.mono hbk.size)
        have hbW1 : Below w1.heap.size w1 WR' := hb.trans (hbr2.mono hb.size)
        have HD0 := Lib.hid d0
        have HD1 := Lib.hid d1
        have HM0 := Lib.hid m0
        clear m0
        have HM1 := Lib.hid m1
        clear m1
        have HM2 := Lib.hid m2
        clear m2
        have HM3 := Lib.hid m3
        clear m3
        have HM4 := Lib.hid m4
        clear m4
        have HM5 := Lib.hid m5
        clear m5
        have HM6 := Lib.hid m6
        clear m6
        have HM7 := Lib.hid m7
        clear m7
        clear hbr d0 d1
        have HGst : Hid (∀ (i : Int) (W : World), Calls Tryz.prog 26 #[.agg #[.int .i64 cats, .slice ga gn gc, .slice ra rn rc, .slice pa pn pc, .slice (some x) nn nc, .slice sa sn sc, .int .i64 gate, .int .i64 quota], .int .i64 i] W fun e w' => e = .returned (.bool (isGn gn i)) ∧ Below W.heap.size W w') := Lib.hid fun i W => refIsGuest_any _ _ _ _ _ _ _ _ _ _ _ _ hgn
        rcases hw with ⟨v1, hw⟩ | ⟨v1, ⟨v2, hw⟩ | ⟨v2, ⟨v3, hw⟩ | ⟨v3, f, t, rfl, rfl, hf2, ht2, hw⟩⟩⟩
        · have HF := Lib.hid (HS.out hw)
          have HGa : Hid (∀ W : World, Calls Tryz.prog 26 #[.agg #[.int .i64 cats, .slice ga gn gc, .slice ra rn rc, .slice pa pn pc, .slice (some x) nn nc, .slice sa sn sc, .int .i64 gate, .int .i64 quota], .int .i64 fr] W fun e w' => e = .returned (.bool false) ∧ Below W.heap.size W w') := Lib.hid fun W => by have h := HGst.out fr W; rwa [v1] at h
          clear HS hw v1 HGst
          go_wp2
          have hx2 := HWR'.out
          rw [← hx2]
          clear hx2 k0 k1 k2 k3 k4 k5 k6 k7
          have d0 := HD0.out
          have d1 := HD1.out
          have m0 := HM0.out
          have m1 := HM1.out
          have m2 := HM2.out
          have m3 := HM3.out
          have m4 := HM4.out
          have m5 := HM5.out
          have m6 := HM6.out
          have m7 := HM7.out
          apply wp_region_auto [22, 23, 24, 25, 26, 27, 28, 29, 30, 31, 32, 33, 34, 35, 36, 37, 38, 39, 40, 41, 42, 43, 44, 45, 46, 47, 48, 49, 50, 51, 52, 53, 54, 55, 56, 57] [_, _, _, _, _, _, _, _, _, _, _, _, _, _, _, _, _, _, _, _, _, _, _, _, _, _, _, _, _, _, _, _, _, _, _, _] (fun W' => Below WR'.heap.size WR' W')
          case hm => kernel_rfl
          case hT => intro y; simp only [setAll, List.setIfInBounds_toArray, List.set_cons_succ, List.set_cons_zero]; exact rfl
          case hok => kernel_rfl
          case hn => decide
          case hw => exact (Below.refl _ _).drew
          case hs =>
            refine auto_op 22 [] (by kernel_rfl) (fun y w' HW hd K hK => ?_) ?_
            · have hcl : ∀ p : Addr, p.block < WR'.heap.size → w'.cell? p = WR'.cell? p := fun p hp => HW.cell hp
              go_simp
              refine hK _ _ ?_ ?_ HW
              · simp [upd]
              · exact rfl
            refine auto_op 23 [] (by kernel_rfl) (fun y w' HW hd K hK => ?_) ?_
            · go_simp
              refine hK _ _ ?_ ?_ HW
              · simp [upd]
              · exact rfl
            refine auto_op 24 [1] (by kernel_rfl) (fun y w' HW hd K hK => ?_) ?_
            · have e1 := hd_nth (hd 1 (by simp)) rfl
              have hcl : ∀ p : Addr, p.block < WR'.heap.size → w'.cell? p = WR'.cell? p := fun p hp => HW.cell hp
              go_simp
              refine hK _ _ ?_ ?_ HW
              · simp [upd, e1]
              · exact rfl
            refine auto_op 25 [0, 2] (by kernel_rfl) (fun y w' HW hd K hK => ?_) ?_
            · have e0 := hd_nth (hd 0 (by simp)) rfl
              have e2 := hd_nth (hd 2 (by simp)) rfl
              go_simp
              refine (HGa.out _).mono ?_
              rintro e w3 ⟨rfl, hb3⟩
              refine hK _ _ ?_ ?_ (HW.trans (hb3.mono HW.size))
              · simp [upd, e0, e2]
              · exact rfl
            refine auto_op 26 [3] (by kernel_rfl) (fun y w' HW hd K hK => ?_) ?_
            · have e3 := hd_nth (hd 3 (by simp)) rfl
              go_simp
              refine hK _ _ ?_ ?_ HW
              · simp [upd, e3]
              · exact rfl
            refine auto_op 27 [4, 3] (by kernel_rfl) (fun y w' HW hd K hK => ?_) ?_
            · have e3 := hd_nth (hd 3 (by simp)) rfl
              have e4 := hd_nth (hd 4 (by simp)) rfl
              go_simp
              refine hK _ _ ?_ ?_ HW
              · simp [upd, e3, e4]
              · exact rfl
            refine auto_op 28 [5] (by kernel_rfl) (fun y w' HW hd K hK => ?_) ?_
            · have e5 := hd_nth (hd 5 (by simp)) rfl
              have hcl : ∀ p : Addr, p.block < WR'.heap.size → w'.cell? p = WR'.cell? p := fun p hp => HW.cell hp
              go_simp
              refine hK _ _ ?_ ?_ HW
              · simp [upd, e5]
              · exact rfl
            refine auto_op 29 [5] (by kernel_rfl) (fun y w' HW hd K hK => ?_) ?_
            · have e5 := hd_nth (hd 5 (by simp)) rfl
              go_simp
              refine hK _ _ ?_ ?_ HW
              · simp [upd, e5]
              · exact rfl
            refine auto_op 30 [7, 5] (by kernel_rfl) (fun y w' HW hd K hK => ?_) ?_
            · have e5 := hd_nth (hd 5 (by simp)) rfl
              have e7 := hd_nth (hd 7 (by simp)) rfl
              have hcl : ∀ p : Addr, p.block < WR'.heap.size → w'.cell? p = WR'.cell? p := fun p hp => HW.cell hp
              go_simp
              refine hK _ _ ?_ ?_ HW
              · simp [upd, e5, e7]
              · exact rfl
            refine auto_op 31 [6, 8, 5, 5] (by kernel_rfl) (fun y w' HW hd K hK => ?_) ?_
            · have e5 := hd_nth (hd 5 (by simp)) rfl
              have e6 := hd_nth (hd 6 (by simp)) rfl
              have e8 := hd_nth (hd 8 (by simp)) rfl
              go_simp
              refine hK _ _ ?_ ?_ HW
              · simp [upd, e5, e6, e8]
              · exact rfl
            refine auto_op 32 [9, 5] (by kernel_rfl) (fun y w' HW hd K hK => ?_) ?_
            · have e5 := hd_nth (hd 5 (by simp)) rfl
              have e9 := hd_nth (hd 9 (by simp)) rfl
              go_simp
              refine hK _ _ ?_ ?_ HW
              · simp [upd, e5, e9]
              · exact rfl
            refine auto_op 33 [5, 10] (by kernel_rfl) (fun y w' HW hd K hK => ?_) ?_
            · have e5 := hd_nth (hd 5 (by simp)) rfl
              have e10 := hd_nth (hd 10 (by simp)) rfl
              go_simp
              refine hK _ _ ?_ ?_ HW
              · simp [upd, e5, e10]
              · exact rfl
            refine auto_op 34 [11, 9] (by kernel_rfl) (fun y w' HW hd K hK => ?_) ?_
            · have e9 := hd_nth (hd 9 (by simp)) rfl
              have e11 := hd_nth (hd 11 (by simp)) rfl
              go_simp
              refine hK _ _ ?_ ?_ HW
              · simp [upd, e9, e11]
              · exact rfl
            refine auto_op 35 [12] (by kernel_rfl) (fun y w' HW hd K hK => ?_) ?_
            · have e12 := hd_nth (hd 12 (by simp)) rfl
              go_simp
              refine hK _ _ ?_ ?_ HW
              · simp [upd, e12]
              · exact rfl
            refine auto_op 36 [13, 12] (by kernel_rfl) (fun y w' HW hd K hK => ?_) ?_
            · have e12 := hd_nth (hd 12 (by simp)) rfl
              have e13 := hd_nth (hd 13 (by simp)) rfl
              have hcl : ∀ p : Addr, p.block < WR'.heap.size → w'.cell? p = WR'.cell? p := fun p hp => HW.cell hp
              go_simp
              refine hK _ _ ?_ ?_ HW
              · simp [upd, e12, e13]
              · exact rfl
            refine auto_op 37 [12] (by kernel_rfl) (fun y w' HW hd K hK => ?_) ?_
            · have e12 := hd_nth (hd 12 (by simp)) rfl
              go_simp
              refine hK _ _ ?_ ?_ HW
              · simp [upd, e12]
              · exact rfl
            refine auto_op 38 [15, 12] (by kernel_rfl) (fun y w' HW hd K hK => ?_) ?_
            · have e12 := hd_nth (hd 12 (by simp)) rfl
              have e15 := hd_nth (hd 15 (by simp)) rfl
              have hcl : ∀ p : Addr, p.block < WR'.heap.size → w'.cell? p = WR'.cell? p := fun p hp => HW.cell hp
              go_simp
              refine hK _ _ ?_ ?_ HW
              · simp [upd, e12, e15]
              · exact rfl
            refine auto_op 39 [14, 16, 12] (by kernel_rfl) (fun y w' HW hd K hK => ?_) ?_
            · have e12 := hd_nth (hd 12 (by simp)) rfl
              have e14 := hd_nth (hd 14 (by simp)) rfl
              have e16 := hd_nth (hd 16 (by simp)) rfl
              go_simp
              refine hK _ _ ?_ ?_ HW
              · simp [upd, e12, e14, e16]
              · exact rfl
            refine auto_op 40 [12, 17] (by kernel_rfl) (fun y w' HW hd K hK => ?_) ?_
            · have e12 := hd_nth (hd 12 (by simp)) rfl
              have e17 := hd_nth (hd 17 (by simp)) rfl
              go_simp
              refine hK _ _ ?_ ?_ HW
              · simp [upd, e12, e17]
              · exact rfl
            refine auto_op 41 [18, 12] (by kernel_rfl) (fun y w' HW hd K hK => ?_) ?_
            · have e12 := hd_nth (hd 12 (by simp)) rfl
              have e18 := hd_nth (hd 18 (by simp)) rfl
              go_simp
              refine hK _ _ ?_ ?_ HW
              · simp [upd, e12, e18]
              · exact rfl
            refine auto_op 42 [19] (by kernel_rfl) (fun y w' HW hd K hK => ?_) ?_
            · have e19 := hd_nth (hd 19 (by simp)) rfl
              go_simp
              refine hK _ _ ?_ ?_ HW
              · simp [upd, e19]
              · exact rfl
            refine auto_op 43 [20, 19] (by kernel_rfl) (fun y w' HW hd K hK => ?_) ?_
            · have e19 := hd_nth (hd 19 (by simp)) rfl
              have e20 := hd_nth (hd 20 (by simp)) rfl
              have hcl : ∀ p : Addr, p.block < WR'.heap.size → w'.cell? p = WR'.cell? p := fun p hp => HW.cell hp
              go_simp
              refine hK _ _ ?_ ?_ HW
              · simp [upd, e19, e20]
              · exact rfl
            refine auto_op 44 [19] (by kernel_rfl) (fun y w' HW hd K hK => ?_) ?_
            · have e19 := hd_nth (hd 19 (by simp)) rfl
              go_simp
              refine hK _ _ ?_ ?_ HW
              · simp [upd, e19]
              · exact rfl
            refine auto_op 45 [22, 19] (by kernel_rfl) (fun y w' HW hd K hK => ?_) ?_
            · have e19 := hd_nth (hd 19 (by simp)) rfl
              have e22 := hd_nth (hd 22 (by simp)) rfl
              have hcl : ∀ p : Addr, p.block < WR'.heap.size → w'.cell? p = WR'.cell? p := fun p hp => HW.cell hp
              go_simp
              refine hK _ _ ?_ ?_ HW
              · simp [upd, e19, e22]
              · exact rfl
            refine auto_op 46 [21, 23, 19] (by kernel_rfl) (fun y w' HW hd K hK => ?_) ?_
            · have e19 := hd_nth (hd 19 (by simp)) rfl
              have e21 := hd_nth (hd 21 (by simp)) rfl
              have e23 := hd_nth (hd 23 (by simp)) rfl
              go_simp
              refine hK _ _ ?_ ?_ HW
              · simp [upd, e19, e21, e23]
              · exact rfl
            refine auto_op 47 [24, 19] (by kernel_rfl) (fun y w' HW hd K hK => ?_) ?_
            · have e19 := hd_nth (hd 19 (by simp)) rfl
              have e24 := hd_nth (hd 24 (by simp)) rfl
              go_simp
              refine hK _ _ ?_ ?_ HW
              · simp [upd, e19, e24]
              · exact rfl
            refine auto_op 48 [25, 19] (by kernel_rfl) (fun y w' HW hd K hK => ?_) ?_
            · have e19 := hd_nth (hd 19 (by simp)) rfl
              have e25 := hd_nth (hd 25 (by simp)) rfl
              have hcl : ∀ p : Addr, p.block < WR'.heap.size → w'.cell? p = WR'.cell? p := fun p hp => HW.cell hp
              go_simp
              refine hK _ _ ?_ ?_ HW
              · simp [upd, e19, e25]
              · exact rfl
            refine auto_op 49 [19] (by kernel_rfl) (fun y w' HW hd K hK => ?_) ?_
            · have e19 := hd_nth (hd 19 (by simp)) rfl
              go_simp
              refine hK _ _ ?_ ?_ HW
              · simp [upd, e19]
              · exact rfl
            refine auto_op 50 [27, 19] (by kernel_rfl) (fun y w' HW hd K hK => ?_) ?_
            · have e19 := hd_nth (hd 19 (by simp)) rfl
              have e27 := hd_nth (hd 27 (by simp)) rfl
              have hcl : ∀ p : Addr, p.block < WR'.heap.size → w'.cell? p = WR'.cell? p := fun p hp => HW.cell hp
              go_simp
              refine hK _ _ ?_ ?_ HW
              · simp [upd, e19, e27]
              · exact rfl
            refine auto_op 51 [19] (by kernel_rfl) (fun y w' HW hd K hK => ?_) ?_
            · have e19 := hd_nth (hd 19 (by simp)) rfl
              go_simp
              refine hK _ _ ?_ ?_ HW
              · simp [upd, e19]
              · exact rfl
            refine auto_op 52 [29, 19] (by kernel_rfl) (fun y w' HW hd K hK => ?_) ?_
            · have e19 := hd_nth (hd 19 (by simp)) rfl
              have e29 := hd_nth (hd 29 (by simp)) rfl
              have hcl : ∀ p : Addr, p.block < WR'.heap.size → w'.cell? p = WR'.cell? p := fun p hp => HW.cell hp
              go_simp
              refine hK _ _ ?_ ?_ HW
              · simp [upd, e19, e29]
              · exact rfl
            refine auto_op 53 [28, 30, 19] (by kernel_rfl) (fun y w' HW hd K hK => ?_) ?_
            · have e19 := hd_nth (hd 19 (by simp)) rfl
              have e28 := hd_nth (hd 28 (by simp)) rfl
              have e30 := hd_nth (hd 30 (by simp)) rfl
              go_simp
              refine hK _ _ ?_ ?_ HW
              · simp [upd, e19, e28, e30]
              · exact rfl
            refine auto_op 54 [31, 19] (by kernel_rfl) (fun y w' HW hd K hK => ?_) ?_
            · have e19 := hd_nth (hd 19 (by simp)) rfl
              have e31 := hd_nth (hd 31 (by simp)) rfl
              go_simp
              refine hK _ _ ?_ ?_ HW
              · simp [upd, e19, e31]
              · exact rfl
            refine auto_op 55 [32, 19] (by kernel_rfl) (fun y w' HW hd K hK => ?_) ?_
            · have e19 := hd_nth (hd 19 (by simp)) rfl
              have e32 := hd_nth (hd 32 (by simp)) rfl
              have hcl : ∀ p : Addr, p.block < WR'.heap.size → w'.cell? p = WR'.cell? p := fun p hp => HW.cell hp
              go_simp
              refine hK _ _ ?_ ?_ HW
              · simp [upd, e19, e32]
              · exact rfl
            refine auto_op 56 [26, 33, 19, 19] (by kernel_rfl) (fun y w' HW hd K hK => ?_) ?_
            · have e19 := hd_nth (hd 19 (by simp)) rfl
              have e26 := hd_nth (hd 26 (by simp)) rfl
              have e33 := hd_nth (hd 33 (by simp)) rfl
              go_simp
              refine hK _ _ ?_ ?_ HW
              · simp [upd, e19, e26, e33]
              · exact rfl
            refine auto_op 57 [34, 19] (by kernel_rfl) (fun y w' HW hd K hK => ?_) ?_
            · have e19 := hd_nth (hd 19 (by simp)) rfl
              have e34 := hd_nth (hd 34 (by simp)) rfl
              go_simp
              refine hK _ _ ?_ ?_ HW
              · simp [upd, e19, e34]
              · exact rfl
            refine auto_last fun y w' HW hd K hK => ?_
            have e0 := hd_nth (hd 0 (by omega)) rfl
            have e1 := hd_nth (hd 1 (by omega)) rfl
            have e2 := hd_nth (hd 2 (by omega)) rfl
            have e3 := hd_nth (hd 3 (by omega)) rfl
            have e4 := hd_nth (hd 4 (by omega)) rfl
            have e5 := hd_nth (hd 5 (by omega)) rfl
            have e6 := hd_nth (hd 6 (by omega)) rfl
            have e7 := hd_nth (hd 7 (by omega)) rfl
            have e8 := hd_nth (hd 8 (by omega)) rfl
            have e9 := hd_nth (hd 9 (by omega)) rfl
            have e10 := hd_nth (hd 10 (by omega)) rfl
            have e11 := hd_nth (hd 11 (by omega)) rfl
            have e12 := hd_nth (hd 12 (by omega)) rfl
            have e13 := hd_nth (hd 13 (by omega)) rfl
            have e14 := hd_nth (hd 14 (by omega)) rfl
            have e15 := hd_nth (hd 15 (by omega)) rfl
            have e16 := hd_nth (hd 16 (by omega)) rfl
            have e17 := hd_nth (hd 17 (by omega)) rfl
            have e18 := hd_nth (hd 18 (by omega)) rfl
            have e19 := hd_nth (hd 19 (by omega)) rfl
            have e20 := hd_nth (hd 20 (by omega)) rfl
            have e21 := hd_nth (hd 21 (by omega)) rfl
            have e22 := hd_nth (hd 22 (by omega)) rfl
            have e23 := hd_nth (hd 23 (by omega)) rfl
            have e24 := hd_nth (hd 24 (by omega)) rfl
            have e25 := hd_nth (hd 25 (by omega)) rfl
            have e26 := hd_nth (hd 26 (by omega)) rfl
            have e27 := hd_nth (hd 27 (by omega)) rfl
            have e28 := hd_nth (hd 28 (by omega)) rfl
            have e29 := hd_nth (hd 29 (by omega)) rfl
            have e30 := hd_nth (hd 30 (by omega)) rfl
            have e31 := hd_nth (hd 31 (by omega)) rfl
            have e32 := hd_nth (hd 32 (by omega)) rfl
            have e33 := hd_nth (hd 33 (by omega)) rfl
            have e34 := hd_nth (hd 34 (by omega)) rfl
            have e35 := hd_nth (hd 35 (by omega)) rfl
            go_simp
            refine hK _ _ ?_
            clear hd hK K e0 e1 e2 e3 e4 e5 e6 e7 e8 e9 e10 e11 e12 e13 e14 e15 e16 e17 e18 e19 e20 e21 e22 e23 e24 e25 e26 e27 e28 e29 e30 e31 e32 e33 e34 e35
            go_wp2
            go_ret2
            exact ⟨by rw [HF.out]; rfl, hbW.trans (HW.mono hbW.size)⟩
        · have HF := Lib.hid (HS.out hw)
          have HGa : Hid (∀ W : World, Calls Tryz.prog 26 #[.agg #[.int .i64 cats, .slice ga gn gc, .slice ra rn rc, .slice pa pn pc, .slice (some x) nn nc, .slice sa sn sc, .int .i64 gate, .int .i64 quota], .int .i64 fr] W fun e w' => e = .returned (.bool true) ∧ Below W.heap.size W w') := Lib.hid fun W => by have h := HGst.out fr W; rwa [v1] at h
          have HGb : Hid (∀ W : World, Calls Tryz.prog 26 #[.agg #[.int .i64 cats, .slice ga gn gc, .slice ra rn rc, .slice pa pn pc, .slice (some x) nn nc, .slice sa sn sc, .int .i64 gate, .int .i64 quota], .int .i64 tw] W fun e w' => e = .returned (.bool false) ∧ Below W.heap.size W w') := Lib.hid fun W => by have h := HGst.out tw W; rwa [v2] at h
          clear HS hw v1 v2 HGst
          go_wp2
          have hx2 := HWR'.out
          rw [← hx2]
          clear hx2 k0 k1 k2 k3 k4 k5 k6 k7
          have d0 := HD0.out
          have d1 := HD1.out
          have m0 := HM0.out
          have m1 := HM1.out
          have m2 := HM2.out
          have m3 := HM3.out
          have m4 := HM4.out
          have m5 := HM5.out
          have m6 := HM6.out
          have m7 := HM7.out
          apply wp_region_auto [22, 23, 24, 25, 26, 27, 28, 29, 30, 31, 32, 33, 34, 35, 36, 37, 38, 39, 40, 41, 42, 43, 44, 45, 46, 47, 48, 49, 50, 51, 52, 53, 54, 55, 56, 57] [_, _, _, _, _, _, _, _, _, _, _, _, _, _, _, _, _, _, _, _, _, _, _, _, _, _, _, _, _, _, _, _, _, _, _, _] (fun W' => Below WR'.heap.size WR' W')
          case hm => kernel_rfl
          case hT => intro y; simp only [setAll, List.setIfInBounds_toArray, List.set_cons_succ, List.set_cons_zero]; exact rfl
          case hok => kernel_rfl
          case hn => decide
          case hw => exact (Below.refl _ _).drew
          case hs =>
            refine auto_op 22 [] (by kernel_rfl) (fun y w' HW hd K hK => ?_) ?_
            · have hcl : ∀ p : Addr, p.block < WR'.heap.size → w'.cell? p = WR'.cell? p := fun p hp => HW.cell hp
              go_simp
              refine hK _ _ ?_ ?_ HW
              · simp [upd]
              · exact rfl
            refine auto_op 23 [] (by kernel_rfl) (fun y w' HW hd K hK => ?_) ?_
            · go_simp
              refine hK _ _ ?_ ?_ HW
              · simp [upd]
              · exact rfl
            refine auto_op 24 [1] (by kernel_rfl) (fun y w' HW hd K hK => ?_) ?_
            · have e1 := hd_nth (hd 1 (by simp)) rfl
              have hcl : ∀ p : Addr, p.block < WR'.heap.size → w'.cell? p = WR'.cell? p := fun p hp => HW.cell hp
              go_simp
              refine hK _ _ ?_ ?_ HW
              · simp [upd, e1]
              · exact rfl
            refine auto_op 25 [0, 2] (by kernel_rfl) (fun y w' HW hd K hK => ?_) ?_
            · have e0 := hd_nth (hd 0 (by simp)) rfl
              have e2 := hd_nth (hd 2 (by simp)) rfl
              go_simp
              refine (HGa.out _).mono ?_
              rintro e w3 ⟨rfl, hb3⟩
              refine hK _ _ ?_ ?_ (HW.trans (hb3.mono HW.size))
              · simp [upd, e0, e2]
              · exact rfl
            refine auto_op 26 [3] (by kernel_rfl) (fun y w' HW hd K hK => ?_) ?_
            · have e3 := hd_nth (hd 3 (by simp)) rfl
              go_simp
              refine hK _ _ ?_ ?_ HW
              · simp [upd, e3]
              · exact rfl
            refine auto_op 27 [4, 3] (by kernel_rfl) (fun y w' HW hd K hK => ?_) ?_
            · have e3 := hd_nth (hd 3 (by simp)) rfl
              have e4 := hd_nth (hd 4 (by simp)) rfl
              go_simp
              refine hK _ _ ?_ ?_ HW
              · simp [upd, e3, e4]
              · exact rfl
            refine auto_op 28 [5] (by kernel_rfl) (fun y w' HW hd K hK => ?_) ?_
            · have e5 := hd_nth (hd 5 (by simp)) rfl
              have hcl : ∀ p : Addr, p.block < WR'.heap.size → w'.cell? p = WR'.cell? p := fun p hp => HW.cell hp
              go_simp
              refine hK _ _ ?_ ?_ HW
              · simp [upd, e5]
              · exact rfl
            refine auto_op 29 [5] (by kernel_rfl) (fun y w' HW hd K hK => ?_) ?_
            · have e5 := hd_nth (hd 5 (by simp)) rfl
              go_simp
              refine hK _ _ ?_ ?_ HW
              · simp [upd, e5]
              · exact rfl
            refine auto_op 30 [7, 5] (by kernel_rfl) (fun y w' HW hd K hK => ?_) ?_
            · have e5 := hd_nth (hd 5 (by simp)) rfl
              have e7 := hd_nth (hd 7 (by simp)) rfl
              have hcl : ∀ p : Addr, p.block < WR'.heap.size → w'.cell? p = WR'.cell? p := fun p hp => HW.cell hp
              go_simp
              refine hK _ _ ?_ ?_ HW
              · simp [upd, e5, e7]
              · exact rfl
            refine auto_op 31 [6, 8, 5, 5] (by kernel_rfl) (fun y w' HW hd K hK => ?_) ?_
            · have e5 := hd_nth (hd 5 (by simp)) rfl
              have e6 := hd_nth (hd 6 (by simp)) rfl
              have e8 := hd_nth (hd 8 (by simp)) rfl
              go_simp
              refine (HGb.out _).mono ?_
              rintro e w3 ⟨rfl, hb9⟩
              refine hK _ _ ?_ ?_ (HW.trans (hb9.mono HW.size))
              · simp [upd, e5, e6, e8]
              · exact rfl
            refine auto_op 32 [9, 5] (by kernel_rfl) (fun y w' HW hd K hK => ?_) ?_
            · have e5 := hd_nth (hd 5 (by simp)) rfl
              have e9 := hd_nth (hd 9 (by simp)) rfl
              go_simp
              refine hK _ _ ?_ ?_ HW
              · simp [upd, e5, e9]
              · exact rfl
            refine auto_op 33 [5, 10] (by kernel_rfl) (fun y w' HW hd K hK => ?_) ?_
            · have e5 := hd_nth (hd 5 (by simp)) rfl
              have e10 := hd_nth (hd 10 (by simp)) rfl
              go_simp
              refine hK _ _ ?_ ?_ HW
              · simp [upd, e5, e10]
              · exact rfl
            refine auto_op 34 [11, 9] (by kernel_rfl) (fun y w' HW hd K hK => ?_) ?_
            · have e9 := hd_nth (hd 9 (by simp)) rfl
              have e11 := hd_nth (hd 11 (by simp)) rfl
              go_simp
              refine hK _ _ ?_ ?_ HW
              · simp [upd, e9, e11]
              · exact rfl
            refine auto_op 35 [12] (by kernel_rfl) (fun y w' HW hd K hK => ?_) ?_
            · have e12 := hd_nth (hd 12 (by simp)) rfl
              go_simp
              refine hK _ _ ?_ ?_ HW
              · simp [upd, e12]
              · exact rfl
            refine auto_op 36 [13, 12] (by kernel_rfl) (fun y w' HW hd K hK => ?_) ?_
            · have e12 := hd_nth (hd 12 (by simp)) rfl
              have e13 := hd_nth (hd 13 (by simp)) rfl
              have hcl : ∀ p : Addr, p.block < WR'.heap.size → w'.cell? p = WR'.cell? p := fun p hp => HW.cell hp
              go_simp
              refine hK _ _ ?_ ?_ HW
              · simp [upd, e12, e13]
              · exact rfl
            refine auto_op 37 [12] (by kernel_rfl) (fun y w' HW hd K hK => ?_) ?_
            · have e12 := hd_nth (hd 12 (by simp)) rfl
              go_simp
              refine hK _ _ ?_ ?_ HW
              · simp [upd, e12]
              · exact rfl
            refine auto_op 38 [15, 12] (by kernel_rfl) (fun y w' HW hd K hK => ?_) ?_
            · have e12 := hd_nth (hd 12 (by simp)) rfl
              have e15 := hd_nth (hd 15 (by simp)) rfl
              have hcl : ∀ p : Addr, p.block < WR'.heap.size → w'.cell? p = WR'.cell? p := fun p hp => HW.cell hp
              go_simp
              refine hK _ _ ?_ ?_ HW
              · simp [upd, e12, e15]
              · exact rfl
            refine auto_op 39 [14, 16, 12] (by kernel_rfl) (fun y w' HW hd K hK => ?_) ?_
            · have e12 := hd_nth (hd 12 (by simp)) rfl
              have e14 := hd_nth (hd 14 (by simp)) rfl
              have e16 := hd_nth (hd 16 (by simp)) rfl
              go_simp
              refine hK _ _ ?_ ?_ HW
              · simp [upd, e12, e14, e16]
              · exact rfl
            refine auto_op 40 [12, 17] (by kernel_rfl) (fun y w' HW hd K hK => ?_) ?_
            · have e12 := hd_nth (hd 12 (by simp)) rfl
              have e17 := hd_nth (hd 17 (by simp)) rfl
              go_simp
              refine hK _ _ ?_ ?_ HW
              · simp [upd, e12, e17]
              · exact rfl
            refine auto_op 41 [18, 12] (by kernel_rfl) (fun y w' HW hd K hK => ?_) ?_
            · have e12 := hd_nth (hd 12 (by simp)) rfl
              have e18 := hd_nth (hd 18 (by simp)) rfl
              go_simp
              refine hK _ _ ?_ ?_ HW
              · simp [upd, e12, e18]
              · exact rfl
            refine auto_op 42 [19] (by kernel_rfl) (fun y w' HW hd K hK => ?_) ?_
            · have e19 := hd_nth (hd 19 (by simp)) rfl
              go_simp
              refine hK _ _ ?_ ?_ HW
              · simp [upd, e19]
              · exact rfl
            refine auto_op 43 [20, 19] (by kernel_rfl) (fun y w' HW hd K hK => ?_) ?_
            · have e19 := hd_nth (hd 19 (by simp)) rfl
              have e20 := hd_nth (hd 20 (by simp)) rfl
              have hcl : ∀ p : Addr, p.block < WR'.heap.size → w'.cell? p = WR'.cell? p := fun p hp => HW.cell hp
              go_simp
              refine hK _ _ ?_ ?_ HW
              · simp [upd, e19, e20]
              · exact rfl
            refine auto_op 44 [19] (by kernel_rfl) (fun y w' HW hd K hK => ?_) ?_
            · have e19 := hd_nth (hd 19 (by simp)) rfl
              go_simp
              refine hK _ _ ?_ ?_ HW
              · simp [upd, e19]
              · exact rfl
            refine auto_op 45 [22, 19] (by kernel_rfl) (fun y w' HW hd K hK => ?_) ?_
            · have e19 := hd_nth (hd 19 (by simp)) rfl
              have e22 := hd_nth (hd 22 (by simp)) rfl
              have hcl : ∀ p : Addr, p.block < WR'.heap.size → w'.cell? p = WR'.cell? p := fun p hp => HW.cell hp
              go_simp
              refine hK _ _ ?_ ?_ HW
              · simp [upd, e19, e22]
              · exact rfl
            refine auto_op 46 [21, 23, 19] (by kernel_rfl) (fun y w' HW hd K hK => ?_) ?_
            · have e19 := hd_nth (hd 19 (by simp)) rfl
              have e21 := hd_nth (hd 21 (by simp)) rfl
              have e23 := hd_nth (hd 23 (by simp)) rfl
              go_simp
              refine hK _ _ ?_ ?_ HW
              · simp [upd, e19, e21, e23]
              · exact rfl
            refine auto_op 47 [24, 19] (by kernel_rfl) (fun y w' HW hd K hK => ?_) ?_
            · have e19 := hd_nth (hd 19 (by simp)) rfl
              have e24 := hd_nth (hd 24 (by simp)) rfl
              go_simp
              refine hK _ _ ?_ ?_ HW
              · simp [upd, e19, e24]
              · exact rfl
            refine auto_op 48 [25, 19] (by kernel_rfl) (fun y w' HW hd K hK => ?_) ?_
            · have e19 := hd_nth (hd 19 (by simp)) rfl
              have e25 := hd_nth (hd 25 (by simp)) rfl
              have hcl : ∀ p : Addr, p.block < WR'.heap.size → w'.cell? p = WR'.cell? p := fun p hp => HW.cell hp
              go_simp
              refine hK _ _ ?_ ?_ HW
              · simp [upd, e19, e25]
              · exact rfl
            refine auto_op 49 [19] (by kernel_rfl) (fun y w' HW hd K hK => ?_) ?_
            · have e19 := hd_nth (hd 19 (by simp)) rfl
              go_simp
              refine hK _ _ ?_ ?_ HW
              · simp [upd, e19]
              · exact rfl
            refine auto_op 50 [27, 19] (by kernel_rfl) (fun y w' HW hd K hK => ?_) ?_
            · have e19 := hd_nth (hd 19 (by simp)) rfl
              have e27 := hd_nth (hd 27 (by simp)) rfl
              have hcl : ∀ p : Addr, p.block < WR'.heap.size → w'.cell? p = WR'.cell? p := fun p hp => HW.cell hp
              go_simp
              refine hK _ _ ?_ ?_ HW
              · simp [upd, e19, e27]
              · exact rfl
            refine auto_op 51 [19] (by kernel_rfl) (fun y w' HW hd K hK => ?_) ?_
            · have e19 := hd_nth (hd 19 (by simp)) rfl
              go_simp
              refine hK _ _ ?_ ?_ HW
              · simp [upd, e19]
              · exact rfl
            refine auto_op 52 [29, 19] (by kernel_rfl) (fun y w' HW hd K hK => ?_) ?_
            · have e19 := hd_nth (hd 19 (by simp)) rfl
              have e29 := hd_nth (hd 29 (by simp)) rfl
              have hcl : ∀ p : Addr, p.block < WR'.heap.size → w'.cell? p = WR'.cell? p := fun p hp => HW.cell hp
              go_simp
              refine hK _ _ ?_ ?_ HW
              · simp [upd, e19, e29]
              · exact rfl
            refine auto_op 53 [28, 30, 19] (by kernel_rfl) (fun y w' HW hd K hK => ?_) ?_
            · have e19 := hd_nth (hd 19 (by simp)) rfl
              have e28 := hd_nth (hd 28 (by simp)) rfl
              have e30 := hd_nth (hd 30 (by simp)) rfl
              go_simp
              refine hK _ _ ?_ ?_ HW
              · simp [upd, e19, e28, e30]
              · exact rfl
            refine auto_op 54 [31, 19] (by kernel_rfl) (fun y w' HW hd K hK => ?_) ?_
            · have e19 := hd_nth (hd 19 (by simp)) rfl
              have e31 := hd_nth (hd 31 (by simp)) rfl
              go_simp
              refine hK _ _ ?_ ?_ HW
              · simp [upd, e19, e31]
              · exact rfl
            refine auto_op 55 [32, 19] (by kernel_rfl) (fun y w' HW hd K hK => ?_) ?_
            · have e19 := hd_nth (hd 19 (by simp)) rfl
              have e32 := hd_nth (hd 32 (by simp)) rfl
              have hcl : ∀ p : Addr, p.block < WR'.heap.size → w'.cell? p = WR'.cell? p := fun p hp => HW.cell hp
              go_simp
              refine hK _ _ ?_ ?_ HW
              · simp [upd, e19, e32]
              · exact rfl
            refine auto_op 56 [26, 33, 19, 19] (by kernel_rfl) (fun y w' HW hd K hK => ?_) ?_
            · have e19 := hd_nth (hd 19 (by simp)) rfl
              have e26 := hd_nth (hd 26 (by simp)) rfl
              have e33 := hd_nth (hd 33 (by simp)) rfl
              go_simp
              refine hK _ _ ?_ ?_ HW
              · simp [upd, e19, e26, e33]
              · exact rfl
            refine auto_op 57 [34, 19] (by kernel_rfl) (fun y w' HW hd K hK => ?_) ?_
            · have e19 := hd_nth (hd 19 (by simp)) rfl
              have e34 := hd_nth (hd 34 (by simp)) rfl
              go_simp
              refine hK _ _ ?_ ?_ HW
              · simp [upd, e19, e34]
              · exact rfl
            refine auto_last fun y w' HW hd K hK => ?_
            have e0 := hd_nth (hd 0 (by omega)) rfl
            have e1 := hd_nth (hd 1 (by omega)) rfl
            have e2 := hd_nth (hd 2 (by omega)) rfl
            have e3 := hd_nth (hd 3 (by omega)) rfl
            have e4 := hd_nth (hd 4 (by omega)) rfl
            have e5 := hd_nth (hd 5 (by omega)) rfl
            have e6 := hd_nth (hd 6 (by omega)) rfl
            have e7 := hd_nth (hd 7 (by omega)) rfl
            have e8 := hd_nth (hd 8 (by omega)) rfl
            have e9 := hd_nth (hd 9 (by omega)) rfl
            have e10 := hd_nth (hd 10 (by omega)) rfl
            have e11 := hd_nth (hd 11 (by omega)) rfl
            have e12 := hd_nth (hd 12 (by omega)) rfl
            have e13 := hd_nth (hd 13 (by omega)) rfl
            have e14 := hd_nth (hd 14 (by omega)) rfl
            have e15 := hd_nth (hd 15 (by omega)) rfl
            have e16 := hd_nth (hd 16 (by omega)) rfl
            have e17 := hd_nth (hd 17 (by omega)) rfl
            have e18 := hd_nth (hd 18 (by omega)) rfl
            have e19 := hd_nth (hd 19 (by omega)) rfl
            have e20 := hd_nth (hd 20 (by omega)) rfl
            have e21 := hd_nth (hd 21 (by omega)) rfl
            have e22 := hd_nth (hd 22 (by omega)) rfl
            have e23 := hd_nth (hd 23 (by omega)) rfl
            have e24 := hd_nth (hd 24 (by omega)) rfl
            have e25 := hd_nth (hd 25 (by omega)) rfl
            have e26 := hd_nth (hd 26 (by omega)) rfl
            have e27 := hd_nth (hd 27 (by omega)) rfl
            have e28 := hd_nth (hd 28 (by omega)) rfl
            have e29 := hd_nth (hd 29 (by omega)) rfl
            have e30 := hd_nth (hd 30 (by omega)) rfl
            have e31 := hd_nth (hd 31 (by omega)) rfl
            have e32 := hd_nth (hd 32 (by omega)) rfl
            have e33 := hd_nth (hd 33 (by omega)) rfl
            have e34 := hd_nth (hd 34 (by omega)) rfl
            have e35 := hd_nth (hd 35 (by omega)) rfl
            go_simp
            refine hK _ _ ?_
            clear hd hK K e0 e1 e2 e3 e4 e5 e6 e7 e8 e9 e10 e11 e12 e13 e14 e15 e16 e17 e18 e19 e20 e21 e22 e23 e24 e25 e26 e27 e28 e29 e30 e31 e32 e33 e34 e35
            go_wp2
            go_ret2
            exact ⟨by rw [HF.out]; rfl, hbW.trans (HW.mono hbW.size)⟩
        · have HF := Lib.hid (HS.out hw)
          subst v3
          have HGa : Hid (∀ W : World, Calls Tryz.prog 26 #[.agg #[.int .i64 cats, .slice ga gn gc, .slice ra rn rc, .slice pa pn pc, .slice (some x) nn nc, .slice sa sn sc, .int .i64 gate, .int .i64 quota], .int .i64 fr] W fun e w' => e = .returned (.bool true) ∧ Below W.heap.size W w') := Lib.hid fun W => by have h := HGst.out fr W; rwa [v1] at h
          have HGb : Hid (∀ W : World, Calls Tryz.prog 26 #[.agg #[.int .i64 cats, .slice ga gn gc, .slice ra rn rc, .slice pa pn pc, .slice (some x) nn nc, .slice sa sn sc, .int .i64 gate, .int .i64 quota], .int .i64 fr] W fun e w' => e = .returned (.bool true) ∧ Below W.heap.size W w') := Lib.hid fun W => by have h := HGst.out fr W; rwa [v2] at h
          clear HS hw v1 v2 HGst
          go_wp2
          have hx2 := HWR'.out
          rw [← hx2]
          clear hx2 k0 k1 k2 k3 k4 k5 k6 k7
          have d0 := HD0.out
          have d1 := HD1.out
          have m0 := HM0.out
          have m1 := HM1.out
          have m2 := HM2.out
          have m3 := HM3.out
          have m4 := HM4.out
          have m5 := HM5.out
          have m6 := HM6.out
          have m7 := HM7.out
          apply wp_region_auto [22, 23, 24, 25, 26, 27, 28, 29, 30, 31, 32, 33, 34, 35, 36, 37, 38, 39, 40, 41, 42, 43, 44, 45, 46, 47, 48, 49, 50, 51, 52, 53, 54, 55, 56, 57] [_, _, _, _, _, _, _, _, _, _, _, _, _, _, _, _, _, _, _, _, _, _, _, _, _, _, _, _, _, _, _, _, _, _, _, _] (fun W' => Below WR'.heap.size WR' W')
          case hm => kernel_rfl
          case hT => intro y; simp only [setAll, List.setIfInBounds_toArray, List.set_cons_succ, List.set_cons_zero]; exact rfl
          case hok => kernel_rfl
          case hn => decide
          case hw => exact (Below.refl _ _).drew
          case hs =>
            refine auto_op 22 [] (by kernel_rfl) (fun y w' HW hd K hK => ?_) ?_
            · have hcl : ∀ p : Addr, p.block < WR'.heap.size → w'.cell? p = WR'.cell? p := fun p hp => HW.cell hp
              go_simp
              refine hK _ _ ?_ ?_ HW
              · simp [upd]
              · exact rfl
            refine auto_op 23 [] (by kernel_rfl) (fun y w' HW hd K hK => ?_) ?_
            · go_simp
              refine hK _ _ ?_ ?_ HW
              · simp [upd]
              · exact rfl
            refine auto_op 24 [1] (by kernel_rfl) (fun y w' HW hd K hK => ?_) ?_
            · have e1 := hd_nth (hd 1 (by simp)) rfl
              have hcl : ∀ p : Addr, p.block < WR'.heap.size → w'.cell? p = WR'.cell? p := fun p hp => HW.cell hp
              go_simp
              refine hK _ _ ?_ ?_ HW
              · simp [upd, e1]
              · exact rfl
            refine auto_op 25 [0, 2] (by kernel_rfl) (fun y w' HW hd K hK => ?_) ?_
            · have e0 := hd_nth (hd 0 (by simp)) rfl
              have e2 := hd_nth (hd 2 (by simp)) rfl
              go_simp
              refine (HGa.out _).mono ?_
              rintro e w3 ⟨rfl, hb3⟩
              refine hK _ _ ?_ ?_ (HW.trans (hb3.mono HW.size))
              · simp [upd, e0, e2]
              · exact rfl
            refine auto_op 26 [3] (by kernel_rfl) (fun y w' HW hd K hK => ?_) ?_
            · have e3 := hd_nth (hd 3 (by simp)) rfl
              go_simp
              refine hK _ _ ?_ ?_ HW
              · simp [upd, e3]
              · exact rfl
            refine auto_op 27 [4, 3] (by kernel_rfl) (fun y w' HW hd K hK => ?_) ?_
            · have e3 := hd_nth (hd 3 (by simp)) rfl
              have e4 := hd_nth (hd 4 (by simp)) rfl
              go_simp
              refine hK _ _ ?_ ?_ HW
              · simp [upd, e3, e4]
              · exact rfl
            refine auto_op 28 [5] (by kernel_rfl) (fun y w' HW hd K hK => ?_) ?_
            · have e5 := hd_nth (hd 5 (by simp)) rfl
              have hcl : ∀ p : Addr, p.block < WR'.heap.size → w'.cell? p = WR'.cell? p := fun p hp => HW.cell hp
              go_simp
              refine hK _ _ ?_ ?_ HW
              · simp [upd, e5]
              · exact rfl
            refine auto_op 29 [5] (by kernel_rfl) (fun y w' HW hd K hK => ?_) ?_
            · have e5 := hd_nth (hd 5 (by simp)) rfl
              go_simp
              refine hK _ _ ?_ ?_ HW
              · simp [upd, e5]
              · exact rfl
            refine auto_op 30 [7, 5] (by kernel_rfl) (fun y w' HW hd K hK => ?_) ?_
            · have e5 := hd_nth (hd 5 (by simp)) rfl
              have e7 := hd_nth (hd 7 (by simp)) rfl
              have hcl : ∀ p : Addr, p.block < WR'.heap.size → w'.cell? p = WR'.cell? p := fun p hp => HW.cell hp
              go_simp
              refine hK _ _ ?_ ?_ HW
              · simp [upd, e5, e7]
              · exact rfl
            refine auto_op 31 [6, 8, 5, 5] (by kernel_rfl) (fun y w' HW hd K hK => ?_) ?_
            · have e5 := hd_nth (hd 5 (by simp)) rfl
              have e6 := hd_nth (hd 6 (by simp)) rfl
              have e8 := hd_nth (hd 8 (by simp)) rfl
              go_simp
              refine (HGb.out _).mono ?_
              rintro e w3 ⟨rfl, hb9⟩
              refine hK _ _ ?_ ?_ (HW.trans (hb9.mono HW.size))
              · simp [upd, e5, e6, e8]
              · exact rfl
            refine auto_op 32 [9, 5] (by kernel_rfl) (fun y w' HW hd K hK => ?_) ?_
            · have e5 := hd_nth (hd 5 (by simp)) rfl
              have e9 := hd_nth (hd 9 (by simp)) rfl
              go_simp
              refine hK _ _ ?_ ?_ HW
              · simp [upd, e5, e9]
              · exact rfl
            refine auto_op 33 [5, 10] (by kernel_rfl) (fun y w' HW hd K hK => ?_) ?_
            · have e5 := hd_nth (hd 5 (by simp)) rfl
              have e10 := hd_nth (hd 10 (by simp)) rfl
              go_simp
              refine hK _ _ ?_ ?_ HW
              · simp [upd, e5, e10]
              · exact rfl
            refine auto_op 34 [11, 9] (by kernel_rfl) (fun y w' HW hd K hK => ?_) ?_
            · have e9 := hd_nth (hd 9 (by simp)) rfl
              have e11 := hd_nth (hd 11 (by simp)) rfl
              go_simp
              refine hK _ _ ?_ ?_ HW
              · simp [upd, e9, e11]
              · exact rfl
            refine auto_op 35 [12] (by kernel_rfl) (fun y w' HW hd K hK => ?_) ?_
            · have e12 := hd_nth (hd 12 (by simp)) rfl
              go_simp
              refine hK _ _ ?_ ?_ HW
              · simp [upd, e12]
              · exact rfl
            refine auto_op 36 [13, 12] (by kernel_rfl) (fun y w' HW hd K hK => ?_) ?_
            · have e12 := hd_nth (hd 12 (by simp)) rfl
              have e13 := hd_nth (hd 13 (by simp)) rfl
              have hcl : ∀ p : Addr, p.block < WR'.heap.size → w'.cell? p = WR'.cell? p := fun p hp => HW.cell hp
              go_simp
              refine hK _ _ ?_ ?_ HW
              · simp [upd, e12, e13]
              · exact rfl
            refine auto_op 37 [12] (by kernel_rfl) (fun y w' HW hd K hK => ?_) ?_
            · have e12 := hd_nth (hd 12 (by simp)) rfl
              go_simp
              refine hK _ _ ?_ ?_ HW
              · simp [upd, e12]
              · exact rfl
            refine auto_op 38 [15, 12] (by kernel_rfl) (fun y w' HW hd K hK => ?_) ?_
            · have e12 := hd_nth (hd 12 (by simp)) rfl
              have e15 := hd_nth (hd 15 (by simp)) rfl
              have hcl : ∀ p : Addr, p.block < WR'.heap.size → w'.cell? p = WR'.cell? p := fun p hp => HW.cell hp
              go_simp
              refine hK _ _ ?_ ?_ HW
              · simp [upd, e12, e15]
              · exact rfl
            refine auto_op 39 [14, 16, 12] (by kernel_rfl) (fun y w' HW hd K hK => ?_) ?_
            · have e12 := hd_nth (hd 12 (by simp)) rfl
              have e14 := hd_nth (hd 14 (by simp)) rfl
              have e16 := hd_nth (hd 16 (by simp)) rfl
              go_simp
              refine hK _ _ ?_ ?_ HW
              · simp [upd, e12, e14, e16]
              · exact rfl
            refine auto_op 40 [12, 17] (by kernel_rfl) (fun y w' HW hd K hK => ?_) ?_
            · have e12 := hd_nth (hd 12 (by simp)) rfl
              have e17 := hd_nth (hd 17 (by simp)) rfl
              go_simp
              refine hK _ _ ?_ ?_ HW
              · simp [upd, e12, e17]
              · exact rfl
            refine auto_op 41 [18, 12] (by kernel_rfl) (fun y w' HW hd K hK => ?_) ?_
            · have e12 := hd_nth (hd 12 (by simp)) rfl
              have e18 := hd_nth (hd 18 (by simp)) rfl
              go_simp
              refine hK _ _ ?_ ?_ HW
              · simp [upd, e12, e18]
              · exact rfl
            refine auto_op 42 [19] (by kernel_rfl) (fun y w' HW hd K hK => ?_) ?_
            · have e19 := hd_nth (hd 19 (by simp)) rfl
              go_simp
              refine hK _ _ ?_ ?_ HW
              · simp [upd, e19]
              · exact rfl
            refine auto_op 43 [20, 19] (by kernel_rfl) (fun y w' HW hd K hK => ?_) ?_
            · have e19 := hd_nth (hd 19 (by simp)) rfl
              have e20 := hd_nth (hd 20 (by simp)) rfl
              have hcl : ∀ p : Addr, p.block < WR'.heap.size → w'.cell? p = WR'.cell? p := fun p hp => HW.cell hp
              go_simp
              refine hK _ _ ?_ ?_ HW
              · simp [upd, e19, e20]
              · exact rfl
            refine auto_op 44 [19] (by kernel_rfl) (fun y w' HW hd K hK => ?_) ?_
            · have e19 := hd_nth (hd 19 (by simp)) rfl
              go_simp
              refine hK _ _ ?_ ?_ HW
              · simp [upd, e19]
              · exact rfl
            refine auto_op 45 [22, 19] (by kernel_rfl) (fun y w' HW hd K hK => ?_) ?_
            · have e19 := hd_nth (hd 19 (by simp)) rfl
              have e22 := hd_nth (hd 22 (by simp)) rfl
              have hcl : ∀ p : Addr, p.block < WR'.heap.size → w'.cell? p = WR'.cell? p := fun p hp => HW.cell hp
              go_simp
              refine hK _ _ ?_ ?_ HW
              · simp [upd, e19, e22]
              · exact rfl
            refine auto_op 46 [21, 23, 19] (by kernel_rfl) (fun y w' HW hd K hK => ?_) ?_
            · have e19 := hd_nth (hd 19 (by simp)) rfl
              have e21 := hd_nth (hd 21 (by simp)) rfl
              have e23 := hd_nth (hd 23 (by simp)) rfl
              go_simp
              refine hK _ _ ?_ ?_ HW
              · simp [upd, e19, e21, e23]
              · exact rfl
            refine auto_op 47 [24, 19] (by kernel_rfl) (fun y w' HW hd K hK => ?_) ?_
            · have e19 := hd_nth (hd 19 (by simp)) rfl
              have e24 := hd_nth (hd 24 (by simp)) rfl
              go_simp
              refine hK _ _ ?_ ?_ HW
              · simp [upd, e19, e24]
              · exact rfl
            refine auto_op 48 [25, 19] (by kernel_rfl) (fun y w' HW hd K hK => ?_) ?_
            · have e19 := hd_nth (hd 19 (by simp)) rfl
              have e25 := hd_nth (hd 25 (by simp)) rfl
              have hcl : ∀ p : Addr, p.block < WR'.heap.size → w'.cell? p = WR'.cell? p := fun p hp => HW.cell hp
              go_simp
              refine hK _ _ ?_ ?_ HW
              · simp [upd, e19, e25]
              · exact rfl
            refine auto_op 49 [19] (by kernel_rfl) (fun y w' HW hd K hK => ?_) ?_
            · have e19 := hd_nth (hd 19 (by simp)) rfl
              go_simp
              refine hK _ _ ?_ ?_ HW
              · simp [upd, e19]
              · exact rfl
            refine auto_op 50 [27, 19] (by kernel_rfl) (fun y w' HW hd K hK => ?_) ?_
            · have e19 := hd_nth (hd 19 (by simp)) rfl
              have e27 := hd_nth (hd 27 (by simp)) rfl
              have hcl : ∀ p : Addr, p.block < WR'.heap.size → w'.cell? p = WR'.cell? p := fun p hp => HW.cell hp
              go_simp
              refine hK _ _ ?_ ?_ HW
              · simp [upd, e19, e27]
              · exact rfl
            refine auto_op 51 [19] (by kernel_rfl) (fun y w' HW hd K hK => ?_) ?_
            · have e19 := hd_nth (hd 19 (by simp)) rfl
              go_simp
              refine hK _ _ ?_ ?_ HW
              · simp [upd, e19]
              · exact rfl
            refine auto_op 52 [29, 19] (by kernel_rfl) (fun y w' HW hd K hK => ?_) ?_
            · have e19 := hd_nth (hd 19 (by simp)) rfl
              have e29 := hd_nth (hd 29 (by simp)) rfl
              have hcl : ∀ p : Addr, p.block < WR'.heap.size → w'.cell? p = WR'.cell? p := fun p hp => HW.cell hp
              go_simp
              refine hK _ _ ?_ ?_ HW
              · simp [upd, e19, e29]
              · exact rfl
            refine auto_op 53 [28, 30, 19] (by kernel_rfl) (fun y w' HW hd K hK => ?_) ?_
            · have e19 := hd_nth (hd 19 (by simp)) rfl
              have e28 := hd_nth (hd 28 (by simp)) rfl
              have e30 := hd_nth (hd 30 (by simp)) rfl
              go_simp
              refine hK _ _ ?_ ?_ HW
              · simp [upd, e19, e28, e30]
              · exact rfl
            refine auto_op 54 [31, 19] (by kernel_rfl) (fun y w' HW hd K hK => ?_) ?_
            · have e19 := hd_nth (hd 19 (by simp)) rfl
              have e31 := hd_nth (hd 31 (by simp)) rfl
              go_simp
              refine hK _ _ ?_ ?_ HW
              · simp [upd, e19, e31]
              · exact rfl
            refine auto_op 55 [32, 19] (by kernel_rfl) (fun y w' HW hd K hK => ?_) ?_
            · have e19 := hd_nth (hd 19 (by simp)) rfl
              have e32 := hd_nth (hd 32 (by simp)) rfl
              have hcl : ∀ p : Addr, p.block < WR'.heap.size → w'.cell? p = WR'.cell? p := fun p hp => HW.cell hp
              go_simp
              refine hK _ _ ?_ ?_ HW
              · simp [upd, e19, e32]
              · exact rfl
            refine auto_op 56 [26, 33, 19, 19] (by kernel_rfl) (fun y w' HW hd K hK => ?_) ?_
            · have e19 := hd_nth (hd 19 (by simp)) rfl
              have e26 := hd_nth (hd 26 (by simp)) rfl
              have e33 := hd_nth (hd 33 (by simp)) rfl
              go_simp
              refine hK _ _ ?_ ?_ HW
              · simp [upd, e19, e26, e33]
              · exact rfl
            refine auto_op 57 [34, 19] (by kernel_rfl) (fun y w' HW hd K hK => ?_) ?_
            · have e19 := hd_nth (hd 19 (by simp)) rfl
              have e34 := hd_nth (hd 34 (by simp)) rfl
              go_simp
              refine hK _ _ ?_ ?_ HW
              · simp [upd, e19, e34]
              · exact rfl
            refine auto_last fun y w' HW hd K hK => ?_
            have e0 := hd_nth (hd 0 (by omega)) rfl
            have e1 := hd_nth (hd 1 (by omega)) rfl
            have e2 := hd_nth (hd 2 (by omega)) rfl
            have e3 := hd_nth (hd 3 (by omega)) rfl
            have e4 := hd_nth (hd 4 (by omega)) rfl
            have e5 := hd_nth (hd 5 (by omega)) rfl
            have e6 := hd_nth (hd 6 (by omega)) rfl
            have e7 := hd_nth (hd 7 (by omega)) rfl
            have e8 := hd_nth (hd 8 (by omega)) rfl
            have e9 := hd_nth (hd 9 (by omega)) rfl
            have e10 := hd_nth (hd 10 (by omega)) rfl
            have e11 := hd_nth (hd 11 (by omega)) rfl
            have e12 := hd_nth (hd 12 (by omega)) rfl
            have e13 := hd_nth (hd 13 (by omega)) rfl
            have e14 := hd_nth (hd 14 (by omega)) rfl
            have e15 := hd_nth (hd 15 (by omega)) rfl
            have e16 := hd_nth (hd 16 (by omega)) rfl
            have e17 := hd_nth (hd 17 (by omega)) rfl
            have e18 := hd_nth (hd 18 (by omega)) rfl
            have e19 := hd_nth (hd 19 (by omega)) rfl
            have e20 := hd_nth (hd 20 (by omega)) rfl
            have e21 := hd_nth (hd 21 (by omega)) rfl
            have e22 := hd_nth (hd 22 (by omega)) rfl
            have e23 := hd_nth (hd 23 (by omega)) rfl
            have e24 := hd_nth (hd 24 (by omega)) rfl
            have e25 := hd_nth (hd 25 (by omega)) rfl
            have e26 := hd_nth (hd 26 (by omega)) rfl
            have e27 := hd_nth (hd 27 (by omega)) rfl
            have e28 := hd_nth (hd 28 (by omega)) rfl
            have e29 := hd_nth (hd 29 (by omega)) rfl
            have e30 := hd_nth (hd 30 (by omega)) rfl
            have e31 := hd_nth (hd 31 (by omega)) rfl
            have e32 := hd_nth (hd 32 (by omega)) rfl
            have e33 := hd_nth (hd 33 (by omega)) rfl
            have e34 := hd_nth (hd 34 (by omega)) rfl
            have e35 := hd_nth (hd 35 (by omega)) rfl
            go_simp
            refine hK _ _ ?_
            clear hd hK K e0 e1 e2 e3 e4 e5 e6 e7 e8 e9 e10 e11 e12 e13 e14 e15 e16 e17 e18 e19 e20 e21 e22 e23 e24 e25 e26 e27 e28 e29 e30 e31 e32 e33 e34 e35
            go_wp2
            go_ret2
            exact ⟨by rw [HF.out]; rfl, hbW.trans (HW.mono hbW.size)⟩
        · obtain ⟨y, rfl, hyb, e0, _, _⟩ := (HG.out.below (hbW.mono hB)).at3 f hf2
          obtain ⟨y', hyy, _, e1, _, _⟩ := (HG.out.below (hbW.mono hB)).at3 t ht2
          obtain rfl : y = y' := by injection hyy
          have HGa : Hid (∀ W : World, Calls Tryz.prog 26 #[.agg #[.int .i64 cats, .slice (some y) gn gc, .slice ra rn rc, .slice pa pn pc, .slice (some x) nn nc, .slice sa sn sc, .int .i64 gate, .int .i64 quota], .int .i64 (f : Int)] W fun e w' => e = .returned (.bool true) ∧ Below W.heap.size W w') := Lib.hid fun W => by have h := HGst.out (f : Int) W; rwa [v1] at h
          have HGb : Hid (∀ W : World, Calls Tryz.prog 26 #[.agg #[.int .i64 cats, .slice (some y) gn gc, .slice ra rn rc, .slice pa pn pc, .slice (some x) nn nc, .slice sa sn sc, .int .i64 gate, .int .i64 quota], .int .i64 (t : Int)] W fun e w' => e = .returned (.bool true) ∧ Below W.heap.size W w') := Lib.hid fun W => by have h := HGst.out (t : Int) W; rwa [v2] at h
          clear hyy HG v1 v2 HGst
          have hft : ((f : Int) == (t : Int)) = false := by simp; omega
          have hft2 : ¬ f = t := by omega
          have f0 : (0 : Int) ≤ (f : Int) := by omega
          have f1 : (f : Int) < (gn : Int) := by omega
          have t0 : (0 : Int) ≤ (t : Int) := by omega
          have t1 : (t : Int) < (gn : Int) := by omega
          have sy1 : (y.add (f * 3)).block < WR'.heap.size := by have := hbW.size; rw [block_of_add]; omega
          have sy2 : (y.add (t * 3)).block < WR'.heap.size := by have := hbW.size; rw [block_of_add]; omega
          obtain ⟨fl, hfl⟩ : ∃ fl, fl = La.flowsZ (G f 0) (G t 0) := ⟨_, rfl⟩
          have HFl : Hid (∀ W : World, Calls Tryz.prog 61 #[.int .i64 (G f 0), .int .i64 (G t 0)] W fun e w' => e = .returned (.bool fl) ∧ W = w') := Lib.hid fun W => by rw [hfl]; exact La.refFlows_any _ _ _
          rw [← hfl] at hw
          clear hfl
          obtain ⟨u, hu⟩ : ∃ u, u = G f 0 := ⟨_, rfl⟩
          obtain ⟨v, hv⟩ : ∃ v, v = G t 0 := ⟨_, rfl⟩
          rw [← hu] at e0 HFl
          rw [← hv] at e1 HFl
          clear hu hv v3
          cases fl
          · have HF := Lib.hid (HS.out (by simpa using hw))
            clear HS hw
            go_wp2
            have hx2 := HWR'.out
            rw [← hx2]
            clear hx2 k0 k1 k2 k3 k4 k5 k6 k7
            have d0 := HD0.out
            have d1 := HD1.out
            have m0 := HM0.out
            have m1 := HM1.out
            have m2 := HM2.out
            have m3 := HM3.out
            have m4 := HM4.out
            have m5 := HM5.out
            have m6 := HM6.out
            have m7 := HM7.out
            apply wp_region_auto [22, 23, 24, 25, 26, 27, 28, 29, 30, 31, 32, 33, 34, 35, 36, 37, 38, 39, 40, 41, 42, 43, 44, 45, 46, 47, 48, 49, 50, 51, 52, 53, 54, 55, 56, 57] [_, _, _, _, _, _, _, _, _, _, _, _, _, _, _, _, _, _, _, _, _, _, _, _, _, _, _, _, _, _, _, _, _, _, _, _] (fun W' => Below WR'.heap.size WR' W')
            case hm => kernel_rfl
            case hT => intro y; simp only [setAll, List.setIfInBounds_toArray, List.set_cons_succ, List.set_cons_zero]; exact rfl
            case hok => kernel_rfl
            case hn => decide
            case hw => exact (Below.refl _ _).drew
            case hs =>
              refine auto_op 22 [] (by kernel_rfl) (fun y w' HW hd K hK => ?_) ?_
              · have hcl : ∀ p : Addr, p.block < WR'.heap.size → w'.cell? p = WR'.cell? p := fun p hp => HW.cell hp
                go_simp
                refine hK _ _ ?_ ?_ HW
                · simp [upd]
                · exact rfl
              refine auto_op 23 [] (by kernel_rfl) (fun y w' HW hd K hK => ?_) ?_
              · go_simp
                refine hK _ _ ?_ ?_ HW
                · simp [upd]
                · exact rfl
              refine auto_op 24 [1] (by kernel_rfl) (fun y w' HW hd K hK => ?_) ?_
              · have e1 := hd_nth (hd 1 (by simp)) rfl
                have hcl : ∀ p : Addr, p.block < WR'.heap.size → w'.cell? p = WR'.cell? p := fun p hp => HW.cell hp
                go_simp
                refine hK _ _ ?_ ?_ HW
                · simp [upd, e1]
                · exact rfl
              refine auto_op 25 [0, 2] (by kernel_rfl) (fun y w' HW hd K hK => ?_) ?_
              · have e0 := hd_nth (hd 0 (by simp)) rfl
                have e2 := hd_nth (hd 2 (by simp)) rfl
                go_simp
                refine (HGa.out _).mono ?_
                rintro e w3 ⟨rfl, hb3⟩
                refine hK _ _ ?_ ?_ (HW.trans (hb3.mono HW.size))
                · simp [upd, e0, e2]
                · exact rfl
              refine auto_op 26 [3] (by kernel_rfl) (fun y w' HW hd K hK => ?_) ?_
              · have e3 := hd_nth (hd 3 (by simp)) rfl
                go_simp
                refine hK _ _ ?_ ?_ HW
                · simp [upd, e3]
                · exact rfl
              refine auto_op 27 [4, 3] (by kernel_rfl) (fun y w' HW hd K hK => ?_) ?_
              · have e3 := hd_nth (hd 3 (by simp)) rfl
                have e4 := hd_nth (hd 4 (by simp)) rfl
                go_simp
                refine hK _ _ ?_ ?_ HW
                · simp [upd, e3, e4]
                · exact rfl
              refine auto_op 28 [5] (by kernel_rfl) (fun y w' HW hd K hK => ?_) ?_
              · have e5 := hd_nth (hd 5 (by simp)) rfl
                have hcl : ∀ p : Addr, p.block < WR'.heap.size → w'.cell? p = WR'.cell? p := fun p hp => HW.cell hp
                go_simp
                refine hK _ _ ?_ ?_ HW
                · simp [upd, e5]
                · exact rfl
              refine auto_op 29 [5] (by kernel_rfl) (fun y w' HW hd K hK => ?_) ?_
              · have e5 := hd_nth (hd 5 (by simp)) rfl
                go_simp
                refine hK _ _ ?_ ?_ HW
                · simp [upd, e5]
                · exact rfl
              refine auto_op 30 [7, 5] (by kernel_rfl) (fun y w' HW hd K hK => ?_) ?_
              · have e5 := hd_nth (hd 5 (by simp)) rfl
                have e7 := hd_nth (hd 7 (by simp)) rfl
                have hcl : ∀ p : Addr, p.block < WR'.heap.size → w'.cell? p = WR'.cell? p := fun p hp => HW.cell hp
                go_simp
                refine hK _ _ ?_ ?_ HW
                · simp [upd, e5, e7]
                · exact rfl
              refine auto_op 31 [6, 8, 5, 5] (by kernel_rfl) (fun y w' HW hd K hK => ?_) ?_
              · have e5 := hd_nth (hd 5 (by simp)) rfl
                have e6 := hd_nth (hd 6 (by simp)) rfl
                have e8 := hd_nth (hd 8 (by simp)) rfl
                go_simp
                refine (HGb.out _).mono ?_
                rintro e w3 ⟨rfl, hb9⟩
                refine hK _ _ ?_ ?_ (HW.trans (hb9.mono HW.size))
                · simp [upd, e5, e6, e8]
                · exact rfl
              refine auto_op 32 [9, 5] (by kernel_rfl) (fun y w' HW hd K hK => ?_) ?_
              · have e5 := hd_nth (hd 5 (by simp)) rfl
                have e9 := hd_nth (hd 9 (by simp)) rfl
                go_simp
                refine hK _ _ ?_ ?_ HW
                · simp [upd, e5, e9]
                · exact rfl
              refine auto_op 33 [5, 10] (by kernel_rfl) (fun y w' HW hd K hK => ?_) ?_
              · have e5 := hd_nth (hd 5 (by simp)) rfl
                have e10 := hd_nth (hd 10 (by simp)) rfl
                go_simp
                refine hK _ _ ?_ ?_ HW
                · simp [upd, e5, e10]
                · exact rfl
              refine auto_op 34 [11, 9] (by kernel_rfl) (fun y w' HW hd K hK => ?_) ?_
              · have e9 := hd_nth (hd 9 (by simp)) rfl
                have e11 := hd_nth (hd 11 (by simp)) rfl
                go_simp
                refine hK _ _ ?_ ?_ HW
                · simp [upd, e9, e11]
                · exact rfl
              refine auto_op 35 [12] (by kernel_rfl) (fun y w' HW hd K hK => ?_) ?_
              · have e12 := hd_nth (hd 12 (by simp)) rfl
                go_simp
                refine hK _ _ ?_ ?_ HW
                · simp [upd, e12]
                · exact rfl
              refine auto_op 36 [13, 12] (by kernel_rfl) (fun y w' HW hd K hK => ?_) ?_
              · have e12 := hd_nth (hd 12 (by simp)) rfl
                have e13 := hd_nth (hd 13 (by simp)) rfl
                have hcl : ∀ p : Addr, p.block < WR'.heap.size → w'.cell? p = WR'.cell? p := fun p hp => HW.cell hp
                go_simp
                refine hK _ _ ?_ ?_ HW
                · simp [upd, e12, e13]
                · exact rfl
              refine auto_op 37 [12] (by kernel_rfl) (fun y w' HW hd K hK => ?_) ?_
              · have e12 := hd_nth (hd 12 (by simp)) rfl
                go_simp
                refine hK _ _ ?_ ?_ HW
                · simp [upd, e12]
                · exact rfl
              refine auto_op 38 [15, 12] (by kernel_rfl) (fun y w' HW hd K hK => ?_) ?_
              · have e12 := hd_nth (hd 12 (by simp)) rfl
                have e15 := hd_nth (hd 15 (by simp)) rfl
                have hcl : ∀ p : Addr, p.block < WR'.heap.size → w'.cell? p = WR'.cell? p := fun p hp => HW.cell hp
                go_simp
                refine hK _ _ ?_ ?_ HW
                · simp [upd, e12, e15]
                · exact rfl
              refine auto_op 39 [14, 16, 12] (by kernel_rfl) (fun y w' HW hd K hK => ?_) ?_
              · have e12 := hd_nth (hd 12 (by simp)) rfl
                have e14 := hd_nth (hd 14 (by simp)) rfl
                have e16 := hd_nth (hd 16 (by simp)) rfl
                go_simp
                refine hK _ _ ?_ ?_ HW
                · simp [upd, e12, e14, e16]
                · exact rfl
              refine auto_op 40 [12, 17] (by kernel_rfl) (fun y w' HW hd K hK => ?_) ?_
              · have e12 := hd_nth (hd 12 (by simp)) rfl
                have e17 := hd_nth (hd 17 (by simp)) rfl
                go_simp
                refine hK _ _ ?_ ?_ HW
                · simp [upd, e12, e17]
                · exact rfl
              refine auto_op 41 [18, 12] (by kernel_rfl) (fun y w' HW hd K hK => ?_) ?_
              · have e12 := hd_nth (hd 12 (by simp)) rfl
                have e18 := hd_nth (hd 18 (by simp)) rfl
                go_simp
                refine hK _ _ ?_ ?_ HW
                · simp [upd, e12, e18]
                · exact rfl
              refine auto_op 42 [19] (by kernel_rfl) (fun y w' HW hd K hK => ?_) ?_
              · have e19 := hd_nth (hd 19 (by simp)) rfl
                go_simp
                refine hK _ _ ?_ ?_ HW
                · simp [upd, e19]
                · exact rfl
              refine auto_op 43 [20, 19] (by kernel_rfl) (fun y w' HW hd K hK => ?_) ?_
              · have e19 := hd_nth (hd 19 (by simp)) rfl
                have e20 := hd_nth (hd 20 (by simp)) rfl
                have hcl : ∀ p : Addr, p.block < WR'.heap.size → w'.cell? p = WR'.cell? p := fun p hp => HW.cell hp
                go_simp
                refine hK _ _ ?_ ?_ HW
                · simp [upd, e19, e20]
                · exact rfl
              refine auto_op 44 [19] (by kernel_rfl) (fun y w' HW hd K hK => ?_) ?_
              · have e19 := hd_nth (hd 19 (by simp)) rfl
                go_simp
                refine hK _ _ ?_ ?_ HW
                · simp [upd, e19]
                · exact rfl
              refine auto_op 45 [22, 19] (by kernel_rfl) (fun y w' HW hd K hK => ?_) ?_
              · have e19 := hd_nth (hd 19 (by simp)) rfl
                have e22 := hd_nth (hd 22 (by simp)) rfl
                have hcl : ∀ p : Addr, p.block < WR'.heap.size → w'.cell? p = WR'.cell? p := fun p hp => HW.cell hp
                go_simp
                refine hK _ _ ?_ ?_ HW
                · simp [upd, e19, e22]
                · exact rfl
              refine auto_op 46 [21, 23, 19] (by kernel_rfl) (fun y w' HW hd K hK => ?_) ?_
              · have e19 := hd_nth (hd 19 (by simp)) rfl
                have e21 := hd_nth (hd 21 (by simp)) rfl
                have e23 := hd_nth (hd 23 (by simp)) rfl
                go_simp
                refine hK _ _ ?_ ?_ HW
                · simp [upd, e19, e21, e23]
                · exact rfl
              refine auto_op 47 [24, 19] (by kernel_rfl) (fun y w' HW hd K hK => ?_) ?_
              · have e19 := hd_nth (hd 19 (by simp)) rfl
                have e24 := hd_nth (hd 24 (by simp)) rfl
                go_simp
                refine hK _ _ ?_ ?_ HW
                · simp [upd, e19, e24]
                · exact rfl
              refine auto_op 48 [25, 19] (by kernel_rfl) (fun y w' HW hd K hK => ?_) ?_
              · have e19 := hd_nth (hd 19 (by simp)) rfl
                have e25 := hd_nth (hd 25 (by simp)) rfl
                have hcl : ∀ p : Addr, p.block < WR'.heap.size → w'.cell? p = WR'.cell? p := fun p hp => HW.cell hp
                go_simp
                refine hK _ _ ?_ ?_ HW
                · simp [upd, e19, e25]
                · exact rfl
              refine auto_op 49 [19] (by kernel_rfl) (fun y w' HW hd K hK => ?_) ?_
              · have e19 := hd_nth (hd 19 (by simp)) rfl
                go_simp
                refine hK _ _ ?_ ?_ HW
                · simp [upd, e19]
                · exact rfl
              refine auto_op 50 [27, 19] (by kernel_rfl) (fun y w' HW hd K hK => ?_) ?_
              · have e19 := hd_nth (hd 19 (by simp)) rfl
                have e27 := hd_nth (hd 27 (by simp)) rfl
                have hcl : ∀ p : Addr, p.block < WR'.heap.size → w'.cell? p = WR'.cell? p := fun p hp => HW.cell hp
                go_simp
                refine hK _ _ ?_ ?_ HW
                · simp [upd, e19, e27]
                · exact rfl
              refine auto_op 51 [19] (by kernel_rfl) (fun y w' HW hd K hK => ?_) ?_
              · have e19 := hd_nth (hd 19 (by simp)) rfl
                go_simp
                refine hK _ _ ?_ ?_ HW
                · simp [upd, e19]
                · exact rfl
              refine auto_op 52 [29, 19] (by kernel_rfl) (fun y w' HW hd K hK => ?_) ?_
              · have e19 := hd_nth (hd 19 (by simp)) rfl
                have e29 := hd_nth (hd 29 (by simp)) rfl
                have hcl : ∀ p : Addr, p.block < WR'.heap.size → w'.cell? p = WR'.cell? p := fun p hp => HW.cell hp
                go_simp
                refine hK _ _ ?_ ?_ HW
                · simp [upd, e19, e29]
                · exact rfl
              refine auto_op 53 [28, 30, 19] (by kernel_rfl) (fun y w' HW hd K hK => ?_) ?_
              · have e19 := hd_nth (hd 19 (by simp)) rfl
                have e28 := hd_nth (hd 28 (by simp)) rfl
                have e30 := hd_nth (hd 30 (by simp)) rfl
                go_simp
                refine hK _ _ ?_ ?_ HW
                · simp [upd, e19, e28, e30]
                · exact rfl
              refine auto_op 54 [31, 19] (by kernel_rfl) (fun y w' HW hd K hK => ?_) ?_
              · have e19 := hd_nth (hd 19 (by simp)) rfl
                have e31 := hd_nth (hd 31 (by simp)) rfl
                go_simp
                refine hK _ _ ?_ ?_ HW
                · simp [upd, e19, e31]
                · exact rfl
              refine auto_op 55 [32, 19] (by kernel_rfl) (fun y w' HW hd K hK => ?_) ?_
              · have e19 := hd_nth (hd 19 (by simp)) rfl
                have e32 := hd_nth (hd 32 (by simp)) rfl
                have hcl : ∀ p : Addr, p.block < WR'.heap.size → w'.cell? p = WR'.cell? p := fun p hp => HW.cell hp
                go_simp
                refine hK _ _ ?_ ?_ HW
                · simp [upd, e19, e32]
                · exact rfl
              refine auto_op 56 [26, 33, 19, 19] (by kernel_rfl) (fun y w' HW hd K hK => ?_) ?_
              · have e19 := hd_nth (hd 19 (by simp)) rfl
                have e26 := hd_nth (hd 26 (by simp)) rfl
                have e33 := hd_nth (hd 33 (by simp)) rfl
                go_simp
                refine (HFl.out _).mono ?_
                rintro e w3 ⟨rfl, rfl⟩
                refine hK _ _ ?_ ?_ HW
                · simp [upd, e19, e26, e33]
                · exact rfl
              refine auto_op 57 [34, 19] (by kernel_rfl) (fun y w' HW hd K hK => ?_) ?_
              · have e19 := hd_nth (hd 19 (by simp)) rfl
                have e34 := hd_nth (hd 34 (by simp)) rfl
                go_simp
                refine hK _ _ ?_ ?_ HW
                · simp [upd, e19, e34]
                · exact rfl
              refine auto_last fun y w' HW hd K hK => ?_
              have e0 := hd_nth (hd 0 (by omega)) rfl
              have e1 := hd_nth (hd 1 (by omega)) rfl
              have e2 := hd_nth (hd 2 (by omega)) rfl
              have e3 := hd_nth (hd 3 (by omega)) rfl
              have e4 := hd_nth (hd 4 (by omega)) rfl
              have e5 := hd_nth (hd 5 (by omega)) rfl
              have e6 := hd_nth (hd 6 (by omega)) rfl
              have e7 := hd_nth (hd 7 (by omega)) rfl
              have e8 := hd_nth (hd 8 (by omega)) rfl
              have e9 := hd_nth (hd 9 (by omega)) rfl
              have e10 := hd_nth (hd 10 (by omega)) rfl
              have e11 := hd_nth (hd 11 (by omega)) rfl
              have e12 := hd_nth (hd 12 (by omega)) rfl
              have e13 := hd_nth (hd 13 (by omega)) rfl
              have e14 := hd_nth (hd 14 (by omega)) rfl
              have e15 := hd_nth (hd 15 (by omega)) rfl
              have e16 := hd_nth (hd 16 (by omega)) rfl
              have e17 := hd_nth (hd 17 (by omega)) rfl
              have e18 := hd_nth (hd 18 (by omega)) rfl
              have e19 := hd_nth (hd 19 (by omega)) rfl
              have e20 := hd_nth (hd 20 (by omega)) rfl
              have e21 := hd_nth (hd 21 (by omega)) rfl
              have e22 := hd_nth (hd 22 (by omega)) rfl
              have e23 := hd_nth (hd 23 (by omega)) rfl
              have e24 := hd_nth (hd 24 (by omega)) rfl
              have e25 := hd_nth (hd 25 (by omega)) rfl
              have e26 := hd_nth (hd 26 (by omega)) rfl
              have e27 := hd_nth (hd 27 (by omega)) rfl
              have e28 := hd_nth (hd 28 (by omega)) rfl
              have e29 := hd_nth (hd 29 (by omega)) rfl
              have e30 := hd_nth (hd 30 (by omega)) rfl
              have e31 := hd_nth (hd 31 (by omega)) rfl
              have e32 := hd_nth (hd 32 (by omega)) rfl
              have e33 := hd_nth (hd 33 (by omega)) rfl
              have e34 := hd_nth (hd 34 (by omega)) rfl
              have e35 := hd_nth (hd 35 (by omega)) rfl
              go_simp
              refine hK _ _ ?_
              clear hd hK K e0 e1 e2 e3 e4 e5 e6 e7 e8 e9 e10 e11 e12 e13 e14 e15 e16 e17 e18 e19 e20 e21 e22 e23 e24 e25 e26 e27 e28 e29 e30 e31 e32 e33 e34 e35
              go_wp2
              go_ret2
              exact ⟨by rw [HF.out]; rfl, hbW.trans (HW.mono hbW.size)⟩
          · have HV : Hid (WR k = false) := Lib.hid (by simpa using hw)
            clear HS hw
            go_wp2
            have hx2 := HWR'.out
            rw [← hx2]
            clear hx2 k0 k1 k2 k3 k4 k5 k6 k7
            have d0 := HD0.out
            have d1 := HD1.out
            have m0 := HM0.out
            have m1 := HM1.out
            have m2 := HM2.out
            have m3 := HM3.out
            have m4 := HM4.out
            have m5 := HM5.out
            have m6 := HM6.out
            have m7 := HM7.out
            apply wp_region_auto [22, 23, 24, 25, 26, 27, 28, 29, 30, 31, 32, 33, 34, 35, 36, 37, 38, 39, 40, 41, 42, 43, 44, 45, 46, 47, 48, 49, 50, 51, 52, 53, 54, 55, 56, 57] [_, _, _, _, _, _, _, _, _, _, _, _, _, _, _, _, _, _, _, _, _, _, _, _, _, _, _, _, _, _, _, _, _, _, _, _] (fun W' => Below WR'.heap.size WR' W')
            case hm => kernel_rfl
            case hT => intro y; simp only [setAll, List.setIfInBounds_toArray, List.set_cons_succ, List.set_cons_zero]; exact rfl
            case hok => kernel_rfl
            case hn => decide
            case hw => exact (Below.refl _ _).drew
            case hs =>
              refine auto_op 22 [] (by kernel_rfl) (fun y w' HW hd K hK => ?_) ?_
              · have hcl : ∀ p : Addr, p.block < WR'.heap.size → w'.cell? p = WR'.cell? p := fun p hp => HW.cell hp
                go_simp
                refine hK _ _ ?_ ?_ HW
                · simp [upd]
                · exact rfl
              refine auto_op 23 [] (by kernel_rfl) (fun y w' HW hd K hK => ?_) ?_
              · go_simp
                refine hK _ _ ?_ ?_ HW
                · simp [upd]
                · exact rfl
              refine auto_op 24 [1] (by kernel_rfl) (fun y w' HW hd K hK => ?_) ?_
              · have e1 := hd_nth (hd 1 (by simp)) rfl
                have hcl : ∀ p : Addr, p.block < WR'.heap.size → w'.cell? p = WR'.cell? p := fun p hp => HW.cell hp
                go_simp
                refine hK _ _ ?_ ?_ HW
                · simp [upd, e1]
                · exact rfl
              refine auto_op 25 [0, 2] (by kernel_rfl) (fun y w' HW hd K hK => ?_) ?_
              · have e0 := hd_nth (hd 0 (by simp)) rfl
                have e2 := hd_nth (hd 2 (by simp)) rfl
                go_simp
                refine (HGa.out _).mono ?_
                rintro e w3 ⟨rfl, hb3⟩
                refine hK _ _ ?_ ?_ (HW.trans (hb3.mono HW.size))
                · simp [upd, e0, e2]
                · exact rfl
              refine auto_op 26 [3] (by kernel_rfl) (fun y w' HW hd K hK => ?_) ?_
              · have e3 := hd_nth (hd 3 (by simp)) rfl
                go_simp
                refine hK _ _ ?_ ?_ HW
                · simp [upd, e3]
                · exact rfl
              refine auto_op 27 [4, 3] (by kernel_rfl) (fun y w' HW hd K hK => ?_) ?_
              · have e3 := hd_nth (hd 3 (by simp)) rfl
                have e4 := hd_nth (hd 4 (by simp)) rfl
                go_simp
                refine hK _ _ ?_ ?_ HW
                · simp [upd, e3, e4]
                · exact rfl
              refine auto_op 28 [5] (by kernel_rfl) (fun y w' HW hd K hK => ?_) ?_
              · have e5 := hd_nth (hd 5 (by simp)) rfl
                have hcl : ∀ p : Addr, p.block < WR'.heap.size → w'.cell? p = WR'.cell? p := fun p hp => HW.cell hp
                go_simp
                refine hK _ _ ?_ ?_ HW
                · simp [upd, e5]
                · exact rfl
              refine auto_op 29 [5] (by kernel_rfl) (fun y w' HW hd K hK => ?_) ?_
              · have e5 := hd_nth (hd 5 (by simp)) rfl
                go_simp
                refine hK _ _ ?_ ?_ HW
                · simp [upd, e5]
                · exact rfl
              refine auto_op 30 [7, 5] (by kernel_rfl) (fun y w' HW hd K hK => ?_) ?_
              · have e5 := hd_nth (hd 5 (by simp)) rfl
                have e7 := hd_nth (hd 7 (by simp)) rfl
                have hcl : ∀ p : Addr, p.block < WR'.heap.size → w'.cell? p = WR'.cell? p := fun p hp => HW.cell hp
                go_simp
                refine hK _ _ ?_ ?_ HW
                · simp [upd, e5, e7]
                · exact rfl
              refine auto_op 31 [6, 8, 5, 5] (by kernel_rfl) (fun y w' HW hd K hK => ?_) ?_
              · have e5 := hd_nth (hd 5 (by simp)) rfl
                have e6 := hd_nth (hd 6 (by simp)) rfl
                have e8 := hd_nth (hd 8 (by simp)) rfl
                go_simp
                refine (HGb.out _).mono ?_
                rintro e w3 ⟨rfl, hb9⟩
                refine hK _ _ ?_ ?_ (HW.trans (hb9.mono HW.size))
                · simp [upd, e5, e6, e8]
                · exact rfl
              refine auto_op 32 [9, 5] (by kernel_rfl) (fun y w' HW hd K hK => ?_) ?_
              · have e5 := hd_nth (hd 5 (by simp)) rfl
                have e9 := hd_nth (hd 9 (by simp)) rfl
                go_simp
                refine hK _ _ ?_ ?_ HW
                · simp [upd, e5, e9]
                · exact rfl
              refine auto_op 33 [5, 10] (by kernel_rfl) (fun y w' HW hd K hK => ?_) ?_
              · have e5 := hd_nth (hd 5 (by simp)) rfl
                have e10 := hd_nth (hd 10 (by simp)) rfl
                go_simp
                refine hK _ _ ?_ ?_ HW
                · simp [upd, e5, e10]
                · exact rfl
              refine auto_op 34 [11, 9] (by kernel_rfl) (fun y w' HW hd K hK => ?_) ?_
              · have e9 := hd_nth (hd 9 (by simp)) rfl
                have e11 := hd_nth (hd 11 (by simp)) rfl
                go_simp
                refine hK _ _ ?_ ?_ HW
                · simp [upd, e9, e11]
                · exact rfl
              refine auto_op 35 [12] (by kernel_rfl) (fun y w' HW hd K hK => ?_) ?_
              · have e12 := hd_nth (hd 12 (by simp)) rfl
                go_simp
                refine hK _ _ ?_ ?_ HW
                · simp [upd, e12]
                · exact rfl
              refine auto_op 36 [13, 12] (by kernel_rfl) (fun y w' HW hd K hK => ?_) ?_
              · have e12 := hd_nth (hd 12 (by simp)) rfl
                have e13 := hd_nth (hd 13 (by simp)) rfl
                have hcl : ∀ p : Addr, p.block < WR'.heap.size → w'.cell? p = WR'.cell? p := fun p hp => HW.cell hp
                go_simp
                refine hK _ _ ?_ ?_ HW
                · simp [upd, e12, e13]
                · exact rfl
              refine auto_op 37 [12] (by kernel_rfl) (fun y w' HW hd K hK => ?_) ?_
              · have e12 := hd_nth (hd 12 (by simp)) rfl
                go_simp
                refine hK _ _ ?_ ?_ HW
                · simp [upd, e12]
                · exact rfl
              refine auto_op 38 [15, 12] (by kernel_rfl) (fun y w' HW hd K hK => ?_) ?_
              · have e12 := hd_nth (hd 12 (by simp)) rfl
                have e15 := hd_nth (hd 15 (by simp)) rfl
                have hcl : ∀ p : Addr, p.block < WR'.heap.size → w'.cell? p = WR'.cell? p := fun p hp => HW.cell hp
                go_simp
                refine hK _ _ ?_ ?_ HW
                · simp [upd, e12, e15]
                · exact rfl
              refine auto_op 39 [14, 16, 12] (by kernel_rfl) (fun y w' HW hd K hK => ?_) ?_
              · have e12 := hd_nth (hd 12 (by simp)) rfl
                have e14 := hd_nth (hd 14 (by simp)) rfl
                have e16 := hd_nth (hd 16 (by simp)) rfl
                go_simp
                refine hK _ _ ?_ ?_ HW
                · simp [upd, e12, e14, e16]
                · exact rfl
              refine auto_op 40 [12, 17] (by kernel_rfl) (fun y w' HW hd K hK => ?_) ?_
              · have e12 := hd_nth (hd 12 (by simp)) rfl
                have e17 := hd_nth (hd 17 (by simp)) rfl
                go_simp
                refine hK _ _ ?_ ?_ HW
                · simp [upd, e12, e17]
                · exact rfl
              refine auto_op 41 [18, 12] (by kernel_rfl) (fun y w' HW hd K hK => ?_) ?_
              · have e12 := hd_nth (hd 12 (by simp)) rfl
                have e18 := hd_nth (hd 18 (by simp)) rfl
                go_simp
                refine hK _ _ ?_ ?_ HW
                · simp [upd, e12, e18]
                · exact rfl
              refine auto_op 42 [19] (by kernel_rfl) (fun y w' HW hd K hK => ?_) ?_
              · have e19 := hd_nth (hd 19 (by simp)) rfl
                go_simp
                refine hK _ _ ?_ ?_ HW
                · simp [upd, e19]
                · exact rfl
              refine auto_op 43 [20, 19] (by kernel_rfl) (fun y w' HW hd K hK => ?_) ?_
              · have e19 := hd_nth (hd 19 (by simp)) rfl
                have e20 := hd_nth (hd 20 (by simp)) rfl
                have hcl : ∀ p : Addr, p.block < WR'.heap.size → w'.cell? p = WR'.cell? p := fun p hp => HW.cell hp
                go_simp
                refine hK _ _ ?_ ?_ HW
                · simp [upd, e19, e20]
                · exact rfl
              refine auto_op 44 [19] (by kernel_rfl) (fun y w' HW hd K hK => ?_) ?_
              · have e19 := hd_nth (hd 19 (by simp)) rfl
                go_simp
                refine hK _ _ ?_ ?_ HW
                · simp [upd, e19]
                · exact rfl
              refine auto_op 45 [22, 19] (by kernel_rfl) (fun y w' HW hd K hK => ?_) ?_
              · have e19 := hd_nth (hd 19 (by simp)) rfl
                have e22 := hd_nth (hd 22 (by simp)) rfl
                have hcl : ∀ p : Addr, p.block < WR'.heap.size → w'.cell? p = WR'.cell? p := fun p hp => HW.cell hp
                go_simp
                refine hK _ _ ?_ ?_ HW
                · simp [upd, e19, e22]
                · exact rfl
              refine auto_op 46 [21, 23, 19] (by kernel_rfl) (fun y w' HW hd K hK => ?_) ?_
              · have e19 := hd_nth (hd 19 (by simp)) rfl
                have e21 := hd_nth (hd 21 (by simp)) rfl
                have e23 := hd_nth (hd 23 (by simp)) rfl
                go_simp
                refine hK _ _ ?_ ?_ HW
                · simp [upd, e19, e21, e23]
                · exact rfl
              refine auto_op 47 [24, 19] (by kernel_rfl) (fun y w' HW hd K hK => ?_) ?_
              · have e19 := hd_nth (hd 19 (by simp)) rfl
                have e24 := hd_nth (hd 24 (by simp)) rfl
                go_simp
                refine hK _ _ ?_ ?_ HW
                · simp [upd, e19, e24]
                · exact rfl
              refine auto_op 48 [25, 19] (by kernel_rfl) (fun y w' HW hd K hK => ?_) ?_
              · have e19 := hd_nth (hd 19 (by simp)) rfl
                have e25 := hd_nth (hd 25 (by simp)) rfl
                have hcl : ∀ p : Addr, p.block < WR'.heap.size → w'.cell? p = WR'.cell? p := fun p hp => HW.cell hp
                go_simp
                refine hK _ _ ?_ ?_ HW
                · simp [upd, e19, e25]
                · exact rfl
              refine auto_op 49 [19] (by kernel_rfl) (fun y w' HW hd K hK => ?_) ?_
              · have e19 := hd_nth (hd 19 (by simp)) rfl
                go_simp
                refine hK _ _ ?_ ?_ HW
                · simp [upd, e19]
                · exact rfl
              refine auto_op 50 [27, 19] (by kernel_rfl) (fun y w' HW hd K hK => ?_) ?_
              · have e19 := hd_nth (hd 19 (by simp)) rfl
                have e27 := hd_nth (hd 27 (by simp)) rfl
                have hcl : ∀ p : Addr, p.block < WR'.heap.size → w'.cell? p = WR'.cell? p := fun p hp => HW.cell hp
                go_simp
                refine hK _ _ ?_ ?_ HW
                · simp [upd, e19, e27]
                · exact rfl
              refine auto_op 51 [19] (by kernel_rfl) (fun y w' HW hd K hK => ?_) ?_
              · have e19 := hd_nth (hd 19 (by simp)) rfl
                go_simp
                refine hK _ _ ?_ ?_ HW
                · simp [upd, e19]
                · exact rfl
              refine auto_op 52 [29, 19] (by kernel_rfl) (fun y w' HW hd K hK => ?_) ?_
              · have e19 := hd_nth (hd 19 (by simp)) rfl
                have e29 := hd_nth (hd 29 (by simp)) rfl
                have hcl : ∀ p : Addr, p.block < WR'.heap.size → w'.cell? p = WR'.cell? p := fun p hp => HW.cell hp
                go_simp
                refine hK _ _ ?_ ?_ HW
                · simp [upd, e19, e29]
                · exact rfl
              refine auto_op 53 [28, 30, 19] (by kernel_rfl) (fun y w' HW hd K hK => ?_) ?_
              · have e19 := hd_nth (hd 19 (by simp)) rfl
                have e28 := hd_nth (hd 28 (by simp)) rfl
                have e30 := hd_nth (hd 30 (by simp)) rfl
                go_simp
                refine hK _ _ ?_ ?_ HW
                · simp [upd, e19, e28, e30]
                · exact rfl
              refine auto_op 54 [31, 19] (by kernel_rfl) (fun y w' HW hd K hK => ?_) ?_
              · have e19 := hd_nth (hd 19 (by simp)) rfl
                have e31 := hd_nth (hd 31 (by simp)) rfl
                go_simp
                refine hK _ _ ?_ ?_ HW
                · simp [upd, e19, e31]
                · exact rfl
              refine auto_op 55 [32, 19] (by kernel_rfl) (fun y w' HW hd K hK => ?_) ?_
              · have e19 := hd_nth (hd 19 (by simp)) rfl
                have e32 := hd_nth (hd 32 (by simp)) rfl
                have hcl : ∀ p : Addr, p.block < WR'.heap.size → w'.cell? p = WR'.cell? p := fun p hp => HW.cell hp
                go_simp
                refine hK _ _ ?_ ?_ HW
                · simp [upd, e19, e32]
                · exact rfl
              refine auto_op 56 [26, 33, 19, 19] (by kernel_rfl) (fun y w' HW hd K hK => ?_) ?_
              · have e19 := hd_nth (hd 19 (by simp)) rfl
                have e26 := hd_nth (hd 26 (by simp)) rfl
                have e33 := hd_nth (hd 33 (by simp)) rfl
                go_simp
                refine (HFl.out _).mono ?_
                rintro e w3 ⟨rfl, rfl⟩
                refine hK _ _ ?_ ?_ HW
                · simp [upd, e19, e26, e33]
                · exact rfl
              refine auto_op 57 [34, 19] (by kernel_rfl) (fun y w' HW hd K hK => ?_) ?_
              · have e19 := hd_nth (hd 19 (by simp)) rfl
                have e34 := hd_nth (hd 34 (by simp)) rfl
                go_simp
                refine hK _ _ ?_ ?_ HW
                · simp [upd, e19, e34]
                · exact rfl
              refine auto_last fun y w' HW hd K hK => ?_
              have e0 := hd_nth (hd 0 (by omega)) rfl
              have e1 := hd_nth (hd 1 (by omega)) rfl
              have e2 := hd_nth (hd 2 (by omega)) rfl
              have e3 := hd_nth (hd 3 (by omega)) rfl
              have e4 := hd_nth (hd 4 (by omega)) rfl
              have e5 := hd_nth (hd 5 (by omega)) rfl
              have e6 := hd_nth (hd 6 (by omega)) rfl
              have e7 := hd_nth (hd 7 (by omega)) rfl
              have e8 := hd_nth (hd 8 (by omega)) rfl
              have e9 := hd_nth (hd 9 (by omega)) rfl
              have e10 := hd_nth (hd 10 (by omega)) rfl
              have e11 := hd_nth (hd 11 (by omega)) rfl
              have e12 := hd_nth (hd 12 (by omega)) rfl
              have e13 := hd_nth (hd 13 (by omega)) rfl
              have e14 := hd_nth (hd 14 (by omega)) rfl
              have e15 := hd_nth (hd 15 (by omega)) rfl
              have e16 := hd_nth (hd 16 (by omega)) rfl
              have e17 := hd_nth (hd 17 (by omega)) rfl
              have e18 := hd_nth (hd 18 (by omega)) rfl
              have e19 := hd_nth (hd 19 (by omega)) rfl
              have e20 := hd_nth (hd 20 (by omega)) rfl
              have e21 := hd_nth (hd 21 (by omega)) rfl
              have e22 := hd_nth (hd 22 (by omega)) rfl
              have e23 := hd_nth (hd 23 (by omega)) rfl
              have e24 := hd_nth (hd 24 (by omega)) rfl
              have e25 := hd_nth (hd 25 (by omega)) rfl
              have e26 := hd_nth (hd 26 (by omega)) rfl
              have e27 := hd_nth (hd 27 (by omega)) rfl
              have e28 := hd_nth (hd 28 (by omega)) rfl
              have e29 := hd_nth (hd 29 (by omega)) rfl
              have e30 := hd_nth (hd 30 (by omega)) rfl
              have e31 := hd_nth (hd 31 (by omega)) rfl
              have e32 := hd_nth (hd 32 (by omega)) rfl
              have e33 := hd_nth (hd 33 (by omega)) rfl
              have e34 := hd_nth (hd 34 (by omega)) rfl
              have e35 := hd_nth (hd 35 (by omega)) rfl
              go_simp
              refine hK _ _ ?_
              clear hd hK K e0 e1 e2 e3 e4 e5 e6 e7 e8 e9 e10 e11 e12 e13 e14 e15 e16 e17 e18 e19 e20 e21 e22 e23 e24 e25 e26 e27 e28 e29 e30 e31 e32 e33 e34 e35
              go_wp2
              go_roundw
              case rel => exact ⟨k + 1, by omega, by go_num, Lib.hid (more_false hno.out HV.out), hbW1.trans (HW.mono hbW1.size)⟩
              case measure => simp [intOf]; omega
      · have hkn : k = nn := by omega
        subst hkn
        have k0 := (old_cells hb _ 0 s1).trans HK0.out
        have k1 := (old_cells hb _ 1 s1).trans HK1.out
        have k2 := (old_cells hb _ 2 s1).trans HK2.out
        have k3 := (old_cells hb _ 3 s1).trans HK3.out
        have k4 := (old_cells hb _ 4 s1).trans HK4.out
        have k5 := (old_cells hb _ 5 s1).trans HK5.out
        have k6 := (old_cells hb _ 6 s1).trans HK6.out
        have k7 := (old_cells hb _ 7 s1).trans HK7.out
        have b1 : ¬ (k : Int) < (k : Int) := by omega
        have hres : foundZ false (firstI k WR) = (false, 0) := by rw [firstI_none hno.out]; rfl
        have HF := Lib.hid hres
        clear hres
        go_wp2
        go_ret2
        exact ⟨by rw [HF.out]; rfl, hbk⟩
end Go.Proofs.YtikkfapgmbamlaaGreatDoor.Cf
end
