/- PortOf and RangeOf by the document; Owner of both. -/
import Derived.Test.YtmekoanobicddaaCt
namespace Go.Proofs.Ytmekoanobicddaa.Cf
open Go.RowKit Ut
set_option linter.unusedVariables false

theorem right_port {c : Cfg} (h : rightB c = true) (i : Nat) (hi : i < c.pn) : c.P i 1 = -1 ∨ isGn c.gn (c.P i 1) = true := by
  have h1 : wrongP c i = false := right_passed h 6 (by omega) i (by simpa [cntR] using hi)
  rcases wrongP_cases c i with ⟨h2, _⟩ | ⟨_, ⟨_, h2⟩ | ⟨h2, _⟩⟩
  · exact .inl h2
  · rw [h2] at h1; cases h1
  · exact .inr h2
theorem portZ_of {c : Cfg} (h : rightB c = true) (g : Int) (hg : 0 ≤ g) : portZ c g = atI (portI c.P c.pn g) := by
  unfold portZ
  rw [h]
  cases h1 : isGn c.gn g
  · have : portI c.P c.pn g = none := firstI_none fun j hj => decide_eq_false fun e => by
      rcases right_port h j hj with h2 | h2
      · omega
      · rw [e, h1] at h2; cases h2
    rw [this]; rfl
  · rfl
set_option maxRecDepth 100000 in
theorem refPortOf_any (c : Cfg) (g : Int) (B : Nat) (w : World) (hB : B ≤ w.heap.size) (hc : c.At w B) :
    Calls Try.prog 32 #[c.v, .int .i64 g] w fun e w' => e = .returned (.int .i64 (portZ c g)) ∧ Below w.heap.size w w' := by
  have HB0 := one_new w
  cases hr : rightB c
  · have HR := refRight_keep c B w hB hc _ hr
    have e : portZ c g = -1 := by unfold portZ; rw [hr]; rfl
    rw [e]
    clear hr hc e
    go_enter Try.func32, Try.ntmps32
    go_wp2_with fail
    refine (HR.out _ (HB0.out _)).mono ?_
    rintro e w1 ⟨rfl, hb⟩
    go_wp2
    go_ret
    exact ⟨rfl, (HB0.out _).trans (hb.mono (by simp))⟩
  · have HR := refRight_keep c B w hB hc _ hr
    by_cases h0 : g < 0
    · have e : portZ c g = -1 := by
        unfold portZ
        have : isGn c.gn g = false := by unfold isGn; simp; omega
        rw [this]; simp
      rw [e]
      clear hr hc e
      go_enter Try.func32, Try.ntmps32
      go_wp2_with fail
      refine (HR.out _ (HB0.out _)).mono ?_
      rintro e w1 ⟨rfl, hb⟩
      go_wp2
      go_ret
      exact ⟨rfl, (HB0.out _).trans (hb.mono (by simp))⟩
    · have HE : Hid (portZ c g = atI (portI c.P c.pn g)) := Lib.hid (portZ_of hr g (by omega))
      have HP : Hid (RowT 2 w B c.pa c.pn c.P) := Lib.hid hc.p
      have hlp := hc.lp
      obtain ⟨res, hres⟩ : ∃ res, res = portZ c g := ⟨_, rfl⟩
      rw [← hres] at HE ⊢
      clear hr hc hres
      obtain ⟨cats, ga, gn, gc, ra, rn, rc, pa, pn, pc, na, nn, nc, sa, sn, sc, gate, quota, G, R, P, N, S⟩ := c
      dsimp only at HP HE hlp HR
      go_enter Try.func32, Try.ntmps32
      go_wp2_with fail
      refine (HR.out _ (HB0.out _)).mono ?_
      rintro e w1 ⟨rfl, hb⟩
      have hbw := (HB0.out _).trans (hb.mono (by simp))
      have HK3 : Hid (w1.cell? ⟨w.heap.size, 3, none⟩ = some (.slice pa pn pc)) := Lib.hid (by rw [old_cells hb _ 3 (by simp)]; simp)
      have s1 : w.heap.size < w1.heap.size := by have := hb.size; simp at this; omega
      clear hb
      go_wp2
      go_loopw [5] (fun i wr => ∃ k : Nat, k ≤ pn ∧ i = .int .i64 k ∧ Hid (∀ j, j < k → ¬ P j 1 = g) ∧ Below w1.heap.size w1 wr) (fun i _ => pn - (intOf i).toNat)
      case atStart => exact ⟨0, Nat.zero_le _, rfl, fun j hj => absurd hj (by omega), Below.refl _ _⟩
      case round =>
        obtain ⟨k, hk, rfl, hno, hb⟩ := hrel
        have hbk : Below w.heap.size w wr := hbw.trans (hb.mono (by omega))
        have k3 := (old_cells hb _ 3 s1).trans HK3.out
        by_cases hlt : k < pn
        · obtain ⟨x, rfl, hx, c0, c1⟩ := (HP.out.below (hbk.mono hB)).at2 k hlt
          have b0 : (0 : Int) ≤ (k : Int) := by omega
          have b1 : (k : Int) < (pn : Int) := by omega
          obtain ⟨q, hq⟩ : ∃ q, q = P k 1 := ⟨_, rfl⟩
          rw [← hq] at c1
          have HQ := Lib.hid hq
          clear hq
          by_cases he : q = g
          · subst he
            have HF : Hid (res = (k : Int)) := Lib.hid (by rw [HE.out, show portI P pn q = some k from firstI_some hlt (decide_eq_true HQ.out.symm) fun j hj => decide_eq_false (hno.out j hj)]; rfl)
            go_wp2
            go_ret
            exact ⟨by rw [HF.out]; rfl, hbk⟩
          · have heb : (q == g) = false := by simpa using he
            have HN : Hid (∀ j, j < k + 1 → ¬ P j 1 = g) := Lib.hid (more_no hno.out (by rw [← HQ.out]; exact he))
            clear he
            go_wp2
            go_roundw
            case rel => exact ⟨k + 1, by omega, by go_num, HN, hb⟩
            case measure => simp [intOf]; omega
        · have hkn : k = pn := by omega
          subst hkn
          have b1 : ¬ (k : Int) < (k : Int) := by omega
          have HF : Hid (res = -1) := Lib.hid (by rw [HE.out, show portI P k g = none from firstI_none fun j hj => decide_eq_false (hno.out j hj)]; rfl)
          go_wp2
          go_ret
          exact ⟨by rw [HF.out]; rfl, hbk⟩

theorem inB_range (s : Int) (F N : Nat) (hN : 1 ≤ N) : (s < (F : Int) ∧ inB s F ((F : Int) + N - 1) = false) ∨ ((F : Int) ≤ s ∧ (N : Int) ≤ s - F ∧ inB s F ((F : Int) + N - 1) = false) ∨ ((F : Int) ≤ s ∧ s - F < (N : Int) ∧ inB s F ((F : Int) + N - 1) = true) := by
  unfold inB
  by_cases h1 : s < (F : Int)
  · exact .inl ⟨h1, by simp; omega⟩
  · by_cases h2 : s - F < (N : Int)
    · exact .inr (.inr ⟨by omega, h2, by simp; omega⟩)
    · exact .inr (.inl ⟨by omega, by omega, by simp; omega⟩)
set_option maxRecDepth 100000 in
set_option maxHeartbeats 1000000 in
theorem refRangeOf_any (c : Cfg) (s : Int) (B : Nat) (w : World) (hB : B ≤ w.heap.size) (hc : c.At w B) (hs1 : s < 9223372036854775808) :
    Calls Try.prog 34 #[c.v, .int .i64 s] w fun e w' => e = .returned (.int .i64 (rangeZ c s)) ∧ Below w.heap.size w w' := by
  have HB0 := one_new w
  unfold rangeZ
  cases hr : rightB c
  · have HR := refRight_keep c B w hB hc _ hr
    clear hr hc
    simp only [Bool.false_eq_true, if_false]
    go_enter Try.func34, Try.ntmps34
    go_wp2_with fail
    refine (HR.out _ (HB0.out _)).mono ?_
    rintro e w1 ⟨rfl, hb⟩
    go_wp2
    go_ret
    exact ⟨rfl, (HB0.out _).trans (hb.mono (by simp))⟩
  · have HR := refRight_keep c B w hB hc _ hr
    have HRg : Hid (∀ i, i < c.rn → ∃ F N : Nat, c.R i 1 = F ∧ c.R i 2 = N ∧ 1 ≤ N ∧ F + N ≤ 32) := Lib.hid (right_range hr)
    simp only [if_true]
    by_cases h0 : s < 0
    · have e : rangeI c.R c.rn s = none := firstI_none fun j hj => by
        obtain ⟨F, N, e1, e2, e3, e4⟩ := HRg.out j hj
        rw [e1]
        unfold inB
        simp; omega
      rw [e]
      clear hr hc e HRg
      go_enter Try.func34, Try.ntmps34
      go_wp2_with fail
      refine (HR.out _ (HB0.out _)).mono ?_
      rintro e w1 ⟨rfl, hb⟩
      go_wp2
      go_ret
      exact ⟨rfl, (HB0.out _).trans (hb.mono (by simp))⟩
    · have HP : Hid (RowT 3 w B c.ra c.rn c.R) := Lib.hid hc.r
      have hlp := hc.lr
      obtain ⟨res, hres⟩ : ∃ res, res = atI (rangeI c.R c.rn s) := ⟨_, rfl⟩
      have HE : Hid (res = atI (rangeI c.R c.rn s)) := Lib.hid hres
      rw [← hres]
      clear hr hc hres
      obtain ⟨cats, ga, gn, gc, ra, rn, rc, pa, pn, pc, na, nn, nc, sa, sn, sc, gate, quota, G, R, P, N, S⟩ := c
      dsimp only at HP HE hlp HR HRg
      go_enter Try.func34, Try.ntmps34
      go_wp2_with fail
      refine (HR.out _ (HB0.out _)).mono ?_
      rintro e w1 ⟨rfl, hb⟩
      have hbw := (HB0.out _).trans (hb.mono (by simp))
      have HK2 : Hid (w1.cell? ⟨w.heap.size, 2, none⟩ = some (.slice ra rn rc)) := Lib.hid (by rw [old_cells hb _ 2 (by simp)]; simp)
      have s1 : w.heap.size < w1.heap.size := by have := hb.size; simp at this; omega
      clear hb
      go_wp2
      go_loopw [5] (fun i wr => ∃ k : Nat, k ≤ rn ∧ i = .int .i64 k ∧ Hid (∀ j, j < k → inB s (R j 1) (R j 1 + R j 2 - 1) = false) ∧ Below w1.heap.size w1 wr) (fun i _ => rn - (intOf i).toNat)
      case atStart => exact ⟨0, Nat.zero_le _, rfl, fun j hj => absurd hj (by omega), Below.refl _ _⟩
      case round =>
        obtain ⟨k, hk, rfl, hno, hb⟩ := hrel
        have hbk : Below w.heap.size w wr := hbw.trans (hb.mono (by omega))
        have k2 := (old_cells hb _ 2 s1).trans HK2.out
        have sr : w.heap.size < wr.heap.size := by have := hb.size; omega
        by_cases hlt : k < rn
        · obtain ⟨x, rfl, hx, c0, c1, c2⟩ := (HP.out.below (hbk.mono hB)).at3 k hlt
          have hxs : (x.add (k * 3)).block < wr.heap.size := by rw [block_of_add]; omega
          have b0 : (0 : Int) ≤ (k : Int) := by omega
          have b1 : (k : Int) < (rn : Int) := by omega
          obtain ⟨F, M, e1, e2, e3, e4⟩ := HRg.out k hlt
          have HI : Hid (inB s (R k 1) (R k 1 + R k 2 - 1) = inB s F ((F : Int) + M - 1)) := Lib.hid (by rw [e1, e2])
          rw [e1] at c1
          rw [e2] at c2
          clear e1 e2 c0
          have hw1 : IntKind.i64.wrap (s - (F : Int)) = s - (F : Int) := IntWalk.i64_in _ (by omega)
          rcases inB_range s F M e3 with ⟨t1, hin⟩ | ⟨t1, t2, hin⟩ | ⟨t1, t2, hin⟩
          rotate_left 2
          · have HF : Hid (res = (k : Int)) := Lib.hid (by rw [HE.out, show rangeI R rn s = some k from firstI_some hlt (by rw [HI.out]; exact hin) hno.out]; rfl)
            have d1 : decide ((F : Int) ≤ s) = true := decide_eq_true t1
            have d2 : decide (s - (F : Int) < (M : Int)) = true := decide_eq_true t2
            clear hin
            go_wp2
            apply wp_region_auto [20, 21, 22, 23, 24, 25, 26, 27, 28, 29, 30, 31, 32, 33, 34, 35, 36, 37, 38, 39, 40, 41, 42, 43] [_, _, _, _, _, _, _, _, _, _, _, _, _, _, _, _, _, _, _, _, _, _, _, _] (fun W' => Below wr.heap.size wr W')
            case hm => kernel_rfl
            case hT => intro y; simp only [setAll, List.setIfInBounds_toArray, List.set_cons_succ, List.set_cons_zero]; exact rfl
            case hok => kernel_rfl
            case hn => decide
            case hw => exact (Below.refl _ _).drew
            case hs =>
              refine auto_op 20 [] (by kernel_rfl) (fun y w' HW hd K hK => ?_) ?_
              · go_simp
                refine hK _ _ ?_ ?_ HW
                · simp [upd]
                · exact rfl
              refine auto_op 21 [] (by kernel_rfl) (fun y w' HW hd K hK => ?_) ?_
              · go_simp
                refine hK _ _ ?_ ?_ HW
                · simp [upd]
                · exact rfl
              refine auto_op 22 [1] (by kernel_rfl) (fun y w' HW hd K hK => ?_) ?_
              · have e1 := hd_nth (hd 1 (by simp)) rfl
                have hcl : ∀ p : Addr, p.block < wr.heap.size → w'.cell? p = wr.cell? p := fun p hp => HW.cell hp
                go_simp
                refine hK _ _ ?_ ?_ HW
                · simp [upd, e1]
                · exact rfl
              refine auto_op 23 [] (by kernel_rfl) (fun y w' HW hd K hK => ?_) ?_
              · go_simp
                refine hK _ _ ?_ ?_ HW
                · simp [upd]
                · exact rfl
              refine auto_op 24 [2, 3] (by kernel_rfl) (fun y w' HW hd K hK => ?_) ?_
              · have e2 := hd_nth (hd 2 (by simp)) rfl
                have e3 := hd_nth (hd 3 (by simp)) rfl
                go_simp
                refine hK _ _ ?_ ?_ HW
                · simp [upd, e2, e3]
                · exact rfl
              refine auto_op 25 [4] (by kernel_rfl) (fun y w' HW hd K hK => ?_) ?_
              · have e4 := hd_nth (hd 4 (by simp)) rfl
                go_simp
                refine hK _ _ ?_ ?_ HW
                · simp [upd, e4]
                · exact rfl
              refine auto_op 26 [5] (by kernel_rfl) (fun y w' HW hd K hK => ?_) ?_
              · have e5 := hd_nth (hd 5 (by simp)) rfl
                have hcl : ∀ p : Addr, p.block < wr.heap.size → w'.cell? p = wr.cell? p := fun p hp => HW.cell hp
                go_simp
                refine hK _ _ ?_ ?_ HW
                · simp [upd, e5]
                · exact rfl
              refine auto_op 27 [0, 6] (by kernel_rfl) (fun y w' HW hd K hK => ?_) ?_
              · have e0 := hd_nth (hd 0 (by simp)) rfl
                have e6 := hd_nth (hd 6 (by simp)) rfl
                go_simp
                refine hK _ _ ?_ ?_ HW
                · simp [upd, e0, e6]
                · exact rfl
              refine auto_op 28 [7] (by kernel_rfl) (fun y w' HW hd K hK => ?_) ?_
              · have e7 := hd_nth (hd 7 (by simp)) rfl
                go_simp
                refine hK _ _ ?_ ?_ HW
                · simp [upd, e7]
                · exact rfl
              refine auto_op 29 [8] (by kernel_rfl) (fun y w' HW hd K hK => ?_) ?_
              · have e8 := hd_nth (hd 8 (by simp)) rfl
                go_simp
                refine hK _ _ ?_ ?_ HW
                · simp [upd, e8]
                · exact rfl
              refine auto_op 30 [8] (by kernel_rfl) (fun y w' HW hd K hK => ?_) ?_
              · have e8 := hd_nth (hd 8 (by simp)) rfl
                go_simp
                refine hK _ _ ?_ ?_ HW
                · simp [upd, e8]
                · exact rfl
              refine auto_op 31 [10, 8] (by kernel_rfl) (fun y w' HW hd K hK => ?_) ?_
              · have e8 := hd_nth (hd 8 (by simp)) rfl
                have e10 := hd_nth (hd 10 (by simp)) rfl
                have hcl : ∀ p : Addr, p.block < wr.heap.size → w'.cell? p = wr.cell? p := fun p hp => HW.cell hp
                go_simp
                refine hK _ _ ?_ ?_ HW
                · simp [upd, e8, e10]
                · exact rfl
              refine auto_op 32 [8] (by kernel_rfl) (fun y w' HW hd K hK => ?_) ?_
              · have e8 := hd_nth (hd 8 (by simp)) rfl
                go_simp
                refine hK _ _ ?_ ?_ HW
                · simp [upd, e8]
                · exact rfl
              refine auto_op 33 [11, 12, 8] (by kernel_rfl) (fun y w' HW hd K hK => ?_) ?_
              · have e8 := hd_nth (hd 8 (by simp)) rfl
                have e11 := hd_nth (hd 11 (by simp)) rfl
                have e12 := hd_nth (hd 12 (by simp)) rfl
                go_simp
                refine hK _ _ ?_ ?_ HW
                · simp [upd, e8, e11, e12]
                · exact rfl
              refine auto_op 34 [13, 8] (by kernel_rfl) (fun y w' HW hd K hK => ?_) ?_
              · have e8 := hd_nth (hd 8 (by simp)) rfl
                have e13 := hd_nth (hd 13 (by simp)) rfl
                go_simp
                refine hK _ _ ?_ ?_ HW
                · simp [upd, e8, e13]
                · exact rfl
              refine auto_op 35 [14, 8] (by kernel_rfl) (fun y w' HW hd K hK => ?_) ?_
              · have e8 := hd_nth (hd 8 (by simp)) rfl
                have e14 := hd_nth (hd 14 (by simp)) rfl
                have hcl : ∀ p : Addr, p.block < wr.heap.size → w'.cell? p = wr.cell? p := fun p hp => HW.cell hp
                go_simp
                refine hK _ _ ?_ ?_ HW
                · simp [upd, e8, e14]
                · exact rfl
              refine auto_op 36 [9, 15, 8] (by kernel_rfl) (fun y w' HW hd K hK => ?_) ?_
              · have e8 := hd_nth (hd 8 (by simp)) rfl
                have e9 := hd_nth (hd 9 (by simp)) rfl
                have e15 := hd_nth (hd 15 (by simp)) rfl
                go_simp
                refine hK _ _ ?_ ?_ HW
                · simp [upd, e8, e9, e15]
                · exact rfl
              refine auto_op 37 [8] (by kernel_rfl) (fun y w' HW hd K hK => ?_) ?_
              · have e8 := hd_nth (hd 8 (by simp)) rfl
                go_simp
                refine hK _ _ ?_ ?_ HW
                · simp [upd, e8]
                · exact rfl
              refine auto_op 38 [17, 8] (by kernel_rfl) (fun y w' HW hd K hK => ?_) ?_
              · have e8 := hd_nth (hd 8 (by simp)) rfl
                have e17 := hd_nth (hd 17 (by simp)) rfl
                have hcl : ∀ p : Addr, p.block < wr.heap.size → w'.cell? p = wr.cell? p := fun p hp => HW.cell hp
                go_simp
                refine hK _ _ ?_ ?_ HW
                · simp [upd, e8, e17]
                · exact rfl
              refine auto_op 39 [8] (by kernel_rfl) (fun y w' HW hd K hK => ?_) ?_
              · have e8 := hd_nth (hd 8 (by simp)) rfl
                go_simp
                refine hK _ _ ?_ ?_ HW
                · simp [upd, e8]
                · exact rfl
              refine auto_op 40 [18, 19, 8] (by kernel_rfl) (fun y w' HW hd K hK => ?_) ?_
              · have e8 := hd_nth (hd 8 (by simp)) rfl
                have e18 := hd_nth (hd 18 (by simp)) rfl
                have e19 := hd_nth (hd 19 (by simp)) rfl
                go_simp
                refine hK _ _ ?_ ?_ HW
                · simp [upd, e8, e18, e19]
                · exact rfl
              refine auto_op 41 [20, 8] (by kernel_rfl) (fun y w' HW hd K hK => ?_) ?_
              · have e8 := hd_nth (hd 8 (by simp)) rfl
                have e20 := hd_nth (hd 20 (by simp)) rfl
                go_simp
                refine hK _ _ ?_ ?_ HW
                · simp [upd, e8, e20]
                · exact rfl
              refine auto_op 42 [21, 8] (by kernel_rfl) (fun y w' HW hd K hK => ?_) ?_
              · have e8 := hd_nth (hd 8 (by simp)) rfl
                have e21 := hd_nth (hd 21 (by simp)) rfl
                have hcl : ∀ p : Addr, p.block < wr.heap.size → w'.cell? p = wr.cell? p := fun p hp => HW.cell hp
                go_simp
                refine hK _ _ ?_ ?_ HW
                · simp [upd, e8, e21]
                · exact rfl
              refine auto_op 43 [16, 22, 8] (by kernel_rfl) (fun y w' HW hd K hK => ?_) ?_
              · have e8 := hd_nth (hd 8 (by simp)) rfl
                have e16 := hd_nth (hd 16 (by simp)) rfl
                have e22 := hd_nth (hd 22 (by simp)) rfl
                go_simp
                refine hK _ _ ?_ ?_ HW
                · simp [upd, e8, e16, e22]
                · exact rfl
              refine auto_last fun y w' HW hd K hK => ?_
              have e0 := hd_nth (hd 0 (by omega)) rfl
              have e1 := hd_nth (hd 1 (by omega)) rfl
              have e2 := hd_nth (hd 2 (by omega)) rfl
              have e3 := hd_nth (hd 3 (by omega)) rfl
              have e4 := hd_nth (hd 4 (by omega)) rfl
              have e5 := hd_nth (hd 5 (by omega)) rfl
              have e6 := hd_nth (hd 6 (by omega)) rfl
              have e7 := hd_nth (hd 7 (by omega)) rfl
              have e8 := hd_nth (hd 8 (by omega)) rfl
              have e9 := hd_nth (hd 9 (by omega)) rfl
              have e10 := hd_nth (hd 10 (by omega)) rfl
              have e11 := hd_nth (hd 11 (by omega)) rfl
              have e12 := hd_nth (hd 12 (by omega)) rfl
              have e13 := hd_nth (hd 13 (by omega)) rfl
              have e14 := hd_nth (hd 14 (by omega)) rfl
              have e15 := hd_nth (hd 15 (by omega)) rfl
              have e16 := hd_nth (hd 16 (by omega)) rfl
              have e17 := hd_nth (hd 17 (by omega)) rfl
              have e18 := hd_nth (hd 18 (by omega)) rfl
              have e19 := hd_nth (hd 19 (by omega)) rfl
              have e20 := hd_nth (hd 20 (by omega)) rfl
              have e21 := hd_nth (hd 21 (by omega)) rfl
              have e22 := hd_nth (hd 22 (by omega)) rfl
              have e23 := hd_nth (hd 23 (by omega)) rfl
              go_simp
              refine hK _ _ ?_
              clear hd hK K e0 e1 e2 e3 e4 e5 e6 e7 e8 e9 e10 e11 e12 e13 e14 e15 e16 e17 e18 e19 e20 e21 e22 e23
              go_wp2
              go_ret
              exact ⟨by rw [HF.out]; rfl, hbk.trans (HW.mono hbk.size)⟩
          · have HN : Hid (∀ j, j < k + 1 → inB s (R j 1) (R j 1 + R j 2 - 1) = false) := Lib.hid (more_false hno.out (by rw [HI.out]; exact hin))
            have d1 : decide ((F : Int) ≤ s) = false := decide_eq_false (by omega)
            clear hin hw1
            go_wp2
            apply wp_region_auto [20, 21, 22, 23, 24, 25, 26, 27, 28, 29, 30, 31, 32, 33, 34, 35, 36, 37, 38, 39, 40, 41, 42, 43] [_, _, _, _, _, _, _, _, _, _, _, _, _, _, _, _, _, _, _, _, _, _, _, _] (fun W' => Below wr.heap.size wr W')
            case hm => kernel_rfl
            case hT => intro y; simp only [setAll, List.setIfInBounds_toArray, List.set_cons_succ, List.set_cons_zero]; exact rfl
            case hok => kernel_rfl
            case hn => decide
            case hw => exact (Below.refl _ _).drew
            case hs =>
              refine auto_op 20 [] (by kernel_rfl) (fun y w' HW hd K hK => ?_) ?_
              · go_simp
                refine hK _ _ ?_ ?_ HW
                · simp [upd]
                · exact rfl
              refine auto_op 21 [] (by kernel_rfl) (fun y w' HW hd K hK => ?_) ?_
              · go_simp
                refine hK _ _ ?_ ?_ HW
                · simp [upd]
                · exact rfl
              refine auto_op 22 [1] (by kernel_rfl) (fun y w' HW hd K hK => ?_) ?_
              · have e1 := hd_nth (hd 1 (by simp)) rfl
                have hcl : ∀ p : Addr, p.block < wr.heap.size → w'.cell? p = wr.cell? p := fun p hp => HW.cell hp
                go_simp
                refine hK _ _ ?_ ?_ HW
                · simp [upd, e1]
                · exact rfl
              refine auto_op 23 [] (by kernel_rfl) (fun y w' HW hd K hK => ?_) ?_
              · go_simp
                refine hK _ _ ?_ ?_ HW
                · simp [upd]
                · exact rfl
              refine auto_op 24 [2, 3] (by kernel_rfl) (fun y w' HW hd K hK => ?_) ?_
              · have e2 := hd_nth (hd 2 (by simp)) rfl
                have e3 := hd_nth (hd 3 (by simp)) rfl
                go_simp
                refine hK _ _ ?_ ?_ HW
                · simp [upd, e2, e3]
                · exact rfl
              refine auto_op 25 [4] (by kernel_rfl) (fun y w' HW hd K hK => ?_) ?_
              · have e4 := hd_nth (hd 4 (by simp)) rfl
                go_simp
                refine hK _ _ ?_ ?_ HW
                · simp [upd, e4]
                · exact rfl
              refine auto_op 26 [5] (by kernel_rfl) (fun y w' HW hd K hK => ?_) ?_
              · have e5 := hd_nth (hd 5 (by simp)) rfl
                have hcl : ∀ p : Addr, p.block < wr.heap.size → w'.cell? p = wr.cell? p := fun p hp => HW.cell hp
                go_simp
                refine hK _ _ ?_ ?_ HW
                · simp [upd, e5]
                · exact rfl
              refine auto_op 27 [0, 6] (by kernel_rfl) (fun y w' HW hd K hK => ?_) ?_
              · have e0 := hd_nth (hd 0 (by simp)) rfl
                have e6 := hd_nth (hd 6 (by simp)) rfl
                go_simp
                refine hK _ _ ?_ ?_ HW
                · simp [upd, e0, e6]
                · exact rfl
              refine auto_op 28 [7] (by kernel_rfl) (fun y w' HW hd K hK => ?_) ?_
              · have e7 := hd_nth (hd 7 (by simp)) rfl
                go_simp
                refine hK _ _ ?_ ?_ HW
                · simp [upd, e7]
                · exact rfl
              refine auto_op 29 [8] (by kernel_rfl) (fun y w' HW hd K hK => ?_) ?_
              · have e8 := hd_nth (hd 8 (by simp)) rfl
                go_simp
                refine hK _ _ ?_ ?_ HW
                · simp [upd, e8]
                · exact rfl
              refine auto_op 30 [8] (by kernel_rfl) (fun y w' HW hd K hK => ?_) ?_
              · have e8 := hd_nth (hd 8 (by simp)) rfl
                go_simp
                refine hK _ _ ?_ ?_ HW
                · simp [upd, e8]
                · exact rfl
              refine auto_op 31 [10, 8] (by kernel_rfl) (fun y w' HW hd K hK => ?_) ?_
              · have e8 := hd_nth (hd 8 (by simp)) rfl
                have e10 := hd_nth (hd 10 (by simp)) rfl
                have hcl : ∀ p : Addr, p.block < wr.heap.size → w'.cell? p = wr.cell? p := fun p hp => HW.cell hp
                go_simp
                refine hK _ _ ?_ ?_ HW
                · simp [upd, e8, e10]
                · exact rfl
              refine auto_op 32 [8] (by kernel_rfl) (fun y w' HW hd K hK => ?_) ?_
              · have e8 := hd_nth (hd 8 (by simp)) rfl
                go_simp
                refine hK _ _ ?_ ?_ HW
                · simp [upd, e8]
                · exact rfl
              refine auto_op 33 [11, 12, 8] (by kernel_rfl) (fun y w' HW hd K hK => ?_) ?_
              · have e8 := hd_nth (hd 8 (by simp)) rfl
                have e11 := hd_nth (hd 11 (by simp)) rfl
                have e12 := hd_nth (hd 12 (by simp)) rfl
                go_simp
                refine hK _ _ ?_ ?_ HW
                · simp [upd, e8, e11, e12]
                · exact rfl
              refine auto_op 34 [13, 8] (by kernel_rfl) (fun y w' HW hd K hK => ?_) ?_
              · have e8 := hd_nth (hd 8 (by simp)) rfl
                have e13 := hd_nth (hd 13 (by simp)) rfl
                go_simp
                refine hK _ _ ?_ ?_ HW
                · simp [upd, e8, e13]
                · exact rfl
              refine auto_op 35 [14, 8] (by kernel_rfl) (fun y w' HW hd K hK => ?_) ?_
              · have e8 := hd_nth (hd 8 (by simp)) rfl
                have e14 := hd_nth (hd 14 (by simp)) rfl
                have hcl : ∀ p : Addr, p.block < wr.heap.size → w'.cell? p = wr.cell? p := fun p hp => HW.cell hp
                go_simp
                refine hK _ _ ?_ ?_ HW
                · simp [upd, e8, e14]
                · exact rfl
              refine auto_op 36 [9, 15, 8] (by kernel_rfl) (fun y w' HW hd K hK => ?_) ?_
              · have e8 := hd_nth (hd 8 (by simp)) rfl
                have e9 := hd_nth (hd 9 (by simp)) rfl
                have e15 := hd_nth (hd 15 (by simp)) rfl
                go_simp
                refine hK _ _ ?_ ?_ HW
                · simp [upd, e8, e9, e15]
                · exact rfl
              refine auto_op 37 [8] (by kernel_rfl) (fun y w' HW hd K hK => ?_) ?_
              · have e8 := hd_nth (hd 8 (by simp)) rfl
                go_simp
                refine hK _ _ ?_ ?_ HW
                · simp [upd, e8]
                · exact rfl
              refine auto_op 38 [17, 8] (by kernel_rfl) (fun y w' HW hd K hK => ?_) ?_
              · have e8 := hd_nth (hd 8 (by simp)) rfl
                have e17 := hd_nth (hd 17 (by simp)) rfl
                have hcl : ∀ p : Addr, p.block < wr.heap.size → w'.cell? p = wr.cell? p := fun p hp => HW.cell hp
                go_simp
                refine hK _ _ ?_ ?_ HW
                · simp [upd, e8, e17]
                · exact rfl
              refine auto_op 39 [8] (by kernel_rfl) (fun y w' HW hd K hK => ?_) ?_
              · have e8 := hd_nth (hd 8 (by simp)) rfl
                go_simp
                refine hK _ _ ?_ ?_ HW
                · simp [upd, e8]
                · exact rfl
              refine auto_op 40 [18, 19, 8] (by kernel_rfl) (fun y w' HW hd K hK => ?_) ?_
              · have e8 := hd_nth (hd 8 (by simp)) rfl
                have e18 := hd_nth (hd 18 (by simp)) rfl
                have e19 := hd_nth (hd 19 (by simp)) rfl
                go_simp
                refine hK _ _ ?_ ?_ HW
                · simp [upd, e8, e18, e19]
                · exact rfl
              refine auto_op 41 [20, 8] (by kernel_rfl) (fun y w' HW hd K hK => ?_) ?_
              · have e8 := hd_nth (hd 8 (by simp)) rfl
                have e20 := hd_nth (hd 20 (by simp)) rfl
                go_simp
                refine hK _ _ ?_ ?_ HW
                · simp [upd, e8, e20]
                · exact rfl
              refine auto_op 42 [21, 8] (by kernel_rfl) (fun y w' HW hd K hK => ?_) ?_
              · have e8 := hd_nth (hd 8 (by simp)) rfl
                have e21 := hd_nth (hd 21 (by simp)) rfl
                have hcl : ∀ p : Addr, p.block < wr.heap.size → w'.cell? p = wr.cell? p := fun p hp => HW.cell hp
                go_simp
                refine hK _ _ ?_ ?_ HW
                · simp [upd, e8, e21]
                · exact rfl
              refine auto_op 43 [16, 22, 8] (by kernel_rfl) (fun y w' HW hd K hK => ?_) ?_
              · have e8 := hd_nth (hd 8 (by simp)) rfl
                have e16 := hd_nth (hd 16 (by simp)) rfl
                have e22 := hd_nth (hd 22 (by simp)) rfl
                go_simp
                refine hK _ _ ?_ ?_ HW
                · simp [upd, e8, e16, e22]
                · exact rfl
              refine auto_last fun y w' HW hd K hK => ?_
              have e0 := hd_nth (hd 0 (by omega)) rfl
              have e1 := hd_nth (hd 1 (by omega)) rfl
              have e2 := hd_nth (hd 2 (by omega)) rfl
              have e3 := hd_nth (hd 3 (by omega)) rfl
              have e4 := hd_nth (hd 4 (by omega)) rfl
              have e5 := hd_nth (hd 5 (by omega)) rfl
              have e6 := hd_nth (hd 6 (by omega)) rfl
              have e7 := hd_nth (hd 7 (by omega)) rfl
              have e8 := hd_nth (hd 8 (by omega)) rfl
              have e9 := hd_nth (hd 9 (by omega)) rfl
              have e10 := hd_nth (hd 10 (by omega)) rfl
              have e11 := hd_nth (hd 11 (by omega)) rfl
              have e12 := hd_nth (hd 12 (by omega)) rfl
              have e13 := hd_nth (hd 13 (by omega)) rfl
              have e14 := hd_nth (hd 14 (by omega)) rfl
              have e15 := hd_nth (hd 15 (by omega)) rfl
              have e16 := hd_nth (hd 16 (by omega)) rfl
              have e17 := hd_nth (hd 17 (by omega)) rfl
              have e18 := hd_nth (hd 18 (by omega)) rfl
              have e19 := hd_nth (hd 19 (by omega)) rfl
              have e20 := hd_nth (hd 20 (by omega)) rfl
              have e21 := hd_nth (hd 21 (by omega)) rfl
              have e22 := hd_nth (hd 22 (by omega)) rfl
              have e23 := hd_nth (hd 23 (by omega)) rfl
              go_simp
              refine hK _ _ ?_
              clear hd hK K e0 e1 e2 e3 e4 e5 e6 e7 e8 e9 e10 e11 e12 e13 e14 e15 e16 e17 e18 e19 e20 e21 e22 e23
              go_wp2
              go_roundw
              case rel => exact ⟨k + 1, by omega, by go_num, HN, hb.trans (HW.mono hb.size)⟩
              case measure => simp [intOf]; omega
          · have HN : Hid (∀ j, j < k + 1 → inB s (R j 1) (R j 1 + R j 2 - 1) = false) := Lib.hid (more_false hno.out (by rw [HI.out]; exact hin))
            have d1 : decide ((F : Int) ≤ s) = true := decide_eq_true t1
            have d2 : decide (s - (F : Int) < (M : Int)) = false := decide_eq_false (by omega)
            clear hin t2
            go_wp2
            apply wp_region_auto [20, 21, 22, 23, 24, 25, 26, 27, 28, 29, 30, 31, 32, 33, 34, 35, 36, 37, 38, 39, 40, 41, 42, 43] [_, _, _, _, _, _, _, _, _, _, _, _, _, _, _, _, _, _, _, _, _, _, _, _] (fun W' => Below wr.heap.size wr W')
            case hm => kernel_rfl
            case hT => intro y; simp only [setAll, List.setIfInBounds_toArray, List.set_cons_succ, List.set_cons_zero]; exact rfl
            case hok => kernel_rfl
            case hn => decide
            case hw => exact (Below.refl _ _).drew
            case hs =>
              refine auto_op 20 [] (by kernel_rfl) (fun y w' HW hd K hK => ?_) ?_
              · go_simp
                refine hK _ _ ?_ ?_ HW
                · simp [upd]
                · exact rfl
              refine auto_op 21 [] (by kernel_rfl) (fun y w' HW hd K hK => ?_) ?_
              · go_simp
                refine hK _ _ ?_ ?_ HW
                · simp [upd]
                · exact rfl
              refine auto_op 22 [1] (by kernel_rfl) (fun y w' HW hd K hK => ?_) ?_
              · have e1 := hd_nth (hd 1 (by simp)) rfl
                have hcl : ∀ p : Addr, p.block < wr.heap.size → w'.cell? p = wr.cell? p := fun p hp => HW.cell hp
                go_simp
                refine hK _ _ ?_ ?_ HW
                · simp [upd, e1]
                · exact rfl
              refine auto_op 23 [] (by kernel_rfl) (fun y w' HW hd K hK => ?_) ?_
              · go_simp
                refine hK _ _ ?_ ?_ HW
                · simp [upd]
                · exact rfl
              refine auto_op 24 [2, 3] (by kernel_rfl) (fun y w' HW hd K hK => ?_) ?_
              · have e2 := hd_nth (hd 2 (by simp)) rfl
                have e3 := hd_nth (hd 3 (by simp)) rfl
                go_simp
                refine hK _ _ ?_ ?_ HW
                · simp [upd, e2, e3]
                · exact rfl
              refine auto_op 25 [4] (by kernel_rfl) (fun y w' HW hd K hK => ?_) ?_
              · have e4 := hd_nth (hd 4 (by simp)) rfl
                go_simp
                refine hK _ _ ?_ ?_ HW
                · simp [upd, e4]
                · exact rfl
              refine auto_op 26 [5] (by kernel_rfl) (fun y w' HW hd K hK => ?_) ?_
              · have e5 := hd_nth (hd 5 (by simp)) rfl
                have hcl : ∀ p : Addr, p.block < wr.heap.size → w'.cell? p = wr.cell? p := fun p hp => HW.cell hp
                go_simp
                refine hK _ _ ?_ ?_ HW
                · simp [upd, e5]
                · exact rfl
              refine auto_op 27 [0, 6] (by kernel_rfl) (fun y w' HW hd K hK => ?_) ?_
              · have e0 := hd_nth (hd 0 (by simp)) rfl
                have e6 := hd_nth (hd 6 (by simp)) rfl
                go_simp
                refine hK _ _ ?_ ?_ HW
                · simp [upd, e0, e6]
                · exact rfl
              refine auto_op 28 [7] (by kernel_rfl) (fun y w' HW hd K hK => ?_) ?_
              · have e7 := hd_nth (hd 7 (by simp)) rfl
                go_simp
                refine hK _ _ ?_ ?_ HW
                · simp [upd, e7]
                · exact rfl
              refine auto_op 29 [8] (by kernel_rfl) (fun y w' HW hd K hK => ?_) ?_
              · have e8 := hd_nth (hd 8 (by simp)) rfl
                go_simp
                refine hK _ _ ?_ ?_ HW
                · simp [upd, e8]
                · exact rfl
              refine auto_op 30 [8] (by kernel_rfl) (fun y w' HW hd K hK => ?_) ?_
              · have e8 := hd_nth (hd 8 (by simp)) rfl
                go_simp
                refine hK _ _ ?_ ?_ HW
                · simp [upd, e8]
                · exact rfl
              refine auto_op 31 [10, 8] (by kernel_rfl) (fun y w' HW hd K hK => ?_) ?_
              · have e8 := hd_nth (hd 8 (by simp)) rfl
                have e10 := hd_nth (hd 10 (by simp)) rfl
                have hcl : ∀ p : Addr, p.block < wr.heap.size → w'.cell? p = wr.cell? p := fun p hp => HW.cell hp
                go_simp
                refine hK _ _ ?_ ?_ HW
                · simp [upd, e8, e10]
                · exact rfl
              refine auto_op 32 [8] (by kernel_rfl) (fun y w' HW hd K hK => ?_) ?_
              · have e8 := hd_nth (hd 8 (by simp)) rfl
                go_simp
                refine hK _ _ ?_ ?_ HW
                · simp [upd, e8]
                · exact rfl
              refine auto_op 33 [11, 12, 8] (by kernel_rfl) (fun y w' HW hd K hK => ?_) ?_
              · have e8 := hd_nth (hd 8 (by simp)) rfl
                have e11 := hd_nth (hd 11 (by simp)) rfl
                have e12 := hd_nth (hd 12 (by simp)) rfl
                go_simp
                refine hK _ _ ?_ ?_ HW
                · simp [upd, e8, e11, e12]
                · exact rfl
              refine auto_op 34 [13, 8] (by kernel_rfl) (fun y w' HW hd K hK => ?_) ?_
              · have e8 := hd_nth (hd 8 (by simp)) rfl
                have e13 := hd_nth (hd 13 (by simp)) rfl
                go_simp
                refine hK _ _ ?_ ?_ HW
                · simp [upd, e8, e13]
                · exact rfl
              refine auto_op 35 [14, 8] (by kernel_rfl) (fun y w' HW hd K hK => ?_) ?_
              · have e8 := hd_nth (hd 8 (by simp)) rfl
                have e14 := hd_nth (hd 14 (by simp)) rfl
                have hcl : ∀ p : Addr, p.block < wr.heap.size → w'.cell? p = wr.cell? p := fun p hp => HW.cell hp
                go_simp
                refine hK _ _ ?_ ?_ HW
                · simp [upd, e8, e14]
                · exact rfl
              refine auto_op 36 [9, 15, 8] (by kernel_rfl) (fun y w' HW hd K hK => ?_) ?_
              · have e8 := hd_nth (hd 8 (by simp)) rfl
                have e9 := hd_nth (hd 9 (by simp)) rfl
                have e15 := hd_nth (hd 15 (by simp)) rfl
                go_simp
                refine hK _ _ ?_ ?_ HW
                · simp [upd, e8, e9, e15]
                · exact rfl
              refine auto_op 37 [8] (by kernel_rfl) (fun y w' HW hd K hK => ?_) ?_
              · have e8 := hd_nth (hd 8 (by simp)) rfl
                go_simp
                refine hK _ _ ?_ ?_ HW
                · simp [upd, e8]
                · exact rfl
              refine auto_op 38 [17, 8] (by kernel_rfl) (fun y w' HW hd K hK => ?_) ?_
              · have e8 := hd_nth (hd 8 (by simp)) rfl
                have e17 := hd_nth (hd 17 (by simp)) rfl
                have hcl : ∀ p : Addr, p.block < wr.heap.size → w'.cell? p = wr.cell? p := fun p hp => HW.cell hp
                go_simp
                refine hK _ _ ?_ ?_ HW
                · simp [upd, e8, e17]
                · exact rfl
              refine auto_op 39 [8] (by kernel_rfl) (fun y w' HW hd K hK => ?_) ?_
              · have e8 := hd_nth (hd 8 (by simp)) rfl
                go_simp
                refine hK _ _ ?_ ?_ HW
                · simp [upd, e8]
                · exact rfl
              refine auto_op 40 [18, 19, 8] (by kernel_rfl) (fun y w' HW hd K hK => ?_) ?_
              · have e8 := hd_nth (hd 8 (by simp)) rfl
                have e18 := hd_nth (hd 18 (by simp)) rfl
                have e19 := hd_nth (hd 19 (by simp)) rfl
                go_simp
                refine hK _ _ ?_ ?_ HW
                · simp [upd, e8, e18, e19]
                · exact rfl
              refine auto_op 41 [20, 8] (by kernel_rfl) (fun y w' HW hd K hK => ?_) ?_
              · have e8 := hd_nth (hd 8 (by simp)) rfl
                have e20 := hd_nth (hd 20 (by simp)) rfl
                go_simp
                refine hK _ _ ?_ ?_ HW
                · simp [upd, e8, e20]
                · exact rfl
              refine auto_op 42 [21, 8] (by kernel_rfl) (fun y w' HW hd K hK => ?_) ?_
              · have e8 := hd_nth (hd 8 (by simp)) rfl
                have e21 := hd_nth (hd 21 (by simp)) rfl
                have hcl : ∀ p : Addr, p.block < wr.heap.size → w'.cell? p = wr.cell? p := fun p hp => HW.cell hp
                go_simp
                refine hK _ _ ?_ ?_ HW
                · simp [upd, e8, e21]
                · exact rfl
              refine auto_op 43 [16, 22, 8] (by kernel_rfl) (fun y w' HW hd K hK => ?_) ?_
              · have e8 := hd_nth (hd 8 (by simp)) rfl
                have e16 := hd_nth (hd 16 (by simp)) rfl
                have e22 := hd_nth (hd 22 (by simp)) rfl
                go_simp
                refine hK _ _ ?_ ?_ HW
                · simp [upd, e8, e16, e22]
                · exact rfl
              refine auto_last fun y w' HW hd K hK => ?_
              have e0 := hd_nth (hd 0 (by omega)) rfl
              have e1 := hd_nth (hd 1 (by omega)) rfl
              have e2 := hd_nth (hd 2 (by omega)) rfl
              have e3 := hd_nth (hd 3 (by omega)) rfl
              have e4 := hd_nth (hd 4 (by omega)) rfl
              have e5 := hd_nth (hd 5 (by omega)) rfl
              have e6 := hd_nth (hd 6 (by omega)) rfl
              have e7 := hd_nth (hd 7 (by omega)) rfl
              have e8 := hd_nth (hd 8 (by omega)) rfl
              have e9 := hd_nth (hd 9 (by omega)) rfl
              have e10 := hd_nth (hd 10 (by omega)) rfl
              have e11 := hd_nth (hd 11 (by omega)) rfl
              have e12 := hd_nth (hd 12 (by omega)) rfl
              have e13 := hd_nth (hd 13 (by omega)) rfl
              have e14 := hd_nth (hd 14 (by omega)) rfl
              have e15 := hd_nth (hd 15 (by omega)) rfl
              have e16 := hd_nth (hd 16 (by omega)) rfl
              have e17 := hd_nth (hd 17 (by omega)) rfl
              have e18 := hd_nth (hd 18 (by omega)) rfl
              have e19 := hd_nth (hd 19 (by omega)) rfl
              have e20 := hd_nth (hd 20 (by omega)) rfl
              have e21 := hd_nth (hd 21 (by omega)) rfl
              have e22 := hd_nth (hd 22 (by omega)) rfl
              have e23 := hd_nth (hd 23 (by omega)) rfl
              go_simp
              refine hK _ _ ?_
              clear hd hK K e0 e1 e2 e3 e4 e5 e6 e7 e8 e9 e10 e11 e12 e13 e14 e15 e16 e17 e18 e19 e20 e21 e22 e23
              go_wp2
              go_roundw
              case rel => exact ⟨k + 1, by omega, by go_num, HN, hb.trans (HW.mono hb.size)⟩
              case measure => simp [intOf]; omega
        · have hkn : k = rn := by omega
          subst hkn
          have b1 : ¬ (k : Int) < (k : Int) := by omega
          have HF : Hid (res = -1) := Lib.hid (by rw [HE.out, show rangeI R k s = none from firstI_none hno.out]; rfl)
          go_wp2
          go_ret
          exact ⟨by rw [HF.out]; rfl, hbk⟩

/-- whose frame f is -/
def ownZ (c : Cfg) (f : Int) : Int × Int := if rightB c && decide (0 ≤ f) && decide (f < need c) then (match firstI c.gn fun k => decide (f < sumG c.G (k + 1)) with
  | some k => (1, (k : Int))
  | none => (2, f - sumG c.G c.gn)) else (0, 0)
theorem ownZ_not {c : Cfg} {f : Int} (h : rightB c = false ∨ f < 0 ∨ need c ≤ f) : ownZ c f = (0, 0) := by
  unfold ownZ
  rw [if_neg]
  rcases h with h | h | h
  · rw [h]; simp
  · rw [decide_eq_false (show ¬ 0 ≤ f by omega)]; simp
  · rw [decide_eq_false (show ¬ f < need c by omega)]; simp
theorem ownZ_guest {c : Cfg} {f : Int} {k : Nat} (h : rightB c = true) (h0 : 0 ≤ f) (h1 : f < need c) (hk : k < c.gn) (hf : f < sumG c.G (k + 1)) (hno : ∀ j, j < k → sumG c.G (j + 1) ≤ f) : ownZ c f = (1, (k : Int)) := by
  unfold ownZ
  rw [h, decide_eq_true h0, decide_eq_true h1, if_pos (by rfl), firstI_some (p := fun k => decide (f < sumG c.G (k + 1))) hk (decide_eq_true hf) fun j hj => decide_eq_false (by have := hno j hj; omega)]
theorem ownZ_ring {c : Cfg} {f : Int} (h : rightB c = true) (h0 : 0 ≤ f) (h1 : f < need c) (hno : ∀ j, j < c.gn → sumG c.G (j + 1) ≤ f) : ownZ c f = (2, f - sumG c.G c.gn) := by
  unfold ownZ
  rw [h, decide_eq_true h0, decide_eq_true h1, if_pos (by rfl), firstI_none (p := fun k => decide (f < sumG c.G (k + 1))) fun j hj => decide_eq_false (by have := hno j hj; omega)]
abbrev ownV (q : Int × Int) : Value := .agg #[.int .i64 q.1, .int .i64 q.2]

set_option maxRecDepth 100000 in
theorem oneGuest_any (l p q : Int) (b : Nat) (w : World) (hb : b < w.heap.size) (h : w.heap[b]? = some (.cells #[.int .i64 l, .int .i64 p, .int .i64 q] 57 (0, 0))) (hs : 1 ≤ p ∧ p ≤ 8 ∧ 0 ≤ q ∧ p + q ≤ 8)
    (hl : -9223372036854775808 ≤ l ∧ l < 9223372036854775808) :
    Calls Try.prog 56 #[.slice (some ⟨b, 0, none⟩) 1 1] w fun e w' => e = .returned (.int .i64 (p + q)) ∧ Below w.heap.size w w' := by
  have key := framesOf_any (some ⟨b, 0, none⟩) 1 1 w.heap.size (fun _ j => if j = 0 then l else if j = 1 then p else q) w (Nat.le_refl _) (fun i hi => ⟨_, rfl, hb, fun j hj => by
    obtain rfl : i = 0 := by omega
    have e : (⟨b, 0, none⟩ : Addr).add (0 * 3 + j) = ⟨b, j, none⟩ := by rw [add_plain]; simp
    rw [e]
    match j, hj with
    | 0, _ => exact ⟨by simp [World.cell?, h], by simpa using hl⟩
    | 1, _ => exact ⟨by simp [World.cell?, h], by simp; omega⟩
    | 2, _ => exact ⟨by simp [World.cell?, h], by simp; omega⟩
    | j + 3, hj => omega⟩) (by omega) (fun i hi => by simpa using hs)
  have e : sumG (fun _ j => if j = 0 then l else if j = 1 then p else q) 1 = p + q := by simp [sumG]
  rwa [e] at key
end Go.Proofs.Ytmekoanobicddaa.Cf
