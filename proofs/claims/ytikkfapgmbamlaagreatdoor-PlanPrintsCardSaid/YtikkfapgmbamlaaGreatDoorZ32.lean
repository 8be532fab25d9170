/- Several texts in one: Co -/
import Derived.Test.YtikkfapgmbamlaaGreatDoorZ31
section
/- The document's own answers: slots, need, rings. -/
namespace Go.Proofs.YtikkfapgmbamlaaGreatDoor.Cf
open Go.RowKit Ut
set_option linter.unusedVariables false

theorem wrongS_ints (c : Cfg) (i : Nat) : (isGn c.gn (c.S i 0) = false ∧ wrongS c i = true) ∨ (isGn c.gn (c.S i 0) = true ∧ ((c.S i 1 < 1 ∧ wrongS c i = true) ∨ (1 ≤ c.S i 1 ∧ 32 < c.S i 1 ∧ wrongS c i = true) ∨ (1 ≤ c.S i 1 ∧ c.S i 1 ≤ 32 ∧ wrongS c i = false))) := by
  rcases wrongS_cases c i with ⟨h1, h2⟩ | ⟨h1, ⟨h3, h2⟩ | ⟨h3, h2⟩⟩
  · exact .inl ⟨h1, h2⟩
  · refine .inr ⟨h1, ?_⟩
    unfold inB at h3
    by_cases h4 : c.S i 1 < 1
    · exact .inl ⟨h4, h2⟩
    · refine .inr (.inl ⟨by omega, ?_, h2⟩)
      have h5 : decide (1 ≤ c.S i 1) = true := decide_eq_true (by omega)
      rw [h5] at h3
      simp at h3
      exact h3
  · unfold inB at h3
    simp at h3
    exact .inr ⟨h1, .inr (.inr ⟨h3.1, h3.2, h2⟩)⟩

set_option maxRecDepth 100000 in
set_option maxHeartbeats 1000000 in
theorem refSlots_any (c : Cfg) (B : Nat) (w : World) (hB : B ≤ w.heap.size) (hc : c.At w B) :
    Calls Tryz.prog 25 #[c.v] w fun e w' => e = .returned (.tuple #[.bool (foundZ (!inB c.sn 1 8) (firstI c.sn (wrongS c))).1, .int .i64 (foundZ (!inB c.sn 1 8) (firstI c.sn (wrongS c))).2]) ∧ Below w.heap.size w w' := by
  have HB0 := one_new w
  have hls := hc.ls
  have hlg := hc.lg
  by_cases h1 : c.sn < 1
  · have e : foundZ (!inB c.sn 1 8) (firstI c.sn (wrongS c)) = (true, 0) := by unfold foundZ inB; rw [if_pos]; simp; omega
    rw [e]
    clear e hc
    have h1' : (c.sn : Int) < 1 := by omega
    go_enter Tryz.func25, Tryz.ntmps25
    go_wp2
    go_ret2
    exact ⟨rfl, HB0.out _⟩
  · by_cases h2 : 8 < c.sn
    · have e : foundZ (!inB c.sn 1 8) (firstI c.sn (wrongS c)) = (true, 0) := by unfold foundZ inB; rw [if_pos]; simp; omega
      rw [e]
      clear e hc
      have h1' : ¬ (c.sn : Int) < 1 := by omega
      have h2' : 8 < (c.sn : Int) := by omega
      go_enter Tryz.func25, Tryz.ntmps25
      go_wp2
      go_ret2
      exact ⟨rfl, HB0.out _⟩
    · have e : foundZ (!inB c.sn 1 8) (firstI c.sn (wrongS c)) = foundZ false (firstI c.sn (wrongS c)) := by
        have : inB c.sn 1 8 = true := by unfold inB; simp; omega
        rw [this]; rfl
      rw [e]
      clear e
      have HG : Hid (RowT 2 w B c.sa c.sn c.S) := Lib.hid hc.s
      have HWr : Hid (∀ i, _) := Lib.hid (wrongS_ints c)
      obtain ⟨WR, hWR⟩ : ∃ WR, WR = wrongS c := ⟨_, rfl⟩
      rw [← hWR] at HWr ⊢
      clear hc hWR
      obtain ⟨cats, ga, gn, gc, ra, rn, rc, pa, pn, pc, na, nn, nc, sa, sn, sc, gate, quota, G, R, P, N, S⟩ := c
      dsimp only at h1 h2 HG HWr hls hlg ⊢
      have h1' : ¬ (sn : Int) < 1 := by omega
      have h2' : ¬ 8 < (sn : Int) := by omega
      have hgn : gn ≤ 140737488355328 := by omega
      go_enter Tryz.func25, Tryz.ntmps25
      go_wp2
      have hbw := HB0.out (.cells #[.int .i64 cats, .slice ga gn gc, .slice ra rn rc, .slice pa pn pc, .slice na nn nc, .slice sa sn sc, .int .i64 gate, .int .i64 quota] 28)
      obtain ⟨w1, hw1⟩ : ∃ w1, w1 = w.alloc (.cells #[.int .i64 cats, .slice ga gn gc, .slice ra rn rc, .slice pa pn pc, .slice na nn nc, .slice sa sn sc, .int .i64 gate, .int .i64 quota] 28) := ⟨_, rfl⟩
      have HK0 : Hid (w1.cell? ⟨w.heap.size, 0, none⟩ = some (.int .i64 cats)) := Lib.hid (by rw [hw1]; simp)
      have HK1 : Hid (w1.cell? ⟨w.heap.size, 1, none⟩ = some (.slice ga gn gc)) := Lib.hid (by rw [hw1]; simp)
      have HK2 : Hid (w1.cell? ⟨w.heap.size, 2, none⟩ = some (.slice ra rn rc)) := Lib.hid (by rw [hw1]; simp)
      have HK3 : Hid (w1.cell? ⟨w.heap.size, 3, none⟩ = some (.slice pa pn pc)) := Lib.hid (by rw [hw1]; simp)
      have HK4 : Hid (w1.cell? ⟨w.heap.size, 4, none⟩ = some (.slice na nn nc)) := Lib.hid (by rw [hw1]; simp)
      have HK5 : Hid (w1.cell? ⟨w.heap.size, 5, none⟩ = some (.slice sa sn sc)) := Lib.hid (by rw [hw1]; simp)
      have HK6 : Hid (w1.cell? ⟨w.heap.size, 6, none⟩ = some (.int .i64 gate)) := Lib.hid (by rw [hw1]; simp)
      have HK7 : Hid (w1.cell? ⟨w.heap.size, 7, none⟩ = some (.int .i64 quota)) := Lib.hid (by rw [hw1]; simp)
      have s1 : w.heap.size < w1.heap.size := by rw [hw1]; simp
      rw [← hw1] at hbw ⊢
      clear hw1
      go_loopw [4] (fun i wr => ∃ k : Nat, k ≤ sn ∧ i = .int .i64 k ∧ Hid (∀ j, j < k → WR j = false) ∧ Below w1.heap.size w1 wr) (fun i _ => sn - (intOf i).toNat)
      case atStart => exact ⟨0, Nat.zero_le _, rfl, fun j hj => absurd hj (by omega), Below.refl _ _⟩
      case round =>
        obtain ⟨k, hk, rfl, hno, hb⟩ := hrel
        have hbk : Below w.heap.size w wr := hbw.trans (hb.mono (by omega))
        have k0 := (old_cells hb _ 0 s1).trans HK0.out
        have k1 := (old_cells hb _ 1 s1).trans HK1.out
        have k2 := (old_cells hb _ 2 s1).trans HK2.out
        have k3 := (old_cells hb _ 3 s1).trans HK3.out
        have k4 := (old_cells hb _ 4 s1).trans HK4.out
        have k5 := (old_cells hb _ 5 s1).trans HK5.out
        have k6 := (old_cells hb _ 6 s1).trans HK6.out
        have k7 := (old_cells hb _ 7 s1).trans HK7.out
        have sr : w.heap.size < wr.heap.size := by have := hb.size; omega
        by_cases hlt : k < sn
        · obtain ⟨x, rfl, hx, c0, c1⟩ := (HG.out.below (hbk.mono hB)).at2 k hlt
          have b0 : (0 : Int) ≤ (k : Int) := by omega
          have b1 : (k : Int) < (sn : Int) := by omega
          have hw := HWr.out k
          have hs := firstI_some (n := sn) (k := k) (p := WR) hlt
          have HS : Hid (WR k = true → foundZ false (firstI sn WR) = (true, (k : Int))) := Lib.hid fun h => by rw [hs h hno.out]; rfl
          clear hs
          obtain ⟨g, hg0⟩ : ∃ g, g = S k 0 := ⟨_, rfl⟩
          obtain ⟨p, hp0⟩ : ∃ p, p = S k 1 := ⟨_, rfl⟩
          rw [← hg0, ← hp0] at hw
          rw [← hg0] at c0
          rw [← hp0] at c1
          clear hg0 hp0
          have hbr : Below wr.heap.size wr (wr.alloc (.cells #[.int .i64 g, .int .i64 p] 67)) := (Below.refl _ _).alloc (Nat.le_refl _) _
          have hbr2 := hbk.trans (hbr.mono hbk.size)
          rcases hw with ⟨v1, hw⟩ | ⟨v1, ⟨v2, hw⟩ | ⟨v2, v3, hw⟩ | ⟨v2, v3, hw⟩⟩
          rotate_right 1
          · have HW := Lib.hid hw
            clear hw HS
            go_wp2_with (first | (go_at_call 26; refine (refIsGuest_any _ _ _ _ _ _ _ _ _ _ _ _ hgn).mono ?_; rintro e w2 ⟨rfl, hb2⟩; have hq2 := old_cells hb2))
            go_roundw
            case rel => exact ⟨k + 1, by omega, by go_num, Lib.hid (more_false hno.out HW.out), hb.trans ((hbr.mono hb.size).trans (hb2.mono (by simp; have := hb.size; omega)))⟩
            case measure => simp [intOf]; omega
          all_goals
            have HF := Lib.hid (HS.out hw)
            clear HS hw
            go_wp2_with (first | (go_at_call 26; refine (refIsGuest_any _ _ _ _ _ _ _ _ _ _ _ _ hgn).mono ?_; rintro e w2 ⟨rfl, hb2⟩; have hq2 := old_cells hb2))
            go_ret2
            exact ⟨by rw [HF.out]; rfl, hbr2.trans (hb2.mono hbr2.size)⟩
        · have hkn : k = sn := by omega
          subst hkn
          have b1 : ¬ (k : Int) < (k : Int) := by omega
          have hres : foundZ false (firstI k WR) = (false, 0) := by rw [firstI_none hno.out]; rfl
          have HF := Lib.hid hres
          clear hres
          go_wp2
          go_ret2
          exact ⟨by rw [HF.out]; rfl, hbk⟩

set_option maxRecDepth 100000 in
theorem refNeed_any (c : Cfg) (B : Nat) (w : World) (hB : B ≤ w.heap.size) (hc : c.At w B) (hn : c.gn ≤ 4) (hs : Small c.G c.gn) :
    Calls Tryz.prog 27 #[c.v] w fun e w' => e = .returned (.int .i64 (need c)) ∧ Below w.heap.size w w' := by
  have HB0 := one_new w
  have hln := hc.ln
  have HN : Hid (need c = sumG c.G c.gn + c.nn) := Lib.hid rfl
  obtain ⟨nd, hnd⟩ : ∃ nd, nd = need c := ⟨_, rfl⟩
  rw [← hnd] at HN ⊢
  have HG : Hid (RowT 3 w B c.ga c.gn c.G) := Lib.hid hc.g
  have HS := Lib.hid hs
  clear hc hs hnd
  obtain ⟨cats, ga, gn, gc, ra, rn, rc, pa, pn, pc, na, nn, nc, sa, sn, sc, gate, quota, G, R, P, N, S⟩ := c
  dsimp only at HN HG HS hln hn
  go_enter Tryz.func27, Tryz.ntmps27
  go_wp2
  have hbw := HB0.out (.cells #[.int .i64 cats, .slice ga gn gc, .slice ra rn rc, .slice pa pn pc, .slice na nn nc, .slice sa sn sc, .int .i64 gate, .int .i64 quota] 28)
  obtain ⟨w1, hw1⟩ : ∃ w1, w1 = w.alloc (.cells #[.int .i64 cats, .slice ga gn gc, .slice ra rn rc, .slice pa pn pc, .slice na nn nc, .slice sa sn sc, .int .i64 gate, .int .i64 quota] 28) := ⟨_, rfl⟩
  have HK1 : Hid (w1.cell? ⟨w.heap.size, 1, none⟩ = some (.slice ga gn gc)) := Lib.hid (by rw [hw1]; simp)
  have s1 : w.heap.size < w1.heap.size := by rw [hw1]; simp
  rw [← hw1] at hbw ⊢
  clear hw1
  go_loopw [3, 4] (fun s i wr => ∃ k : Nat, k ≤ gn ∧ s = .int .i64 (nn + sumG G k) ∧ i = .int .i64 k ∧ Below w1.heap.size w1 wr) (fun _ i _ => gn - (intOf i).toNat)
  case atStart => exact ⟨0, Nat.zero_le _, by simp [sumG], rfl, Below.refl _ _⟩
  case round =>
    obtain ⟨k, hk, rfl, rfl, hb⟩ := hrel
    have hbk : Below w.heap.size w wr := hbw.trans (hb.mono (by omega))
    have k1 := (old_cells hb _ 1 s1).trans HK1.out
    have sr : w.heap.size < wr.heap.size := by have := hb.size; omega
    by_cases hlt : k < gn
    · obtain ⟨x, rfl, hx, c0, c1, c2⟩ := (HG.out.below (hbk.mono hB)).at3 k hlt
      have hxs : (x.add (k * 3)).block < wr.heap.size := by rw [block_of_add]; omega
      have hsb := sumG_bd HS.out k hk
      have hst := HS.out k hlt
      have hsn : Hid (sumG G (k + 1) = sumG G k + (G k 1 + G k 2)) := Lib.hid rfl
      have b0 : (0 : Int) ≤ (k : Int) := by omega
      have b1 : (k : Int) < (gn : Int) := by omega
      obtain ⟨s, hs⟩ : ∃ s, s = sumG G k := ⟨_, rfl⟩
      obtain ⟨p, hp⟩ : ∃ p, p = G k 1 := ⟨_, rfl⟩
      obtain ⟨q, hq⟩ : ∃ q, q = G k 2 := ⟨_, rfl⟩
      rw [← hs, ← hp, ← hq] at hsn
      rw [← hs] at hsb ⊢
      rw [← hp, ← hq] at hst
      rw [← hp] at c1
      rw [← hq] at c2
      clear hs hp hq
      have hw1 : IntKind.i64.wrap ((nn : Int) + s + p) = (nn : Int) + s + p := IntWalk.i64_in _ (by omega)
      have hw2 : IntKind.i64.wrap ((nn : Int) + s + p + q) = (nn : Int) + s + p + q := IntWalk.i64_in _ (by omega)
      clear c0
      go_wp2
      apply wp_region_auto [15, 16, 17, 18, 19, 20, 21, 22, 23, 24, 25, 26, 27, 28, 29] [_, _, _, _, _, _, _, _, _, _, _, _, _, _, _] (fun W' => Below wr.heap.size wr W')
      case hm => kernel_rfl
      case hT => intro y; simp only [setAll, List.setIfInBounds_toArray, List.set_cons_succ, List.set_cons_zero]; exact rfl
      case hok => kernel_rfl
      case hn => decide
      case hw => exact (Below.refl _ _).drew
      case hs =>
        refine auto_op 15 [] (by kernel_rfl) (fun y w' HW hd K hK => ?_) ?_
        · go_simp
          refine hK _ _ ?_ ?_ HW
          · simp [upd]
          · exact rfl
        refine auto_op 16 [] (by kernel_rfl) (fun y w' HW hd K hK => ?_) ?_
        · go_simp
          refine hK _ _ ?_ ?_ HW
          · simp [upd]
          · exact rfl
        refine auto_op 17 [1] (by kernel_rfl) (fun y w' HW hd K hK => ?_) ?_
        · have e1 := hd_nth (hd 1 (by simp)) rfl
          have hcl : ∀ p : Addr, p.block < wr.heap.size → w'.cell? p = wr.cell? p := fun p hp => HW.cell hp
          go_simp
          refine hK _ _ ?_ ?_ HW
          · simp [upd, e1]
          · exact rfl
        refine auto_op 18 [] (by kernel_rfl) (fun y w' HW hd K hK => ?_) ?_
        · go_simp
          refine hK _ _ ?_ ?_ HW
          · simp [upd]
          · exact rfl
        refine auto_op 19 [2, 3] (by kernel_rfl) (fun y w' HW hd K hK => ?_) ?_
        · have e2 := hd_nth (hd 2 (by simp)) rfl
          have e3 := hd_nth (hd 3 (by simp)) rfl
          go_simp
          refine hK _ _ ?_ ?_ HW
          · simp [upd, e2, e3]
          · exact rfl
        refine auto_op 20 [4] (by kernel_rfl) (fun y w' HW hd K hK => ?_) ?_
        · have e4 := hd_nth (hd 4 (by simp)) rfl
          go_simp
          refine hK _ _ ?_ ?_ HW
          · simp [upd, e4]
          · exact rfl
        refine auto_op 21 [5] (by kernel_rfl) (fun y w' HW hd K hK => ?_) ?_
        · have e5 := hd_nth (hd 5 (by simp)) rfl
          have hcl : ∀ p : Addr, p.block < wr.heap.size → w'.cell? p = wr.cell? p := fun p hp => HW.cell hp
          go_simp
          refine hK _ _ ?_ ?_ HW
          · simp [upd, e5]
          · exact rfl
        refine auto_op 22 [0, 6] (by kernel_rfl) (fun y w' HW hd K hK => ?_) ?_
        · have e0 := hd_nth (hd 0 (by simp)) rfl
          have e6 := hd_nth (hd 6 (by simp)) rfl
          go_simp
          refine hK _ _ ?_ ?_ HW
          · simp [upd, e0, e6]
          · exact rfl
        refine auto_op 23 [] (by kernel_rfl) (fun y w' HW hd K hK => ?_) ?_
        · go_simp
          refine hK _ _ ?_ ?_ HW
          · simp [upd]
          · exact rfl
        refine auto_op 24 [8] (by kernel_rfl) (fun y w' HW hd K hK => ?_) ?_
        · have e8 := hd_nth (hd 8 (by simp)) rfl
          have hcl : ∀ p : Addr, p.block < wr.heap.size → w'.cell? p = wr.cell? p := fun p hp => HW.cell hp
          go_simp
          refine hK _ _ ?_ ?_ HW
          · simp [upd, e8]
          · exact rfl
        refine auto_op 25 [] (by kernel_rfl) (fun y w' HW hd K hK => ?_) ?_
        · go_simp
          refine hK _ _ ?_ ?_ HW
          · simp [upd]
          · exact rfl
        refine auto_op 26 [9, 10] (by kernel_rfl) (fun y w' HW hd K hK => ?_) ?_
        · have e9 := hd_nth (hd 9 (by simp)) rfl
          have e10 := hd_nth (hd 10 (by simp)) rfl
          go_simp
          refine hK _ _ ?_ ?_ HW
          · simp [upd, e9, e10]
          · exact rfl
        refine auto_op 27 [11] (by kernel_rfl) (fun y w' HW hd K hK => ?_) ?_
        · have e11 := hd_nth (hd 11 (by simp)) rfl
          go_simp
          refine hK _ _ ?_ ?_ HW
          · simp [upd, e11]
          · exact rfl
        refine auto_op 28 [12] (by kernel_rfl) (fun y w' HW hd K hK => ?_) ?_
        · have e12 := hd_nth (hd 12 (by simp)) rfl
          have hcl : ∀ p : Addr, p.block < wr.heap.size → w'.cell? p = wr.cell? p := fun p hp => HW.cell hp
          go_simp
          refine hK _ _ ?_ ?_ HW
          · simp [upd, e12]
          · exact rfl
        refine auto_op 29 [7, 13] (by kernel_rfl) (fun y w' HW hd K hK => ?_) ?_
        · have e7 := hd_nth (hd 7 (by simp)) rfl
          have e13 := hd_nth (hd 13 (by simp)) rfl
          go_simp
          refine hK _ _ ?_ ?_ HW
          · simp [upd, e7, e13]
          · exact rfl
        refine auto_last fun y w' HW hd K hK => ?_
        have e0 := hd_nth (hd 0 (by omega)) rfl
        have e1 := hd_nth (hd 1 (by omega)) rfl
        have e2 := hd_nth (hd 2 (by omega)) rfl
        have e3 := hd_nth (hd 3 (by omega)) rfl
        have e4 := hd_nth (hd 4 (by omega)) rfl
        have e5 := hd_nth (hd 5 (by omega)) rfl
        have e6 := hd_nth (hd 6 (by omega)) rfl
        have e7 := hd_nth (hd 7 (by omega)) rfl
        have e8 := hd_nth (hd 8 (by omega)) rfl
        have e9 := hd_nth (hd 9 (by omega)) rfl
        have e10 := hd_nth (hd 10 (by omega)) rfl
        have e11 := hd_nth (hd 11 (by omega)) rfl
        have e12 := hd_nth (hd 12 (by omega)) rfl
        have e13 := hd_nth (hd 13 (by omega)) rfl
        have e14 := hd_nth (hd 14 (by omega)) rfl
        go_simp
        refine hK _ _ ?_
        clear hd hK K e0 e1 e2 e3 e4 e5 e6 e7 e8 e9 e10 e11 e12 e13 e14
        clear hw1 hw2
        go_wp2
        go_roundw
        case rel => exact ⟨k + 1, by omega, by rw [hsn.out]; congr 1; omega, by go_num, hb.trans (HW.mono hb.size)⟩
        case measure => simp [intOf]; omega
    · have hkn : k = gn := by omega
      subst hkn
      have b1 : ¬ (k : Int) < (k : Int) := by omega
      have HF : Hid ((nn : Int) + sumG G k = nd) := Lib.hid (by rw [HN.out]; omega)
      go_wp2
      go_ret
      exact ⟨by rw [← HF.out]; rfl, hbk⟩
end Go.Proofs.YtikkfapgmbamlaaGreatDoor.Cf
end
