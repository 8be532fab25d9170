/- What follows of a configuration, by the document: Frames, Period, Bound, First, RingFrame, PortOf, RangeOf. -/
import Derived.Test.YtmekoanobicddaaCs
namespace Go.Proofs.Ytmekoanobicddaa.Cf
open Go.RowKit Ut
set_option linter.unusedVariables false

theorem refFrames_any (c : Cfg) (B : Nat) (w : World) (hB : B ≤ w.heap.size) (hc : c.At w B) :
    Calls Try.prog 20 #[c.v] w fun e w' => e = .returned (.int .i64 (framesZ c)) ∧ Below w.heap.size w w' := by
  have HB0 := one_new w
  unfold framesZ
  cases hr : rightB c
  · have HR := refRight_keep c B w hB hc _ hr
    clear hr hc
    simp only [Bool.false_eq_true, if_false]
    go_enter Try.func20, Try.ntmps20
    go_wp2_with fail
    refine (HR.out _ (HB0.out _)).mono ?_
    rintro e w1 ⟨rfl, hb⟩
    go_wp2
    go_ret
    exact ⟨rfl, (HB0.out _).trans (hb.mono (by simp))⟩
  · have HR := refRight_keep c B w hB hc _ hr
    obtain ⟨hn, _, hs⟩ := right_small hr
    have HF : Hid (∀ W, Below w.heap.size w W → Calls Try.prog 52 #[c.v] W fun e w' => e = .returned (.int .i64 (need c)) ∧ Below W.heap.size W w') := Lib.hid fun W hW => refNeed_any c B W (by have := hW.size; omega) (hc.below (hW.mono hB)) hn hs
    clear hr hc hs
    simp only [if_true]
    obtain ⟨n, hn⟩ : ∃ n, n = need c := ⟨_, rfl⟩
    rw [← hn] at HF ⊢
    clear hn
    go_enter Try.func20, Try.ntmps20
    go_wp2_with fail
    refine (HR.out _ (HB0.out _)).mono ?_
    rintro e w1 ⟨rfl, hb⟩
    have hq := old_cells hb
    have hbw := (HB0.out _).trans (hb.mono (by simp))
    go_wp2_with fail
    refine (HF.out _ hbw).mono ?_
    rintro e w2 ⟨rfl, hb2⟩
    go_wp2
    go_ret
    exact ⟨rfl, hbw.trans (hb2.mono hbw.size)⟩

theorem refBound_any (c : Cfg) (B : Nat) (w : World) (hB : B ≤ w.heap.size) (hc : c.At w B) :
    Calls Try.prog 24 #[c.v] w fun e w' => e = .returned (.int .i64 (boundZ c)) ∧ Below w.heap.size w w' := by
  have HB0 := one_new w
  unfold boundZ
  cases hr : rightB c
  · have HR := refRight_keep c B w hB hc _ hr
    clear hr hc
    simp only [Bool.false_eq_true, if_false]
    go_enter Try.func24, Try.ntmps24
    go_wp2_with fail
    refine (HR.out _ (HB0.out _)).mono ?_
    rintro e w1 ⟨rfl, hb⟩
    go_wp2
    go_ret
    exact ⟨rfl, (HB0.out _).trans (hb.mono (by simp))⟩
  · have HR := refRight_keep c B w hB hc _ hr
    have hq0 := right_gate hr
    clear hr hc
    simp only [if_true]
    obtain ⟨q0, q1⟩ := hq0
    go_enter Try.func24, Try.ntmps24
    go_wp2_with fail
    refine (HR.out _ (HB0.out _)).mono ?_
    rintro e w1 ⟨rfl, hb⟩
    have hq := old_cells hb
    go_wp2
    go_ret
    exact ⟨rfl, (HB0.out _).trans (hb.mono (by simp))⟩

set_option maxRecDepth 100000 in
theorem refPeriod_any (c : Cfg) (B : Nat) (w : World) (hB : B ≤ w.heap.size) (hc : c.At w B) :
    Calls Try.prog 22 #[c.v] w fun e w' => e = .returned (.int .i64 (periodZ c)) ∧ Below w.heap.size w w' := by
  have HB0 := one_new w
  unfold periodZ
  cases hr : rightB c
  · have HR := refRight_keep c B w hB hc _ hr
    clear hr hc
    simp only [Bool.false_eq_true, if_false]
    go_enter Try.func22, Try.ntmps22
    go_wp2_with fail
    refine (HR.out _ (HB0.out _)).mono ?_
    rintro e w1 ⟨rfl, hb⟩
    go_wp2
    go_ret
    exact ⟨rfl, (HB0.out _).trans (hb.mono (by simp))⟩
  · have HR := refRight_keep c B w hB hc _ hr
    obtain ⟨_, hsn⟩ := right_slots hr
    have HS : Hid (RowT 2 w B c.sa c.sn c.S) := Lib.hid hc.s
    have HBd : Hid (∀ i, i < c.sn → 1 ≤ c.S i 1 ∧ c.S i 1 ≤ 32) := Lib.hid fun i hi => (right_slot hr i hi).2
    simp only [if_true]
    clear hr hc
    obtain ⟨cats, ga, gn, gc, ra, rn, rc, pa, pn, pc, na, nn, nc, sa, sn, sc, gate, quota, G, R, P, N, S⟩ := c
    dsimp only at HS HBd hsn HR ⊢
    go_enter Try.func22, Try.ntmps22
    go_wp2_with fail
    refine (HR.out _ (HB0.out _)).mono ?_
    rintro e w1 ⟨rfl, hb⟩
    have hk5 : w1.cell? ⟨w.heap.size, 5, none⟩ = some (.slice sa sn sc) := by rw [old_cells hb _ 5 (by simp)]; simp
    have HK5 := Lib.hid hk5
    have s1 : w.heap.size < w1.heap.size := by have := hb.size; simp at this; omega
    have hbw := (HB0.out _).trans (hb.mono (by simp))
    clear hb hk5
    go_wp2
    go_loopw [3, 4] (fun s i wr => ∃ k : Nat, k ≤ sn ∧ s = .int .i64 (sumS S k) ∧ i = .int .i64 k ∧ Below w1.heap.size w1 wr) (fun _ i _ => sn - (intOf i).toNat)
    case atStart => exact ⟨0, Nat.zero_le _, rfl, rfl, Below.refl _ _⟩
    case round =>
      obtain ⟨k, hk, rfl, rfl, hb⟩ := hrel
      have hbk : Below w.heap.size w wr := hbw.trans (hb.mono hbw.size)
      have k5 := (old_cells hb _ 5 s1).trans HK5.out
      by_cases hlt : k < sn
      · obtain ⟨x, rfl, hx, c0, c1⟩ := (HS.out.below (hbk.mono hB)).at2 k hlt
        have hsb := sumS_bd HBd.out k hk
        have hst := HBd.out k hlt
        have hsn2 : Hid (sumS S (k + 1) = sumS S k + S k 1) := Lib.hid rfl
        have b0 : (0 : Int) ≤ (k : Int) := by omega
        have b1 : (k : Int) < (sn : Int) := by omega
        obtain ⟨s, hs⟩ : ∃ s, s = sumS S k := ⟨_, rfl⟩
        obtain ⟨p, hp⟩ : ∃ p, p = S k 1 := ⟨_, rfl⟩
        rw [← hs, ← hp] at hsn2
        rw [← hs] at hsb ⊢
        rw [← hp] at hst c1
        clear hs hp
        go_wp2
        go_roundw
        case rel => exact ⟨k + 1, by omega, by rw [hsn2.out], by go_num, hb⟩
        case measure => simp [intOf]; omega
      · have hkn : k = sn := by omega
        subst hkn
        have b1 : ¬ (k : Int) < (k : Int) := by omega
        go_wp2
        go_ret
        exact ⟨rfl, hbk⟩

set_option maxRecDepth 100000 in
theorem refFirst_any (c : Cfg) (g : Int) (B : Nat) (w : World) (hB : B ≤ w.heap.size) (hc : c.At w B) :
    Calls Try.prog 28 #[c.v, .int .i64 g] w fun e w' => e = .returned (.int .i64 (firstZ c g)) ∧ Below w.heap.size w w' := by
  have HB0 := one_new w
  have hlg := hc.lg
  have hgn : c.gn ≤ 140737488355328 := by omega
  unfold firstZ
  cases hr : rightB c
  · have HR := refRight_keep c B w hB hc _ hr
    clear hr hc
    simp only [Bool.false_and, Bool.false_eq_true, if_false]
    go_enter Try.func28, Try.ntmps28
    go_wp2_with fail
    refine (HR.out _ (HB0.out _)).mono ?_
    rintro e w1 ⟨rfl, hb⟩
    go_wp2
    go_ret
    exact ⟨rfl, (HB0.out _).trans (hb.mono (by simp))⟩
  · have HR := refRight_keep c B w hB hc _ hr
    cases hg : isGn c.gn g
    · clear hr hc
      simp only [Bool.and_false, Bool.false_eq_true, if_false]
      go_enter Try.func28, Try.ntmps28
      go_wp2_with fail
      refine (HR.out _ (HB0.out _)).mono ?_
      rintro e w1 ⟨rfl, hb⟩
      have hq := old_cells hb
      have hbw := (HB0.out _).trans (hb.mono (by simp))
      go_wp2_with fail
      refine (refIsGuest_any _ _ _ _ _ _ _ _ _ _ _ _ hgn).mono ?_
      rintro e w2 ⟨rfl, hb2⟩
      go_wp2
      go_ret
      exact ⟨rfl, hbw.trans (hb2.mono hbw.size)⟩
    · obtain ⟨m, rfl, hm⟩ := isGn_true hg
      obtain ⟨hn, _, hs⟩ := right_small hr
      have HG : Hid (RowT 3 w B c.ga c.gn c.G) := Lib.hid hc.g
      have HS := Lib.hid hs
      simp only [Bool.and_self, if_true, Int.toNat_natCast]
      clear hc hs hr
      obtain ⟨cats, ga, gn, gc, ra, rn, rc, pa, pn, pc, na, nn, nc, sa, sn, sc, gate, quota, G, R, P, N, S⟩ := c
      dsimp only at hm hn HS HG hlg hgn HR hg ⊢
      go_enter Try.func28, Try.ntmps28
      go_wp2_with fail
      refine (HR.out _ (HB0.out _)).mono ?_
      rintro e w1 ⟨rfl, hb⟩
      have hq := old_cells hb
      have s1 : w.heap.size < w1.heap.size := by have := hb.size; simp at this; omega
      have hbw := (HB0.out _).trans (hb.mono (by simp))
      have HK1 : Hid (w1.cell? ⟨w.heap.size, 1, none⟩ = some (.slice ga gn gc)) := Lib.hid (by rw [hq _ 1 (by simp)]; simp)
      go_wp2_with fail
      clear hq hb
      refine (refIsGuest_any _ _ _ _ _ _ _ _ _ _ _ _ hgn).mono ?_
      rintro e w2 ⟨rfl, hb2⟩
      have HK2 : Hid (w2.cell? ⟨w.heap.size, 1, none⟩ = some (.slice ga gn gc)) := Lib.hid ((old_cells hb2 _ 1 s1).trans HK1.out)
      have s2 : w.heap.size < w2.heap.size := by have := hb2.size; omega
      have hbw2 := hbw.trans (hb2.mono hbw.size)
      clear hb2 HK1
      go_wp2
      clear hg
      go_loopw [5, 6] (fun s i wr => ∃ k : Nat, k ≤ m ∧ s = .int .i64 (sumG G k) ∧ i = .int .i64 k ∧ Below w2.heap.size w2 wr) (fun _ i _ => m - (intOf i).toNat)
      case atStart => exact ⟨0, Nat.zero_le _, rfl, rfl, Below.refl _ _⟩
      case round =>
        obtain ⟨k, hk, rfl, rfl, hb⟩ := hrel
        have hbk : Below w.heap.size w wr := hbw2.trans (hb.mono (by omega))
        have k1 := (old_cells hb _ 1 s2).trans HK2.out
        have sr : w.heap.size < wr.heap.size := by have := hb.size; omega
        by_cases hlt : k < m
        · obtain ⟨x, rfl, hx, c0, c1, c2⟩ := (HG.out.below (hbk.mono hB)).at3 k (by omega)
          have hxs : (x.add (k * 3)).block < wr.heap.size := by rw [block_of_add]; omega
          have hsb := sumG_bd HS.out k (by omega)
          have hst := HS.out k (by omega)
          have hsn : Hid (sumG G (k + 1) = sumG G k + (G k 1 + G k 2)) := Lib.hid rfl
          have b0 : (0 : Int) ≤ (k : Int) := by omega
          have b1 : (k : Int) < (m : Int) := by omega
          have b2 : (k : Int) < (gn : Int) := by omega
          obtain ⟨s, hs⟩ : ∃ s, s = sumG G k := ⟨_, rfl⟩
          obtain ⟨p, hp⟩ : ∃ p, p = G k 1 := ⟨_, rfl⟩
          obtain ⟨q, hq⟩ : ∃ q, q = G k 2 := ⟨_, rfl⟩
          rw [← hs, ← hp, ← hq] at hsn
          rw [← hs] at hsb ⊢
          rw [← hp, ← hq] at hst
          rw [← hp] at c1
          rw [← hq] at c2
          clear hs hp hq
          have hw1 : IntKind.i64.wrap (s + p) = s + p := IntWalk.i64_in _ (by omega)
          have hw2 : IntKind.i64.wrap (s + p + q) = s + p + q := IntWalk.i64_in _ (by omega)
          clear c0
          go_wp2
          apply wp_region_auto [21, 22, 23, 24, 25, 26, 27, 28, 29, 30, 31, 32, 33, 34, 35] [_, _, _, _, _, _, _, _, _, _, _, _, _, _, _] (fun W' => Below wr.heap.size wr W')
          case hm => kernel_rfl
          case hT => intro y; simp only [setAll, List.setIfInBounds_toArray, List.set_cons_succ, List.set_cons_zero]; exact rfl
          case hok => kernel_rfl
          case hn => decide
          case hw => exact (Below.refl _ _).drew
          case hs =>
            refine auto_op 21 [] (by kernel_rfl) (fun y w' HW hd K hK => ?_) ?_
            · go_simp
              refine hK _ _ ?_ ?_ HW
              · simp [upd]
              · exact rfl
            refine auto_op 22 [] (by kernel_rfl) (fun y w' HW hd K hK => ?_) ?_
            · go_simp
              refine hK _ _ ?_ ?_ HW
              · simp [upd]
              · exact rfl
            refine auto_op 23 [1] (by kernel_rfl) (fun y w' HW hd K hK => ?_) ?_
            · have e1 := hd_nth (hd 1 (by simp)) rfl
              have hcl : ∀ p : Addr, p.block < wr.heap.size → w'.cell? p = wr.cell? p := fun p hp => HW.cell hp
              go_simp
              refine hK _ _ ?_ ?_ HW
              · simp [upd, e1]
              · exact rfl
            refine auto_op 24 [] (by kernel_rfl) (fun y w' HW hd K hK => ?_) ?_
            · go_simp
              refine hK _ _ ?_ ?_ HW
              · simp [upd]
              · exact rfl
            refine auto_op 25 [2, 3] (by kernel_rfl) (fun y w' HW hd K hK => ?_) ?_
            · have e2 := hd_nth (hd 2 (by simp)) rfl
              have e3 := hd_nth (hd 3 (by simp)) rfl
              go_simp
              refine hK _ _ ?_ ?_ HW
              · simp [upd, e2, e3]
              · exact rfl
            refine auto_op 26 [4] (by kernel_rfl) (fun y w' HW hd K hK => ?_) ?_
            · have e4 := hd_nth (hd 4 (by simp)) rfl
              go_simp
              refine hK _ _ ?_ ?_ HW
              · simp [upd, e4]
              · exact rfl
            refine auto_op 27 [5] (by kernel_rfl) (fun y w' HW hd K hK => ?_) ?_
            · have e5 := hd_nth (hd 5 (by simp)) rfl
              have hcl : ∀ p : Addr, p.block < wr.heap.size → w'.cell? p = wr.cell? p := fun p hp => HW.cell hp
              go_simp
              refine hK _ _ ?_ ?_ HW
              · simp [upd, e5]
              · exact rfl
            refine auto_op 28 [0, 6] (by kernel_rfl) (fun y w' HW hd K hK => ?_) ?_
            · have e0 := hd_nth (hd 0 (by simp)) rfl
              have e6 := hd_nth (hd 6 (by simp)) rfl
              go_simp
              refine hK _ _ ?_ ?_ HW
              · simp [upd, e0, e6]
              · exact rfl
            refine auto_op 29 [] (by kernel_rfl) (fun y w' HW hd K hK => ?_) ?_
            · go_simp
              refine hK _ _ ?_ ?_ HW
              · simp [upd]
              · exact rfl
            refine auto_op 30 [8] (by kernel_rfl) (fun y w' HW hd K hK => ?_) ?_
            · have e8 := hd_nth (hd 8 (by simp)) rfl
              have hcl : ∀ p : Addr, p.block < wr.heap.size → w'.cell? p = wr.cell? p := fun p hp => HW.cell hp
              go_simp
              refine hK _ _ ?_ ?_ HW
              · simp [upd, e8]
              · exact rfl
            refine auto_op 31 [] (by kernel_rfl) (fun y w' HW hd K hK => ?_) ?_
            · go_simp
              refine hK _ _ ?_ ?_ HW
              · simp [upd]
              · exact rfl
            refine auto_op 32 [9, 10] (by kernel_rfl) (fun y w' HW hd K hK => ?_) ?_
            · have e9 := hd_nth (hd 9 (by simp)) rfl
              have e10 := hd_nth (hd 10 (by simp)) rfl
              go_simp
              refine hK _ _ ?_ ?_ HW
              · simp [upd, e9, e10]
              · exact rfl
            refine auto_op 33 [11] (by kernel_rfl) (fun y w' HW hd K hK => ?_) ?_
            · have e11 := hd_nth (hd 11 (by simp)) rfl
              go_simp
              refine hK _ _ ?_ ?_ HW
              · simp [upd, e11]
              · exact rfl
            refine auto_op 34 [12] (by kernel_rfl) (fun y w' HW hd K hK => ?_) ?_
            · have e12 := hd_nth (hd 12 (by simp)) rfl
              have hcl : ∀ p : Addr, p.block < wr.heap.size → w'.cell? p = wr.cell? p := fun p hp => HW.cell hp
              go_simp
              refine hK _ _ ?_ ?_ HW
              · simp [upd, e12]
              · exact rfl
            refine auto_op 35 [7, 13] (by kernel_rfl) (fun y w' HW hd K hK => ?_) ?_
            · have e7 := hd_nth (hd 7 (by simp)) rfl
              have e13 := hd_nth (hd 13 (by simp)) rfl
              go_simp
              refine hK _ _ ?_ ?_ HW
              · simp [upd, e7, e13]
              · exact rfl
            refine auto_last fun y w' HW hd K hK => ?_
            have e0 := hd_nth (hd 0 (by omega)) rfl
            have e1 := hd_nth (hd 1 (by omega)) rfl
            have e2 := hd_nth (hd 2 (by omega)) rfl
            have e3 := hd_nth (hd 3 (by omega)) rfl
            have e4 := hd_nth (hd 4 (by omega)) rfl
            have e5 := hd_nth (hd 5 (by omega)) rfl
            have e6 := hd_nth (hd 6 (by omega)) rfl
            have e7 := hd_nth (hd 7 (by omega)) rfl
            have e8 := hd_nth (hd 8 (by omega)) rfl
            have e9 := hd_nth (hd 9 (by omega)) rfl
            have e10 := hd_nth (hd 10 (by omega)) rfl
            have e11 := hd_nth (hd 11 (by omega)) rfl
            have e12 := hd_nth (hd 12 (by omega)) rfl
            have e13 := hd_nth (hd 13 (by omega)) rfl
            have e14 := hd_nth (hd 14 (by omega)) rfl
            go_simp
            refine hK _ _ ?_
            clear hd hK K e0 e1 e2 e3 e4 e5 e6 e7 e8 e9 e10 e11 e12 e13 e14
            clear hw1 hw2
            go_wp2
            go_roundw
            case rel => exact ⟨k + 1, by omega, by rw [hsn.out]; congr 1; omega, by go_num, hb.trans (HW.mono hb.size)⟩
            case measure => simp [intOf]; omega
        · have hkn : k = m := by omega
          subst hkn
          have b1 : ¬ (k : Int) < (k : Int) := by omega
          go_wp2
          go_ret
          exact ⟨rfl, hbk⟩

set_option maxRecDepth 100000 in
theorem refRingFrame_any (c : Cfg) (i : Int) (B : Nat) (w : World) (hB : B ≤ w.heap.size) (hc : c.At w B) :
    Calls Try.prog 30 #[c.v, .int .i64 i] w fun e w' => e = .returned (.int .i64 (ringZ c i)) ∧ Below w.heap.size w w' := by
  have HB0 := one_new w
  unfold ringZ
  cases hr : rightB c
  · have HR := refRight_keep c B w hB hc _ hr
    clear hr hc
    simp only [Bool.false_and, Bool.false_eq_true, if_false]
    go_enter Try.func30, Try.ntmps30
    go_wp2_with fail
    refine (HR.out _ (HB0.out _)).mono ?_
    rintro e w1 ⟨rfl, hb⟩
    go_wp2
    go_ret
    exact ⟨rfl, (HB0.out _).trans (hb.mono (by simp))⟩
  · have HR := refRight_keep c B w hB hc _ hr
    by_cases h0 : i < 0
    · have hg : isGn c.nn i = false := by unfold isGn; simp; omega
      rw [hg]
      clear hr hc hg
      simp only [Bool.and_false, Bool.false_eq_true, if_false]
      go_enter Try.func30, Try.ntmps30
      go_wp2_with fail
      refine (HR.out _ (HB0.out _)).mono ?_
      rintro e w1 ⟨rfl, hb⟩
      have hq := old_cells hb
      go_wp2
      go_ret
      exact ⟨rfl, (HB0.out _).trans (hb.mono (by simp))⟩
    · by_cases h1 : (c.nn : Int) ≤ i
      · have hg : isGn c.nn i = false := by unfold isGn; simp; omega
        rw [hg]
        clear hr hc hg
        simp only [Bool.and_false, Bool.false_eq_true, if_false]
        go_enter Try.func30, Try.ntmps30
        go_wp2_with fail
        refine (HR.out _ (HB0.out _)).mono ?_
        rintro e w1 ⟨rfl, hb⟩
        have hq := old_cells hb
        go_wp2
        go_ret
        exact ⟨rfl, (HB0.out _).trans (hb.mono (by simp))⟩
      · have hg : isGn c.nn i = true := by unfold isGn; simp; omega
        have hn4 := right_rings hr
        obtain ⟨hn, _, hs⟩ := right_small hr
        have hbd := sumG_bd hs c.gn (Nat.le_refl _)
        have HF : Hid (∀ W, Below w.heap.size w W → Calls Try.prog 52 #[c.v] W fun e w' => e = .returned (.int .i64 (sumG c.G c.gn + c.nn)) ∧ Below W.heap.size W w') := Lib.hid fun W hW => refNeed_any c B W (by have := hW.size; omega) (hc.below (hW.mono hB)) hn hs
        rw [hg]
        simp only [Bool.and_self, if_true]
        obtain ⟨m, hm⟩ : ∃ m, m = sumG c.G c.gn := ⟨_, rfl⟩
        rw [← hm] at HF hbd ⊢
        clear hm hr hc hs hg
        have hw1 : IntKind.i64.wrap m = m := IntWalk.i64_in _ (by omega)
        have hw2 : IntKind.i64.wrap (m + i) = m + i := IntWalk.i64_in _ (by omega)
        have HW1 := Lib.hid hw1
        have HW2 := Lib.hid hw2
        clear hw1 hw2
        go_enter Try.func30, Try.ntmps30
        go_wp2_with fail
        refine (HR.out _ (HB0.out _)).mono ?_
        rintro e w1 ⟨rfl, hb⟩
        have hq := old_cells hb
        have hbw := (HB0.out _).trans (hb.mono (by simp))
        have hx1 : BoxC w1 w.heap.size c := (hb.block _ (by simp)).trans (heap_alloc_new w _)
        obtain ⟨k0, k1, k2, k3, k4, k5, k6, k7⟩ := hx1.cells
        have s1 : w.heap.size < w1.heap.size := by have := hb.size; simp at this; omega
        have HX1 := Lib.hid hx1
        clear hx1 hq hb
        go_wp2
        clear k0 k1 k2 k3 k4 k5 k6 k7
        obtain ⟨k0, k1, k2, k3, k4, k5, k6, k7⟩ := HX1.out.cells
        apply wp_region_auto [19, 20, 21, 22, 23, 24, 25, 26] [_, _, _, _, _, _, _, _] (fun W' => Below w1.heap.size w1 W')
        case hm => kernel_rfl
        case hT => intro y; simp only [setAll, List.setIfInBounds_toArray, List.set_cons_succ, List.set_cons_zero]; exact rfl
        case hok => kernel_rfl
        case hn => decide
        case hw => exact (Below.refl _ _).drew
        case hs =>
          refine auto_op 19 [] (by kernel_rfl) (fun y w' HW hd K hK => ?_) ?_
          · have hcl : ∀ p : Addr, p.block < w1.heap.size → w'.cell? p = w1.cell? p := fun p hp => HW.cell hp
            go_simp
            refine hK _ _ ?_ ?_ HW
            · simp [upd]
            · exact rfl
          refine auto_op 20 [0] (by kernel_rfl) (fun y w' HW hd K hK => ?_) ?_
          · have e0 := hd_nth (hd 0 (by simp)) rfl
            go_simp
            refine (HF.out _ (hbw.trans (HW.mono hbw.size))).mono ?_
            rintro e w3 ⟨rfl, hb3⟩
            refine hK _ _ ?_ ?_ (HW.trans (hb3.mono HW.size))
            · simp [upd, e0]
            · exact rfl
          refine auto_op 21 [] (by kernel_rfl) (fun y w' HW hd K hK => ?_) ?_
          · go_simp
            refine hK _ _ ?_ ?_ HW
            · simp [upd]
            · exact rfl
          refine auto_op 22 [2] (by kernel_rfl) (fun y w' HW hd K hK => ?_) ?_
          · have e2 := hd_nth (hd 2 (by simp)) rfl
            have hcl : ∀ p : Addr, p.block < w1.heap.size → w'.cell? p = w1.cell? p := fun p hp => HW.cell hp
            go_simp
            refine hK _ _ ?_ ?_ HW
            · simp [upd, e2]
            · exact rfl
          refine auto_op 23 [3] (by kernel_rfl) (fun y w' HW hd K hK => ?_) ?_
          · have e3 := hd_nth (hd 3 (by simp)) rfl
            go_simp
            refine hK _ _ ?_ ?_ HW
            · simp [upd, e3]
            · exact rfl
          refine auto_op 24 [1, 4] (by kernel_rfl) (fun y w' HW hd K hK => ?_) ?_
          · have e1 := hd_nth (hd 1 (by simp)) rfl
            have e4 := hd_nth (hd 4 (by simp)) rfl
            have hw1 := HW1.out
            go_simp
            refine hK _ _ ?_ ?_ HW
            · simp [upd, e1, e4]
            · exact rfl
          refine auto_op 25 [] (by kernel_rfl) (fun y w' HW hd K hK => ?_) ?_
          · go_simp
            refine hK _ _ ?_ ?_ HW
            · simp [upd]
            · exact rfl
          refine auto_op 26 [5, 6] (by kernel_rfl) (fun y w' HW hd K hK => ?_) ?_
          · have e5 := hd_nth (hd 5 (by simp)) rfl
            have e6 := hd_nth (hd 6 (by simp)) rfl
            have hw2 := HW2.out
            go_simp
            refine hK _ _ ?_ ?_ HW
            · simp [upd, e5, e6]
            · exact rfl
          refine auto_last fun y w' HW hd K hK => ?_
          have e0 := hd_nth (hd 0 (by omega)) rfl
          have e1 := hd_nth (hd 1 (by omega)) rfl
          have e2 := hd_nth (hd 2 (by omega)) rfl
          have e3 := hd_nth (hd 3 (by omega)) rfl
          have e4 := hd_nth (hd 4 (by omega)) rfl
          have e5 := hd_nth (hd 5 (by omega)) rfl
          have e6 := hd_nth (hd 6 (by omega)) rfl
          have e7 := hd_nth (hd 7 (by omega)) rfl
          go_simp
          refine hK _ _ ?_
          clear hd hK K e0 e1 e2 e3 e4 e5 e6 e7
          go_wp2
          go_ret
          exact ⟨rfl, hbw.trans (HW.mono hbw.size)⟩
end Go.Proofs.Ytmekoanobicddaa.Cf
