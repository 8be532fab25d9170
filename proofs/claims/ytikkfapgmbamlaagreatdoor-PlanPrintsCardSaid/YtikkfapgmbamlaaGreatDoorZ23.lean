/- Several texts in one: Cf -/
import Derived.Test.YtikkfapgmbamlaaGreatDoorZ22
section
/- isWrongPort. -/
namespace Go.Proofs.YtikkfapgmbamlaaGreatDoor.Cf
open Go.RowKit Ut
set_option maxRecDepth 100000
set_option linter.unusedVariables false

theorem wrongP_cases (c : Cfg) (i : Nat) : (c.P i 1 = -1 ∧ wrongP c i = !La.validB (c.P i 0) c.cats) ∨ (c.P i 1 ≠ -1 ∧ ((isGn c.gn (c.P i 1) = false ∧ wrongP c i = true) ∨ (isGn c.gn (c.P i 1) = true ∧ ∃ g : Nat, c.P i 1 = g ∧ g < c.gn ∧
    ((c.P i 0 ≠ c.G g 0 ∧ wrongP c i = true) ∨ (c.P i 0 = c.G g 0 ∧ ((∃ k : Nat, atI (portI c.P i g) = k ∧ wrongP c i = true) ∨ (atI (portI c.P i g) = -1 ∧ wrongP c i = false))))))) := by
  unfold wrongP
  rw [show isG c (c.P i 1) = isGn c.gn (c.P i 1) from rfl, show portB c i (c.P i 1) = (portI c.P i (c.P i 1)).isSome from rfl]
  by_cases h : c.P i 1 = -1
  · simp [h]
  · rw [if_neg h]
    cases h1 : isGn c.gn (c.P i 1)
    · simp [h]
    · obtain ⟨g, hg, hg2⟩ := isGn_true h1
      refine .inr ⟨h, .inr ⟨rfl, g, hg, hg2, ?_⟩⟩
      rw [hg, Int.toNat_natCast]
      by_cases h2 : c.P i 0 = c.G g 0
      · rw [decide_eq_true h2]
        cases h3 : portI c.P i g with
        | none => exact .inr ⟨h2, .inr ⟨rfl, rfl⟩⟩
        | some k => exact .inr ⟨h2, .inl ⟨k, rfl, rfl⟩⟩
      · rw [decide_eq_false h2]
        exact .inl ⟨h2, by simp⟩

set_option maxRecDepth 100000 in
theorem wrongPort_any (c : Cfg) (i B : Nat) (w : World) (hB : B ≤ w.heap.size) (hc : c.At w B) (hi : i < c.pn) :
    Calls Tryz.prog 40 #[c.v, .int .i64 i] w fun e w' => e = .returned (.bool (wrongP c i)) ∧ Below w.heap.size w w' := by
  have hcs := wrongP_cases c i
  obtain ⟨r, hr⟩ : ∃ r, r = wrongP c i := ⟨_, rfl⟩
  rw [← hr] at hcs ⊢
  have hl := hc.lp
  have hlg := hc.lg
  have hg := hc.p
  have hgg := hc.g
  clear hr hc
  obtain ⟨cats, ga, gn, gc, ra, rn, rc, pa, pn, pc, na, nn, nc, sa, sn, sc, gate, quota, G, R, P, N, S⟩ := c
  dsimp only at hcs hl hi hg hlg hgg
  have hgn : gn ≤ 140737488355328 := by omega
  obtain ⟨x, rfl, hx, c0, c1⟩ := hg.at2 i hi
  have b0 : (0 : Int) ≤ (i : Int) := by omega
  have b1 : (i : Int) < (pn : Int) := by omega
  have HP : Hid (RowT 2 w B (some x) i P) := Lib.hid (hg.take (by omega))
  clear hg
  have hy : (x.add (i * 2)).block < w.heap.size := by rw [block_of_add]; omega
  have HGG := Lib.hid hgg
  clear hgg
  have hAA : ∀ o o' : Obj, Below w.heap.size w ((w.alloc o).alloc o') := fun o o' => ((Below.refl _ _).alloc (Nat.le_refl _) _).alloc (by simp) _
  have HA := Lib.hid hAA
  clear hAA
  rcases hcs with ⟨h1, hres⟩ | ⟨h1, ⟨h2, rfl⟩ | ⟨h2, g, hg, hg2, hres⟩⟩
  · rw [h1] at c1
    clear h1
    obtain ⟨vl, hvl⟩ : ∃ vl, vl = La.validB (P i 0) cats := ⟨_, rfl⟩
    have HV : Hid (∀ W : World, Calls Tryz.prog 65 #[.int .i64 (P i 0), .int .i64 cats] W fun e w' => e = .returned (.bool vl) ∧ W = w') := Lib.hid fun W => by
      rw [hvl]
      exact La.valid_gen _ _ _
    rw [← hvl] at hres
    clear hvl
    cases vl <;> simp only [Bool.not_true, Bool.not_false] at hres <;> subst hres
    all_goals
      go_enter Tryz.func40, Tryz.ntmps40
      go_wp2_with fail
      refine (HV.out _).mono ?_
      rintro e w1 ⟨rfl, rfl⟩
      go_wp2
      go_ret
      exact ⟨rfl, HA.out _ _⟩
  · have h1b : (P i 1 == -1) = false := by simpa using h1
    go_enter Tryz.func40, Tryz.ntmps40
    go_wp2_with fail
    refine (isGuest_any _ _ _ _ _ _ _ _ _ _ _ _ hgn).mono ?_
    rintro e w1 ⟨rfl, hb⟩
    go_wp2
    go_ret
    exact ⟨rfl, (HA.out _ _).trans (hb.mono (by simp; omega))⟩
  · rw [hg] at h1 h2 c1
    clear hg
    obtain ⟨y, rfl, hyb, e0, _, _⟩ := HGG.out.at3 g hg2
    clear HGG
    have h1b : ((g : Int) == -1) = false := by simp
    have HE0 : Hid (∀ W, Below w.heap.size w W → W.cell? (y.add (g * 3)) = some (.int .i64 (G g 0))) := Lib.hid fun W hW => (hW.cell (p := y.add (g * 3)) (by rw [block_of_add]; omega)).trans e0
    clear e0
    have g0 : (0 : Int) ≤ (g : Int) := by omega
    have g1 : (g : Int) < (gn : Int) := by omega
    obtain ⟨l, hl0⟩ : ∃ l, l = P i 0 := ⟨_, rfl⟩
    obtain ⟨m, hm⟩ : ∃ m, m = G g 0 := ⟨_, rfl⟩
    rw [← hl0, ← hm] at hres
    rw [← hl0] at c0
    rw [← hm] at HE0
    clear hl0 hm
    have HY : Hid ((y.add (g * 3)).block < w.heap.size) := Lib.hid (by rw [block_of_add]; omega)
    rcases hres with ⟨h3, rfl⟩ | ⟨h3, hres⟩
    · have h3b : (l != m) = true := by simpa using h3
      go_enter Tryz.func40, Tryz.ntmps40
      go_wp2_with fail
      refine (isGuest_any _ _ _ _ _ _ _ _ _ _ _ _ hgn).mono ?_
      rintro e w1 ⟨rfl, hb⟩
      have hq := old_cells hb
      have hbw : Below w.heap.size w w1 := (HA.out _ _).trans (hb.mono (by simp; omega))
      have d0 := HE0.out _ hbw
      have s1 : w.heap.size < w1.heap.size ∧ w.heap.size + 1 < w1.heap.size := by have := hb.size; simp at this; omega
      obtain ⟨s1, s2⟩ := s1
      have s3 : (y.add (g * 3)).block < w1.heap.size := Nat.lt_trans HY.out s1
      go_wp2
      apply wp_region_auto [22, 23, 24, 25, 26, 27, 28, 29, 30, 31] [_, _, _, _, _, _, _, _, _, _] (fun W' => Below w1.heap.size w1 W')
      case hm => kernel_rfl
      case hT => intro y; simp only [setAll, List.setIfInBounds_toArray, List.set_cons_succ, List.set_cons_zero]; exact rfl
      case hok => kernel_rfl
      case hn => decide
      case hw => exact (Below.refl _ _).drew
      case hs =>
        refine auto_op 22 [] (by kernel_rfl) (fun y w' HW hd K hK => ?_) ?_
        · go_simp
          refine hK _ _ ?_ ?_ HW
          · simp [upd]
          · exact rfl
        refine auto_op 23 [0] (by kernel_rfl) (fun y w' HW hd K hK => ?_) ?_
        · have e0 := hd_nth (hd 0 (by simp)) rfl
          have hcl : ∀ p : Addr, p.block < w1.heap.size → w'.cell? p = w1.cell? p := fun p hp => HW.cell hp
          go_simp
          refine hK _ _ ?_ ?_ HW
          · simp [upd, e0]
          · exact rfl
        refine auto_op 24 [] (by kernel_rfl) (fun y w' HW hd K hK => ?_) ?_
        · go_simp
          refine hK _ _ ?_ ?_ HW
          · simp [upd]
          · exact rfl
        refine auto_op 25 [2] (by kernel_rfl) (fun y w' HW hd K hK => ?_) ?_
        · have e2 := hd_nth (hd 2 (by simp)) rfl
          have hcl : ∀ p : Addr, p.block < w1.heap.size → w'.cell? p = w1.cell? p := fun p hp => HW.cell hp
          go_simp
          refine hK _ _ ?_ ?_ HW
          · simp [upd, e2]
          · exact rfl
        refine auto_op 26 [] (by kernel_rfl) (fun y w' HW hd K hK => ?_) ?_
        · go_simp
          refine hK _ _ ?_ ?_ HW
          · simp [upd]
          · exact rfl
        refine auto_op 27 [4] (by kernel_rfl) (fun y w' HW hd K hK => ?_) ?_
        · have e4 := hd_nth (hd 4 (by simp)) rfl
          have hcl : ∀ p : Addr, p.block < w1.heap.size → w'.cell? p = w1.cell? p := fun p hp => HW.cell hp
          go_simp
          refine hK _ _ ?_ ?_ HW
          · simp [upd, e4]
          · exact rfl
        refine auto_op 28 [3, 5] (by kernel_rfl) (fun y w' HW hd K hK => ?_) ?_
        · have e3 := hd_nth (hd 3 (by simp)) rfl
          have e5 := hd_nth (hd 5 (by simp)) rfl
          go_simp
          refine hK _ _ ?_ ?_ HW
          · simp [upd, e3, e5]
          · exact rfl
        refine auto_op 29 [6] (by kernel_rfl) (fun y w' HW hd K hK => ?_) ?_
        · have e6 := hd_nth (hd 6 (by simp)) rfl
          go_simp
          refine hK _ _ ?_ ?_ HW
          · simp [upd, e6]
          · exact rfl
        refine auto_op 30 [7] (by kernel_rfl) (fun y w' HW hd K hK => ?_) ?_
        · have e7 := hd_nth (hd 7 (by simp)) rfl
          have hcl : ∀ p : Addr, p.block < w1.heap.size → w'.cell? p = w1.cell? p := fun p hp => HW.cell hp
          go_simp
          refine hK _ _ ?_ ?_ HW
          · simp [upd, e7]
          · exact rfl
        refine auto_op 31 [1, 8] (by kernel_rfl) (fun y w' HW hd K hK => ?_) ?_
        · have e1 := hd_nth (hd 1 (by simp)) rfl
          have e8 := hd_nth (hd 8 (by simp)) rfl
          go_simp
          refine hK _ _ ?_ ?_ HW
          · simp [upd, e1, e8]
          · exact rfl
        refine auto_last fun y w' HW hd K hK => ?_
        have e0 := hd_nth (hd 0 (by omega)) rfl
        have e1 := hd_nth (hd 1 (by omega)) rfl
        have e2 := hd_nth (hd 2 (by omega)) rfl
        have e3 := hd_nth (hd 3 (by omega)) rfl
        have e4 := hd_nth (hd 4 (by omega)) rfl
        have e5 := hd_nth (hd 5 (by omega)) rfl
        have e6 := hd_nth (hd 6 (by omega)) rfl
        have e7 := hd_nth (hd 7 (by omega)) rfl
        have e8 := hd_nth (hd 8 (by omega)) rfl
        have e9 := hd_nth (hd 9 (by omega)) rfl
        go_simp
        refine hK _ _ ?_
        clear hd hK K e0 e1 e2 e3 e4 e5 e6 e7 e8 e9
        go_wp2
        go_ret
        exact ⟨rfl, hbw.trans (HW.mono hbw.size)⟩
    · subst h3
      have HPo : Hid (∀ W : World, Below w.heap.size w W → Calls Tryz.prog 68 #[.slice (some x) i pc, .int .i64 (g : Int)] W fun e w' => e = .returned (.int .i64 (atI (portI P i g))) ∧ Below W.heap.size W w') := Lib.hid fun W hW => portOf_any (some x) i pc B P g W (by have := hW.size; omega) (HP.out.below (hW.mono hB)) (by omega)
      have i1 : (i : Int) ≤ (pc : Int) := by omega
      have i2 : i ≤ pc := by omega
      obtain ⟨p, hp⟩ : ∃ p, p = atI (portI P i g) := ⟨_, rfl⟩
      rw [← hp] at hres HPo
      clear hp HP
      have hpc : (p != -1) = r ∧ (p == -1) = !r := by
        rcases hres with ⟨k, rfl, rfl⟩ | ⟨rfl, rfl⟩
        · constructor <;> simp <;> omega
        · simp
      obtain ⟨hp1, hp2⟩ := hpc
      clear hres hp2
      cases r
      all_goals
        go_enter Tryz.func40, Tryz.ntmps40
        go_wp2_with fail
        refine (isGuest_any _ _ _ _ _ _ _ _ _ _ _ _ hgn).mono ?_
        rintro e w1 ⟨rfl, hb⟩
        have hq := old_cells hb
        have hbw : Below w.heap.size w w1 := (HA.out _ _).trans (hb.mono (by simp; omega))
        have d0 := HE0.out _ hbw
        have s1 : w.heap.size < w1.heap.size ∧ w.heap.size + 1 < w1.heap.size := by have := hb.size; simp at this; omega
        obtain ⟨s1, s2⟩ := s1
        have s3 : (y.add (g * 3)).block < w1.heap.size := Nat.lt_trans HY.out s1
        go_wp2
        apply wp_region_auto [22, 23, 24, 25, 26, 27, 28, 29, 30, 31] [_, _, _, _, _, _, _, _, _, _] (fun W' => Below w1.heap.size w1 W')
        case hm => kernel_rfl
        case hT => intro y; simp only [setAll, List.setIfInBounds_toArray, List.set_cons_succ, List.set_cons_zero]; exact rfl
        case hok => kernel_rfl
        case hn => decide
        case hw => exact (Below.refl _ _).drew
        case hs =>
          refine auto_op 22 [] (by kernel_rfl) (fun y w' HW hd K hK => ?_) ?_
          · go_simp
            refine hK _ _ ?_ ?_ HW
            · simp [upd]
            · exact rfl
          refine auto_op 23 [0] (by kernel_rfl) (fun y w' HW hd K hK => ?_) ?_
          · have e0 := hd_nth (hd 0 (by simp)) rfl
            have hcl : ∀ p : Addr, p.block < w1.heap.size → w'.cell? p = w1.cell? p := fun p hp => HW.cell hp
            go_simp
            refine hK _ _ ?_ ?_ HW
            · simp [upd, e0]
            · exact rfl
          refine auto_op 24 [] (by kernel_rfl) (fun y w' HW hd K hK => ?_) ?_
          · go_simp
            refine hK _ _ ?_ ?_ HW
            · simp [upd]
            · exact rfl
          refine auto_op 25 [2] (by kernel_rfl) (fun y w' HW hd K hK => ?_) ?_
          · have e2 := hd_nth (hd 2 (by simp)) rfl
            have hcl : ∀ p : Addr, p.block < w1.heap.size → w'.cell? p = w1.cell? p := fun p hp => HW.cell hp
            go_simp
            refine hK _ _ ?_ ?_ HW
            · simp [upd, e2]
            · exact rfl
          refine auto_op 26 [] (by kernel_rfl) (fun y w' HW hd K hK => ?_) ?_
          · go_simp
            refine hK _ _ ?_ ?_ HW
            · simp [upd]
            · exact rfl
          refine auto_op 27 [4] (by kernel_rfl) (fun y w' HW hd K hK => ?_) ?_
          · have e4 := hd_nth (hd 4 (by simp)) rfl
            have hcl : ∀ p : Addr, p.block < w1.heap.size → w'.cell? p = w1.cell? p := fun p hp => HW.cell hp
            go_simp
            refine hK _ _ ?_ ?_ HW
            · simp [upd, e4]
            · exact rfl
          refine auto_op 28 [3, 5] (by kernel_rfl) (fun y w' HW hd K hK => ?_) ?_
          · have e3 := hd_nth (hd 3 (by simp)) rfl
            have e5 := hd_nth (hd 5 (by simp)) rfl
            go_simp
            refine hK _ _ ?_ ?_ HW
            · simp [upd, e3, e5]
            · exact rfl
          refine auto_op 29 [6] (by kernel_rfl) (fun y w' HW hd K hK => ?_) ?_
          · have e6 := hd_nth (hd 6 (by simp)) rfl
            go_simp
            refine hK _ _ ?_ ?_ HW
            · simp [upd, e6]
            · exact rfl
          refine auto_op 30 [7] (by kernel_rfl) (fun y w' HW hd K hK => ?_) ?_
          · have e7 := hd_nth (hd 7 (by simp)) rfl
            have hcl : ∀ p : Addr, p.block < w1.heap.size → w'.cell? p = w1.cell? p := fun p hp => HW.cell hp
            go_simp
            refine hK _ _ ?_ ?_ HW
            · simp [upd, e7]
            · exact rfl
          refine auto_op 31 [1, 8] (by kernel_rfl) (fun y w' HW hd K hK => ?_) ?_
          · have e1 := hd_nth (hd 1 (by simp)) rfl
            have e8 := hd_nth (hd 8 (by simp)) rfl
            go_simp
            refine hK _ _ ?_ ?_ HW
            · simp [upd, e1, e8]
            · exact rfl
          refine auto_last fun y w' HW hd K hK => ?_
          have e0 := hd_nth (hd 0 (by omega)) rfl
          have e1 := hd_nth (hd 1 (by omega)) rfl
          have e2 := hd_nth (hd 2 (by omega)) rfl
          have e3 := hd_nth (hd 3 (by omega)) rfl
          have e4 := hd_nth (hd 4 (by omega)) rfl
          have e5 := hd_nth (hd 5 (by omega)) rfl
          have e6 := hd_nth (hd 6 (by omega)) rfl
          have e7 := hd_nth (hd 7 (by omega)) rfl
          have e8 := hd_nth (hd 8 (by omega)) rfl
          have e9 := hd_nth (hd 9 (by omega)) rfl
          go_simp
          refine hK _ _ ?_
          clear hd hK K e0 e1 e2 e3 e4 e5 e6 e7 e8 e9
          have hq2 := old_cells HW
          have hbw2 := hbw.trans (HW.mono hbw.size)
          have s4 : w.heap.size < w'.heap.size ∧ w.heap.size + 1 < w'.heap.size := by have := HW.size; omega
          obtain ⟨s4, s5⟩ := s4
          clear HW d0
          obtain ⟨w2, hw2⟩ : ∃ w2, w2 = w' := ⟨_, rfl⟩
          rw [← hw2] at hq2 hbw2 s4 s5 ⊢
          clear hw2
          go_wp2
          apply wp_region_auto [33, 34, 35, 36, 37, 38, 39, 40] [_, _, _, _, _, _, _, _] (fun W' => Below w2.heap.size w2 W')
          case hm => kernel_rfl
          case hT => intro y; simp only [setAll, List.setIfInBounds_toArray, List.set_cons_succ, List.set_cons_zero]; exact rfl
          case hok => kernel_rfl
          case hn => decide
          case hw => exact (Below.refl _ _).drew
          case hs =>
            refine auto_op 33 [] (by kernel_rfl) (fun y w' HW hd K hK => ?_) ?_
            · go_simp
              refine hK _ _ ?_ ?_ HW
              · simp [upd]
              · exact rfl
            refine auto_op 34 [0] (by kernel_rfl) (fun y w' HW hd K hK => ?_) ?_
            · have e0 := hd_nth (hd 0 (by simp)) rfl
              have hcl : ∀ p : Addr, p.block < w2.heap.size → w'.cell? p = w2.cell? p := fun p hp => HW.cell hp
              go_simp
              refine hK _ _ ?_ ?_ HW
              · simp [upd, e0]
              · exact rfl
            refine auto_op 35 [] (by kernel_rfl) (fun y w' HW hd K hK => ?_) ?_
            · go_simp
              refine hK _ _ ?_ ?_ HW
              · simp [upd]
              · exact rfl
            refine auto_op 36 [1, 2] (by kernel_rfl) (fun y w' HW hd K hK => ?_) ?_
            · have e1 := hd_nth (hd 1 (by simp)) rfl
              have e2 := hd_nth (hd 2 (by simp)) rfl
              go_simp
              refine hK _ _ ?_ ?_ HW
              · simp [upd, e1, e2]
              · exact rfl
            refine auto_op 37 [] (by kernel_rfl) (fun y w' HW hd K hK => ?_) ?_
            · go_simp
              refine hK _ _ ?_ ?_ HW
              · simp [upd]
              · exact rfl
            refine auto_op 38 [4] (by kernel_rfl) (fun y w' HW hd K hK => ?_) ?_
            · have e4 := hd_nth (hd 4 (by simp)) rfl
              have hcl : ∀ p : Addr, p.block < w2.heap.size → w'.cell? p = w2.cell? p := fun p hp => HW.cell hp
              go_simp
              refine hK _ _ ?_ ?_ HW
              · simp [upd, e4]
              · exact rfl
            refine auto_op 39 [3, 5] (by kernel_rfl) (fun y w' HW hd K hK => ?_) ?_
            · have e3 := hd_nth (hd 3 (by simp)) rfl
              have e5 := hd_nth (hd 5 (by simp)) rfl
              go_simp
              refine (HPo.out _ (hbw2.trans (HW.mono hbw2.size))).mono ?_
              rintro e w3 ⟨rfl, hb3⟩
              refine hK _ _ ?_ ?_ (HW.trans (hb3.mono HW.size))
              · simp [upd, e3, e5]
              · exact rfl
            refine auto_op 40 [6] (by kernel_rfl) (fun y w' HW hd K hK => ?_) ?_
            · have e6 := hd_nth (hd 6 (by simp)) rfl
              go_simp
              refine hK _ _ ?_ ?_ HW
              · simp [upd, e6]
              · exact rfl
            refine auto_last fun y w' HW hd K hK => ?_
            have e0 := hd_nth (hd 0 (by omega)) rfl
            have e1 := hd_nth (hd 1 (by omega)) rfl
            have e2 := hd_nth (hd 2 (by omega)) rfl
            have e3 := hd_nth (hd 3 (by omega)) rfl
            have e4 := hd_nth (hd 4 (by omega)) rfl
            have e5 := hd_nth (hd 5 (by omega)) rfl
            have e6 := hd_nth (hd 6 (by omega)) rfl
            have e7 := hd_nth (hd 7 (by omega)) rfl
            go_simp
            refine hK _ _ ?_
            clear hd hK K e0 e1 e2 e3 e4 e5 e6 e7
            go_wp2
            go_ret
            exact ⟨rfl, hbw2.trans (HW.mono hbw2.size)⟩
end Go.Proofs.YtikkfapgmbamlaaGreatDoor.Cf
end
