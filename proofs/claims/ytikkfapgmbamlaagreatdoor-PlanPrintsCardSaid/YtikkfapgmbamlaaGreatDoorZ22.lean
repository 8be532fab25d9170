/- Several texts in one: Ce -/
import Derived.Test.YtikkfapgmbamlaaGreatDoorZ21
import Derived.StillTailTactics
import Derived.Test.YtikkfapgmbamlaaGreatDoorZ05
section
/- isWrongRing, isWrongPort. -/
namespace Go.Proofs.YtikkfapgmbamlaaGreatDoor.Cf
open Go.RowKit Ut
set_option maxRecDepth 100000
set_option linter.unusedVariables false

theorem isGn_true {gn : Nat} {i : Int} (h : isGn gn i = true) : ∃ g : Nat, i = g ∧ g < gn := by
  unfold isGn at h
  simp at h
  exact ⟨i.toNat, by omega, by omega⟩
theorem wrongN_cases (c : Cfg) (i : Nat) : (isGn c.gn (c.N i 0) = false ∧ wrongN c i = true) ∨ (isGn c.gn (c.N i 0) = true ∧ ((isGn c.gn (c.N i 1) = false ∧ wrongN c i = true) ∨ (isGn c.gn (c.N i 1) = true ∧ ((c.N i 0 = c.N i 1 ∧ wrongN c i = true) ∨
    (c.N i 0 ≠ c.N i 1 ∧ ∃ f t : Nat, c.N i 0 = f ∧ c.N i 1 = t ∧ f < c.gn ∧ t < c.gn ∧ wrongN c i = !La.flowsZ (c.G f 0) (c.G t 0)))))) := by
  unfold wrongN
  rw [show isG c (c.N i 0) = isGn c.gn (c.N i 0) from rfl, show isG c (c.N i 1) = isGn c.gn (c.N i 1) from rfl]
  cases h1 : isGn c.gn (c.N i 0)
  · simp
  · cases h2 : isGn c.gn (c.N i 1)
    · simp
    · by_cases h3 : c.N i 0 = c.N i 1
      · simp [h3]
      · obtain ⟨f, hf, hf2⟩ := isGn_true h1
        obtain ⟨t, ht, ht2⟩ := isGn_true h2
        refine .inr ⟨rfl, .inr ⟨rfl, .inr ⟨h3, f, t, hf, ht, hf2, ht2, ?_⟩⟩⟩
        rw [decide_eq_false h3, hf, ht]
        simp

set_option maxRecDepth 100000 in
theorem wrongRing_any (c : Cfg) (i B : Nat) (w : World) (hB : B ≤ w.heap.size) (hc : c.At w B) (hi : i < c.nn) :
    Calls Tryz.prog 43 #[c.v, .int .i64 i] w fun e w' => e = .returned (.bool (wrongN c i)) ∧ Below w.heap.size w w' := by
  have hcs := wrongN_cases c i
  obtain ⟨r, hr⟩ : ∃ r, r = wrongN c i := ⟨_, rfl⟩
  rw [← hr] at hcs ⊢
  have hl := hc.ln
  have hlg := hc.lg
  have hg := hc.n
  have hgg := hc.g
  clear hr hc
  obtain ⟨cats, ga, gn, gc, ra, rn, rc, pa, pn, pc, na, nn, nc, sa, sn, sc, gate, quota, G, R, P, N, S⟩ := c
  dsimp only at hcs hl hi hg hlg hgg
  have hgn : gn ≤ 140737488355328 := by omega
  obtain ⟨x, rfl, hx, c0, c1⟩ := hg.at2 i hi
  have b0 : (0 : Int) ≤ (i : Int) := by omega
  have b1 : (i : Int) < (nn : Int) := by omega
  clear hg
  have hy : (x.add (i * 2)).block < w.heap.size := by rw [block_of_add]; omega
  have HGG := Lib.hid hgg
  clear hgg
  have hAA : ∀ o o' : Obj, Below w.heap.size w ((w.alloc o).alloc o') := fun o o' => ((Below.refl _ _).alloc (Nat.le_refl _) _).alloc (by simp) _
  have HA := Lib.hid hAA
  clear hAA
  rcases hcs with ⟨h1, rfl⟩ | ⟨h1, ⟨h2, rfl⟩ | ⟨h2, ⟨h3, rfl⟩ | ⟨h3, f, t, hf, ht, hf2, ht2, hres⟩⟩⟩
  · go_enter Tryz.func43, Tryz.ntmps43
    go_wp2_with fail
    refine (isGuest_any _ _ _ _ _ _ _ _ _ _ _ _ hgn).mono ?_
    rintro e w1 ⟨rfl, hb⟩
    go_wp2
    go_ret
    exact ⟨rfl, (HA.out _ _).trans (hb.mono (by simp; omega))⟩
  · go_enter Tryz.func43, Tryz.ntmps43
    go_wp2_with fail
    refine (isGuest_any _ _ _ _ _ _ _ _ _ _ _ _ hgn).mono ?_
    rintro e w1 ⟨rfl, hb⟩
    have hq := old_cells hb
    go_wp2_with fail
    refine (isGuest_any _ _ _ _ _ _ _ _ _ _ _ _ hgn).mono ?_
    rintro e w2 ⟨rfl, hb2⟩
    clear hq
    go_wp2
    go_ret
    have hs := hb.size
    exact ⟨rfl, (HA.out _ _).trans ((hb.mono (by simp; omega)).trans (hb2.mono (by simp at hs; omega)))⟩
  · rw [← h3] at h2 c1
    clear h3
    go_enter Tryz.func43, Tryz.ntmps43
    go_wp2_with fail
    refine (isGuest_any _ _ _ _ _ _ _ _ _ _ _ _ hgn).mono ?_
    rintro e w1 ⟨rfl, hb⟩
    have hq := old_cells hb
    go_wp2_with fail
    refine (isGuest_any _ _ _ _ _ _ _ _ _ _ _ _ hgn).mono ?_
    rintro e w2 ⟨rfl, hb2⟩
    have s1 : w.heap.size < w1.heap.size ∧ w.heap.size + 1 < w1.heap.size := by have := hb.size; simp at this; omega
    obtain ⟨s1, s2⟩ := s1
    have hq2 := old_cells hb2
    go_wp2
    go_ret
    have hs := hb.size
    exact ⟨rfl, (HA.out _ _).trans ((hb.mono (by simp; omega)).trans (hb2.mono (by simp at hs; omega)))⟩
  · rw [hf] at h1 h3 c0
    rw [ht] at h2 h3 c1
    obtain ⟨y, rfl, hyb, e0, _, _⟩ := HGG.out.at3 f hf2
    obtain ⟨y', hyy, _, e1, _, _⟩ := HGG.out.at3 t ht2
    obtain rfl : y = y' := by injection hyy
    clear hyy HGG
    have hft : ¬ f = t := by omega
    have hfb : ((f : Int) == (t : Int)) = false := by simp; omega
    have HE0 : Hid (∀ W, Below w.heap.size w W → W.cell? (y.add (f * 3)) = some (.int .i64 (G f 0))) := Lib.hid fun W hW => (hW.cell (p := y.add (f * 3)) (by rw [block_of_add]; omega)).trans e0
    have HE1 : Hid (∀ W, Below w.heap.size w W → W.cell? (y.add (t * 3)) = some (.int .i64 (G t 0))) := Lib.hid fun W hW => (hW.cell (p := y.add (t * 3)) (by rw [block_of_add]; omega)).trans e1
    clear e0 e1 hf ht
    obtain ⟨fl, hfl⟩ : ∃ fl, fl = La.flowsZ (G f 0) (G t 0) := ⟨_, rfl⟩
    have HF : Hid (∀ W : World, Calls Tryz.prog 69 #[.int .i64 (G f 0), .int .i64 (G t 0)] W fun e w' => e = .returned (.bool fl) ∧ Below W.heap.size W w') := Lib.hid fun W => by
      rw [hfl]
      exact La.flows_any _ _ _ _ (Nat.le_refl _)
    rw [← hfl] at hres
    clear hfl
    obtain ⟨u, hu⟩ : ∃ u, u = G f 0 := ⟨_, rfl⟩
    obtain ⟨v, hv⟩ : ∃ v, v = G t 0 := ⟨_, rfl⟩
    rw [← hu] at HE0 HF
    rw [← hv] at HE1 HF
    clear hu hv
    have f0 : (0 : Int) ≤ (f : Int) := by omega
    have f1 : (f : Int) < (gn : Int) := by omega
    have t0 : (0 : Int) ≤ (t : Int) := by omega
    have t1 : (t : Int) < (gn : Int) := by omega
    cases fl <;> simp only [Bool.not_true, Bool.not_false] at hres <;> subst hres
    all_goals
     go_enter Tryz.func43, Tryz.ntmps43
     go_wp2_with fail
     refine (isGuest_any _ _ _ _ _ _ _ _ _ _ _ _ hgn).mono ?_
     rintro e w1 ⟨rfl, hb⟩
     have hq := old_cells hb
     go_wp2_with fail
     refine (isGuest_any _ _ _ _ _ _ _ _ _ _ _ _ hgn).mono ?_
     rintro e w2 ⟨rfl, hb2⟩
     have s1 : w.heap.size < w1.heap.size ∧ w.heap.size + 1 < w1.heap.size := by have := hb.size; simp at this; omega
     obtain ⟨s1, s2⟩ := s1
     have hq2 := old_cells hb2
     have hbw : Below w.heap.size w w2 := (HA.out _ _).trans ((hb.mono (by simp; omega)).trans (hb2.mono (by omega)))
     have d0 := HE0.out _ hbw
     have d1 := HE1.out _ hbw
     have s3 : w.heap.size < w2.heap.size ∧ w.heap.size + 1 < w2.heap.size ∧ (y.add (f * 3)).block < w2.heap.size ∧ (y.add (t * 3)).block < w2.heap.size := by
       have := hb2.size
       rw [block_of_add, block_of_add]
       omega
     obtain ⟨s3, s4, s5, s6⟩ := s3
     go_wp2
     apply wp_region_auto [30, 31, 32, 33, 34, 35, 36, 37, 38, 39, 40, 41, 42, 43, 44, 45] [_, _, _, _, _, _, _, _, _, _, _, _, _, _, _, _] (fun W' => Below w2.heap.size w2 W')
     case hm => kernel_rfl
     case hT => intro y; simp only [setAll, List.setIfInBounds_toArray, List.set_cons_succ, List.set_cons_zero]; exact rfl
     case hok => kernel_rfl
     case hn => decide
     case hw => exact (Below.refl _ _).drew
     case hs =>
       refine auto_op 30 [] (by kernel_rfl) (fun y w' HW hd K hK => ?_) ?_
       · go_simp
         refine hK _ _ ?_ ?_ HW
         · simp [upd]
         · exact rfl
       refine auto_op 31 [0] (by kernel_rfl) (fun y w' HW hd K hK => ?_) ?_
       · have e0 := hd_nth (hd 0 (by simp)) rfl
         have hcl : ∀ p : Addr, p.block < w2.heap.size → w'.cell? p = w2.cell? p := fun p hp => HW.cell hp
         go_simp
         refine hK _ _ ?_ ?_ HW
         · simp [upd, e0]
         · exact rfl
       refine auto_op 32 [] (by kernel_rfl) (fun y w' HW hd K hK => ?_) ?_
       · go_simp
         refine hK _ _ ?_ ?_ HW
         · simp [upd]
         · exact rfl
       refine auto_op 33 [2] (by kernel_rfl) (fun y w' HW hd K hK => ?_) ?_
       · have e2 := hd_nth (hd 2 (by simp)) rfl
         have hcl : ∀ p : Addr, p.block < w2.heap.size → w'.cell? p = w2.cell? p := fun p hp => HW.cell hp
         go_simp
         refine hK _ _ ?_ ?_ HW
         · simp [upd, e2]
         · exact rfl
       refine auto_op 34 [1, 3] (by kernel_rfl) (fun y w' HW hd K hK => ?_) ?_
       · have e1 := hd_nth (hd 1 (by simp)) rfl
         have e3 := hd_nth (hd 3 (by simp)) rfl
         go_simp
         refine hK _ _ ?_ ?_ HW
         · simp [upd, e1, e3]
         · exact rfl
       refine auto_op 35 [4] (by kernel_rfl) (fun y w' HW hd K hK => ?_) ?_
       · have e4 := hd_nth (hd 4 (by simp)) rfl
         go_simp
         refine hK _ _ ?_ ?_ HW
         · simp [upd, e4]
         · exact rfl
       refine auto_op 36 [5] (by kernel_rfl) (fun y w' HW hd K hK => ?_) ?_
       · have e5 := hd_nth (hd 5 (by simp)) rfl
         have hcl : ∀ p : Addr, p.block < w2.heap.size → w'.cell? p = w2.cell? p := fun p hp => HW.cell hp
         go_simp
         refine hK _ _ ?_ ?_ HW
         · simp [upd, e5]
         · exact rfl
       refine auto_op 37 [] (by kernel_rfl) (fun y w' HW hd K hK => ?_) ?_
       · go_simp
         refine hK _ _ ?_ ?_ HW
         · simp [upd]
         · exact rfl
       refine auto_op 38 [7] (by kernel_rfl) (fun y w' HW hd K hK => ?_) ?_
       · have e7 := hd_nth (hd 7 (by simp)) rfl
         have hcl : ∀ p : Addr, p.block < w2.heap.size → w'.cell? p = w2.cell? p := fun p hp => HW.cell hp
         go_simp
         refine hK _ _ ?_ ?_ HW
         · simp [upd, e7]
         · exact rfl
       refine auto_op 39 [] (by kernel_rfl) (fun y w' HW hd K hK => ?_) ?_
       · go_simp
         refine hK _ _ ?_ ?_ HW
         · simp [upd]
         · exact rfl
       refine auto_op 40 [9] (by kernel_rfl) (fun y w' HW hd K hK => ?_) ?_
       · have e9 := hd_nth (hd 9 (by simp)) rfl
         have hcl : ∀ p : Addr, p.block < w2.heap.size → w'.cell? p = w2.cell? p := fun p hp => HW.cell hp
         go_simp
         refine hK _ _ ?_ ?_ HW
         · simp [upd, e9]
         · exact rfl
       refine auto_op 41 [8, 10] (by kernel_rfl) (fun y w' HW hd K hK => ?_) ?_
       · have e8 := hd_nth (hd 8 (by simp)) rfl
         have e10 := hd_nth (hd 10 (by simp)) rfl
         go_simp
         refine hK _ _ ?_ ?_ HW
         · simp [upd, e8, e10]
         · exact rfl
       refine auto_op 42 [11] (by kernel_rfl) (fun y w' HW hd K hK => ?_) ?_
       · have e11 := hd_nth (hd 11 (by simp)) rfl
         go_simp
         refine hK _ _ ?_ ?_ HW
         · simp [upd, e11]
         · exact rfl
       refine auto_op 43 [12] (by kernel_rfl) (fun y w' HW hd K hK => ?_) ?_
       · have e12 := hd_nth (hd 12 (by simp)) rfl
         have hcl : ∀ p : Addr, p.block < w2.heap.size → w'.cell? p = w2.cell? p := fun p hp => HW.cell hp
         go_simp
         refine hK _ _ ?_ ?_ HW
         · simp [upd, e12]
         · exact rfl
       refine auto_op 44 [6, 13] (by kernel_rfl) (fun y w' HW hd K hK => ?_) ?_
       · have e6 := hd_nth (hd 6 (by simp)) rfl
         have e13 := hd_nth (hd 13 (by simp)) rfl
         go_simp
         refine (HF.out _).mono ?_
         rintro e w3 ⟨rfl, hb3⟩
         refine hK _ _ ?_ ?_ (HW.trans (hb3.mono HW.size))
         · simp [upd, e6, e13]
         · exact rfl
       refine auto_op 45 [14] (by kernel_rfl) (fun y w' HW hd K hK => ?_) ?_
       · have e14 := hd_nth (hd 14 (by simp)) rfl
         go_simp
         refine hK _ _ ?_ ?_ HW
         · simp [upd, e14]
         · exact rfl
       refine auto_last fun y w' HW hd K hK => ?_
       have e0 := hd_nth (hd 0 (by omega)) rfl
       have e1 := hd_nth (hd 1 (by omega)) rfl
       have e2 := hd_nth (hd 2 (by omega)) rfl
       have e3 := hd_nth (hd 3 (by omega)) rfl
       have e4 := hd_nth (hd 4 (by omega)) rfl
       have e5 := hd_nth (hd 5 (by omega)) rfl
       have e6 := hd_nth (hd 6 (by omega)) rfl
       have e7 := hd_nth (hd 7 (by omega)) rfl
       have e8 := hd_nth (hd 8 (by omega)) rfl
       have e9 := hd_nth (hd 9 (by omega)) rfl
       have e10 := hd_nth (hd 10 (by omega)) rfl
       have e11 := hd_nth (hd 11 (by omega)) rfl
       have e12 := hd_nth (hd 12 (by omega)) rfl
       have e13 := hd_nth (hd 13 (by omega)) rfl
       have e14 := hd_nth (hd 14 (by omega)) rfl
       have e15 := hd_nth (hd 15 (by omega)) rfl
       go_simp
       refine hK _ _ ?_
       clear hd hK K e0 e1 e2 e3 e4 e5 e6 e7 e8 e9 e10 e11 e12 e13 e14 e15
       go_wp2
       go_ret
       exact ⟨rfl, hbw.trans (HW.mono hbw.size)⟩
end Go.Proofs.YtikkfapgmbamlaaGreatDoor.Cf
end
