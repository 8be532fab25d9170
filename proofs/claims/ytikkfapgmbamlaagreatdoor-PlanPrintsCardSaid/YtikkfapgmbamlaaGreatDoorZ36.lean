/- Several texts in one: Cs -/
import Derived.Test.YtikkfapgmbamlaaGreatDoorZ35
section
/- The document's own answer: Check, Right. -/
namespace Go.Proofs.YtikkfapgmbamlaaGreatDoor.Cf
open Go.RowKit Ut
set_option linter.unusedVariables false

theorem firstI_congr {n : Nat} {p q : Nat → Bool} (h : ∀ i, i < n → p i = q i) : firstI n p = firstI n q := by
  rcases firstI_cases n q with ⟨h1, h2⟩ | ⟨k, h1, h2, h3, h4⟩
  · rw [h1]
    exact firstI_none fun j hj => by rw [h j hj]; exact h2 j hj
  · rw [h1]
    exact firstI_some h2 (by rw [h k h2]; exact h3) fun j hj => by rw [h j (by omega)]; exact h4 j hj
theorem pair_step {c : Cfg} {j : Nat} (hj : j + 1 < 13) (h1 : cntR c j = 1) (he : errR j = errR (j + 1)) (hp : Passed c j) :
    ((foundZ (wrR c j 0) (firstI (cntR c (j + 1)) (wrR c (j + 1)))).1 = true → check c = (errR j, (foundZ (wrR c j 0) (firstI (cntR c (j + 1)) (wrR c (j + 1)))).2)) ∧
    ((foundZ (wrR c j 0) (firstI (cntR c (j + 1)) (wrR c (j + 1)))).1 = false → Passed c (j + 2)) := by
  cases hw : wrR c j 0
  · have hp1 : Passed c (j + 1) := hp.next fun i hi => by
      rw [h1] at hi
      obtain rfl : i = 0 := by omega
      exact hw
    rcases firstI_cases (cntR c (j + 1)) (wrR c (j + 1)) with ⟨h2, h3⟩ | ⟨k, h2, h3, h4, h5⟩
    · rw [h2]
      exact ⟨(fun h => by cases h), fun _ => hp1.next h3⟩
    · rw [h2]
      refine ⟨fun _ => ?_, (fun h => by cases h)⟩
      rw [he]
      exact check_at hj hp1 h3 h4 h5
  · refine ⟨fun _ => ?_, (fun h => by cases h)⟩
    exact check_at (i := 0) (by omega) hp (by rw [h1]; omega) hw (fun i hi => absurd hi (by omega))
theorem passed_label {c : Cfg} (h : Passed c 3) (g : Nat) (hg : g < c.gn) : La.validB (c.G g 0) c.cats = true := by
  have h2 : wrongG c g = false := h 2 (by omega) g (by simpa [cntR] using hg)
  rcases wrongG_cases c g with ⟨_, h3⟩ | ⟨h3, _⟩
  · rw [h3] at h2; cases h2
  · exact h3
theorem wrongP_same {c : Cfg} (h : Passed c 3) (i : Nat) : wrongP2 c i = wrongP c i := by
  unfold wrongP2 wrongP
  rw [show isG c (c.P i 1) = isGn c.gn (c.P i 1) from rfl]
  by_cases h1 : c.P i 1 = -1
  · rw [if_pos h1, h1]
    simp [isGn]
  · rw [if_neg h1]
    cases h2 : isGn c.gn (c.P i 1)
    · simp [h1]
    · obtain ⟨g, hg, hg2⟩ := isGn_true h2
      rw [hg, Int.toNat_natCast]
      by_cases h3 : c.P i 0 = c.G g 0
      · rw [h3, passed_label h g hg2]
        simp
      · rw [decide_eq_false h3]
        simp

theorem gate_ints (c : Cfg) : (c.gate ≠ -1 ∧ isGn c.gn c.gate = false ∧ wrongGate c = true) ∨ (c.gate ≠ -1 ∧ isGn c.gn c.gate = true ∧ c.quota < 0 ∧ wrongGate c = true) ∨ (c.gate ≠ -1 ∧ isGn c.gn c.gate = true ∧ 0 ≤ c.quota ∧ 64 < c.quota ∧ wrongGate c = true) ∨
    (c.gate = -1 ∧ c.quota < 0 ∧ wrongGate c = true) ∨ (c.gate = -1 ∧ 0 ≤ c.quota ∧ 64 < c.quota ∧ wrongGate c = true) ∨ (c.gate = -1 ∧ 0 ≤ c.quota ∧ c.quota ≤ 64 ∧ c.quota ≠ 0 ∧ wrongGate c = true) ∨
    (c.gate ≠ -1 ∧ isGn c.gn c.gate = true ∧ 0 ≤ c.quota ∧ c.quota ≤ 64 ∧ wrongGate c = false) ∨ (c.gate = -1 ∧ c.quota = 0 ∧ wrongGate c = false) := by
  rcases wrongGate_cases c with ⟨h1, h2, h3⟩ | ⟨h1, h2, h3⟩ | ⟨h1, ⟨h2, h3⟩ | ⟨h2, ⟨h4, h3⟩ | ⟨h4, h3⟩⟩⟩
  · simp [h1, h2, h3]
  · by_cases h5 : c.quota < 0
    · simp [h1, h5, h3]
    · by_cases h6 : 64 < c.quota
      · exact .inr (.inr (.inr (.inr (.inl ⟨h1, by omega, h6, h3⟩))))
      · exact .inr (.inr (.inr (.inr (.inr (.inl ⟨h1, by omega, by omega, h2, h3⟩)))))
  · exact .inl ⟨h1, h2, h3⟩
  · unfold inB at h4
    by_cases h5 : c.quota < 0
    · exact .inr (.inl ⟨h1, h2, h5, h3⟩)
    · have h6 : decide (0 ≤ c.quota) = true := decide_eq_true (by omega)
      rw [h6] at h4
      simp at h4
      exact .inr (.inr (.inl ⟨h1, h2, by omega, h4, h3⟩))
  · unfold inB at h4
    simp at h4
    exact .inr (.inr (.inr (.inr (.inr (.inr (.inl ⟨h1, h2, h4.1, h4.2, h3⟩))))))

set_option maxRecDepth 100000 in
set_option maxHeartbeats 40000000 in
theorem refCheck_any (c : Cfg) (B : Nat) (w : World) (hB : B ≤ w.heap.size) (hc : c.At w B) :
    Calls Tryz.prog 13 #[c.v] w fun e w' => e = .returned (.tuple #[.int .i64 (check c).1, .int .i64 (check c).2]) ∧ Below w.heap.size w w' := by
  have HB0 := one_new w
  have hlg := hc.lg
  have hgn : c.gn ≤ 140737488355328 := by omega
  have p0 : Passed c 0 := fun j' h => absurd h (by omega)
  have hcat : (c.cats < 0 ∧ check c = (12, 0)) ∨ (0 ≤ c.cats ∧ 8 < c.cats ∧ check c = (12, 0)) ∨ (0 ≤ c.cats ∧ c.cats ≤ 8 ∧ Passed c 1) := by
    cases hw : wrR c 0 0
    · have h2 : inB c.cats 0 8 = true := by simpa [wrR] using hw
      unfold inB at h2
      simp at h2
      exact .inr (.inr ⟨h2.1, h2.2, p0.next fun i hi => by
        have : i = 0 := by simp [cntR] at hi; omega
        rw [this]; exact hw⟩)
    · have hck : check c = (12, 0) := check_at (j := 0) (i := 0) (by omega) p0 (by simp [cntR]) hw (fun i hi => absurd hi (by omega))
      have h2 : inB c.cats 0 8 = false := by simpa [wrR] using hw
      by_cases h3 : c.cats < 0
      · exact .inl ⟨h3, hck⟩
      · refine .inr (.inl ⟨by omega, ?_, hck⟩)
        unfold inB at h2
        have h6 : decide (0 ≤ c.cats) = true := decide_eq_true (by omega)
        rw [h6] at h2
        simpa using h2
  clear p0
  have HC0 : Hid (∀ W, Below w.heap.size w W → Calls Tryz.prog 21 #[c.v] W fun e w' => e = .returned (.tuple #[.bool (foundZ (!inB c.gn 1 4) (firstI c.gn (wrongG c))).1, .int .i64 (foundZ (!inB c.gn 1 4) (firstI c.gn (wrongG c))).2]) ∧ Below W.heap.size W w') := Lib.hid fun W hW => refGuests_any c B W (by have := hW.size; omega) (hc.below (hW.mono hB))
  have HC1 : Hid (∀ W, Below w.heap.size w W → Calls Tryz.prog 22 #[c.v] W fun e w' => e = .returned (.tuple #[.bool (foundZ (decide (8 < (c.rn : Int))) (firstI c.rn (wrongR c))).1, .int .i64 (foundZ (decide (8 < (c.rn : Int))) (firstI c.rn (wrongR c))).2]) ∧ Below W.heap.size W w') := Lib.hid fun W hW => refRanges_any c B W (by have := hW.size; omega) (hc.below (hW.mono hB))
  have HC2 : Hid (∀ W, Below w.heap.size w W → Calls Tryz.prog 23 #[c.v] W fun e w' => e = .returned (.tuple #[.bool (foundZ (decide (8 < (c.pn : Int))) (firstI c.pn (wrongP2 c))).1, .int .i64 (foundZ (decide (8 < (c.pn : Int))) (firstI c.pn (wrongP2 c))).2]) ∧ Below W.heap.size W w') := Lib.hid fun W hW => refPorts_any c B W (by have := hW.size; omega) (hc.below (hW.mono hB))
  have HC3 : Hid (∀ W, Below w.heap.size w W → Calls Tryz.prog 24 #[c.v] W fun e w' => e = .returned (.tuple #[.bool (foundZ (decide (4 < (c.nn : Int))) (firstI c.nn (wrongN c))).1, .int .i64 (foundZ (decide (4 < (c.nn : Int))) (firstI c.nn (wrongN c))).2]) ∧ Below W.heap.size W w') := Lib.hid fun W hW => refRings_any c B W (by have := hW.size; omega) (hc.below (hW.mono hB))
  have HC4 : Hid (∀ W, Below w.heap.size w W → Calls Tryz.prog 25 #[c.v] W fun e w' => e = .returned (.tuple #[.bool (foundZ (!inB c.sn 1 8) (firstI c.sn (wrongS c))).1, .int .i64 (foundZ (!inB c.sn 1 8) (firstI c.sn (wrongS c))).2]) ∧ Below W.heap.size W w') := Lib.hid fun W hW => refSlots_any c B W (by have := hW.size; omega) (hc.below (hW.mono hB))
  have HC5 : Hid (c.gn ≤ 4 → Small c.G c.gn → ∀ W, Below w.heap.size w W → Calls Tryz.prog 27 #[c.v] W fun e w' => e = .returned (.int .i64 (need c)) ∧ Below W.heap.size W w') := Lib.hid fun h1 h2 W hW => refNeed_any c B W (by have := hW.size; omega) (hc.below (hW.mono hB)) h1 h2
  have hx0 : BoxC (w.alloc (.cells c.cs 28)) w.heap.size c := heap_alloc_new w _
  clear hc
  rcases hcat with ⟨q1, hck⟩ | ⟨q1, q2, hck⟩ | ⟨q1, q2, hp⟩
  · have HF := Lib.hid hck
    clear hck hx0
    go_enter Tryz.func13, Tryz.ntmps13
    go_wp2
    go_ret2
    exact ⟨by rw [HF.out]; rfl, HB0.out _⟩
  · have HF := Lib.hid hck
    clear hck hx0
    go_enter Tryz.func13, Tryz.ntmps13
    go_wp2
    go_ret2
    exact ⟨by rw [HF.out]; rfl, HB0.out _⟩
  · have hb0 := HB0.out (.cells c.cs 28)
    have P1 := Lib.hid hp
    clear hp
    have HSt0 : Hid (Passed c 1 → ((foundZ (!inB c.gn 1 4) (firstI c.gn (wrongG c))).1 = true → check c = (13, (foundZ (!inB c.gn 1 4) (firstI c.gn (wrongG c))).2)) ∧ ((foundZ (!inB c.gn 1 4) (firstI c.gn (wrongG c))).1 = false → Passed c 3)) := Lib.hid fun h => pair_step (c := c) (j := 1) (by omega) rfl rfl h
    obtain ⟨fz0, hfz0⟩ : ∃ q, q = foundZ (!inB c.gn 1 4) (firstI c.gn (wrongG c)) := ⟨_, rfl⟩
    rw [← hfz0] at HC0 HSt0
    clear hfz0
    obtain ⟨f0, i0⟩ := fz0
    dsimp only at HC0 HSt0
    have HSt1 : Hid (Passed c 3 → ((foundZ (decide (8 < (c.rn : Int))) (firstI c.rn (wrongR c))).1 = true → check c = (14, (foundZ (decide (8 < (c.rn : Int))) (firstI c.rn (wrongR c))).2)) ∧ ((foundZ (decide (8 < (c.rn : Int))) (firstI c.rn (wrongR c))).1 = false → Passed c 5)) := Lib.hid fun h => pair_step (c := c) (j := 3) (by omega) rfl rfl h
    obtain ⟨fz1, hfz1⟩ : ∃ q, q = foundZ (decide (8 < (c.rn : Int))) (firstI c.rn (wrongR c)) := ⟨_, rfl⟩
    rw [← hfz1] at HC1 HSt1
    clear hfz1
    obtain ⟨f1, i1⟩ := fz1
    dsimp only at HC1 HSt1
    have HSt2 : Hid (Passed c 5 → ((foundZ (decide (8 < (c.pn : Int))) (firstI c.pn (wrongP2 c))).1 = true → check c = (15, (foundZ (decide (8 < (c.pn : Int))) (firstI c.pn (wrongP2 c))).2)) ∧ ((foundZ (decide (8 < (c.pn : Int))) (firstI c.pn (wrongP2 c))).1 = false → Passed c 7)) := Lib.hid fun h => by
      rw [show firstI c.pn (wrongP2 c) = firstI c.pn (wrongP c) from firstI_congr fun i hi => wrongP_same (fun j' hj => h j' (by omega)) i]
      exact pair_step (c := c) (j := 5) (by omega) rfl rfl h
    obtain ⟨fz2, hfz2⟩ : ∃ q, q = foundZ (decide (8 < (c.pn : Int))) (firstI c.pn (wrongP2 c)) := ⟨_, rfl⟩
    rw [← hfz2] at HC2 HSt2
    clear hfz2
    obtain ⟨f2, i2⟩ := fz2
    dsimp only at HC2 HSt2
    have HSt3 : Hid (Passed c 7 → ((foundZ (decide (4 < (c.nn : Int))) (firstI c.nn (wrongN c))).1 = true → check c = (16, (foundZ (decide (4 < (c.nn : Int))) (firstI c.nn (wrongN c))).2)) ∧ ((foundZ (decide (4 < (c.nn : Int))) (firstI c.nn (wrongN c))).1 = false → Passed c 9)) := Lib.hid fun h => pair_step (c := c) (j := 7) (by omega) rfl rfl h
    obtain ⟨fz3, hfz3⟩ : ∃ q, q = foundZ (decide (4 < (c.nn : Int))) (firstI c.nn (wrongN c)) := ⟨_, rfl⟩
    rw [← hfz3] at HC3 HSt3
    clear hfz3
    obtain ⟨f3, i3⟩ := fz3
    dsimp only at HC3 HSt3
    have HSt4 : Hid (Passed c 9 → ((foundZ (!inB c.sn 1 8) (firstI c.sn (wrongS c))).1 = true → check c = (17, (foundZ (!inB c.sn 1 8) (firstI c.sn (wrongS c))).2)) ∧ ((foundZ (!inB c.sn 1 8) (firstI c.sn (wrongS c))).1 = false → Passed c 11)) := Lib.hid fun h => pair_step (c := c) (j := 9) (by omega) rfl rfl h
    obtain ⟨fz4, hfz4⟩ : ∃ q, q = foundZ (!inB c.sn 1 8) (firstI c.sn (wrongS c)) := ⟨_, rfl⟩
    rw [← hfz4] at HC4 HSt4
    clear hfz4
    obtain ⟨f4, i4⟩ := fz4
    dsimp only at HC4 HSt4
    obtain ⟨W0, hW0⟩ : ∃ W0, W0 = w.alloc (.cells c.cs 28) := ⟨_, rfl⟩
    have HW0 := Lib.hid hW0
    rw [← hW0] at hx0 hb0
    clear hW0
    have HX0 := Lib.hid hx0
    clear hx0
    go_enter Tryz.func13, Tryz.ntmps13
    go_wp2_with fail
    have hW0 := HW0.out
    rw [← hW0]
    clear hW0
    refine (HC0.out _ hb0).mono ?_
    rintro e W1 ⟨rfl, hn1⟩
    have hb1 := hb0.trans (hn1.mono hb0.size)
    have HX1 := Lib.hid (HX0.out.below hn1)
    clear hn1
    cases f0
    rotate_left 1
    · have HF := Lib.hid ((HSt0.out P1.out).1 rfl)
      go_wp2
      go_ret2
      exact ⟨by rw [HF.out]; rfl, hb1⟩
    have P3 := Lib.hid ((HSt0.out P1.out).2 rfl)
    obtain ⟨k0, k1, k2, k3, k4, k5, k6, k7⟩ := HX1.out.cells
    go_wp2_with fail
    clear k0 k1 k2 k3 k4 k5 k6 k7
    refine (HC1.out _ hb1).mono ?_
    rintro e W2 ⟨rfl, hn2⟩
    have hb2 := hb1.trans (hn2.mono hb1.size)
    have HX2 := Lib.hid (HX1.out.below hn2)
    clear hn2
    cases f1
    rotate_left 1
    · have HF := Lib.hid ((HSt1.out P3.out).1 rfl)
      go_wp2
      go_ret2
      exact ⟨by rw [HF.out]; rfl, hb2⟩
    have P5 := Lib.hid ((HSt1.out P3.out).2 rfl)
    obtain ⟨k0, k1, k2, k3, k4, k5, k6, k7⟩ := HX2.out.cells
    go_wp2_with fail
    clear k0 k1 k2 k3 k4 k5 k6 k7
    refine (HC2.out _ hb2).mono ?_
    rintro e W3 ⟨rfl, hn3⟩
    have hb3 := hb2.trans (hn3.mono hb2.size)
    have HX3 := Lib.hid (HX2.out.below hn3)
    clear hn3
    cases f2
    rotate_left 1
    · have HF := Lib.hid ((HSt2.out P5.out).1 rfl)
      go_wp2
      go_ret2
      exact ⟨by rw [HF.out]; rfl, hb3⟩
    have P7 := Lib.hid ((HSt2.out P5.out).2 rfl)
    obtain ⟨k0, k1, k2, k3, k4, k5, k6, k7⟩ := HX3.out.cells
    go_wp2_with fail
    clear k0 k1 k2 k3 k4 k5 k6 k7
    refine (HC3.out _ hb3).mono ?_
    rintro e W4 ⟨rfl, hn4⟩
    have hb4 := hb3.trans (hn4.mono hb3.size)
    have HX4 := Lib.hid (HX3.out.below hn4)
    clear hn4
    cases f3
    rotate_left 1
    · have HF := Lib.hid ((HSt3.out P7.out).1 rfl)
      go_wp2
      go_ret2
      exact ⟨by rw [HF.out]; rfl, hb4⟩
    have P9 := Lib.hid ((HSt3.out P7.out).2 rfl)
    obtain ⟨k0, k1, k2, k3, k4, k5, k6, k7⟩ := HX4.out.cells
    go_wp2_with fail
    clear k0 k1 k2 k3 k4 k5 k6 k7
    refine (HC4.out _ hb4).mono ?_
    rintro e W5 ⟨rfl, hn5⟩
    have hb5 := hb4.trans (hn5.mono hb4.size)
    have HX5 := Lib.hid (HX4.out.below hn5)
    clear hn5
    cases f4
    rotate_left 1
    · have HF := Lib.hid ((HSt4.out P9.out).1 rfl)
      go_wp2
      go_ret2
      exact ⟨by rw [HF.out]; rfl, hb5⟩
    have P11 := Lib.hid ((HSt4.out P9.out).2 rfl)
    obtain ⟨k0, k1, k2, k3, k4, k5, k6, k7⟩ := HX5.out.cells
    have hgi := gate_ints c
    have HP11 : Hid (wrongGate c = true → check c = (18, 0)) := Lib.hid fun h => check_at (j := 11) (i := 0) (by omega) P11.out (by simp [cntR]) h (fun i hi => absurd hi (by omega))
    have HP12 : Hid (wrongGate c = false → Passed c 12) := Lib.hid fun h => P11.out.next fun i hi => h
    obtain ⟨gate, hgate⟩ : ∃ gate, gate = c.gate := ⟨_, rfl⟩
    obtain ⟨quota, hquota⟩ : ∃ quota, quota = c.quota := ⟨_, rfl⟩
    have HGq : Hid (gate = c.gate ∧ quota = c.quota) := Lib.hid ⟨hgate, hquota⟩
    rw [← hgate] at hgi k6
    rw [← hquota] at hgi k7
    clear hgate hquota
    have HGst : Hid (∀ W : World, Calls Tryz.prog 26 #[.agg #[.int .i64 c.cats, .slice c.ga c.gn c.gc, .slice c.ra c.rn c.rc, .slice c.pa c.pn c.pc, .slice c.na c.nn c.nc, .slice c.sa c.sn c.sc, .int .i64 gate, .int .i64 quota], .int .i64 gate] W fun e w' => e = .returned (.bool (isGn c.gn gate)) ∧ Below W.heap.size W w') := Lib.hid fun W => refIsGuest_any _ _ _ _ _ _ _ _ _ _ _ _ hgn
    rcases hgi with ⟨g1, g2, hg⟩ | ⟨g1, g2, g3, hg⟩ | ⟨g1, g2, g3, g4, hg⟩ | ⟨rfl, g3, hg⟩ | ⟨rfl, g3, g4, hg⟩ | ⟨rfl, g3, g4, g5, hg⟩ | ⟨g1, g2, g3, g4, hg⟩ | ⟨rfl, rfl, hg⟩
    · have HF := Lib.hid (HP11.out hg)
      have g1b : (gate == -1) = false := by simpa using g1
      have g1c : (gate != -1) = true := by simpa using g1
      clear hg
      have HGa : Hid (∀ W : World, Calls Tryz.prog 26 #[.agg #[.int .i64 c.cats, .slice c.ga c.gn c.gc, .slice c.ra c.rn c.rc, .slice c.pa c.pn c.pc, .slice c.na c.nn c.nc, .slice c.sa c.sn c.sc, .int .i64 gate, .int .i64 quota], .int .i64 gate] W fun e w' => e = .returned (.bool false) ∧ Below W.heap.size W w') := Lib.hid fun W => by have h := HGst.out W; rwa [g2] at h
      clear HGst g2
      go_wp2_with fail
      refine (HGa.out _).mono ?_
      rintro e W6 ⟨rfl, hn6⟩
      have hb6 := hb5.trans (hn6.mono hb5.size)
      have HX6 := Lib.hid (HX5.out.below hn6)
      clear hn6 k0 k1 k2 k3 k4 k5 k6 k7
      obtain ⟨k0, k1, k2, k3, k4, k5, k6, k7⟩ := HX6.out.cells
      rw [← HGq.out.1] at k6
      rw [← HGq.out.2] at k7
      go_wp2
      go_ret2
      exact ⟨by rw [HF.out]; rfl, hb6⟩
    · have HF := Lib.hid (HP11.out hg)
      have g1b : (gate == -1) = false := by simpa using g1
      have g1c : (gate != -1) = true := by simpa using g1
      clear hg
      have HGa : Hid (∀ W : World, Calls Tryz.prog 26 #[.agg #[.int .i64 c.cats, .slice c.ga c.gn c.gc, .slice c.ra c.rn c.rc, .slice c.pa c.pn c.pc, .slice c.na c.nn c.nc, .slice c.sa c.sn c.sc, .int .i64 gate, .int .i64 quota], .int .i64 gate] W fun e w' => e = .returned (.bool true) ∧ Below W.heap.size W w') := Lib.hid fun W => by have h := HGst.out W; rwa [g2] at h
      clear HGst g2
      go_wp2_with fail
      refine (HGa.out _).mono ?_
      rintro e W6 ⟨rfl, hn6⟩
      have hb6 := hb5.trans (hn6.mono hb5.size)
      have HX6 := Lib.hid (HX5.out.below hn6)
      clear hn6 k0 k1 k2 k3 k4 k5 k6 k7
      obtain ⟨k0, k1, k2, k3, k4, k5, k6, k7⟩ := HX6.out.cells
      rw [← HGq.out.1] at k6
      rw [← HGq.out.2] at k7
      go_wp2
      go_ret2
      exact ⟨by rw [HF.out]; rfl, hb6⟩
    · have HF := Lib.hid (HP11.out hg)
      have g1b : (gate == -1) = false := by simpa using g1
      have g1c : (gate != -1) = true := by simpa using g1
      clear hg
      have HGa : Hid (∀ W : World, Calls Tryz.prog 26 #[.agg #[.int .i64 c.cats, .slice c.ga c.gn c.gc, .slice c.ra c.rn c.rc, .slice c.pa c.pn c.pc, .slice c.na c.nn c.nc, .slice c.sa c.sn c.sc, .int .i64 gate, .int .i64 quota], .int .i64 gate] W fun e w' => e = .returned (.bool true) ∧ Below W.heap.size W w') := Lib.hid fun W => by have h := HGst.out W; rwa [g2] at h
      clear HGst g2
      go_wp2_with fail
      refine (HGa.out _).mono ?_
      rintro e W6 ⟨rfl, hn6⟩
      have hb6 := hb5.trans (hn6.mono hb5.size)
      have HX6 := Lib.hid (HX5.out.below hn6)
      clear hn6 k0 k1 k2 k3 k4 k5 k6 k7
      obtain ⟨k0, k1, k2, k3, k4, k5, k6, k7⟩ := HX6.out.cells
      rw [← HGq.out.1] at k6
      rw [← HGq.out.2] at k7
      go_wp2
      go_ret2
      exact ⟨by rw [HF.out]; rfl, hb6⟩
    · have HF := Lib.hid (HP11.out hg)
      clear hg
      go_wp2
      go_ret2
      exact ⟨by rw [HF.out]; rfl, hb5⟩
    · have HF := Lib.hid (HP11.out hg)
      clear hg
      go_wp2
      go_ret2
      exact ⟨by rw [HF.out]; rfl, hb5⟩
    · have HF := Lib.hid (HP11.out hg)
      have g5b : (quota != 0) = true := by simpa using g5
      have g5c : (quota == 0) = false := by simpa using g5
      clear hg
      go_wp2
      go_ret2
      exact ⟨by rw [HF.out]; rfl, hb5⟩
    · have P12 := Lib.hid (HP12.out hg)
      have g1b : (gate == -1) = false := by simpa using g1
      have g1c : (gate != -1) = true := by simpa using g1
      clear hg
      have HGa : Hid (∀ W : World, Calls Tryz.prog 26 #[.agg #[.int .i64 c.cats, .slice c.ga c.gn c.gc, .slice c.ra c.rn c.rc, .slice c.pa c.pn c.pc, .slice c.na c.nn c.nc, .slice c.sa c.sn c.sc, .int .i64 gate, .int .i64 quota], .int .i64 gate] W fun e w' => e = .returned (.bool true) ∧ Below W.heap.size W w') := Lib.hid fun W => by have h := HGst.out W; rwa [g2] at h
      clear HGst g2
      go_wp2_with fail
      refine (HGa.out _).mono ?_
      rintro e W6 ⟨rfl, hn6⟩
      have hb6 := hb5.trans (hn6.mono hb5.size)
      have HX6 := Lib.hid (HX5.out.below hn6)
      clear hn6 k0 k1 k2 k3 k4 k5 k6 k7
      obtain ⟨k0, k1, k2, k3, k4, k5, k6, k7⟩ := HX6.out.cells
      rw [← HGq.out.1] at k6
      rw [← HGq.out.2] at k7
      obtain ⟨q5, _, q6⟩ := passed_small (c := c) (fun j' hj => P12.out j' (by omega))
      have HNd := HC5.out q5 q6 _ hb6
      have hv : c.v = .agg #[.int .i64 c.cats, .slice c.ga c.gn c.gc, .slice c.ra c.rn c.rc, .slice c.pa c.pn c.pc, .slice c.na c.nn c.nc, .slice c.sa c.sn c.sc, .int .i64 gate, .int .i64 quota] := by rw [HGq.out.1, HGq.out.2]
      rw [hv] at HNd
      have HNd2 := Lib.hid HNd
      clear HNd q6 hv
      have HLast : Hid ((32 < need c ∧ check c = (19, 0)) ∨ (need c ≤ 32 ∧ check c = (0, 0))) := Lib.hid (by
        by_cases h : 32 < need c
        · exact .inl ⟨h, check_at (j := 12) (i := 0) (by omega) P12.out (by simp [cntR]) (decide_eq_true h) (fun i hi => absurd hi (by omega))⟩
        · exact .inr ⟨by omega, check_ok (P12.out.next fun i hi => decide_eq_false h)⟩)
      obtain ⟨nd, hnd⟩ : ∃ nd, nd = need c := ⟨_, rfl⟩
      rw [← hnd] at HNd2 HLast
      clear hnd
      rcases HLast.out with ⟨h32, hF⟩ | ⟨h32, hF⟩
      all_goals
        have HF := Lib.hid hF
        clear HLast hF
        go_wp2_with fail
        refine HNd2.out.mono ?_
        rintro e W7 ⟨rfl, hn7⟩
        go_wp2
        go_ret2
        exact ⟨by rw [HF.out]; rfl, hb6.trans (hn7.mono hb6.size)⟩
    · have P12 := Lib.hid (HP12.out hg)
      clear hg
      obtain ⟨q5, _, q6⟩ := passed_small (c := c) (fun j' hj => P12.out j' (by omega))
      have HNd := HC5.out q5 q6 _ hb5
      have hv : c.v = .agg #[.int .i64 c.cats, .slice c.ga c.gn c.gc, .slice c.ra c.rn c.rc, .slice c.pa c.pn c.pc, .slice c.na c.nn c.nc, .slice c.sa c.sn c.sc, .int .i64 (-1), .int .i64 0] := by rw [HGq.out.1, HGq.out.2]
      rw [hv] at HNd
      have HNd2 := Lib.hid HNd
      clear HNd q6 hv
      have HLast : Hid ((32 < need c ∧ check c = (19, 0)) ∨ (need c ≤ 32 ∧ check c = (0, 0))) := Lib.hid (by
        by_cases h : 32 < need c
        · exact .inl ⟨h, check_at (j := 12) (i := 0) (by omega) P12.out (by simp [cntR]) (decide_eq_true h) (fun i hi => absurd hi (by omega))⟩
        · exact .inr ⟨by omega, check_ok (P12.out.next fun i hi => decide_eq_false h)⟩)
      obtain ⟨nd, hnd⟩ : ∃ nd, nd = need c := ⟨_, rfl⟩
      rw [← hnd] at HNd2 HLast
      clear hnd
      rcases HLast.out with ⟨h32, hF⟩ | ⟨h32, hF⟩
      all_goals
        have HF := Lib.hid hF
        clear HLast hF
        go_wp2_with fail
        refine HNd2.out.mono ?_
        rintro e W7 ⟨rfl, hn7⟩
        go_wp2
        go_ret2
        exact ⟨by rw [HF.out]; rfl, hb5.trans (hn7.mono hb5.size)⟩

end Go.Proofs.YtikkfapgmbamlaaGreatDoor.Cf
end
