/- What follows of a configuration: isRight, Frames, First, RingFrame, PortOf, Period, Bound. -/
import Derived.Test.YtmekoanobicddaaCk
namespace Go.Proofs.Ytmekoanobicddaa.Cf
open Go.RowKit Ut
set_option linter.unusedVariables false

def rightB (c : Cfg) : Bool := decide ((check c).1 = 0)
theorem errR_pos (j : Nat) : errR j ≠ 0 := by
  unfold errR
  split <;> decide
theorem right_passed {c : Cfg} (h : rightB c = true) : Passed c 13 := by
  unfold rightB at h
  simp at h
  rcases check_cases c with ⟨_, hp⟩ | ⟨j, i, _, _, _, _, _, he⟩
  · exact hp
  · rw [he] at h
    exact absurd h (errR_pos j)
theorem right_small {c : Cfg} (h : rightB c = true) : c.gn ≤ 4 ∧ 1 ≤ c.gn ∧ Small c.G c.gn := passed_small (fun j hj => right_passed h j (by omega))
theorem right_rings {c : Cfg} (h : rightB c = true) : c.nn ≤ 4 := by
  have h1 : decide (4 < (c.nn : Int)) = false := right_passed h 7 (by omega) 0 (by simp [cntR])
  simp at h1; omega
theorem right_ports {c : Cfg} (h : rightB c = true) : c.pn ≤ 8 := by
  have h1 : decide (8 < (c.pn : Int)) = false := right_passed h 5 (by omega) 0 (by simp [cntR])
  simp at h1; omega
theorem right_ranges {c : Cfg} (h : rightB c = true) : c.rn ≤ 8 := by
  have h1 : decide (8 < (c.rn : Int)) = false := right_passed h 3 (by omega) 0 (by simp [cntR])
  simp at h1; omega
theorem right_slots {c : Cfg} (h : rightB c = true) : 1 ≤ c.sn ∧ c.sn ≤ 8 := by
  have h1 : (!inB c.sn 1 8) = false := right_passed h 9 (by omega) 0 (by simp [cntR])
  unfold inB at h1
  simp at h1; omega
theorem right_need {c : Cfg} (h : rightB c = true) : need c ≤ 32 := by
  have h1 : decide (32 < need c) = false := right_passed h 12 (by omega) 0 (by simp [cntR])
  simpa using h1
theorem right_slot {c : Cfg} (h : rightB c = true) (i : Nat) (hi : i < c.sn) : isGn c.gn (c.S i 0) = true ∧ 1 ≤ c.S i 1 ∧ c.S i 1 ≤ 32 := by
  have h1 : wrongS c i = false := right_passed h 10 (by omega) i (by simpa [cntR] using hi)
  rcases wrongS_cases c i with ⟨_, h2⟩ | ⟨h0, ⟨_, h2⟩ | ⟨h3, _⟩⟩
  · rw [h2] at h1; cases h1
  · rw [h2] at h1; cases h1
  · unfold inB at h3
    simp at h3
    exact ⟨h0, h3.1, h3.2⟩
theorem right_gate {c : Cfg} (h : rightB c = true) : 0 ≤ c.quota ∧ c.quota ≤ 64 := by
  have h1 : wrongGate c = false := right_passed h 11 (by omega) 0 (by simp [cntR])
  rcases wrongGate_cases c with ⟨_, h0, _⟩ | ⟨_, _, h2⟩ | ⟨_, ⟨_, h2⟩ | ⟨_, ⟨_, h2⟩ | ⟨h3, _⟩⟩⟩
  · omega
  · rw [h2] at h1; cases h1
  · rw [h2] at h1; cases h1
  · rw [h2] at h1; cases h1
  · unfold inB at h3
    simp at h3
    omega

theorem isRight_any (c : Cfg) (B : Nat) (w : World) (hB : B ≤ w.heap.size) (hc : c.At w B) :
    Calls Try.prog 53 #[c.v] w fun e w' => e = .returned (.bool (rightB c)) ∧ Below w.heap.size w w' := by
  have hb0 : ∀ o : Obj, Below w.heap.size w (w.alloc o) := fun o => (Below.refl _ _).alloc (Nat.le_refl _) _
  have HB0 := Lib.hid hb0
  have HC : Hid (∀ W, Below w.heap.size w W → Calls Try.prog 16 #[c.v] W fun e w' => e = .returned (.tuple #[.int .i64 (check c).1, .int .i64 (check c).2]) ∧ Below W.heap.size W w') := Lib.hid fun W hW => check_any c B W (by have := hW.size; omega) (hc.below (hW.mono hB))
  have HR : Hid (rightB c = decide ((check c).1 = 0)) := Lib.hid rfl
  obtain ⟨r, hr⟩ : ∃ r, r = rightB c := ⟨_, rfl⟩
  rw [← hr] at HR ⊢
  obtain ⟨a, ha⟩ : ∃ a, a = (check c).1 := ⟨_, rfl⟩
  obtain ⟨b, hb⟩ : ∃ b, b = (check c).2 := ⟨_, rfl⟩
  rw [← ha] at HC HR
  rw [← hb] at HC
  clear hc hb0 hr ha hb
  go_enter Try.func53, Try.ntmps53
  go_wp2_with fail
  refine (HC.out _ (HB0.out _)).mono ?_
  rintro e w1 ⟨rfl, hb⟩
  go_wp2
  go_ret
  exact ⟨by rw [HR.out]; rfl, (HB0.out _).trans (hb.mono (by simp))⟩
/-- .. in any world above the first -/
theorem isRight_keep (c : Cfg) (B : Nat) (w : World) (hB : B ≤ w.heap.size) (hc : c.At w B) (r : Bool) (hr : rightB c = r) :
    Hid (∀ W, Below w.heap.size w W → Calls Try.prog 53 #[c.v] W fun e w' => e = .returned (.bool r) ∧ Below W.heap.size W w') := Lib.hid fun W hW => by
  subst hr
  exact isRight_any c B W (by have := hW.size; omega) (hc.below (hW.mono hB))
theorem one_new (w : World) : Hid (∀ o : Obj, Below w.heap.size w (w.alloc o)) := Lib.hid fun o => (Below.refl _ _).alloc (Nat.le_refl _) _

def framesZ (c : Cfg) : Int := if rightB c then need c else 0
theorem Frames_any (c : Cfg) (B : Nat) (w : World) (hB : B ≤ w.heap.size) (hc : c.At w B) :
    Calls Try.prog 19 #[c.v] w fun e w' => e = .returned (.int .i64 (framesZ c)) ∧ Below w.heap.size w w' := by
  have HB0 := one_new w
  unfold framesZ
  cases hr : rightB c
  · have HR := isRight_keep c B w hB hc _ hr
    clear hr hc
    simp only [Bool.false_eq_true, if_false]
    go_enter Try.func19, Try.ntmps19
    go_wp2_with fail
    refine (HR.out _ (HB0.out _)).mono ?_
    rintro e w1 ⟨rfl, hb⟩
    go_wp2
    go_ret
    exact ⟨rfl, (HB0.out _).trans (hb.mono (by simp))⟩
  · have HR := isRight_keep c B w hB hc _ hr
    obtain ⟨hn, _, hs⟩ := right_small hr
    have HF : Hid (∀ W, Below w.heap.size w W → Calls Try.prog 54 #[c.v] W fun e w' => e = .returned (.int .i64 (need c)) ∧ Below W.heap.size W w') := Lib.hid fun W hW => frames_any c B W (by have := hW.size; omega) (hc.below (hW.mono hB)) hn hs
    clear hr hc hs
    simp only [if_true]
    obtain ⟨n, hn⟩ : ∃ n, n = need c := ⟨_, rfl⟩
    rw [← hn] at HF ⊢
    clear hn
    go_enter Try.func19, Try.ntmps19
    go_wp2_with fail
    refine (HR.out _ (HB0.out _)).mono ?_
    rintro e w1 ⟨rfl, hb⟩
    have hq := old_cells hb
    have hbw := (HB0.out _).trans (hb.mono (by simp))
    go_wp2_with fail
    refine (HF.out _ hbw).mono ?_
    rintro e w2 ⟨rfl, hb2⟩
    go_wp2
    go_ret
    exact ⟨rfl, hbw.trans (hb2.mono hbw.size)⟩

def firstZ (c : Cfg) (g : Int) : Int := if rightB c && isGn c.gn g then sumG c.G g.toNat else -1
set_option maxRecDepth 100000 in
theorem First_any (c : Cfg) (g : Int) (B : Nat) (w : World) (hB : B ≤ w.heap.size) (hc : c.At w B) :
    Calls Try.prog 27 #[c.v, .int .i64 g] w fun e w' => e = .returned (.int .i64 (firstZ c g)) ∧ Below w.heap.size w w' := by
  have HB0 := one_new w
  have hlg := hc.lg
  have hgn : c.gn ≤ 140737488355328 := by omega
  unfold firstZ
  cases hr : rightB c
  · have HR := isRight_keep c B w hB hc _ hr
    clear hr hc
    simp only [Bool.false_and, Bool.false_eq_true, if_false]
    go_enter Try.func27, Try.ntmps27
    go_wp2_with fail
    refine (HR.out _ (HB0.out _)).mono ?_
    rintro e w1 ⟨rfl, hb⟩
    go_wp2
    go_ret
    exact ⟨rfl, (HB0.out _).trans (hb.mono (by simp))⟩
  · have HR := isRight_keep c B w hB hc _ hr
    cases hg : isGn c.gn g
    · clear hr hc
      simp only [Bool.and_false, Bool.false_eq_true, if_false]
      go_enter Try.func27, Try.ntmps27
      go_wp2_with fail
      refine (HR.out _ (HB0.out _)).mono ?_
      rintro e w1 ⟨rfl, hb⟩
      have hq := old_cells hb
      have hbw := (HB0.out _).trans (hb.mono (by simp))
      go_wp2_with fail
      refine (isGuest_any _ _ _ _ _ _ _ _ _ _ _ _ hgn).mono ?_
      rintro e w2 ⟨rfl, hb2⟩
      go_wp2
      go_ret
      exact ⟨rfl, hbw.trans (hb2.mono hbw.size)⟩
    · obtain ⟨k, rfl, hk⟩ := isGn_true hg
      obtain ⟨hn, _, hs⟩ := right_small hr
      have hg3 := hc.g
      simp only [Bool.and_self, if_true, Int.toNat_natCast]
      obtain ⟨cats, ga, gn, gc, ra, rn, rc, pa, pn, pc, na, nn, nc, sa, sn, sc, gate, quota, G, R, P, N, S⟩ := c
      dsimp only at hk hn hs hg3 hlg hgn HR hg ⊢
      obtain ⟨x, rfl, _⟩ := hg3.at3 k hk
      have HF : Hid (∀ W, Below w.heap.size w W → Calls Try.prog 56 #[.slice (some x) k gc] W fun e w' => e = .returned (.int .i64 (sumG G k)) ∧ Below W.heap.size W w') :=
        Lib.hid fun W hW => framesOf_any (some x) k gc B G W (by have := hW.size; omega) ((hg3.take (by omega)).below (hW.mono hB)) (by omega) (fun i hi => hs i (by omega))
      obtain ⟨n, hn⟩ : ∃ n, n = sumG G k := ⟨_, rfl⟩
      rw [← hn] at HF ⊢
      clear hn hr hc hs hg3
      have k0 : (0 : Int) ≤ (k : Int) := by omega
      have k1 : (k : Int) ≤ (gc : Int) := by omega
      have k2 : k ≤ gc := by omega
      go_enter Try.func27, Try.ntmps27
      go_wp2_with fail
      refine (HR.out _ (HB0.out _)).mono ?_
      rintro e w1 ⟨rfl, hb⟩
      have hq := old_cells hb
      have s1 : w.heap.size < w1.heap.size := by have := hb.size; simp at this; omega
      have hbw := (HB0.out _).trans (hb.mono (by simp))
      go_wp2_with fail
      refine (isGuest_any _ _ _ _ _ _ _ _ _ _ _ _ hgn).mono ?_
      rintro e w2 ⟨rfl, hb2⟩
      have hq2 := old_cells hb2
      have hbw2 := hbw.trans (hb2.mono hbw.size)
      go_wp2_with fail
      refine (HF.out _ hbw2).mono ?_
      rintro e w3 ⟨rfl, hb3⟩
      go_wp2
      go_ret
      exact ⟨rfl, hbw2.trans (hb3.mono hbw2.size)⟩

def ringZ (c : Cfg) (i : Int) : Int := if rightB c && isGn c.nn i then sumG c.G c.gn + i else -1
set_option maxRecDepth 100000 in
theorem RingFrame_any (c : Cfg) (i : Int) (B : Nat) (w : World) (hB : B ≤ w.heap.size) (hc : c.At w B) :
    Calls Try.prog 29 #[c.v, .int .i64 i] w fun e w' => e = .returned (.int .i64 (ringZ c i)) ∧ Below w.heap.size w w' := by
  have HB0 := one_new w
  have hln := hc.ln
  have hnn : c.nn ≤ 140737488355328 := by omega
  have HI := Lib.hid (isGn_in c.nn i)
  unfold ringZ
  cases hr : rightB c
  · have HR := isRight_keep c B w hB hc _ hr
    clear hr hc
    simp only [Bool.false_and, Bool.false_eq_true, if_false]
    go_enter Try.func29, Try.ntmps29
    go_wp2_with fail
    refine (HR.out _ (HB0.out _)).mono ?_
    rintro e w1 ⟨rfl, hb⟩
    go_wp2
    go_ret
    exact ⟨rfl, (HB0.out _).trans (hb.mono (by simp))⟩
  · have HR := isRight_keep c B w hB hc _ hr
    have HIn : Hid (∀ W : World, Calls Try.prog 58 #[.int .i64 i, .int .i64 0, .int .i64 ((c.nn : Int) - 1)] W fun e w' => e = .returned (.bool (isGn c.nn i)) ∧ W = w') := Lib.hid fun W => by rw [← isGn_in]; exact within_any _ _ _ _
    clear HI
    cases hg : isGn c.nn i
    · clear hr hc
      rw [hg] at HIn
      clear hg
      simp only [Bool.and_false, Bool.false_eq_true, if_false]
      go_enter Try.func29, Try.ntmps29
      go_wp2_with fail
      refine (HR.out _ (HB0.out _)).mono ?_
      rintro e w1 ⟨rfl, hb⟩
      have hq := old_cells hb
      have hbw := (HB0.out _).trans (hb.mono (by simp))
      go_wp2_with fail
      refine (HIn.out _).mono ?_
      rintro e w2 ⟨rfl, rfl⟩
      go_wp2
      go_ret
      exact ⟨rfl, hbw⟩
    · have hn4 := right_rings hr
      obtain ⟨hn, _, hs⟩ := right_small hr
      have hbd := sumG_bd hs c.gn (Nat.le_refl _)
      obtain ⟨k, rfl, hk⟩ := isGn_true hg
      rw [hg] at HIn
      have HF : Hid (∀ W, Below w.heap.size w W → Calls Try.prog 56 #[.slice c.ga c.gn c.gc] W fun e w' => e = .returned (.int .i64 (sumG c.G c.gn)) ∧ Below W.heap.size W w') :=
        Lib.hid fun W hW => framesOf_any c.ga c.gn c.gc B c.G W (by have := hW.size; omega) (hc.g.below (hW.mono hB)) hn hs
      simp only [Bool.and_self, if_true]
      obtain ⟨m, hm⟩ : ∃ m, m = sumG c.G c.gn := ⟨_, rfl⟩
      rw [← hm] at HF hbd ⊢
      clear hm hr hc hs hg
      have k0 : (0 : Int) ≤ (k : Int) := by omega
      have k1 : (k : Int) ≤ 4 := by omega
      go_enter Try.func29, Try.ntmps29
      go_wp2_with fail
      refine (HR.out _ (HB0.out _)).mono ?_
      rintro e w1 ⟨rfl, hb⟩
      have hq := old_cells hb
      have hbw := (HB0.out _).trans (hb.mono (by simp))
      go_wp2_with fail
      refine (HIn.out _).mono ?_
      rintro e w2 ⟨rfl, rfl⟩
      go_wp2_with fail
      refine (HF.out _ hbw).mono ?_
      rintro e w3 ⟨rfl, hb3⟩
      go_wp2
      go_ret
      exact ⟨rfl, hbw.trans (hb3.mono hbw.size)⟩

def portZ (c : Cfg) (g : Int) : Int := if rightB c && isGn c.gn g then atI (portI c.P c.pn g) else -1
set_option maxRecDepth 100000 in
theorem PortOf_any (c : Cfg) (g : Int) (B : Nat) (w : World) (hB : B ≤ w.heap.size) (hc : c.At w B) :
    Calls Try.prog 31 #[c.v, .int .i64 g] w fun e w' => e = .returned (.int .i64 (portZ c g)) ∧ Below w.heap.size w w' := by
  have HB0 := one_new w
  have hlg := hc.lg
  have hgn : c.gn ≤ 140737488355328 := by omega
  unfold portZ
  cases hr : rightB c
  · have HR := isRight_keep c B w hB hc _ hr
    clear hr hc
    simp only [Bool.false_and, Bool.false_eq_true, if_false]
    go_enter Try.func31, Try.ntmps31
    go_wp2_with fail
    refine (HR.out _ (HB0.out _)).mono ?_
    rintro e w1 ⟨rfl, hb⟩
    go_wp2
    go_ret
    exact ⟨rfl, (HB0.out _).trans (hb.mono (by simp))⟩
  · have HR := isRight_keep c B w hB hc _ hr
    cases hg : isGn c.gn g
    · clear hr hc
      simp only [Bool.and_false, Bool.false_eq_true, if_false]
      go_enter Try.func31, Try.ntmps31
      go_wp2_with fail
      refine (HR.out _ (HB0.out _)).mono ?_
      rintro e w1 ⟨rfl, hb⟩
      have hq := old_cells hb
      have hbw := (HB0.out _).trans (hb.mono (by simp))
      go_wp2_with fail
      refine (isGuest_any _ _ _ _ _ _ _ _ _ _ _ _ hgn).mono ?_
      rintro e w2 ⟨rfl, hb2⟩
      go_wp2
      go_ret
      exact ⟨rfl, hbw.trans (hb2.mono hbw.size)⟩
    · have hlp := hc.lp
      have HF : Hid (∀ W, Below w.heap.size w W → Calls Try.prog 59 #[.slice c.pa c.pn c.pc, .int .i64 g] W fun e w' => e = .returned (.int .i64 (atI (portI c.P c.pn g))) ∧ Below W.heap.size W w') :=
        Lib.hid fun W hW => portOf_any c.pa c.pn c.pc B c.P g W (by have := hW.size; omega) (hc.p.below (hW.mono hB)) (by omega)
      simp only [Bool.and_self, if_true]
      obtain ⟨m, hm⟩ : ∃ m, m = atI (portI c.P c.pn g) := ⟨_, rfl⟩
      rw [← hm] at HF ⊢
      clear hm hr hc
      go_enter Try.func31, Try.ntmps31
      go_wp2_with fail
      refine (HR.out _ (HB0.out _)).mono ?_
      rintro e w1 ⟨rfl, hb⟩
      have hq := old_cells hb
      have s1 : w.heap.size < w1.heap.size := by have := hb.size; simp at this; omega
      have hbw := (HB0.out _).trans (hb.mono (by simp))
      go_wp2_with fail
      refine (isGuest_any _ _ _ _ _ _ _ _ _ _ _ _ hgn).mono ?_
      rintro e w2 ⟨rfl, hb2⟩
      have hq2 := old_cells hb2
      have hbw2 := hbw.trans (hb2.mono hbw.size)
      go_wp2_with fail
      refine (HF.out _ hbw2).mono ?_
      rintro e w3 ⟨rfl, hb3⟩
      go_wp2
      go_ret
      exact ⟨rfl, hbw2.trans (hb3.mono hbw2.size)⟩

def boundZ (c : Cfg) : Int := if rightB c then 8325 + 4 * c.quota + 16 else 0
theorem Bound_any (c : Cfg) (B : Nat) (w : World) (hB : B ≤ w.heap.size) (hc : c.At w B) :
    Calls Try.prog 23 #[c.v] w fun e w' => e = .returned (.int .i64 (boundZ c)) ∧ Below w.heap.size w w' := by
  have HB0 := one_new w
  unfold boundZ
  cases hr : rightB c
  · have HR := isRight_keep c B w hB hc _ hr
    clear hr hc
    simp only [Bool.false_eq_true, if_false]
    go_enter Try.func23, Try.ntmps23
    go_wp2_with fail
    refine (HR.out _ (HB0.out _)).mono ?_
    rintro e w1 ⟨rfl, hb⟩
    go_wp2
    go_ret
    exact ⟨rfl, (HB0.out _).trans (hb.mono (by simp))⟩
  · have HR := isRight_keep c B w hB hc _ hr
    have hq0 := right_gate hr
    clear hr hc
    simp only [if_true]
    obtain ⟨q0, q1⟩ := hq0
    go_enter Try.func23, Try.ntmps23
    go_wp2_with fail
    refine (HR.out _ (HB0.out _)).mono ?_
    rintro e w1 ⟨rfl, hb⟩
    have hq := old_cells hb
    go_wp2
    go_ret
    exact ⟨rfl, (HB0.out _).trans (hb.mono (by simp))⟩
end Go.Proofs.Ytmekoanobicddaa.Cf
