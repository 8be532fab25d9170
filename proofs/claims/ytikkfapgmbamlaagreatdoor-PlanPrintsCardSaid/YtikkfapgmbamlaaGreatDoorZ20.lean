/- Several texts in one: Cc -/
import Derived.Test.YtikkfapgmbamlaaGreatDoorZ19
section
/- isGuest, isWrongGuest, isWrongSlot, isWrongGate. -/
namespace Go.Proofs.YtikkfapgmbamlaaGreatDoor.Cf
open Go.RowKit Ut
set_option maxRecDepth 100000
set_option linter.unusedVariables false

def isGn (gn : Nat) (i : Int) : Bool := decide (0 ≤ i) && decide (i < gn)
theorem isGn_in (gn : Nat) (i : Int) : inB i 0 ((gn : Int) - 1) = isGn gn i := by
  unfold inB isGn
  congr 1
  exact decide_eq_decide.2 (by omega)
theorem isGuest_any (v0 v2 v3 v4 v5 v6 v7 : Value) (ga : Option Addr) (gn gc : Nat) (i : Int) (w : World) (hl : gn ≤ 140737488355328) :
    Calls Tryz.prog 67 #[.agg #[v0, .slice ga gn gc, v2, v3, v4, v5, v6, v7], .int .i64 i] w fun e w' => e = .returned (.bool (isGn gn i)) ∧ Below w.heap.size w w' := by
  have HI := Lib.hid (isGn_in gn i)
  go_enter Tryz.func67, Tryz.ntmps67
  go_wp2_with (first | (go_at_call 31; refine (within_any _ _ _ _).mono ?_; rintro e w' ⟨rfl, rfl⟩))
  go_ret
  exact ⟨by rw [HI.out]; rfl, (Below.refl _ _).alloc (Nat.le_refl _) _⟩

theorem wrongG_cases (c : Cfg) (i : Nat) : (La.validB (c.G i 0) c.cats = false ∧ wrongG c i = true) ∨ (La.validB (c.G i 0) c.cats = true ∧ ((inB (c.G i 1) 1 8 = false ∧ wrongG c i = true) ∨
    (inB (c.G i 1) 1 8 = true ∧ 1 ≤ c.G i 1 ∧ c.G i 1 ≤ 8 ∧ ((inB (c.G i 2) 0 (8 - c.G i 1) = false ∧ wrongG c i = true) ∨ (inB (c.G i 2) 0 (8 - c.G i 1) = true ∧ wrongG c i = false))))) := by
  unfold wrongG
  cases h1 : La.validB (c.G i 0) c.cats
  · simp
  · cases h2 : inB (c.G i 1) 1 8
    · simp
    · have h3 := h2
      unfold inB at h3
      simp at h3
      cases h4 : inB (c.G i 2) 0 (8 - c.G i 1)
      · simp [h3]
      · simp [h3]

set_option maxRecDepth 100000 in
theorem wrongGuest_any (c : Cfg) (i B : Nat) (w : World) (hB : B ≤ w.heap.size) (hc : c.At w B) (hi : i < c.gn) :
    Calls Tryz.prog 34 #[c.v, .int .i64 i] w fun e w' => e = .returned (.bool (wrongG c i)) ∧ Below w.heap.size w w' := by
  have hcs := wrongG_cases c i
  obtain ⟨r, hr⟩ : ∃ r, r = wrongG c i := ⟨_, rfl⟩
  rw [← hr] at hcs ⊢
  have hl := hc.lg
  have hg := hc.g
  clear hr hc
  obtain ⟨cats, ga, gn, gc, ra, rn, rc, pa, pn, pc, na, nn, nc, sa, sn, sc, gate, quota, G, R, P, N, S⟩ := c
  dsimp only at hcs hl hi hg
  obtain ⟨x, rfl, hx, c0, c1, c2⟩ := hg.at3 i hi
  have b0 : (0 : Int) ≤ (i : Int) := by omega
  have b1 : (i : Int) < (gn : Int) := by omega
  clear hg
  have hy : (x.add (i * 3)).block < w.heap.size := by rw [block_of_add]; omega
  rcases hcs with ⟨h1, rfl⟩ | ⟨h1, ⟨h2, rfl⟩ | ⟨h2, h2a, h2b, ⟨h3, rfl⟩ | ⟨h3, rfl⟩⟩⟩
  all_goals
    go_enter Tryz.func34, Tryz.ntmps34
    go_wp2_with (first | (go_at_call 31; refine (within_any _ _ _ _).mono ?_; rintro e w' ⟨rfl, rfl⟩) | (go_at_call 65; refine (La.valid_gen _ _ _).mono ?_; rintro e w' ⟨rfl, rfl⟩))
    go_ret
    exact ⟨rfl, ((Below.refl _ _).alloc (Nat.le_refl _) _).alloc (by simp) _⟩

theorem wrongS_cases (c : Cfg) (i : Nat) : (isGn c.gn (c.S i 0) = false ∧ wrongS c i = true) ∨ (isGn c.gn (c.S i 0) = true ∧ ((inB (c.S i 1) 1 32 = false ∧ wrongS c i = true) ∨ (inB (c.S i 1) 1 32 = true ∧ wrongS c i = false))) := by
  unfold wrongS
  rw [show isG c (c.S i 0) = isGn c.gn (c.S i 0) from rfl]
  cases h1 : isGn c.gn (c.S i 0)
  · simp
  · cases h2 : inB (c.S i 1) 1 32 <;> simp

set_option maxRecDepth 100000 in
theorem wrongSlot_any (c : Cfg) (i B : Nat) (w : World) (hB : B ≤ w.heap.size) (hc : c.At w B) (hi : i < c.sn) :
    Calls Tryz.prog 46 #[c.v, .int .i64 i] w fun e w' => e = .returned (.bool (wrongS c i)) ∧ Below w.heap.size w w' := by
  have hcs := wrongS_cases c i
  obtain ⟨r, hr⟩ : ∃ r, r = wrongS c i := ⟨_, rfl⟩
  rw [← hr] at hcs ⊢
  have hl := hc.ls
  have hlg := hc.lg
  have hg := hc.s
  clear hr hc
  obtain ⟨cats, ga, gn, gc, ra, rn, rc, pa, pn, pc, na, nn, nc, sa, sn, sc, gate, quota, G, R, P, N, S⟩ := c
  dsimp only at hcs hl hi hg hlg
  have hgn : gn ≤ 140737488355328 := by omega
  obtain ⟨x, rfl, hx, c0, c1⟩ := hg.at2 i hi
  have b0 : (0 : Int) ≤ (i : Int) := by omega
  have b1 : (i : Int) < (sn : Int) := by omega
  clear hg
  have hy : (x.add (i * 2)).block < w.heap.size := by rw [block_of_add]; omega
  rcases hcs with ⟨h1, rfl⟩ | ⟨h1, ⟨h2, rfl⟩ | ⟨h2, rfl⟩⟩
  all_goals
    go_enter Tryz.func46, Tryz.ntmps46
    go_wp2_with (first | (go_at_call 31; refine (within_any _ _ _ _).mono ?_; rintro e w' ⟨rfl, rfl⟩) | (go_at_call 67; refine (isGuest_any _ _ _ _ _ _ _ _ _ _ _ _ hgn).mono ?_; rintro e w' ⟨rfl, hb⟩; have hq := old_cells hb))
    go_ret
    exact ⟨rfl, (((Below.refl _ _).alloc (Nat.le_refl _) _).alloc (by simp) _).trans (hb.mono (by simp; omega))⟩

theorem wrongGate_cases (c : Cfg) : (c.gate = -1 ∧ c.quota = 0 ∧ wrongGate c = false) ∨ (c.gate = -1 ∧ c.quota ≠ 0 ∧ wrongGate c = true) ∨ (c.gate ≠ -1 ∧ ((isGn c.gn c.gate = false ∧ wrongGate c = true) ∨
    (isGn c.gn c.gate = true ∧ ((inB c.quota 0 64 = false ∧ wrongGate c = true) ∨ (inB c.quota 0 64 = true ∧ wrongGate c = false))))) := by
  unfold wrongGate
  rw [show isG c c.gate = isGn c.gn c.gate from rfl]
  by_cases h : c.gate = -1
  · by_cases h2 : c.quota = 0 <;> simp [h, h2]
  · cases h1 : isGn c.gn c.gate
    · simp [h]
    · cases h2 : inB c.quota 0 64 <;> simp [h]

set_option maxRecDepth 100000 in
theorem wrongGate_any (c : Cfg) (w : World) (hlg : c.gn ≤ 140737488355328) :
    Calls Tryz.prog 48 #[c.v] w fun e w' => e = .returned (.bool (wrongGate c)) ∧ Below w.heap.size w w' := by
  have hcs := wrongGate_cases c
  obtain ⟨r, hr⟩ : ∃ r, r = wrongGate c := ⟨_, rfl⟩
  rw [← hr] at hcs ⊢
  clear hr
  obtain ⟨cats, ga, gn, gc, ra, rn, rc, pa, pn, pc, na, nn, nc, sa, sn, sc, gate, quota, G, R, P, N, S⟩ := c
  dsimp only at hcs hlg
  rcases hcs with ⟨rfl, rfl, rfl⟩ | ⟨rfl, h2, rfl⟩ | ⟨h1, ⟨h2, rfl⟩ | ⟨h2, ⟨h3, rfl⟩ | ⟨h3, rfl⟩⟩⟩
  · go_enter Tryz.func48, Tryz.ntmps48
    go_wp2
    go_ret
    exact ⟨rfl, (Below.refl _ _).alloc (Nat.le_refl _) _⟩
  · have HQ : Hid ((quota != 0) = true) := Lib.hid (by simpa using h2)
    clear h2
    go_enter Tryz.func48, Tryz.ntmps48
    go_wp2
    go_ret
    exact ⟨by rw [HQ.out]; rfl, (Below.refl _ _).alloc (Nat.le_refl _) _⟩
  all_goals
    go_enter Tryz.func48, Tryz.ntmps48
    go_wp2_with (first | (go_at_call 31; refine (within_any _ _ _ _).mono ?_; rintro e w' ⟨rfl, rfl⟩) | (go_at_call 67; refine (isGuest_any _ _ _ _ _ _ _ _ _ _ _ _ hlg).mono ?_; rintro e w' ⟨rfl, hb⟩; have hq := old_cells hb))
    go_ret
    exact ⟨rfl, ((Below.refl _ _).alloc (Nat.le_refl _) _).trans (hb.mono (by simp))⟩
end Go.Proofs.YtikkfapgmbamlaaGreatDoor.Cf
end
