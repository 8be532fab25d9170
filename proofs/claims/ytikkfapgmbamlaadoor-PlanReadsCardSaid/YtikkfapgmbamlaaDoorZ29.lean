/- Several texts in one: Cl Cm -/
import Derived.Test.YtikkfapgmbamlaaDoorZ28
section
/- What follows of a configuration: isRight, Frames, First, RingFrame, PortOf, Period, Bound. -/
namespace Go.Proofs.YtikkfapgmbamlaaDoor.Cf
open Go.RowKit Ut
set_option linter.unusedVariables false

def rightB (c : Cfg) : Bool := decide ((check c).1 = 0)
theorem errR_pos (j : Nat) : errR j ≠ 0 := by
  unfold errR
  split <;> decide
theorem right_passed {c : Cfg} (h : rightB c = true) : Passed c 13 := by
  unfold rightB at h
  simp at h
  rcases check_cases c with ⟨_, hp⟩ | ⟨j, i, _, _, _, _, _, he⟩
  · exact hp
  · rw [he] at h
    exact absurd h (errR_pos j)
theorem right_small {c : Cfg} (h : rightB c = true) : c.gn ≤ 4 ∧ 1 ≤ c.gn ∧ Small c.G c.gn := passed_small (fun j hj => right_passed h j (by omega))
theorem right_rings {c : Cfg} (h : rightB c = true) : c.nn ≤ 4 := by
  have h1 : decide (4 < (c.nn : Int)) = false := right_passed h 7 (by omega) 0 (by simp [cntR])
  simp at h1; omega
theorem right_ports {c : Cfg} (h : rightB c = true) : c.pn ≤ 8 := by
  have h1 : decide (8 < (c.pn : Int)) = false := right_passed h 5 (by omega) 0 (by simp [cntR])
  simp at h1; omega
theorem right_ranges {c : Cfg} (h : rightB c = true) : c.rn ≤ 8 := by
  have h1 : decide (8 < (c.rn : Int)) = false := right_passed h 3 (by omega) 0 (by simp [cntR])
  simp at h1; omega
theorem right_slots {c : Cfg} (h : rightB c = true) : 1 ≤ c.sn ∧ c.sn ≤ 8 := by
  have h1 : (!inB c.sn 1 8) = false := right_passed h 9 (by omega) 0 (by simp [cntR])
  unfold inB at h1
  simp at h1; omega
theorem right_need {c : Cfg} (h : rightB c = true) : need c ≤ 32 := by
  have h1 : decide (32 < need c) = false := right_passed h 12 (by omega) 0 (by simp [cntR])
  simpa using h1
theorem right_slot {c : Cfg} (h : rightB c = true) (i : Nat) (hi : i < c.sn) : isGn c.gn (c.S i 0) = true ∧ 1 ≤ c.S i 1 ∧ c.S i 1 ≤ 32 := by
  have h1 : wrongS c i = false := right_passed h 10 (by omega) i (by simpa [cntR] using hi)
  rcases wrongS_cases c i with ⟨_, h2⟩ | ⟨h0, ⟨_, h2⟩ | ⟨h3, _⟩⟩
  · rw [h2] at h1; cases h1
  · rw [h2] at h1; cases h1
  · unfold inB at h3
    simp at h3
    exact ⟨h0, h3.1, h3.2⟩
theorem right_gate {c : Cfg} (h : rightB c = true) : 0 ≤ c.quota ∧ c.quota ≤ 64 := by
  have h1 : wrongGate c = false := right_passed h 11 (by omega) 0 (by simp [cntR])
  rcases wrongGate_cases c with ⟨_, h0, _⟩ | ⟨_, _, h2⟩ | ⟨_, ⟨_, h2⟩ | ⟨_, ⟨_, h2⟩ | ⟨h3, _⟩⟩⟩
  · omega
  · rw [h2] at h1; cases h1
  · rw [h2] at h1; cases h1
  · rw [h2] at h1; cases h1
  · unfold inB at h3
    simp at h3
    omega

theorem one_new (w : World) : Hid (∀ o : Obj, Below w.heap.size w (w.alloc o)) := Lib.hid fun o => (Below.refl _ _).alloc (Nat.le_refl _) _

def framesZ (c : Cfg) : Int := if rightB c then need c else 0
def firstZ (c : Cfg) (g : Int) : Int := if rightB c && isGn c.gn g then sumG c.G g.toNat else -1
def ringZ (c : Cfg) (i : Int) : Int := if rightB c && isGn c.nn i then sumG c.G c.gn + i else -1
def portZ (c : Cfg) (g : Int) : Int := if rightB c && isGn c.gn g then atI (portI c.P c.pn g) else -1
def boundZ (c : Cfg) : Int := if rightB c then 8325 + 4 * c.quota + 16 else 0
end Go.Proofs.YtikkfapgmbamlaaDoor.Cf
end
section
/- What follows of a configuration: RangeOf, Period, Owner. -/
namespace Go.Proofs.YtikkfapgmbamlaaDoor.Cf
open Go.RowKit Ut
set_option linter.unusedVariables false

theorem secs_length (c : Cfg) : ∀ k, (secs c k).length = 32
  | 0 => by simp [secs]
  | k + 1 => by
    show (Pt.giveL (secs c k) _ _ _).length = 32
    rw [(Pt.giveL_okay (secs_okay c k) _ _ _).2, secs_length c k]
theorem right_range {c : Cfg} (h : rightB c = true) (i : Nat) (hi : i < c.rn) : ∃ F N : Nat, c.R i 1 = F ∧ c.R i 2 = N ∧ 1 ≤ N ∧ F + N ≤ 32 := by
  have h1 : wrongR c i = false := right_passed h 4 (by omega) i (by simpa [cntR] using hi)
  rcases wrongR_cases c i with ⟨_, h2⟩ | ⟨_, e, he, ⟨_, h2⟩ | ⟨h3, _⟩⟩
  · rw [h2] at h1; cases h1
  · rw [h2] at h1; cases h1
  · subst h3
    rcases Pt.giveL_cases (secs c i) (c.R i 1) (c.R i 2) i with ⟨_, h4, _⟩ | ⟨F, N, h4, h5, h6, h7, _⟩
    · rw [he] at h4; cases h4
    · rw [secs_length] at h7
      exact ⟨F, N, h4, h5, h6, h7⟩

/-- the first of n ranges that a sector is in -/
def rangeI (R : Nat → Nat → Int) (n : Nat) (s : Int) : Option Nat := firstI n fun k => inB s (R k 1) (R k 1 + R k 2 - 1)
def rangeZ (c : Cfg) (s : Int) : Int := if rightB c then atI (rangeI c.R c.rn s) else -1

/-- the budgets of the first k slots -/
def sumS (S : Nat → Nat → Int) : Nat → Int
  | 0 => 0
  | k + 1 => sumS S k + S k 1
def periodZ (c : Cfg) : Int := if rightB c then sumS c.S c.sn else 0
theorem sumS_bd {S : Nat → Nat → Int} {n : Nat} (h : ∀ i, i < n → 1 ≤ S i 1 ∧ S i 1 ≤ 32) : ∀ k, k ≤ n → (k : Int) ≤ sumS S k ∧ sumS S k ≤ 32 * k
  | 0, _ => by simp [sumS]
  | k + 1, hk => by
    have := sumS_bd h k (by omega)
    have := h k (by omega)
    simp only [sumS]
    omega
end Go.Proofs.YtikkfapgmbamlaaDoor.Cf
end
