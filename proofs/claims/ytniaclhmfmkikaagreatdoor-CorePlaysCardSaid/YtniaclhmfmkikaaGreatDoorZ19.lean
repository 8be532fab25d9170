/- Several texts in one: Vj -/
import Derived.Test.YtniaclhmfmkikaaGreatDoorZ18
section
/- Package core: way: how a job is done, of what the user's mode may do. -/
namespace Go.Proofs.YtniaclhmfmkikaaGreatDoor.Ex
open Go.RowKit Ut
set_option maxRecDepth 100000
set_option linter.unusedVariables false
set_option maxHeartbeats 4000000

/-- a method of a job, as a value -/
abbrev wayV (f j : Nat) : Value := .func (.func f) #[.pointer (some ⟨j, 0, none⟩)] #[]
theorem way_reck (j rb cb : Nat) (J : Job) (w : World) (h : JAt w j rb cb J) (ho : J.o = 1 ∨ J.o = 2 ∨ J.o = 3 ∨ J.o = 4 ∨ J.o = 5 ∨ J.o = 6 ∨ J.o = 7 ∨ J.o = 8 ∨ J.o = 9 ∨ J.o = 10 ∨ J.o = 11 ∨ J.o = 12 ∨ J.o = 13) :
    Calls Tryz.prog 31 #[.pointer (some ⟨j, 0, none⟩)] w fun e w' => e = .returned (wayV 59 j) ∧ Below w.heap.size w w' := by
  have c0 : w.cell? ⟨j, 0, none⟩ = some (.int .i64 J.o) := h.cell 0 _ rfl
  have hlt := h.lt
  clear h
  rcases ho with ho | ho | ho | ho | ho | ho | ho | ho | ho | ho | ho | ho | ho
  all_goals
    rw [ho] at c0
    clear ho
    go_enter Tryz.func31, Tryz.ntmps31
    go_wp2_with fail
    refine (Is.kernel_any _ false rfl w).mono ?_
    rintro e w1 ⟨rfl, rfl⟩
    go_wp2
    go_ret
    exact ⟨rfl, Below.refl _ _⟩
theorem way_upper (j rb cb : Nat) (J : Job) (w : World) (h : JAt w j rb cb J) (ho : J.o = 22) :
    Calls Tryz.prog 31 #[.pointer (some ⟨j, 0, none⟩)] w fun e w' => e = .returned (wayV 60 j) ∧ Below w.heap.size w w' := by
  have c0 : w.cell? ⟨j, 0, none⟩ = some (.int .i64 J.o) := h.cell 0 _ rfl
  have hlt := h.lt
  clear h

  all_goals
    rw [ho] at c0
    clear ho
    go_enter Tryz.func31, Tryz.ntmps31
    go_wp2_with fail
    refine (Is.kernel_any _ false rfl w).mono ?_
    rintro e w1 ⟨rfl, rfl⟩
    go_wp2
    go_ret
    exact ⟨rfl, Below.refl _ _⟩
end Go.Proofs.YtniaclhmfmkikaaGreatDoor.Ex
end
