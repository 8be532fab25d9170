/- Several texts in one: Vk -/
import Derived.Test.YtniaclhmfmkikaaGreatDoorZ19
section
/- Package core: way: how a job is done, of what the user's mode may do. -/
namespace Go.Proofs.YtniaclhmfmkikaaGreatDoor.Ex
open Go.RowKit Ut
set_option maxRecDepth 100000
set_option linter.unusedVariables false
set_option maxHeartbeats 4000000

theorem way_load (j rb cb : Nat) (J : Job) (w : World) (h : JAt w j rb cb J) (ho : J.o = 24 ∨ J.o = 25) :
    Calls Tryz.prog 31 #[.pointer (some ⟨j, 0, none⟩)] w fun e w' => e = .returned (wayV 63 j) ∧ Below w.heap.size w w' := by
  have c0 : w.cell? ⟨j, 0, none⟩ = some (.int .i64 J.o) := h.cell 0 _ rfl
  have hlt := h.lt
  clear h
  rcases ho with ho | ho
  all_goals
    rw [ho] at c0
    clear ho
    go_enter Tryz.func31, Tryz.ntmps31
    go_wp2_with fail
    refine (Is.kernel_any _ false rfl w).mono ?_
    rintro e w1 ⟨rfl, rfl⟩
    go_wp2
    go_ret
    exact ⟨rfl, Below.refl _ _⟩
theorem way_store (j rb cb : Nat) (J : Job) (w : World) (h : JAt w j rb cb J) (ho : J.o = 27) :
    Calls Tryz.prog 31 #[.pointer (some ⟨j, 0, none⟩)] w fun e w' => e = .returned (wayV 64 j) ∧ Below w.heap.size w w' := by
  have c0 : w.cell? ⟨j, 0, none⟩ = some (.int .i64 J.o) := h.cell 0 _ rfl
  have hlt := h.lt
  clear h

  all_goals
    rw [ho] at c0
    clear ho
    go_enter Tryz.func31, Tryz.ntmps31
    go_wp2_with fail
    refine (Is.kernel_any _ false rfl w).mono ?_
    rintro e w1 ⟨rfl, rfl⟩
    go_wp2
    go_ret
    exact ⟨rfl, Below.refl _ _⟩
theorem way_branch (j rb cb : Nat) (J : Job) (w : World) (h : JAt w j rb cb J) (ho : J.o = 28 ∨ J.o = 29 ∨ J.o = 30 ∨ J.o = 31) :
    Calls Tryz.prog 31 #[.pointer (some ⟨j, 0, none⟩)] w fun e w' => e = .returned (wayV 65 j) ∧ Below w.heap.size w w' := by
  have c0 : w.cell? ⟨j, 0, none⟩ = some (.int .i64 J.o) := h.cell 0 _ rfl
  have hlt := h.lt
  clear h
  rcases ho with ho | ho | ho | ho
  all_goals
    rw [ho] at c0
    clear ho
    go_enter Tryz.func31, Tryz.ntmps31
    go_wp2_with fail
    refine (Is.kernel_any _ false rfl w).mono ?_
    rintro e w1 ⟨rfl, rfl⟩
    go_wp2
    go_ret
    exact ⟨rfl, Below.refl _ _⟩
theorem way_jump (j rb cb : Nat) (J : Job) (w : World) (h : JAt w j rb cb J) (ho : J.o = 32) :
    Calls Tryz.prog 31 #[.pointer (some ⟨j, 0, none⟩)] w fun e w' => e = .returned (wayV 66 j) ∧ Below w.heap.size w w' := by
  have c0 : w.cell? ⟨j, 0, none⟩ = some (.int .i64 J.o) := h.cell 0 _ rfl
  have hlt := h.lt
  clear h

  all_goals
    rw [ho] at c0
    clear ho
    go_enter Tryz.func31, Tryz.ntmps31
    go_wp2_with fail
    refine (Is.kernel_any _ false rfl w).mono ?_
    rintro e w1 ⟨rfl, rfl⟩
    go_wp2
    go_ret
    exact ⟨rfl, Below.refl _ _⟩
theorem way_jumpr (j rb cb : Nat) (J : Job) (w : World) (h : JAt w j rb cb J) (ho : J.o = 33) :
    Calls Tryz.prog 31 #[.pointer (some ⟨j, 0, none⟩)] w fun e w' => e = .returned (wayV 67 j) ∧ Below w.heap.size w w' := by
  have c0 : w.cell? ⟨j, 0, none⟩ = some (.int .i64 J.o) := h.cell 0 _ rfl
  have hlt := h.lt
  clear h

  all_goals
    rw [ho] at c0
    clear ho
    go_enter Tryz.func31, Tryz.ntmps31
    go_wp2_with fail
    refine (Is.kernel_any _ false rfl w).mono ?_
    rintro e w1 ⟨rfl, rfl⟩
    go_wp2
    go_ret
    exact ⟨rfl, Below.refl _ _⟩
theorem way_call (j rb cb : Nat) (J : Job) (w : World) (h : JAt w j rb cb J) (ho : J.o = 34) :
    Calls Tryz.prog 31 #[.pointer (some ⟨j, 0, none⟩)] w fun e w' => e = .returned (wayV 68 j) ∧ Below w.heap.size w w' := by
  have c0 : w.cell? ⟨j, 0, none⟩ = some (.int .i64 J.o) := h.cell 0 _ rfl
  have hlt := h.lt
  clear h

  all_goals
    rw [ho] at c0
    clear ho
    go_enter Tryz.func31, Tryz.ntmps31
    go_wp2_with fail
    refine (Is.kernel_any _ false rfl w).mono ?_
    rintro e w1 ⟨rfl, rfl⟩
    go_wp2
    go_ret
    exact ⟨rfl, Below.refl _ _⟩
theorem way_stop (j rb cb : Nat) (J : Job) (w : World) (h : JAt w j rb cb J) (ho : J.o = 41) :
    Calls Tryz.prog 31 #[.pointer (some ⟨j, 0, none⟩)] w fun e w' => e = .returned (wayV 69 j) ∧ Below w.heap.size w w' := by
  have c0 : w.cell? ⟨j, 0, none⟩ = some (.int .i64 J.o) := h.cell 0 _ rfl
  have hlt := h.lt
  clear h

  all_goals
    rw [ho] at c0
    clear ho
    go_enter Tryz.func31, Tryz.ntmps31
    go_wp2_with fail
    refine (Is.kernel_any _ false rfl w).mono ?_
    rintro e w1 ⟨rfl, rfl⟩
    go_wp2
    go_ret
    exact ⟨rfl, Below.refl _ _⟩
theorem way_lw_true (j rb cb : Nat) (J : Job) (w : World) (h : JAt w j rb cb J) (ho : J.o = 23) (hq : (adr J.va J.m % 4 != 0) = true) :
    Calls Tryz.prog 31 #[.pointer (some ⟨j, 0, none⟩)] w fun e w' => e = .returned (wayV 62 j) ∧ Below w.heap.size w w' := by
  have c0 : w.cell? ⟨j, 0, none⟩ = some (.int .i64 J.o) := h.cell 0 _ rfl
  have HA := Lib.hid (askew_is j rb cb J w h true hq)
  have hlt := h.lt
  clear h hq
  rw [ho] at c0
  clear ho
  go_enter Tryz.func31, Tryz.ntmps31
  go_wp2_with fail
  refine (Is.kernel_any _ false rfl w).mono ?_
  rintro e w1 ⟨rfl, rfl⟩
  go_wp2_with fail
  clear c0 hlt
  refine HA.out.mono ?_
  rintro e w1 ⟨rfl, hb⟩
  have HB := Lib.hid hb
  clear hb
  go_wp2
  go_ret
  exact ⟨rfl, HB.out⟩
theorem way_lw_false (j rb cb : Nat) (J : Job) (w : World) (h : JAt w j rb cb J) (ho : J.o = 23) (hq : (adr J.va J.m % 4 != 0) = false) :
    Calls Tryz.prog 31 #[.pointer (some ⟨j, 0, none⟩)] w fun e w' => e = .returned (wayV 63 j) ∧ Below w.heap.size w w' := by
  have c0 : w.cell? ⟨j, 0, none⟩ = some (.int .i64 J.o) := h.cell 0 _ rfl
  have HA := Lib.hid (askew_is j rb cb J w h false hq)
  have hlt := h.lt
  clear h hq
  rw [ho] at c0
  clear ho
  go_enter Tryz.func31, Tryz.ntmps31
  go_wp2_with fail
  refine (Is.kernel_any _ false rfl w).mono ?_
  rintro e w1 ⟨rfl, rfl⟩
  go_wp2_with fail
  clear c0 hlt
  refine HA.out.mono ?_
  rintro e w1 ⟨rfl, hb⟩
  have HB := Lib.hid hb
  clear hb
  go_wp2
  go_ret
  exact ⟨rfl, HB.out⟩
theorem way_sw_true (j rb cb : Nat) (J : Job) (w : World) (h : JAt w j rb cb J) (ho : J.o = 26) (hq : (adr J.va J.m % 4 != 0) = true) :
    Calls Tryz.prog 31 #[.pointer (some ⟨j, 0, none⟩)] w fun e w' => e = .returned (wayV 62 j) ∧ Below w.heap.size w w' := by
  have c0 : w.cell? ⟨j, 0, none⟩ = some (.int .i64 J.o) := h.cell 0 _ rfl
  have HA := Lib.hid (askew_is j rb cb J w h true hq)
  have hlt := h.lt
  clear h hq
  rw [ho] at c0
  clear ho
  go_enter Tryz.func31, Tryz.ntmps31
  go_wp2_with fail
  refine (Is.kernel_any _ false rfl w).mono ?_
  rintro e w1 ⟨rfl, rfl⟩
  go_wp2_with fail
  clear c0 hlt
  refine HA.out.mono ?_
  rintro e w1 ⟨rfl, hb⟩
  have HB := Lib.hid hb
  clear hb
  go_wp2
  go_ret
  exact ⟨rfl, HB.out⟩
theorem way_sw_false (j rb cb : Nat) (J : Job) (w : World) (h : JAt w j rb cb J) (ho : J.o = 26) (hq : (adr J.va J.m % 4 != 0) = false) :
    Calls Tryz.prog 31 #[.pointer (some ⟨j, 0, none⟩)] w fun e w' => e = .returned (wayV 64 j) ∧ Below w.heap.size w w' := by
  have c0 : w.cell? ⟨j, 0, none⟩ = some (.int .i64 J.o) := h.cell 0 _ rfl
  have HA := Lib.hid (askew_is j rb cb J w h false hq)
  have hlt := h.lt
  clear h hq
  rw [ho] at c0
  clear ho
  go_enter Tryz.func31, Tryz.ntmps31
  go_wp2_with fail
  refine (Is.kernel_any _ false rfl w).mono ?_
  rintro e w1 ⟨rfl, rfl⟩
  go_wp2_with fail
  clear c0 hlt
  refine HA.out.mono ?_
  rintro e w1 ⟨rfl, hb⟩
  have HB := Lib.hid hb
  clear hb
  go_wp2
  go_ret
  exact ⟨rfl, HB.out⟩
end Go.Proofs.YtniaclhmfmkikaaGreatDoor.Ex
end
