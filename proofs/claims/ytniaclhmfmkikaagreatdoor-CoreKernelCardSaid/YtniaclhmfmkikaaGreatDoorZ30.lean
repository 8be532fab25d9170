/- Several texts in one: Vm -/
import Derived.Test.YtniaclhmfmkikaaGreatDoorZ19
section
/- Package core: way, of an operation of the kernel's mode. -/
namespace Go.Proofs.YtniaclhmfmkikaaGreatDoor.Ex
open Go.RowKit Ut
set_option maxRecDepth 100000
set_option linter.unusedVariables false
set_option maxHeartbeats 4000000

theorem way_forbk (j rb cb i : Nat) (J : Job) (p : Int) (R : List Int) (Q : List Nat) (w : World) (h : Env w j rb cb i J p R Q) (ho : J.o = 35 ∨ J.o = 36 ∨ J.o = 37 ∨ J.o = 38 ∨ J.o = 39 ∨ J.o = 40) (hq : Cs.hasB (Cs.st Q) 4 = false) :
    Calls Tryz.prog 56 #[.pointer (some ⟨j, 0, none⟩)] w fun e w' => e = .returned (wayV 81 j) ∧ Below w.heap.size w w' := by
  obtain ⟨on, hon⟩ : ∃ q, Cs.hasB (Q.getD 0 0) 1 = q := ⟨_, rfl⟩
  obtain ⟨root, hroot⟩ : ∃ q, Cs.rootN (Q.getD 0 0) = q := ⟨_, rfl⟩
  have M := Cs.mode_at cb i Q (.agg #[.bool on, .int .i64 (root : Int), .bool true]) (by
    rw [← hon, ← hroot]
    show Cs.mV _ _ (!Cs.hasB (Cs.st Q) 4) = _
    rw [hq]
    rfl)
  have hfd : ∀ V, (Instr.field 74 (.agg #[.bool on, .int .i64 (root : Int), .bool true]) 2).run Tryz.prog V = .ok (.bool true) V := fun V => by kernel_rfl
  have c0 : w.cell? ⟨j, 0, none⟩ = some (.int .i64 J.o) := h.job.cell 0 _ rfl
  have c6 : w.cell? ⟨j, 6, none⟩ = some (.pointer (some ⟨cb, 0, none⟩)) := h.job.cell 6 _ rfl
  have hlt := h.job.lt
  have HE := Lib.hid h
  clear h hq hon hroot
  rcases ho with ho | ho | ho | ho | ho | ho
  all_goals
    rw [ho] at c0
    go_enter Tryz.func56, Tryz.ntmps56
    go_wp2_with fail
    refine (M.out w HE.out.csr).mono ?_
    rintro e V ⟨rfl, hb⟩
    have HB := Lib.hid hb
    have d0 : V.cell? ⟨j, 0, none⟩ = some (.int .i64 J.o) := (HE.out.job.more hb).cell 0 _ rfl
    have hltV := (HE.out.job.more hb).lt
    rw [ho] at d0
    clear hb c0 c6 hlt ho HE
    go_wp2
    go_ret
    exact ⟨rfl, HB.out⟩
theorem way_forb (j rb cb i : Nat) (J : Job) (p : Int) (R : List Int) (Q : List Nat) (w : World) (h : Env w j rb cb i J p R Q) (ho : J.o = 35 ∨ J.o = 36 ∨ J.o = 37 ∨ J.o = 38 ∨ J.o = 39 ∨ J.o = 40) (hq : Cs.hasB (Cs.st Q) 4 = false) :
    Calls Tryz.prog 31 #[.pointer (some ⟨j, 0, none⟩)] w fun e w' => e = .returned (wayV 81 j) ∧ Below w.heap.size w w' := by
  have c0 : w.cell? ⟨j, 0, none⟩ = some (.int .i64 J.o) := h.job.cell 0 _ rfl
  have hlt := h.job.lt
  have HK : Hid (Is.kernB J.o = true) := Lib.hid (by rcases ho with ho | ho | ho | ho | ho | ho <;> rw [ho] <;> rfl)
  have HC := Lib.hid (way_forbk j rb cb i J p R Q w h ho hq)
  clear h ho hq
  generalize J.o = o at c0 HK
  go_enter Tryz.func31, Tryz.ntmps31
  go_wp2_with fail
  refine (Is.kernel_any _ true HK.out w).mono ?_
  rintro e w1 ⟨rfl, rfl⟩
  go_wp2_with fail
  refine HC.out.mono ?_
  rintro e V ⟨rfl, hb⟩
  have HB := Lib.hid hb
  clear hb
  go_wp2
  go_ret
  exact ⟨rfl, HB.out⟩
theorem way_askk (j rb cb i : Nat) (J : Job) (p : Int) (R : List Int) (Q : List Nat) (w : World) (h : Env w j rb cb i J p R Q) (ho : J.o = 35) (hq : Cs.hasB (Cs.st Q) 4 = true) :
    Calls Tryz.prog 56 #[.pointer (some ⟨j, 0, none⟩)] w fun e w' => e = .returned (wayV 82 j) ∧ Below w.heap.size w w' := by
  obtain ⟨on, hon⟩ : ∃ q, Cs.hasB (Q.getD 0 0) 1 = q := ⟨_, rfl⟩
  obtain ⟨root, hroot⟩ : ∃ q, Cs.rootN (Q.getD 0 0) = q := ⟨_, rfl⟩
  have M := Cs.mode_at cb i Q (.agg #[.bool on, .int .i64 (root : Int), .bool false]) (by
    rw [← hon, ← hroot]
    show Cs.mV _ _ (!Cs.hasB (Cs.st Q) 4) = _
    rw [hq]
    rfl)
  have hfd : ∀ V, (Instr.field 74 (.agg #[.bool on, .int .i64 (root : Int), .bool false]) 2).run Tryz.prog V = .ok (.bool false) V := fun V => by kernel_rfl
  have c0 : w.cell? ⟨j, 0, none⟩ = some (.int .i64 J.o) := h.job.cell 0 _ rfl
  have c6 : w.cell? ⟨j, 6, none⟩ = some (.pointer (some ⟨cb, 0, none⟩)) := h.job.cell 6 _ rfl
  have hlt := h.job.lt
  have HE := Lib.hid h
  clear h hq hon hroot

  all_goals
    rw [ho] at c0
    go_enter Tryz.func56, Tryz.ntmps56
    go_wp2_with fail
    refine (M.out w HE.out.csr).mono ?_
    rintro e V ⟨rfl, hb⟩
    have HB := Lib.hid hb
    have d0 : V.cell? ⟨j, 0, none⟩ = some (.int .i64 J.o) := (HE.out.job.more hb).cell 0 _ rfl
    have hltV := (HE.out.job.more hb).lt
    rw [ho] at d0
    clear hb c0 c6 hlt ho HE
    go_wp2
    go_ret
    exact ⟨rfl, HB.out⟩
theorem way_ask (j rb cb i : Nat) (J : Job) (p : Int) (R : List Int) (Q : List Nat) (w : World) (h : Env w j rb cb i J p R Q) (ho : J.o = 35) (hq : Cs.hasB (Cs.st Q) 4 = true) :
    Calls Tryz.prog 31 #[.pointer (some ⟨j, 0, none⟩)] w fun e w' => e = .returned (wayV 82 j) ∧ Below w.heap.size w w' := by
  have c0 : w.cell? ⟨j, 0, none⟩ = some (.int .i64 J.o) := h.job.cell 0 _ rfl
  have hlt := h.job.lt
  have HK : Hid (Is.kernB J.o = true) := Lib.hid (by rw [ho]; rfl)
  have HC := Lib.hid (way_askk j rb cb i J p R Q w h ho hq)
  clear h ho hq
  generalize J.o = o at c0 HK
  go_enter Tryz.func31, Tryz.ntmps31
  go_wp2_with fail
  refine (Is.kernel_any _ true HK.out w).mono ?_
  rintro e w1 ⟨rfl, rfl⟩
  go_wp2_with fail
  refine HC.out.mono ?_
  rintro e V ⟨rfl, hb⟩
  have HB := Lib.hid hb
  clear hb
  go_wp2
  go_ret
  exact ⟨rfl, HB.out⟩
theorem way_haltk (j rb cb i : Nat) (J : Job) (p : Int) (R : List Int) (Q : List Nat) (w : World) (h : Env w j rb cb i J p R Q) (ho : J.o = 40) (hq : Cs.hasB (Cs.st Q) 4 = true) :
    Calls Tryz.prog 56 #[.pointer (some ⟨j, 0, none⟩)] w fun e w' => e = .returned (wayV 83 j) ∧ Below w.heap.size w w' := by
  obtain ⟨on, hon⟩ : ∃ q, Cs.hasB (Q.getD 0 0) 1 = q := ⟨_, rfl⟩
  obtain ⟨root, hroot⟩ : ∃ q, Cs.rootN (Q.getD 0 0) = q := ⟨_, rfl⟩
  have M := Cs.mode_at cb i Q (.agg #[.bool on, .int .i64 (root : Int), .bool false]) (by
    rw [← hon, ← hroot]
    show Cs.mV _ _ (!Cs.hasB (Cs.st Q) 4) = _
    rw [hq]
    rfl)
  have hfd : ∀ V, (Instr.field 74 (.agg #[.bool on, .int .i64 (root : Int), .bool false]) 2).run Tryz.prog V = .ok (.bool false) V := fun V => by kernel_rfl
  have c0 : w.cell? ⟨j, 0, none⟩ = some (.int .i64 J.o) := h.job.cell 0 _ rfl
  have c6 : w.cell? ⟨j, 6, none⟩ = some (.pointer (some ⟨cb, 0, none⟩)) := h.job.cell 6 _ rfl
  have hlt := h.job.lt
  have HE := Lib.hid h
  clear h hq hon hroot

  all_goals
    rw [ho] at c0
    go_enter Tryz.func56, Tryz.ntmps56
    go_wp2_with fail
    refine (M.out w HE.out.csr).mono ?_
    rintro e V ⟨rfl, hb⟩
    have HB := Lib.hid hb
    have d0 : V.cell? ⟨j, 0, none⟩ = some (.int .i64 J.o) := (HE.out.job.more hb).cell 0 _ rfl
    have hltV := (HE.out.job.more hb).lt
    rw [ho] at d0
    clear hb c0 c6 hlt ho HE
    go_wp2
    go_ret
    exact ⟨rfl, HB.out⟩
theorem way_halt (j rb cb i : Nat) (J : Job) (p : Int) (R : List Int) (Q : List Nat) (w : World) (h : Env w j rb cb i J p R Q) (ho : J.o = 40) (hq : Cs.hasB (Cs.st Q) 4 = true) :
    Calls Tryz.prog 31 #[.pointer (some ⟨j, 0, none⟩)] w fun e w' => e = .returned (wayV 83 j) ∧ Below w.heap.size w w' := by
  have c0 : w.cell? ⟨j, 0, none⟩ = some (.int .i64 J.o) := h.job.cell 0 _ rfl
  have hlt := h.job.lt
  have HK : Hid (Is.kernB J.o = true) := Lib.hid (by rw [ho]; rfl)
  have HC := Lib.hid (way_haltk j rb cb i J p R Q w h ho hq)
  clear h ho hq
  generalize J.o = o at c0 HK
  go_enter Tryz.func31, Tryz.ntmps31
  go_wp2_with fail
  refine (Is.kernel_any _ true HK.out w).mono ?_
  rintro e w1 ⟨rfl, rfl⟩
  go_wp2_with fail
  refine HC.out.mono ?_
  rintro e V ⟨rfl, hb⟩
  have HB := Lib.hid hb
  clear hb
  go_wp2
  go_ret
  exact ⟨rfl, HB.out⟩
theorem way_forgetk (j rb cb i : Nat) (J : Job) (p : Int) (R : List Int) (Q : List Nat) (w : World) (h : Env w j rb cb i J p R Q) (ho : J.o = 39) (hq : Cs.hasB (Cs.st Q) 4 = true) :
    Calls Tryz.prog 56 #[.pointer (some ⟨j, 0, none⟩)] w fun e w' => e = .returned (wayV 84 j) ∧ Below w.heap.size w w' := by
  obtain ⟨on, hon⟩ : ∃ q, Cs.hasB (Q.getD 0 0) 1 = q := ⟨_, rfl⟩
  obtain ⟨root, hroot⟩ : ∃ q, Cs.rootN (Q.getD 0 0) = q := ⟨_, rfl⟩
  have M := Cs.mode_at cb i Q (.agg #[.bool on, .int .i64 (root : Int), .bool false]) (by
    rw [← hon, ← hroot]
    show Cs.mV _ _ (!Cs.hasB (Cs.st Q) 4) = _
    rw [hq]
    rfl)
  have hfd : ∀ V, (Instr.field 74 (.agg #[.bool on, .int .i64 (root : Int), .bool false]) 2).run Tryz.prog V = .ok (.bool false) V := fun V => by kernel_rfl
  have c0 : w.cell? ⟨j, 0, none⟩ = some (.int .i64 J.o) := h.job.cell 0 _ rfl
  have c6 : w.cell? ⟨j, 6, none⟩ = some (.pointer (some ⟨cb, 0, none⟩)) := h.job.cell 6 _ rfl
  have hlt := h.job.lt
  have HE := Lib.hid h
  clear h hq hon hroot

  all_goals
    rw [ho] at c0
    go_enter Tryz.func56, Tryz.ntmps56
    go_wp2_with fail
    refine (M.out w HE.out.csr).mono ?_
    rintro e V ⟨rfl, hb⟩
    have HB := Lib.hid hb
    have d0 : V.cell? ⟨j, 0, none⟩ = some (.int .i64 J.o) := (HE.out.job.more hb).cell 0 _ rfl
    have hltV := (HE.out.job.more hb).lt
    rw [ho] at d0
    clear hb c0 c6 hlt ho HE
    go_wp2
    go_ret
    exact ⟨rfl, HB.out⟩
theorem way_forget (j rb cb i : Nat) (J : Job) (p : Int) (R : List Int) (Q : List Nat) (w : World) (h : Env w j rb cb i J p R Q) (ho : J.o = 39) (hq : Cs.hasB (Cs.st Q) 4 = true) :
    Calls Tryz.prog 31 #[.pointer (some ⟨j, 0, none⟩)] w fun e w' => e = .returned (wayV 84 j) ∧ Below w.heap.size w w' := by
  have c0 : w.cell? ⟨j, 0, none⟩ = some (.int .i64 J.o) := h.job.cell 0 _ rfl
  have hlt := h.job.lt
  have HK : Hid (Is.kernB J.o = true) := Lib.hid (by rw [ho]; rfl)
  have HC := Lib.hid (way_forgetk j rb cb i J p R Q w h ho hq)
  clear h ho hq
  generalize J.o = o at c0 HK
  go_enter Tryz.func31, Tryz.ntmps31
  go_wp2_with fail
  refine (Is.kernel_any _ true HK.out w).mono ?_
  rintro e w1 ⟨rfl, rfl⟩
  go_wp2_with fail
  refine HC.out.mono ?_
  rintro e V ⟨rfl, hb⟩
  have HB := Lib.hid hb
  clear hb
  go_wp2
  go_ret
  exact ⟨rfl, HB.out⟩
theorem way_leavek (j rb cb i : Nat) (J : Job) (p : Int) (R : List Int) (Q : List Nat) (w : World) (h : Env w j rb cb i J p R Q) (ho : J.o = 36) (hq : Cs.hasB (Cs.st Q) 4 = true) :
    Calls Tryz.prog 56 #[.pointer (some ⟨j, 0, none⟩)] w fun e w' => e = .returned (wayV 85 j) ∧ Below w.heap.size w w' := by
  obtain ⟨on, hon⟩ : ∃ q, Cs.hasB (Q.getD 0 0) 1 = q := ⟨_, rfl⟩
  obtain ⟨root, hroot⟩ : ∃ q, Cs.rootN (Q.getD 0 0) = q := ⟨_, rfl⟩
  have M := Cs.mode_at cb i Q (.agg #[.bool on, .int .i64 (root : Int), .bool false]) (by
    rw [← hon, ← hroot]
    show Cs.mV _ _ (!Cs.hasB (Cs.st Q) 4) = _
    rw [hq]
    rfl)
  have hfd : ∀ V, (Instr.field 74 (.agg #[.bool on, .int .i64 (root : Int), .bool false]) 2).run Tryz.prog V = .ok (.bool false) V := fun V => by kernel_rfl
  have c0 : w.cell? ⟨j, 0, none⟩ = some (.int .i64 J.o) := h.job.cell 0 _ rfl
  have c6 : w.cell? ⟨j, 6, none⟩ = some (.pointer (some ⟨cb, 0, none⟩)) := h.job.cell 6 _ rfl
  have hlt := h.job.lt
  have HE := Lib.hid h
  clear h hq hon hroot

  all_goals
    rw [ho] at c0
    go_enter Tryz.func56, Tryz.ntmps56
    go_wp2_with fail
    refine (M.out w HE.out.csr).mono ?_
    rintro e V ⟨rfl, hb⟩
    have HB := Lib.hid hb
    have d0 : V.cell? ⟨j, 0, none⟩ = some (.int .i64 J.o) := (HE.out.job.more hb).cell 0 _ rfl
    have hltV := (HE.out.job.more hb).lt
    rw [ho] at d0
    clear hb c0 c6 hlt ho HE
    go_wp2
    go_ret
    exact ⟨rfl, HB.out⟩
theorem way_leave (j rb cb i : Nat) (J : Job) (p : Int) (R : List Int) (Q : List Nat) (w : World) (h : Env w j rb cb i J p R Q) (ho : J.o = 36) (hq : Cs.hasB (Cs.st Q) 4 = true) :
    Calls Tryz.prog 31 #[.pointer (some ⟨j, 0, none⟩)] w fun e w' => e = .returned (wayV 85 j) ∧ Below w.heap.size w w' := by
  have c0 : w.cell? ⟨j, 0, none⟩ = some (.int .i64 J.o) := h.job.cell 0 _ rfl
  have hlt := h.job.lt
  have HK : Hid (Is.kernB J.o = true) := Lib.hid (by rw [ho]; rfl)
  have HC := Lib.hid (way_leavek j rb cb i J p R Q w h ho hq)
  clear h ho hq
  generalize J.o = o at c0 HK
  go_enter Tryz.func31, Tryz.ntmps31
  go_wp2_with fail
  refine (Is.kernel_any _ true HK.out w).mono ?_
  rintro e w1 ⟨rfl, rfl⟩
  go_wp2_with fail
  refine HC.out.mono ?_
  rintro e V ⟨rfl, hb⟩
  have HB := Lib.hid hb
  clear hb
  go_wp2
  go_ret
  exact ⟨rfl, HB.out⟩
theorem way_readck (j rb cb i : Nat) (J : Job) (p : Int) (R : List Int) (Q : List Nat) (w : World) (h : Env w j rb cb i J p R Q) (ho : J.o = 37) (hq : Cs.hasB (Cs.st Q) 4 = true) :
    Calls Tryz.prog 56 #[.pointer (some ⟨j, 0, none⟩)] w fun e w' => e = .returned (wayV 86 j) ∧ Below w.heap.size w w' := by
  obtain ⟨on, hon⟩ : ∃ q, Cs.hasB (Q.getD 0 0) 1 = q := ⟨_, rfl⟩
  obtain ⟨root, hroot⟩ : ∃ q, Cs.rootN (Q.getD 0 0) = q := ⟨_, rfl⟩
  have M := Cs.mode_at cb i Q (.agg #[.bool on, .int .i64 (root : Int), .bool false]) (by
    rw [← hon, ← hroot]
    show Cs.mV _ _ (!Cs.hasB (Cs.st Q) 4) = _
    rw [hq]
    rfl)
  have hfd : ∀ V, (Instr.field 74 (.agg #[.bool on, .int .i64 (root : Int), .bool false]) 2).run Tryz.prog V = .ok (.bool false) V := fun V => by kernel_rfl
  have c0 : w.cell? ⟨j, 0, none⟩ = some (.int .i64 J.o) := h.job.cell 0 _ rfl
  have c6 : w.cell? ⟨j, 6, none⟩ = some (.pointer (some ⟨cb, 0, none⟩)) := h.job.cell 6 _ rfl
  have hlt := h.job.lt
  have HE := Lib.hid h
  clear h hq hon hroot

  all_goals
    rw [ho] at c0
    go_enter Tryz.func56, Tryz.ntmps56
    go_wp2_with fail
    refine (M.out w HE.out.csr).mono ?_
    rintro e V ⟨rfl, hb⟩
    have HB := Lib.hid hb
    have d0 : V.cell? ⟨j, 0, none⟩ = some (.int .i64 J.o) := (HE.out.job.more hb).cell 0 _ rfl
    have hltV := (HE.out.job.more hb).lt
    rw [ho] at d0
    clear hb c0 c6 hlt ho HE
    go_wp2
    go_ret
    exact ⟨rfl, HB.out⟩
theorem way_readc (j rb cb i : Nat) (J : Job) (p : Int) (R : List Int) (Q : List Nat) (w : World) (h : Env w j rb cb i J p R Q) (ho : J.o = 37) (hq : Cs.hasB (Cs.st Q) 4 = true) :
    Calls Tryz.prog 31 #[.pointer (some ⟨j, 0, none⟩)] w fun e w' => e = .returned (wayV 86 j) ∧ Below w.heap.size w w' := by
  have c0 : w.cell? ⟨j, 0, none⟩ = some (.int .i64 J.o) := h.job.cell 0 _ rfl
  have hlt := h.job.lt
  have HK : Hid (Is.kernB J.o = true) := Lib.hid (by rw [ho]; rfl)
  have HC := Lib.hid (way_readck j rb cb i J p R Q w h ho hq)
  clear h ho hq
  generalize J.o = o at c0 HK
  go_enter Tryz.func31, Tryz.ntmps31
  go_wp2_with fail
  refine (Is.kernel_any _ true HK.out w).mono ?_
  rintro e w1 ⟨rfl, rfl⟩
  go_wp2_with fail
  refine HC.out.mono ?_
  rintro e V ⟨rfl, hb⟩
  have HB := Lib.hid hb
  clear hb
  go_wp2
  go_ret
  exact ⟨rfl, HB.out⟩
theorem way_writeck (j rb cb i : Nat) (J : Job) (p : Int) (R : List Int) (Q : List Nat) (w : World) (h : Env w j rb cb i J p R Q) (ho : J.o = 38) (hq : Cs.hasB (Cs.st Q) 4 = true) :
    Calls Tryz.prog 56 #[.pointer (some ⟨j, 0, none⟩)] w fun e w' => e = .returned (wayV 87 j) ∧ Below w.heap.size w w' := by
  obtain ⟨on, hon⟩ : ∃ q, Cs.hasB (Q.getD 0 0) 1 = q := ⟨_, rfl⟩
  obtain ⟨root, hroot⟩ : ∃ q, Cs.rootN (Q.getD 0 0) = q := ⟨_, rfl⟩
  have M := Cs.mode_at cb i Q (.agg #[.bool on, .int .i64 (root : Int), .bool false]) (by
    rw [← hon, ← hroot]
    show Cs.mV _ _ (!Cs.hasB (Cs.st Q) 4) = _
    rw [hq]
    rfl)
  have hfd : ∀ V, (Instr.field 74 (.agg #[.bool on, .int .i64 (root : Int), .bool false]) 2).run Tryz.prog V = .ok (.bool false) V := fun V => by kernel_rfl
  have c0 : w.cell? ⟨j, 0, none⟩ = some (.int .i64 J.o) := h.job.cell 0 _ rfl
  have c6 : w.cell? ⟨j, 6, none⟩ = some (.pointer (some ⟨cb, 0, none⟩)) := h.job.cell 6 _ rfl
  have hlt := h.job.lt
  have HE := Lib.hid h
  clear h hq hon hroot

  all_goals
    rw [ho] at c0
    go_enter Tryz.func56, Tryz.ntmps56
    go_wp2_with fail
    refine (M.out w HE.out.csr).mono ?_
    rintro e V ⟨rfl, hb⟩
    have HB := Lib.hid hb
    have d0 : V.cell? ⟨j, 0, none⟩ = some (.int .i64 J.o) := (HE.out.job.more hb).cell 0 _ rfl
    have hltV := (HE.out.job.more hb).lt
    rw [ho] at d0
    clear hb c0 c6 hlt ho HE
    go_wp2
    go_ret
    exact ⟨rfl, HB.out⟩
theorem way_writec (j rb cb i : Nat) (J : Job) (p : Int) (R : List Int) (Q : List Nat) (w : World) (h : Env w j rb cb i J p R Q) (ho : J.o = 38) (hq : Cs.hasB (Cs.st Q) 4 = true) :
    Calls Tryz.prog 31 #[.pointer (some ⟨j, 0, none⟩)] w fun e w' => e = .returned (wayV 87 j) ∧ Below w.heap.size w w' := by
  have c0 : w.cell? ⟨j, 0, none⟩ = some (.int .i64 J.o) := h.job.cell 0 _ rfl
  have hlt := h.job.lt
  have HK : Hid (Is.kernB J.o = true) := Lib.hid (by rw [ho]; rfl)
  have HC := Lib.hid (way_writeck j rb cb i J p R Q w h ho hq)
  clear h ho hq
  generalize J.o = o at c0 HK
  go_enter Tryz.func31, Tryz.ntmps31
  go_wp2_with fail
  refine (Is.kernel_any _ true HK.out w).mono ?_
  rintro e w1 ⟨rfl, rfl⟩
  go_wp2_with fail
  refine HC.out.mono ?_
  rintro e V ⟨rfl, hb⟩
  have HB := Lib.hid hb
  clear hb
  go_wp2
  go_ret
  exact ⟨rfl, HB.out⟩
end Go.Proofs.YtniaclhmfmkikaaGreatDoor.Ex
end
