/- Package alu: picking from a row; which method an operation and a question are. -/
import Derived.Test.YtniaclhmfmkikaaDoorMa
import Derived.Laws.EntriesVeiled
namespace Go.Proofs.YtniaclhmfmkikaaDoor.Al
open Go.RowKit Ut
set_option linter.unusedVariables false
set_option maxRecDepth 100000
set_option maxHeartbeats 4000000

theorem pickW_in (g n k : Nat) (v : Value) (hk : k < n) (hn : n ≤ 64) (w : World) (hc : w.cell? ⟨g, k, none⟩ = some v) :
    Calls Tryd.prog 68 #[.int .i64 k, .slice (some ⟨g, 0, none⟩) n n] w fun e w' => e = .returned v ∧ w = w' := by
  go_enter Tryd.func68, Tryd.ntmps68
  go_wp2
  go_ret
  exact ⟨rfl, rfl⟩
theorem pickW_out (g n : Nat) (i : Int) (hi : i < 0 ∨ n ≤ i) (hn : n ≤ 64) (w : World) :
    Calls Tryd.prog 68 #[.int .i64 i, .slice (some ⟨g, 0, none⟩) n n] w fun e w' => e = .returned .nilFunc ∧ w = w' := by
  rcases hi with hi | hi
  · go_enter Tryd.func68, Tryd.ntmps68
    go_wp2
    go_ret
    exact ⟨rfl, rfl⟩
  · have h0 : ¬ i < 0 := by omega
    go_enter Tryd.func68, Tryd.ntmps68
    go_wp2
    go_ret
    exact ⟨rfl, rfl⟩
theorem pickB_in (g n k : Nat) (v : Value) (hk : k < n) (hn : n ≤ 64) (w : World) (hc : w.cell? ⟨g, k, none⟩ = some v) :
    Calls Tryd.prog 82 #[.int .i64 k, .slice (some ⟨g, 0, none⟩) n n] w fun e w' => e = .returned v ∧ w = w' := by
  go_enter Tryd.func82, Tryd.ntmps82
  go_wp2
  go_ret
  exact ⟨rfl, rfl⟩
theorem pickB_out (g n : Nat) (i : Int) (hi : i < 0 ∨ n ≤ i) (hn : n ≤ 64) (w : World) :
    Calls Tryd.prog 82 #[.int .i64 i, .slice (some ⟨g, 0, none⟩) n n] w fun e w' => e = .returned .nilFunc ∧ w = w' := by
  rcases hi with hi | hi
  · go_enter Tryd.func82, Tryd.ntmps82
    go_wp2
    go_ret
    exact ⟨rfl, rfl⟩
  · have h0 : ¬ i < 0 := by omega
    go_enter Tryd.func82, Tryd.ntmps82
    go_wp2
    go_ret
    exact ⟨rfl, rfl⟩
theorem pickI_in (g n k : Nat) (v : Value) (hk : k < n) (hn : n ≤ 64) (w : World) (hc : w.cell? ⟨g, k, none⟩ = some v) :
    Calls Tryd.prog 43 #[.int .i64 k, .slice (some ⟨g, 0, none⟩) n n] w fun e w' => e = .returned v ∧ w = w' := by
  go_enter Tryd.func43, Tryd.ntmps43
  go_wp2
  go_ret
  exact ⟨rfl, rfl⟩
theorem pickI_out (g n : Nat) (i : Int) (hi : i < 0 ∨ n ≤ i) (hn : n ≤ 64) (w : World) :
    Calls Tryd.prog 43 #[.int .i64 i, .slice (some ⟨g, 0, none⟩) n n] w fun e w' => e = .returned (.int .i64 0) ∧ w = w' := by
  rcases hi with hi | hi
  · go_enter Tryd.func43, Tryd.ntmps43
    go_wp2
    go_ret
    exact ⟨rfl, rfl⟩
  · have h0 : ¬ i < 0 := by omega
    go_enter Tryd.func43, Tryd.ntmps43
    go_wp2
    go_ret
    exact ⟨rfl, rfl⟩

/-- the rows that are picked from -/
abbrev mthV (f : Nat) : Value := .func (.func f) #[] #[]
def rowW : Array Value := #[.nilFunc, mthV 69, mthV 70, mthV 71, mthV 72, mthV 73, mthV 74, mthV 75, mthV 76, mthV 77, mthV 78, mthV 79, mthV 80, mthV 81]
def rowB : Array Value := (List.replicate 28 Value.nilFunc ++ [mthV 83, mthV 84, mthV 85, mthV 86]).toArray
def rowI : Array Value := (List.replicate 14 (Value.int .i64 0) ++ ([.int .i64 1, .int .i64 3, .int .i64 4, .int .i64 5, .int .i64 6, .int .i64 7, .int .i64 8, .int .i64 9] : List Value)).toArray
/-- what stands for i in a row -/
def atRow (r : Array Value) (i : Int) (none : Value) : Value := if 0 ≤ i ∧ i < r.size then r.getD i.toNat .nilFunc else none

theorem cell_of_new (w : World) (r : Array Value) (t : TypeId) (k : Nat) (hk : k < r.size) : (w.alloc (.cells r t)).cell? ⟨w.heap.size, k, none⟩ = some (r.getD k .nilFunc) := by
  rw [World.cell?_alloc_new]
  simp [hk]

theorem reckoning_any (i : Int) (w : World) :
    Calls Tryd.prog 60 #[.int .i64 i] w fun e w' => e = .returned (atRow rowW i .nilFunc) ∧ Below w.heap.size w w' := by
  have hb : Hid (∀ r t, Below w.heap.size w (w.alloc (.cells r t))) := Lib.hid fun r t => (Below.refl _ _).alloc (Nat.le_refl _) _
  by_cases h : 0 ≤ i ∧ i < 14
  · obtain ⟨k, rfl⟩ := Int.eq_ofNat_of_zero_le h.1
    obtain ⟨v, hv⟩ : ∃ v, atRow rowW (k : Int) .nilFunc = v := ⟨_, rfl⟩
    have hv2 : rowW.getD k .nilFunc = v := by rw [← hv]; exact (if_pos h).symm
    rw [hv]
    have hc := Lib.hid fun t => (cell_of_new w rowW t k (show k < 14 by omega)).trans (congrArg some hv2)
    clear hv2
    have hk : k < 14 := by omega
    clear h hv
    go_enter Tryd.func60, Tryd.ntmps60
    go_wp2_with fail
    refine (pickW_in _ _ k _ hk (by omega) _ (hc.out _)).mono ?_
    rintro e w1 ⟨rfl, rfl⟩
    go_wp2
    go_ret
    exact ⟨rfl, hb.out _ _⟩
  · have hv : atRow rowW i .nilFunc = .nilFunc := if_neg h
    rw [hv]
    clear hv
    go_enter Tryd.func60, Tryd.ntmps60
    go_wp2_with fail
    refine (pickW_out _ _ i (by omega) (by omega) _).mono ?_
    rintro e w1 ⟨rfl, rfl⟩
    go_wp2
    go_ret
    exact ⟨rfl, hb.out _ _⟩
theorem question_any (i : Int) (w : World) :
    Calls Tryd.prog 61 #[.int .i64 i] w fun e w' => e = .returned (atRow rowB i .nilFunc) ∧ Below w.heap.size w w' := by
  have hb : Hid (∀ r t, Below w.heap.size w (w.alloc (.cells r t))) := Lib.hid fun r t => (Below.refl _ _).alloc (Nat.le_refl _) _
  by_cases h : 0 ≤ i ∧ i < 32
  · obtain ⟨k, rfl⟩ := Int.eq_ofNat_of_zero_le h.1
    obtain ⟨v, hv⟩ : ∃ v, atRow rowB (k : Int) .nilFunc = v := ⟨_, rfl⟩
    have hv2 : rowB.getD k .nilFunc = v := by rw [← hv]; exact (if_pos h).symm
    rw [hv]
    have hc := Lib.hid fun t => (cell_of_new w rowB t k (show k < 32 by omega)).trans (congrArg some hv2)
    clear hv2
    have hk : k < 32 := by omega
    clear h hv
    go_enter Tryd.func61, Tryd.ntmps61
    go_wp2_with fail
    refine (pickB_in _ _ k _ hk (by omega) _ (hc.out _)).mono ?_
    rintro e w1 ⟨rfl, rfl⟩
    go_wp2
    go_ret
    exact ⟨rfl, hb.out _ _⟩
  · have hv : atRow rowB i .nilFunc = .nilFunc := if_neg h
    rw [hv]
    clear hv
    go_enter Tryd.func61, Tryd.ntmps61
    go_wp2_with fail
    refine (pickB_out _ _ i (by omega) (by omega) _).mono ?_
    rintro e w1 ⟨rfl, rfl⟩
    go_wp2
    go_ret
    exact ⟨rfl, hb.out _ _⟩
end Go.Proofs.YtniaclhmfmkikaaDoor.Al
