/- Several texts in one: Mb Me -/
import Derived.Test.YtniaclhmfmkikaaGreatDoorZ09
import Derived.Deep.RegionWith
import Derived.Laws.EntriesVeiled
section
/- Package alu: a pair shifted. -/
namespace Go.Proofs.YtniaclhmfmkikaaGreatDoor.Al
open Go.RowKit Ut
set_option linter.unusedVariables false
set_option maxRecDepth 100000
set_option maxHeartbeats 4000000

theorem boxes_below (a b c d : Nat) (w : World) : Below w.heap.size w (((boxW a b w).alloc (.cells #[.int .u32 c, .int .u32 d] 129)).drew) :=
  ((box_below a b w).alloc (box_below a b w).size _).drew

theorem i32_lo (a : Nat) (h : a < 2147483648) : IntKind.i32.wrap (a : Int) = (a : Int) := by
  rw [IntKind.wrap_i32]; omega
theorem i32_hi (a : Nat) (h : ¬ a < 2147483648) (ha : a < 4294967296) : IntKind.i32.wrap (a : Int) = (a : Int) - 4294967296 := by
  rw [IntKind.wrap_i32]; omega
theorem sar_is (a k : Nat) (ha : a < 4294967296) : IntKind.u32.wrap (IntKind.i32.wrap (a : Int) / 2 ^ k) = (sarN a k : Nat) := by
  have hp : 0 < 2 ^ k := Nat.two_pow_pos k
  rw [IntKind.wrap_u32']
  unfold sarN
  by_cases h : a < 2147483648
  · rw [if_pos h, i32_lo a h]
    have h1 : a / 2 ^ k ≤ a := Nat.div_le_self _ _
    have e2 : (a : Int) / 2 ^ k = ((a / 2 ^ k : Nat) : Int) := by simp
    rw [e2]
    generalize a / 2 ^ k = x at h1
    omega
  · rw [if_neg h, i32_hi a h ha]
    obtain ⟨m, hm⟩ : ∃ m, m = 4294967295 - a := ⟨_, rfl⟩
    have h1 : m / 2 ^ k ≤ m := Nat.div_le_self _ _
    have e2 : ((a : Int) - 4294967296) / 2 ^ k = -(((m / 2 ^ k : Nat) : Int) + 1) := by
      rw [show (a : Int) - 4294967296 = Int.negSucc m by omega, Int.negSucc_ediv _ (by exact_mod_cast hp)]
      simp
      rfl
    rw [e2, ← hm]
    generalize m / 2 ^ k = x at h1
    omega

theorem up_any (a b : Nat) (ha : a < 4294967296) (hb : b < 4294967296) (w : World) :
    Calls Tryz.prog 114 #[pairV a b] w fun e w' => e = .returned (.int .u32 (a * 2 ^ (b % 32) % 4294967296 : Nat)) ∧ Below w.heap.size w w' := by
  obtain ⟨k, hk⟩ : ∃ k, b % 32 = k := ⟨_, rfl⟩
  have hk32 : k < 32 := by omega
  have HP := Lib.hid fun w => hk ▸ places_any a b w
  rw [hk]
  clear hk
  go_enter Tryz.func114, Tryz.ntmps114
  go_wp2
  go_region_with (go_at_call 128; refine (HP.out _).mono ?_; rintro e w1 ⟨rfl, rfl⟩)
  all_goals
    go_simp
    go_wp2
    go_ret
    exact ⟨rfl, boxes_below a b a b w⟩
theorem down_any (a b : Nat) (ha : a < 4294967296) (hb : b < 4294967296) (w : World) :
    Calls Tryz.prog 115 #[pairV a b] w fun e w' => e = .returned (.int .u32 (a / 2 ^ (b % 32) : Nat)) ∧ Below w.heap.size w w' := by
  obtain ⟨k, hk⟩ : ∃ k, b % 32 = k := ⟨_, rfl⟩
  have hk32 : k < 32 := by omega
  have HP := Lib.hid fun w => hk ▸ places_any a b w
  rw [hk]
  clear hk
  go_enter Tryz.func115, Tryz.ntmps115
  go_wp2
  go_region_with (go_at_call 128; refine (HP.out _).mono ?_; rintro e w1 ⟨rfl, rfl⟩)
  all_goals
    go_simp
    go_wp2
    go_ret
    exact ⟨rfl, boxes_below a b a b w⟩
theorem downSigned_any (a b : Nat) (ha : a < 4294967296) (hb : b < 4294967296) (w : World) :
    Calls Tryz.prog 116 #[pairV a b] w fun e w' => e = .returned (.int .u32 (sarN a (b % 32) : Nat)) ∧ Below w.heap.size w w' := by
  obtain ⟨k, hk⟩ : ∃ k, b % 32 = k := ⟨_, rfl⟩
  have hk32 : k < 32 := by omega
  have HP := Lib.hid fun w => hk ▸ places_any a b w
  rw [hk]
  clear hk
  go_enter Tryz.func116, Tryz.ntmps116
  go_wp2
  go_region_with (go_at_call 128; refine (HP.out _).mono ?_; rintro e w1 ⟨rfl, rfl⟩)
  all_goals
    go_simp
    go_wp2
    go_ret
    exact ⟨by rw [sar_is a k ha]; rfl, boxes_below a b a b w⟩
end Go.Proofs.YtniaclhmfmkikaaGreatDoor.Al
end
section
/- Package alu: picking from a row; which method an operation and a question are. -/
namespace Go.Proofs.YtniaclhmfmkikaaGreatDoor.Al
open Go.RowKit Ut
set_option linter.unusedVariables false
set_option maxRecDepth 100000
set_option maxHeartbeats 4000000

theorem pickW_in (g n k : Nat) (v : Value) (hk : k < n) (hn : n ≤ 64) (w : World) (hc : w.cell? ⟨g, k, none⟩ = some v) :
    Calls Tryz.prog 108 #[.int .i64 k, .slice (some ⟨g, 0, none⟩) n n] w fun e w' => e = .returned v ∧ w = w' := by
  go_enter Tryz.func108, Tryz.ntmps108
  go_wp2
  go_ret
  exact ⟨rfl, rfl⟩
theorem pickW_out (g n : Nat) (i : Int) (hi : i < 0 ∨ n ≤ i) (hn : n ≤ 64) (w : World) :
    Calls Tryz.prog 108 #[.int .i64 i, .slice (some ⟨g, 0, none⟩) n n] w fun e w' => e = .returned .nilFunc ∧ w = w' := by
  rcases hi with hi | hi
  · go_enter Tryz.func108, Tryz.ntmps108
    go_wp2
    go_ret
    exact ⟨rfl, rfl⟩
  · have h0 : ¬ i < 0 := by omega
    go_enter Tryz.func108, Tryz.ntmps108
    go_wp2
    go_ret
    exact ⟨rfl, rfl⟩
theorem pickB_in (g n k : Nat) (v : Value) (hk : k < n) (hn : n ≤ 64) (w : World) (hc : w.cell? ⟨g, k, none⟩ = some v) :
    Calls Tryz.prog 122 #[.int .i64 k, .slice (some ⟨g, 0, none⟩) n n] w fun e w' => e = .returned v ∧ w = w' := by
  go_enter Tryz.func122, Tryz.ntmps122
  go_wp2
  go_ret
  exact ⟨rfl, rfl⟩
theorem pickB_out (g n : Nat) (i : Int) (hi : i < 0 ∨ n ≤ i) (hn : n ≤ 64) (w : World) :
    Calls Tryz.prog 122 #[.int .i64 i, .slice (some ⟨g, 0, none⟩) n n] w fun e w' => e = .returned .nilFunc ∧ w = w' := by
  rcases hi with hi | hi
  · go_enter Tryz.func122, Tryz.ntmps122
    go_wp2
    go_ret
    exact ⟨rfl, rfl⟩
  · have h0 : ¬ i < 0 := by omega
    go_enter Tryz.func122, Tryz.ntmps122
    go_wp2
    go_ret
    exact ⟨rfl, rfl⟩
theorem pickI_in (g n k : Nat) (v : Value) (hk : k < n) (hn : n ≤ 64) (w : World) (hc : w.cell? ⟨g, k, none⟩ = some v) :
    Calls Tryz.prog 88 #[.int .i64 k, .slice (some ⟨g, 0, none⟩) n n] w fun e w' => e = .returned v ∧ w = w' := by
  go_enter Tryz.func88, Tryz.ntmps88
  go_wp2
  go_ret
  exact ⟨rfl, rfl⟩
theorem pickI_out (g n : Nat) (i : Int) (hi : i < 0 ∨ n ≤ i) (hn : n ≤ 64) (w : World) :
    Calls Tryz.prog 88 #[.int .i64 i, .slice (some ⟨g, 0, none⟩) n n] w fun e w' => e = .returned (.int .i64 0) ∧ w = w' := by
  rcases hi with hi | hi
  · go_enter Tryz.func88, Tryz.ntmps88
    go_wp2
    go_ret
    exact ⟨rfl, rfl⟩
  · have h0 : ¬ i < 0 := by omega
    go_enter Tryz.func88, Tryz.ntmps88
    go_wp2
    go_ret
    exact ⟨rfl, rfl⟩

/-- the rows that are picked from -/
abbrev mthV (f : Nat) : Value := .func (.func f) #[] #[]
def rowW : Array Value := #[.nilFunc, mthV 109, mthV 110, mthV 111, mthV 112, mthV 113, mthV 114, mthV 115, mthV 116, mthV 117, mthV 118, mthV 119, mthV 120, mthV 121]
def rowB : Array Value := (List.replicate 28 Value.nilFunc ++ [mthV 123, mthV 124, mthV 125, mthV 126]).toArray
def rowI : Array Value := (List.replicate 14 (Value.int .i64 0) ++ ([.int .i64 1, .int .i64 3, .int .i64 4, .int .i64 5, .int .i64 6, .int .i64 7, .int .i64 8, .int .i64 9] : List Value)).toArray
/-- what stands for i in a row -/
def atRow (r : Array Value) (i : Int) (none : Value) : Value := if 0 ≤ i ∧ i < r.size then r.getD i.toNat .nilFunc else none

theorem cell_of_new (w : World) (r : Array Value) (t : TypeId) (k : Nat) (hk : k < r.size) : (w.alloc (.cells r t)).cell? ⟨w.heap.size, k, none⟩ = some (r.getD k .nilFunc) := by
  rw [World.cell?_alloc_new]
  simp [hk]

theorem reckoning_any (i : Int) (w : World) :
    Calls Tryz.prog 105 #[.int .i64 i] w fun e w' => e = .returned (atRow rowW i .nilFunc) ∧ Below w.heap.size w w' := by
  have hb : Hid (∀ r t, Below w.heap.size w (w.alloc (.cells r t))) := Lib.hid fun r t => (Below.refl _ _).alloc (Nat.le_refl _) _
  by_cases h : 0 ≤ i ∧ i < 14
  · obtain ⟨k, rfl⟩ := Int.eq_ofNat_of_zero_le h.1
    obtain ⟨v, hv⟩ : ∃ v, atRow rowW (k : Int) .nilFunc = v := ⟨_, rfl⟩
    have hv2 : rowW.getD k .nilFunc = v := by rw [← hv]; exact (if_pos h).symm
    rw [hv]
    have hc := Lib.hid fun t => (cell_of_new w rowW t k (show k < 14 by omega)).trans (congrArg some hv2)
    clear hv2
    have hk : k < 14 := by omega
    clear h hv
    go_enter Tryz.func105, Tryz.ntmps105
    go_wp2_with fail
    refine (pickW_in _ _ k _ hk (by omega) _ (hc.out _)).mono ?_
    rintro e w1 ⟨rfl, rfl⟩
    go_wp2
    go_ret
    exact ⟨rfl, hb.out _ _⟩
  · have hv : atRow rowW i .nilFunc = .nilFunc := if_neg h
    rw [hv]
    clear hv
    go_enter Tryz.func105, Tryz.ntmps105
    go_wp2_with fail
    refine (pickW_out _ _ i (by omega) (by omega) _).mono ?_
    rintro e w1 ⟨rfl, rfl⟩
    go_wp2
    go_ret
    exact ⟨rfl, hb.out _ _⟩
theorem question_any (i : Int) (w : World) :
    Calls Tryz.prog 106 #[.int .i64 i] w fun e w' => e = .returned (atRow rowB i .nilFunc) ∧ Below w.heap.size w w' := by
  have hb : Hid (∀ r t, Below w.heap.size w (w.alloc (.cells r t))) := Lib.hid fun r t => (Below.refl _ _).alloc (Nat.le_refl _) _
  by_cases h : 0 ≤ i ∧ i < 32
  · obtain ⟨k, rfl⟩ := Int.eq_ofNat_of_zero_le h.1
    obtain ⟨v, hv⟩ : ∃ v, atRow rowB (k : Int) .nilFunc = v := ⟨_, rfl⟩
    have hv2 : rowB.getD k .nilFunc = v := by rw [← hv]; exact (if_pos h).symm
    rw [hv]
    have hc := Lib.hid fun t => (cell_of_new w rowB t k (show k < 32 by omega)).trans (congrArg some hv2)
    clear hv2
    have hk : k < 32 := by omega
    clear h hv
    go_enter Tryz.func106, Tryz.ntmps106
    go_wp2_with fail
    refine (pickB_in _ _ k _ hk (by omega) _ (hc.out _)).mono ?_
    rintro e w1 ⟨rfl, rfl⟩
    go_wp2
    go_ret
    exact ⟨rfl, hb.out _ _⟩
  · have hv : atRow rowB i .nilFunc = .nilFunc := if_neg h
    rw [hv]
    clear hv
    go_enter Tryz.func106, Tryz.ntmps106
    go_wp2_with fail
    refine (pickB_out _ _ i (by omega) (by omega) _).mono ?_
    rintro e w1 ⟨rfl, rfl⟩
    go_wp2
    go_ret
    exact ⟨rfl, hb.out _ _⟩
end Go.Proofs.YtniaclhmfmkikaaGreatDoor.Al
end
