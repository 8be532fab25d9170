/- The walk of hermitagelaw14.PteLevels. -/
import Derived.Test.YtfifflepgfpjiaaBl
namespace Go.Proofs.Ytfifflepgfpjiaa.Pe
open Go.RowKit Ut
set_option linter.unusedVariables false
set_option maxRecDepth 100000
set_option maxHeartbeats 8000000

theorem levels_even (x : Nat) (T1 : Hid (∀ w, Calls Try.prog 11 #[.int .u32 x] w fun e w' => e = .returned (.tuple #[.int .i64 0, .int .i64 4]) ∧ Below w.heap.size w w')) (L1 : Hid (∀ w, Calls Try.prog 13 #[.int .u32 x] w fun e w' => e = .returned (.tuple #[pteV false 0 0, .int .i64 4]) ∧ Below w.heap.size w w')) (G1 : Hid (∀ w, Calls Try.prog 9 #[.int .u32 x] w fun e w' => e = .returned (.tuple #[pteV false 0 0, .int .i64 4]) ∧ Below w.heap.size w w')) (w : World) :
    Calls Try.prog 6 #[.int .u32 x] w fun e w' => e = .returned (.bool true) ∧ Below w.heap.size w w' := by
  go_enter Try.func6, Try.ntmps6
  go_wp2_with fail
  refine (T1.out w).mono ?_
  rintro e w1 ⟨rfl, hb1⟩
  have HB1 := Lib.hid hb1
  clear hb1
  go_wp2_with fail
  refine (L1.out w1).mono ?_
  rintro e w2 ⟨rfl, hb2⟩
  have HB2 := Lib.hid (HB1.out.trans (hb2.mono HB1.out.size))
  clear hb2 HB1
  obtain ⟨X, hX⟩ : ∃ X, X = pteW false 0 0 w2 := ⟨_, rfl⟩
  have HX := Lib.hid hX
  have HC : Hid (PteAt X w2.heap.size false 0 0) := Lib.hid (hX ▸ pte_at false 0 0 w2)
  have HBX : Hid (Below w.heap.size w X) := Lib.hid (by rw [hX]; exact HB2.out.trans ((pte_below false 0 0 w2).mono HB2.out.size))
  clear hX HB2
  go_wp2_with fail
  rw [show w2.alloc (.cells #[.bool false, .int .i64 0, .int .i64 0] 23) = X from HX.out.symm]
  refine (G1.out X).mono ?_
  rintro e w3 ⟨rfl, hb3⟩
  obtain ⟨s0, s1, s2⟩ := (HC.out.more hb3).cells
  have hs := (HC.out.more hb3).lt
  have HB3 := Lib.hid (HBX.out.trans ((hb3.trans ((pte_below false 0 0 w3).mono hb3.size)).mono HBX.out.size))
  clear hb3
  go_wp2_with fail
  refine (awake_any _).mono ?_
  rintro e w4 ⟨rfl, hb4⟩
  have HB4 := Lib.hid (HB3.out.trans (hb4.mono HB3.out.size))
  clear hb4 s0 s1 s2 hs
  go_wp2
  go_ret
  exact ⟨rfl, HB4.out⟩
theorem levels_form (x : Nat) (T1 : Hid (∀ w, Calls Try.prog 11 #[.int .u32 x] w fun e w' => e = .returned (.tuple #[.int .i64 0, .int .i64 5]) ∧ Below w.heap.size w w')) (L1 : Hid (∀ w, Calls Try.prog 13 #[.int .u32 x] w fun e w' => e = .returned (.tuple #[pteV false 0 0, .int .i64 5]) ∧ Below w.heap.size w w')) (G1 : Hid (∀ w, Calls Try.prog 9 #[.int .u32 x] w fun e w' => e = .returned (.tuple #[pteV false 0 0, .int .i64 5]) ∧ Below w.heap.size w w')) (w : World) :
    Calls Try.prog 6 #[.int .u32 x] w fun e w' => e = .returned (.bool true) ∧ Below w.heap.size w w' := by
  go_enter Try.func6, Try.ntmps6
  go_wp2_with fail
  refine (T1.out w).mono ?_
  rintro e w1 ⟨rfl, hb1⟩
  have HB1 := Lib.hid hb1
  clear hb1
  go_wp2_with fail
  refine (L1.out w1).mono ?_
  rintro e w2 ⟨rfl, hb2⟩
  have HB2 := Lib.hid (HB1.out.trans (hb2.mono HB1.out.size))
  clear hb2 HB1
  obtain ⟨X, hX⟩ : ∃ X, X = pteW false 0 0 w2 := ⟨_, rfl⟩
  have HX := Lib.hid hX
  have HC : Hid (PteAt X w2.heap.size false 0 0) := Lib.hid (hX ▸ pte_at false 0 0 w2)
  have HBX : Hid (Below w.heap.size w X) := Lib.hid (by rw [hX]; exact HB2.out.trans ((pte_below false 0 0 w2).mono HB2.out.size))
  clear hX HB2
  go_wp2_with fail
  rw [show w2.alloc (.cells #[.bool false, .int .i64 0, .int .i64 0] 23) = X from HX.out.symm]
  refine (G1.out X).mono ?_
  rintro e w3 ⟨rfl, hb3⟩
  obtain ⟨s0, s1, s2⟩ := (HC.out.more hb3).cells
  have hs := (HC.out.more hb3).lt
  have HB3 := Lib.hid (HBX.out.trans ((hb3.trans ((pte_below false 0 0 w3).mono hb3.size)).mono HBX.out.size))
  clear hb3
  go_wp2_with fail
  refine (awake_any _).mono ?_
  rintro e w4 ⟨rfl, hb4⟩
  have HB4 := Lib.hid (HB3.out.trans (hb4.mono HB3.out.size))
  clear hb4 s0 s1 s2 hs
  go_wp2
  go_ret
  exact ⟨rfl, HB4.out⟩
theorem levels_root (x : Nat) (g : Int) (T1 : Hid (∀ w, Calls Try.prog 11 #[.int .u32 x] w fun e w' => e = .returned (.tuple #[.int .i64 g, .int .i64 0]) ∧ Below w.heap.size w w')) (L1 : Hid (∀ w, Calls Try.prog 13 #[.int .u32 x] w fun e w' => e = .returned (.tuple #[pteV false 0 0, .int .i64 5]) ∧ Below w.heap.size w w')) (G1 : Hid (∀ w, Calls Try.prog 9 #[.int .u32 x] w fun e w' => e = .returned (.tuple #[pteV true 0 g, .int .i64 0]) ∧ Below w.heap.size w w')) (w : World) :
    Calls Try.prog 6 #[.int .u32 x] w fun e w' => e = .returned (.bool true) ∧ Below w.heap.size w w' := by
  go_enter Try.func6, Try.ntmps6
  go_wp2_with fail
  refine (T1.out w).mono ?_
  rintro e w1 ⟨rfl, hb1⟩
  have HB1 := Lib.hid hb1
  clear hb1
  go_wp2_with fail
  refine (L1.out w1).mono ?_
  rintro e w2 ⟨rfl, hb2⟩
  have HB2 := Lib.hid (HB1.out.trans (hb2.mono HB1.out.size))
  clear hb2 HB1
  obtain ⟨X, hX⟩ : ∃ X, X = pteW false 0 0 w2 := ⟨_, rfl⟩
  have HX := Lib.hid hX
  have HC : Hid (PteAt X w2.heap.size false 0 0) := Lib.hid (hX ▸ pte_at false 0 0 w2)
  have HBX : Hid (Below w.heap.size w X) := Lib.hid (by rw [hX]; exact HB2.out.trans ((pte_below false 0 0 w2).mono HB2.out.size))
  clear hX HB2
  go_wp2_with fail
  rw [show w2.alloc (.cells #[.bool false, .int .i64 0, .int .i64 0] 23) = X from HX.out.symm]
  refine (G1.out X).mono ?_
  rintro e w3 ⟨rfl, hb3⟩
  obtain ⟨s0, s1, s2⟩ := (HC.out.more hb3).cells
  have hs := (HC.out.more hb3).lt
  have HB3 := Lib.hid (HBX.out.trans ((hb3.trans ((pte_below true 0 g w3).mono hb3.size)).mono HBX.out.size))
  clear hb3
  go_wp2_with fail
  refine (awake_any _).mono ?_
  rintro e w4 ⟨rfl, hb4⟩
  have HB4 := Lib.hid (HB3.out.trans (hb4.mono HB3.out.size))
  clear hb4 s0 s1 s2 hs
  go_wp2
  go_ret
  exact ⟨rfl, HB4.out⟩
theorem levels_user (x : Nat) (r g : Int) (hr : ¬ r = 0) (T1 : Hid (∀ w, Calls Try.prog 11 #[.int .u32 x] w fun e w' => e = .returned (.tuple #[.int .i64 0, .int .i64 5]) ∧ Below w.heap.size w w')) (L1 : Hid (∀ w, Calls Try.prog 13 #[.int .u32 x] w fun e w' => e = .returned (.tuple #[pteV false 0 0, .int .i64 5]) ∧ Below w.heap.size w w')) (G1 : Hid (∀ w, Calls Try.prog 9 #[.int .u32 x] w fun e w' => e = .returned (.tuple #[pteV true r g, .int .i64 0]) ∧ Below w.heap.size w w')) (w : World) :
    Calls Try.prog 6 #[.int .u32 x] w fun e w' => e = .returned (.bool true) ∧ Below w.heap.size w w' := by
  go_enter Try.func6, Try.ntmps6
  go_wp2_with fail
  refine (T1.out w).mono ?_
  rintro e w1 ⟨rfl, hb1⟩
  have HB1 := Lib.hid hb1
  clear hb1
  go_wp2_with fail
  refine (L1.out w1).mono ?_
  rintro e w2 ⟨rfl, hb2⟩
  have HB2 := Lib.hid (HB1.out.trans (hb2.mono HB1.out.size))
  clear hb2 HB1
  obtain ⟨X, hX⟩ : ∃ X, X = pteW false 0 0 w2 := ⟨_, rfl⟩
  have HX := Lib.hid hX
  have HC : Hid (PteAt X w2.heap.size false 0 0) := Lib.hid (hX ▸ pte_at false 0 0 w2)
  have HBX : Hid (Below w.heap.size w X) := Lib.hid (by rw [hX]; exact HB2.out.trans ((pte_below false 0 0 w2).mono HB2.out.size))
  clear hX HB2
  go_wp2_with fail
  rw [show w2.alloc (.cells #[.bool false, .int .i64 0, .int .i64 0] 23) = X from HX.out.symm]
  refine (G1.out X).mono ?_
  rintro e w3 ⟨rfl, hb3⟩
  obtain ⟨s0, s1, s2⟩ := (HC.out.more hb3).cells
  have hs := (HC.out.more hb3).lt
  have HB3 := Lib.hid (HBX.out.trans ((hb3.trans ((pte_below true r g w3).mono hb3.size)).mono HBX.out.size))
  clear hb3
  go_wp2_with fail
  refine (awake_any _).mono ?_
  rintro e w4 ⟨rfl, hb4⟩
  have HB4 := Lib.hid (HB3.out.trans (hb4.mono HB3.out.size))
  clear hb4 s0 s1 s2 hs
  go_wp2
  go_ret
  exact ⟨rfl, HB4.out⟩
theorem levels_leaf (x : Nat) (r g : Int) (hr : ¬ r = 0) (T1 : Hid (∀ w, Calls Try.prog 11 #[.int .u32 x] w fun e w' => e = .returned (.tuple #[.int .i64 0, .int .i64 5]) ∧ Below w.heap.size w w')) (L1 : Hid (∀ w, Calls Try.prog 13 #[.int .u32 x] w fun e w' => e = .returned (.tuple #[pteV true r g, .int .i64 0]) ∧ Below w.heap.size w w')) (G1 : Hid (∀ w, Calls Try.prog 9 #[.int .u32 x] w fun e w' => e = .returned (.tuple #[pteV true r g, .int .i64 0]) ∧ Below w.heap.size w w')) (w : World) :
    Calls Try.prog 6 #[.int .u32 x] w fun e w' => e = .returned (.bool true) ∧ Below w.heap.size w w' := by
  go_enter Try.func6, Try.ntmps6
  go_wp2_with fail
  refine (T1.out w).mono ?_
  rintro e w1 ⟨rfl, hb1⟩
  have HB1 := Lib.hid hb1
  clear hb1
  go_wp2_with fail
  refine (L1.out w1).mono ?_
  rintro e w2 ⟨rfl, hb2⟩
  have HB2 := Lib.hid (HB1.out.trans (hb2.mono HB1.out.size))
  clear hb2 HB1
  obtain ⟨X, hX⟩ : ∃ X, X = pteW true r g w2 := ⟨_, rfl⟩
  have HX := Lib.hid hX
  have HC : Hid (PteAt X w2.heap.size true r g) := Lib.hid (hX ▸ pte_at true r g w2)
  have HBX : Hid (Below w.heap.size w X) := Lib.hid (by rw [hX]; exact HB2.out.trans ((pte_below true r g w2).mono HB2.out.size))
  clear hX HB2
  go_wp2_with fail
  rw [show w2.alloc (.cells #[.bool true, .int .i64 r, .int .i64 g] 23) = X from HX.out.symm]
  refine (G1.out X).mono ?_
  rintro e w3 ⟨rfl, hb3⟩
  obtain ⟨s0, s1, s2⟩ := (HC.out.more hb3).cells
  have hs := (HC.out.more hb3).lt
  have HB3 := Lib.hid (HBX.out.trans ((hb3.trans ((pte_below true r g w3).mono hb3.size)).mono HBX.out.size))
  clear hb3
  go_wp2_with fail
  refine (awake_any _).mono ?_
  rintro e w4 ⟨rfl, hb4⟩
  have HB4 := Lib.hid (HB3.out.trans (hb4.mono HB3.out.size))
  clear hb4 s0 s1 s2 hs
  go_wp2
  go_ret
  exact ⟨rfl, HB4.out⟩
/-- the law, any word -/
theorem levels_any (x : Nat) (hx : x < 4294967296) (w : World) :
    Calls Try.prog 6 #[.int .u32 x] w fun e w' => e = .returned (.bool true) ∧ Below w.heap.size w w' := by
  rcases get_cases x with ⟨hf, h2⟩ | ⟨hf, h2⟩ | ⟨hf, h2, h3, h4⟩
  · have ht : tabF x = 4 := by unfold tabF; rw [hf]; rfl
    have hl : leafF x = 4 := by unfold leafF; rw [hf]; rfl
    exact levels_even x (Lib.hid (table_any x hx 0 4 (by rw [ht]; rfl) ht)) (Lib.hid (leaf_any x hx 4 hl)) (Lib.hid (get_any x hx 4 hf)) w
  · have ht : tabF x = 5 := by unfold tabF; rw [hf]; rfl
    have hl : leafF x = 5 := by unfold leafF; rw [hf]; rfl
    exact levels_form x (Lib.hid (table_any x hx 0 5 (by rw [ht]; rfl) ht)) (Lib.hid (leaf_any x hx 5 hl)) (Lib.hid (get_any x hx 5 hf)) w
  · have G1 := Lib.hid (get_any x hx 0 hf)
    by_cases h0 : rOf x = 0
    · have ht : tabF x = 0 := by unfold tabF; rw [if_pos hf, if_pos h0]
      have hl : leafF x = 5 := by unfold leafF; rw [if_pos hf, if_pos (by omega)]
      rw [show oF 0 = true from rfl, show rF 0 x = 0 from by unfold rF; rw [if_pos rfl, h0]; rfl] at G1
      exact levels_root x _ (Lib.hid (table_any x hx _ 0 (by rw [ht]) ht)) (Lib.hid (leaf_any x hx 5 hl)) G1 w
    · have ht : tabF x = 5 := by unfold tabF; rw [if_pos hf, if_neg h0]
      have hr : ¬ rF 0 x = 0 := by unfold rF; rw [if_pos rfl]; omega
      rw [show oF 0 = true from rfl] at G1
      by_cases h8 : rOf x % 8 = 0
      · have hl : leafF x = 5 := by unfold leafF; rw [if_pos hf, if_pos h8]
        exact levels_user x _ _ hr (Lib.hid (table_any x hx 0 5 (by rw [ht]; rfl) ht)) (Lib.hid (leaf_any x hx 5 hl)) G1 w
      · have hl : leafF x = 0 := by unfold leafF; rw [if_pos hf, if_neg h8]
        exact levels_leaf x _ _ hr (Lib.hid (table_any x hx 0 5 (by rw [ht]; rfl) ht)) (Lib.hid (leaf_any x hx 0 hl)) G1 w
end Go.Proofs.Ytfifflepgfpjiaa.Pe
