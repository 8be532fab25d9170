/- The walk of hermitagelaw09.IsaOps. -/
import Derived.Test.YtklakehhckipfaaDoorNh
namespace Go.Proofs.YtklakehhckipfaaDoor.Is
open Go.RowKit Ut
set_option linter.unusedVariables false
set_option maxRecDepth 100000
set_option maxHeartbeats 4000000

theorem ops_valid (n : Nat) (h1 : 1 ≤ n) (h2 : n ≤ 41) : validB n 0 0 0 0 = true := by
  have key := List.all_eq_true.1 (show (List.range 42).all (fun n => decide (n = 0) || validB n 0 0 0 0) = true by decide +kernel) n (List.mem_range.2 (by omega))
  rw [Bool.or_eq_true, decide_eq_true_eq] at key
  rcases key with h | h
  · omega
  · exact h
theorem ops_enc (n : Nat) (h1 : 1 ≤ n) (h2 : n ≤ 41) : encZ n 0 0 0 0 = n ∧ encE n 0 0 0 0 = 0 := by
  unfold encZ encE
  rw [if_pos (ops_valid n h1 h2), if_pos (ops_valid n h1 h2)]
  exact ⟨by simp [wordN], rfl⟩
theorem ops_none (o : Int) (h : o < 1 ∨ 41 < o) : encZ o 0 0 0 0 = 0 ∧ encE o 0 0 0 0 = 6 := by
  unfold encZ encE
  rw [validB_out o 0 0 0 0 h, if_neg (by decide), if_neg (by decide)]
  exact ⟨rfl, rfl⟩
theorem ops_out (o a b : Int) (h : o < 1 ∨ 41 < o) (w : World) (hw : HasT w) :
    Calls Tryd.prog 6 #[.int .i64 o, .int .i64 a, .int .i64 b] w fun e w' => e = .returned (.bool true) ∧ Below w.heap.size w w' := by
  have HT := Lib.hid hw
  have HB0 := Lib.hid (Below.refl w.heap.size w)
  have V1 : Hid (∀ v, Below w.heap.size w v → Calls Tryd.prog 13 #[insV o 0 0 0 0] v fun e w' => e = .returned (.bool false) ∧ Below w.heap.size w w') := Lib.hid fun v hb => keep hb (valid_any o 0 0 0 0 false (validB_out o 0 0 0 0 h) v (HT.out.more hb))
  have V2 : Hid (∀ v, Below w.heap.size w v → Calls Tryd.prog 13 #[insV o 0 a b 0] v fun e w' => e = .returned (.bool false) ∧ Below w.heap.size w w') := Lib.hid fun v hb => keep hb (valid_any o 0 a b 0 false (validB_out o 0 a b 0 h) v (HT.out.more hb))
  have E1 : Hid (∀ v, Below w.heap.size w v → Calls Tryd.prog 7 #[insV o 0 0 0 0] v fun e w' => e = .returned (.tuple #[.int .u32 0, .int .i64 6]) ∧ Below w.heap.size w w') := Lib.hid fun v hb => keep hb (enc_any o 0 0 0 0 _ _ (ops_none o h).1 (ops_none o h).2 v (HT.out.more hb))
  have HA : Hid (∀ (W : World) (o : Obj), Below w.heap.size w W → Below w.heap.size w (W.alloc o)) := Lib.hid fun W o h => h.alloc h.size _
  rcases h with h | h
  all_goals
    clear hw
    go_enter Tryd.func6, Tryd.ntmps6
    go_wp2_with fail
    refine (V1.out _ HB0.out).mono ?_
    rintro e w1 ⟨rfl, hb1⟩
    have HB1 := Lib.hid hb1
    clear hb1
    go_wp2_with fail
    refine (E1.out _ HB1.out).mono ?_
    rintro e w2 ⟨rfl, hb2⟩
    have HB2 := Lib.hid hb2
    clear hb2
    go_wp2_with fail
    refine (V2.out _ (HA.out _ _ HB2.out)).mono ?_
    rintro e w3 ⟨rfl, hb3⟩
    have HB3 := Lib.hid hb3
    clear hb3
    go_wp2_with fail
    refine (awake_any HB3.out HT.out).mono ?_
    rintro e w4 ⟨rfl, hb4⟩
    have HB4 := Lib.hid hb4
    clear hb4
    go_wp2
    go_ret
    exact ⟨rfl, HB4.out⟩
theorem ops_in (n : Nat) (a b : Int) (h1 : 1 ≤ n) (h2 : n ≤ 41) (w : World) (hw : HasT w) :
    Calls Tryd.prog 6 #[.int .i64 n, .int .i64 a, .int .i64 b] w fun e w' => e = .returned (.bool true) ∧ Below w.heap.size w w' := by
  obtain ⟨t, ht⟩ : ∃ t, validB n 0 a b 0 = t := ⟨_, rfl⟩
  have HT := Lib.hid hw
  have HB0 := Lib.hid (Below.refl w.heap.size w)
  have V1 : Hid (∀ v, Below w.heap.size w v → Calls Tryd.prog 13 #[insV n 0 0 0 0] v fun e w' => e = .returned (.bool true) ∧ Below w.heap.size w w') := Lib.hid fun v hb => keep hb (valid_any n 0 0 0 0 true (ops_valid n h1 h2) v (HT.out.more hb))
  have V2 : Hid (∀ v, Below w.heap.size w v → Calls Tryd.prog 13 #[insV n 0 a b 0] v fun e w' => e = .returned (.bool t) ∧ Below w.heap.size w w') := Lib.hid fun v hb => keep hb (valid_any n 0 a b 0 t ht v (HT.out.more hb))
  have E1 : Hid (∀ v, Below w.heap.size w v → Calls Tryd.prog 7 #[insV n 0 0 0 0] v fun e w' => e = .returned (.tuple #[.int .u32 n, .int .i64 0]) ∧ Below w.heap.size w w') := Lib.hid fun v hb => keep hb (enc_any n 0 0 0 0 _ _ (ops_enc n h1 h2).1 (ops_enc n h1 h2).2 v (HT.out.more hb))
  have HA : Hid (∀ (W : World) (o : Obj), Below w.heap.size w W → Below w.heap.size w (W.alloc o)) := Lib.hid fun W o h => h.alloc h.size _
  have g1 : 1 ≤ (n : Int) := by omega
  have g2 : (n : Int) ≤ 41 := by omega
  clear hw
  cases t
  · clear ht
    go_enter Tryd.func6, Tryd.ntmps6
    go_wp2_with fail
    refine (V1.out _ HB0.out).mono ?_
    rintro e w1 ⟨rfl, hb1⟩
    have HB1 := Lib.hid hb1
    clear hb1
    go_wp2_with fail
    refine (E1.out _ HB1.out).mono ?_
    rintro e w2 ⟨rfl, hb2⟩
    have HB2 := Lib.hid hb2
    clear hb2
    go_wp2_with fail
    refine (V2.out _ (HA.out _ _ HB2.out)).mono ?_
    rintro e w3 ⟨rfl, hb3⟩
    have HB3 := Lib.hid hb3
    clear hb3
    go_wp2_with fail
    refine (awake_any HB3.out HT.out).mono ?_
    rintro e w4 ⟨rfl, hb4⟩
    have HB4 := Lib.hid hb4
    clear hb4
    go_wp2
    go_ret
    exact ⟨rfl, HB4.out⟩
  · obtain ⟨_, _, ⟨ha1, ha2⟩, ⟨hb1, hb2⟩, _⟩ := valid_bounds ht
    clear ht
    go_enter Tryd.func6, Tryd.ntmps6
    go_wp2_with fail
    refine (V1.out _ HB0.out).mono ?_
    rintro e w1 ⟨rfl, hb1⟩
    have HB1 := Lib.hid hb1
    clear hb1
    go_wp2_with fail
    refine (E1.out _ HB1.out).mono ?_
    rintro e w2 ⟨rfl, hb2⟩
    have HB2 := Lib.hid hb2
    clear hb2
    go_wp2_with fail
    refine (V2.out _ (HA.out _ _ HB2.out)).mono ?_
    rintro e w3 ⟨rfl, hb3⟩
    have HB3 := Lib.hid hb3
    clear hb3
    go_wp2_with fail
    refine (awake_any HB3.out HT.out).mono ?_
    rintro e w4 ⟨rfl, hb4⟩
    have HB4 := Lib.hid hb4
    clear hb4
    go_wp2
    go_ret
    exact ⟨rfl, HB4.out⟩
/-- the law, any numbers -/
theorem ops_any (o a b : Int) (w : World) (hw : HasT w) :
    Calls Tryd.prog 6 #[.int .i64 o, .int .i64 a, .int .i64 b] w fun e w' => e = .returned (.bool true) ∧ Below w.heap.size w w' := by
  by_cases h : o < 1 ∨ 41 < o
  · exact ops_out o a b h w hw
  · obtain ⟨n, rfl⟩ : ∃ n : Nat, o = n := ⟨o.toNat, by omega⟩
    exact ops_in n a b (by omega) (by omega) w hw
end Go.Proofs.YtklakehhckipfaaDoor.Is
