/- Package desc: hermitagelaw21's awake; the walk of DescSizes. -/
import Derived.Test.YtkkolbdapoejkaaMs
namespace Go.Proofs.Ytkkolbdapoejkaa.De
open Go.RowKit Ut Oc
set_option linter.unusedVariables false
set_option maxRecDepth 100000
set_option maxHeartbeats 4000000

theorem szF_bad {p n : Int} (h : p < 0 ∨ 2 < p ∨ szB n = false) : szF p n = 0 := by
  unfold szF
  by_cases hn : szB n = true
  · rw [if_pos hn, if_neg (by rcases h with h | h | h <;> first | omega | (rw [hn] at h; cases h)), if_neg (by rcases h with h | h | h <;> first | omega | (rw [hn] at h; cases h)), if_neg (by rcases h with h | h | h <;> first | omega | (rw [hn] at h; cases h))]
  · rw [if_neg hn]
section
variable (C : DescC)
include C
theorem awake21_any (w : World) : Calls Try.prog 19 #[] w fun e w' => e = .returned (.bool true) ∧ Below w.heap.size w w' := by
  have H1 := Lib.hid (C.size 2 4 w)
  have H2 := Lib.hid (fun w => C.check 0 65 0 0 4 w ⟨by decide, by decide⟩ ⟨by decide, by decide⟩ ⟨by decide, by decide⟩)
  have H3 := Lib.hid (C.sized 8)
  rw [show szF 2 4 = 36 by decide] at H1
  rw [show ckF 65 0 0 4 = 4 by decide] at H2
  rw [show szB 8 = true by decide] at H3
  go_enter Try.func19, Try.ntmps19
  go_wp2_with fail
  refine H1.out.mono ?_
  rintro e w1 ⟨rfl, hb1⟩
  have HB1 := Lib.hid hb1
  clear hb1
  go_wp2_with fail
  refine (H2.out _).mono ?_
  rintro e w2 ⟨rfl, hb2⟩
  have HB2 := Lib.hid (HB1.out.trans (hb2.mono HB1.out.size))
  clear hb2
  go_wp2_with fail
  refine (H3.out _).mono ?_
  rintro e w3 ⟨rfl, hb3⟩
  have HB3 := Lib.hid (HB2.out.trans (hb3.mono HB2.out.size))
  clear hb3
  go_wp2
  go_ret
  exact ⟨rfl, HB3.out⟩
theorem sizes_good (p n s h : Int) (hp : p = 0 ∨ p = 1 ∨ p = 2) (hn : n = 2 ∨ n = 4 ∨ n = 8) (hs : szF p n = s) (hh : szF p (n.tdiv 2) = h) (w : World) : Calls Try.prog 5 #[.int .i64 p, .int .i64 n] w fun e w' => e = .returned (.bool true) ∧ Below w.heap.size w w' := by
  have H1 := Lib.hid (C.size p n w)
  have H2 := Lib.hid (C.size p (n.tdiv 2))
  have HS := Lib.hid (C.sized n)
  have HA := Lib.hid (awake21_any C)
  rw [hs] at H1
  rw [hh] at H2
  rw [show szB n = true by rcases hn with rfl | rfl | rfl <;> rfl] at HS
  clear C
  rcases hn with rfl | rfl | rfl <;> rcases hp with rfl | rfl | rfl
  all_goals
    simp [szF, szB] at hs hh
    subst hs hh
    simp at H2
    go_enter Try.func5, Try.ntmps5
    go_wp2_with fail
    refine H1.out.mono ?_
    rintro e w1 ⟨rfl, hb1⟩
    have HB1 := Lib.hid hb1
    clear hb1
    go_wp2_with fail
    refine (HS.out _).mono ?_
    rintro e w2 ⟨rfl, hb2⟩
    have HB2 := Lib.hid (HB1.out.trans (hb2.mono HB1.out.size))
    clear hb2
    go_wp2_with fail
    refine (H2.out _).mono ?_
    rintro e w3 ⟨rfl, hb3⟩
    have HB3 := Lib.hid (HB2.out.trans (hb3.mono HB2.out.size))
    clear hb3
    go_wp2_with fail
    refine (HA.out _).mono ?_
    rintro e w4 ⟨rfl, hb4⟩
    have HB4 := Lib.hid (HB3.out.trans (hb4.mono HB3.out.size))
    clear hb4
    go_wp2
    go_ret
    exact ⟨rfl, HB4.out⟩
theorem sizes21_any (p n : Int) (w : World) : Calls Try.prog 5 #[.int .i64 p, .int .i64 n] w fun e w' => e = .returned (.bool true) ∧ Below w.heap.size w w' := by
  by_cases hg : (p = 0 ∨ p = 1 ∨ p = 2) ∧ (n = 2 ∨ n = 4 ∨ n = 8)
  · exact sizes_good C p n _ _ hg.1 hg.2 rfl rfl w
  have hbad : p < 0 ∨ 2 < p ∨ szB n = false := by
    rcases szB_cases n with ⟨h, _⟩ | ⟨h, _⟩ | ⟨h, _⟩ | ⟨_, _, _, h⟩
    · exact (Decidable.em (p < 0)).imp_right fun h1 => .inl (by omega)
    · exact (Decidable.em (p < 0)).imp_right fun h1 => .inl (by omega)
    · exact (Decidable.em (p < 0)).imp_right fun h1 => .inl (by omega)
    · exact .inr (.inr h)
  have H1 := Lib.hid (C.size p n w)
  have HS := Lib.hid (C.sized n)
  have HA := Lib.hid (awake21_any C)
  rw [szF_bad hbad] at H1
  clear C hg
  by_cases p0 : p < 0
  · clear hbad
    go_enter Try.func5, Try.ntmps5
    go_wp2_with fail
    refine H1.out.mono ?_
    rintro e w1 ⟨rfl, hb1⟩
    have HB1 := Lib.hid hb1
    clear hb1
    go_wp2_with fail
    refine (HA.out _).mono ?_
    rintro e w4 ⟨rfl, hb4⟩
    have HB4 := Lib.hid (HB1.out.trans (hb4.mono HB1.out.size))
    clear hb4
    go_wp2
    go_ret
    exact ⟨rfl, HB4.out⟩
  by_cases p2 : 2 < p
  · clear hbad
    go_enter Try.func5, Try.ntmps5
    go_wp2_with fail
    refine H1.out.mono ?_
    rintro e w1 ⟨rfl, hb1⟩
    have HB1 := Lib.hid hb1
    clear hb1
    go_wp2_with fail
    refine (HA.out _).mono ?_
    rintro e w4 ⟨rfl, hb4⟩
    have HB4 := Lib.hid (HB1.out.trans (hb4.mono HB1.out.size))
    clear hb4
    go_wp2
    go_ret
    exact ⟨rfl, HB4.out⟩
  have hz : szB n = false := by
    rcases hbad with h | h | h
    · exact absurd h p0
    · exact absurd h p2
    · exact h
  rw [hz] at HS
  clear hbad hz
  go_enter Try.func5, Try.ntmps5
  go_wp2_with fail
  refine H1.out.mono ?_
  rintro e w1 ⟨rfl, hb1⟩
  have HB1 := Lib.hid hb1
  clear hb1
  go_wp2_with fail
  refine (HS.out _).mono ?_
  rintro e w2 ⟨rfl, hb2⟩
  have HB2 := Lib.hid (HB1.out.trans (hb2.mono HB1.out.size))
  clear hb2
  go_wp2_with fail
  refine (HA.out _).mono ?_
  rintro e w4 ⟨rfl, hb4⟩
  have HB4 := Lib.hid (HB2.out.trans (hb4.mono HB2.out.size))
  clear hb4
  go_wp2
  go_ret
  exact ⟨rfl, HB4.out⟩
end
end Go.Proofs.Ytkkolbdapoejkaa.De
