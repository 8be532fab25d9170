/- hermitagelaw03's ints, runs and awake. -/
import Derived.Test.YtmekoanobicddaaPr
import Derived.Test.YtmekoanobicddaaPp
namespace Go.Proofs.Ytmekoanobicddaa.Pt
open Go.RowKit Ut
set_option linter.unusedVariables false

set_option maxRecDepth 100000 in
theorem runs_same (v v' : Value) (B1 B2 : Nat) (rs : List R3) (w : World) (hl : rs.length ≤ 100000) (hB1 : B1 ≤ w.heap.size) (hB2 : B2 ≤ w.heap.size) (h1 : RowS w B1 v rs) (h2 : RowS w B2 v' rs) :
    Calls Try.prog 12 #[v, v'] w fun e W' => e = .returned (.bool true) ∧ Below w.heap.size w W' := by
  rcases h1 with ⟨rfl, hnil⟩ | ⟨g1, ca, rfl, hl1, hm1, hg1, hc1⟩
  · subst hnil
    obtain ⟨b, cb, rfl⟩ : ∃ b cb, v' = .slice b 0 cb := by
      rcases h2 with ⟨rfl, _⟩ | ⟨g2, cb, rfl, _⟩
      · exact ⟨_, _, rfl⟩
      · exact ⟨_, _, rfl⟩
    go_enter Try.func12, Try.ntmps12
    go_wp2
    go_loopw [5] (fun i wr => i = .int .i64 0 ∧ Below w.heap.size w wr) (fun i _ => 0)
    case atStart => exact ⟨rfl, Below.refl _ _⟩
    case round =>
      obtain ⟨rfl, hb⟩ := hrel
      go_wp2
      go_ret
      exact ⟨rfl, hb⟩
  · rcases h2 with ⟨rfl, hnil⟩ | ⟨g2, cb, rfl, hl2, hm2, hg2, hc2⟩
    · subst hnil
      go_enter Try.func12, Try.ntmps12
      go_wp2
      go_loopw [5] (fun i wr => i = .int .i64 0 ∧ Below w.heap.size w wr) (fun i _ => 0)
      case atStart => exact ⟨rfl, Below.refl _ _⟩
      case round =>
        obtain ⟨rfl, hb⟩ := hrel
        go_wp2
        go_ret
        exact ⟨rfl, hb⟩
    · obtain ⟨n, hn⟩ : ∃ n, n = rs.length := ⟨_, rfl⟩
      rw [← hn] at hl1 hl2 hl hc1 hc2 ⊢
      have H1 := Lib.hid hc1
      have H2 := Lib.hid hc2
      clear hn hc1 hc2
      unfold maxLen at hm1 hm2
      go_enter Try.func12, Try.ntmps12
      go_wp2
      go_loopw [5] (fun i wr => ∃ k : Nat, k ≤ n ∧ i = .int .i64 k ∧ Below w.heap.size w wr) (fun i _ => n - (intOf i).toNat)
      case atStart => exact ⟨0, Nat.zero_le _, rfl, Below.refl _ _⟩
      case round =>
        obtain ⟨k, hk, rfl, hb⟩ := hrel
        by_cases hlt : k < n
        · obtain ⟨c1, c2, c3⟩ := (H1.out k hlt).below hg1 (hb.mono hB1)
          obtain ⟨d1, d2, d3⟩ := (H2.out k hlt).below hg2 (hb.mono hB2)
          obtain ⟨r, hr⟩ : ∃ r, r = rs.getD k default := ⟨_, rfl⟩
          rw [← hr] at c1 c2 c3 d1 d2 d3
          clear hr
          have b0 : (0 : Int) ≤ (k : Int) := by omega
          have b1 : (k : Int) < (n : Int) := by omega
          go_wp2
          go_quiet (fail)
          go_wp2
          go_roundw
          case rel => exact ⟨k + 1, by omega, by go_num, ⟨hb.os, hb.tape, hb.output, hb.size, hb.block⟩⟩
          case measure => simp [intOf]; omega
        · have hkn : k = n := by omega
          subst hkn
          have b1 : ¬ (k : Int) < (k : Int) := by omega
          go_wp2
          go_ret
          exact ⟨rfl, hb⟩

def aw5 : List Int := [-1, 7, 7, -1, -1]
theorem aw5_runs : Nm [⟨0, 1, -1⟩, ⟨1, 2, 7⟩, ⟨3, 2, -1⟩] aw5 := by
  refine ⟨rfl, by decide, by simp, [7, 7, -1, -1], rfl, rfl, by decide, by simp, [-1, -1], rfl, rfl, by decide, by simp, [], rfl, rfl⟩
theorem aw5_okay : Okay aw5 := ⟨by decide, by decide⟩

theorem awake_keep {B : Nat} {w0 w : World} (hB : B ≤ w0.heap.size) (hb : Below B w0 w) :
    Calls Try.prog 14 #[] w fun e w' => e = .returned (.bool true) ∧ Below B w0 w' := by
  have hnew : Calls Try.prog 8 #[.int .i64 5] w fun e W' => ∃ bt, e = .returned (.tuple #[.pointer (some ⟨bt, 0, none⟩), .int .i64 0]) ∧ Tab W' bt (List.replicate 5 (-1)) ∧ w.heap.size ≤ bt ∧ Below w.heap.size w W' := tab_new 5 w (by omega)
  have HNw := Lib.hid hnew
  clear hnew
  go_enter Try.func14, Try.ntmps14
  go_wp2_with fail
  refine HNw.out.mono ?_
  rintro e w1 ⟨bt, rfl, hT, hbt, hb1⟩
  have hg : Calls Try.prog 11 #[.pointer (some ⟨bt, 0, none⟩), .int .i64 1, .int .i64 2, .int .i64 7] w1 fun e W' => e = .returned (.int .i64 0) ∧ Tab W' bt aw5 ∧ w1.grownBy W' (some bt) :=
    tab_give_ok hT (rep_okay 5 (by omega)) 1 2 7 (by omega) (by decide) (by omega) (by omega) (by decide)
  have hbs := hb.size
  have HG := Lib.hid hg
  have hb01 := hb.trans (hb1.mono (by omega))
  clear hg hT
  go_wp2_with fail
  refine HG.out.mono ?_
  rintro e w2 ⟨rfl, hT2, hg2⟩
  have hb2 := hb01.grown hg2 (Nat.le_trans hB hb01.size) (fun q e => by injection e with e; omega)
  have hf := tab_free hT2 aw5_okay
  have HF := Lib.hid hf
  have HT2 := Lib.hid hT2
  clear hf hT2
  go_wp2_with fail
  refine HF.out.mono ?_
  rintro e w3 ⟨rfl, hb3⟩
  have hc : cntNeg aw5 = 3 := by decide
  rw [hc]
  have hr := tab_runs (HT2.out.below hb3) aw5_okay
  have HR := Lib.hid hr
  clear hr hc
  go_wp2_with fail
  refine HR.out.mono ?_
  rintro e w4 ⟨v, rs, rfl, hn, ho, hb4⟩
  obtain rfl : rs = [⟨0, 1, -1⟩, ⟨1, 2, 7⟩, ⟨3, 2, -1⟩] := Fw.unique hn aw5_runs
  obtain ⟨g, cap, rfl, _⟩ := ho.form (by simp)
  have hb23 := hb2.trans (hb3.mono (Nat.le_trans hB hb2.size))
  have hb5 := hb23.trans (hb4.mono (Nat.le_trans hB hb23.size))
  clear hn ho
  go_wp2
  go_ret
  exact ⟨rfl, hb5⟩
end Go.Proofs.Ytmekoanobicddaa.Pt
