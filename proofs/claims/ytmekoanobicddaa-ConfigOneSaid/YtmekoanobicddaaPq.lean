/- The document's own table: Give. -/
import Derived.Test.YtmekoanobicddaaPo
import Derived.Test.YtmekoanobicddaaPj
namespace Go.Proofs.Ytmekoanobicddaa.Pt
open Go.RowKit Ut
set_option linter.unusedVariables false

def refBad (f n who : Int) (L : List Int) : Prop := f < 0 ∨ n < 1 ∨ (L.length : Int) < f ∨ (L.length : Int) - f < n ∨ who < 0 ∨ 64 ≤ who

theorem refGive_arg (br : Nat) (f n who : Int) (L : List Int) (w : World) (hR : RefAt w br L) (hl : L.length ≤ 1000) (hbad : refBad f n who L) :
    Calls Try.prog 86 #[.pointer (some ⟨br, 0, none⟩), .int .i64 f, .int .i64 n, .int .i64 who] w fun e W' => e = .returned (.int .i64 1) ∧ w = W' := by
  obtain ⟨a, cap, hc, _, hbr, hn, hcap, hrow, _, _⟩ := hR.form
  unfold refBad at hbad
  obtain ⟨m, hlm⟩ : ∃ m, m = L.length := ⟨_, rfl⟩
  rw [← hlm] at hc hn hbad hl
  clear hlm hrow hR
  by_cases h1 : f < 0
  · go_enter Try.func86, Try.ntmps86
    go_wp2
    go_ret
    exact ⟨rfl, rfl⟩
  · by_cases h2 : n < 1
    · go_enter Try.func86, Try.ntmps86
      go_wp2
      go_ret
      exact ⟨rfl, rfl⟩
    · by_cases h3 : (m : Int) < f
      · go_enter Try.func86, Try.ntmps86
        go_wp2
        go_ret
        exact ⟨rfl, rfl⟩
      · by_cases h4 : (m : Int) - f < n
        · go_enter Try.func86, Try.ntmps86
          go_wp2
          go_ret
          exact ⟨rfl, rfl⟩
        · by_cases h5 : who < 0
          · go_enter Try.func86, Try.ntmps86
            go_wp2
            go_ret
            exact ⟨rfl, rfl⟩
          · have h6 : 64 ≤ who := by omega
            go_enter Try.func86, Try.ntmps86
            go_wp2
            go_ret
            exact ⟨rfl, rfl⟩

set_option maxRecDepth 100000 in
theorem refGive_used (br F N : Nat) (who : Int) (L : List Int) (w : World) (hR : RefAt w br L) (hl : L.length ≤ 1000) (hN : 1 ≤ N) (hFN : F + N ≤ L.length) (hw0 : 0 ≤ who) (hw1 : who < 64) (hu : ∃ j, j < N ∧ 0 ≤ L.getD (F + j) 0) :
    Calls Try.prog 86 #[.pointer (some ⟨br, 0, none⟩), .int .i64 F, .int .i64 N, .int .i64 who] w fun e W' => e = .returned (.int .i64 5) ∧ w = W' := by
  obtain ⟨a, cap, hc, _, hbr, hn, hcap, hrow, _, _⟩ := hR.form
  obtain ⟨m, hlm⟩ : ∃ m, m = L.length := ⟨_, rfl⟩
  rw [← hlm] at hc hn hFN hl hrow
  have HRo := Lib.hid hrow
  have HU := Lib.hid hu
  clear hlm hrow hR hu
  have h1 : ¬ (F : Int) < 0 := by omega
  have h2 : ¬ (N : Int) < 1 := by omega
  have h3 : ¬ (m : Int) < (F : Int) := by omega
  have h4 : ¬ (m : Int) - (F : Int) < (N : Int) := by omega
  go_enter Try.func86, Try.ntmps86
  go_wp2
  go_loop [9] (fun i => ∃ k : Nat, k ≤ N ∧ i = .int .i64 k ∧ Hid (∀ j, j < k → L.getD (F + j) 0 < 0)) (fun i => N - (intOf i).toNat)
  case atStart => exact ⟨0, Nat.zero_le _, rfl, fun j hj => absurd hj (by omega)⟩
  case round =>
    obtain ⟨k, hk, rfl, hall⟩ := hrel
    by_cases hlt : k < N
    · obtain ⟨x, rfl, _, hx⟩ := HRo.out.2 (F + k) (by omega)
      have b0 : (0 : Int) ≤ (F : Int) + (k : Int) := by omega
      have b1 : (F : Int) + (k : Int) < (m : Int) := by omega
      have b2 : (k : Int) < (N : Int) := by omega
      obtain ⟨u, hu⟩ : ∃ u, u = L.getD (F + k) 0 := ⟨_, rfl⟩
      rw [← hu] at hx
      have HU2 := Lib.hid hu
      clear hu
      by_cases h5 : 0 ≤ u
      · go_wp2
        go_ret
        exact ⟨rfl, rfl⟩
      · go_wp2
        go_round
        case rel =>
          refine ⟨k + 1, by omega, by go_num, fun j hj => ?_⟩
          by_cases e : j = k
          · subst e; rw [← HU2.out]; omega
          · exact hall.out j (by omega)
        case measure => simp [intOf]; omega
    · exfalso
      obtain ⟨j, hj, hj2⟩ := HU.out
      have := hall.out j (by omega)
      omega

/-- L with n places from F on made who's -/
def setR (L : List Int) (F k : Nat) (who : Int) : List Int := L.take F ++ List.replicate k who ++ L.drop (F + k)
theorem setR_length (L : List Int) (F k : Nat) (who : Int) (h : F + k ≤ L.length) : (setR L F k who).length = L.length := by simp [setR]; omega
theorem setR_succ (L : List Int) (F k : Nat) (who : Int) (h : F + k < L.length) : (setR L F k who).set (F + k) who = setR L F (k + 1) who := by
  unfold setR
  have hl : (L.take F ++ List.replicate k who).length = F + k := by simp; omega
  rw [List.set_append_right _ _ (by omega), hl, Nat.sub_self, List.drop_eq_getElem_cons h, List.set_cons_zero, List.replicate_succ', List.append_assoc, List.append_assoc, List.append_assoc]
  rfl

set_option maxRecDepth 100000 in
set_option maxHeartbeats 2000000 in
theorem refGive_ok (br F N : Nat) (who : Int) (L : List Int) (w : World) (hR : RefAt w br L) (hl : L.length ≤ 1000) (hN : 1 ≤ N) (hFN : F + N ≤ L.length) (hw0 : 0 ≤ who) (hw1 : who < 64) (hu : ∀ j, j < N → L.getD (F + j) 0 < 0) :
    Calls Try.prog 86 #[.pointer (some ⟨br, 0, none⟩), .int .i64 F, .int .i64 N, .int .i64 who] w fun e W' => e = .returned (.int .i64 0) ∧ RefAt W' br (setR L F N who) ∧ w.grownBy W' (some br) := by
  obtain ⟨a, cap, hc, hfr, hbr, hn, hcap, hrow, hheap, _⟩ := hR.form
  obtain ⟨m, hlm⟩ : ∃ m, m = L.length := ⟨_, rfl⟩
  rw [← hlm] at hc hn hFN hl hrow hheap
  have HRo := Lib.hid hrow
  have HU := Lib.hid hu
  have HH := Lib.hid hheap
  have HL := Lib.hid hlm
  clear hlm hrow hR hu hheap
  have h1 : ¬ (F : Int) < 0 := by omega
  have h2 : ¬ (N : Int) < 1 := by omega
  have h3 : ¬ (m : Int) < (F : Int) := by omega
  have h4 : ¬ (m : Int) - (F : Int) < (N : Int) := by omega
  go_enter Try.func86, Try.ntmps86
  go_wp2
  go_loop [9] (fun i => ∃ k : Nat, k ≤ N ∧ i = .int .i64 k) (fun i => N - (intOf i).toNat)
  case atStart => exact ⟨0, Nat.zero_le _, rfl⟩
  case round =>
    obtain ⟨k, hk, rfl⟩ := hrel
    by_cases hlt : k < N
    · obtain ⟨x, rfl, _, hx⟩ := HRo.out.2 (F + k) (by omega)
      have b0 : (0 : Int) ≤ (F : Int) + (k : Int) := by omega
      have b1 : (F : Int) + (k : Int) < (m : Int) := by omega
      have b2 : (k : Int) < (N : Int) := by omega
      have h5 := HU.out k hlt
      obtain ⟨u, hu⟩ : ∃ u, u = L.getD (F + k) 0 := ⟨_, rfl⟩
      rw [← hu] at hx h5
      clear hu
      have h6 : ¬ 0 ≤ u := by omega
      go_wp2
      go_round
      case rel => exact ⟨k + 1, by omega, by go_num⟩
      case measure => simp [intOf]; omega
    · have hkN : k = N := by omega
      subst hkN
      have b2 : ¬ (k : Int) < (k : Int) := by omega
      have hmade := OwnI.made .i64 w w.heap.size 3 (Nat.le_refl _)
      have HMd := Lib.hid hmade
      have hrow2 := HRo.out.below ((Below.refl w.heap.size w).alloc (Nat.le_refl _) (.cells #[] 3))
      have HR2 := Lib.hid hrow2
      clear hmade hrow2
      go_wp2_with (at_builtin; refine wpList_append_ints rfl _ _ _ rfl .i64 w.heap.size 3 8 Try.underlying22 A.info3 _ 0 [] rfl HMd.out _ a m cap L rfl HR2.out (by unfold maxLen; omega) (by omega) (by simp) ?_; intro v1 w1 ho1 hb1 _; obtain ⟨g1, c1, rfl, hg1, hg2, hg3, hg4⟩ := OwnI.form ho1.out (by omega))
      have hba : Below w.heap.size w w1 := ((Below.refl w.heap.size w).alloc (Nat.le_refl _) (.cells #[] 3)).trans hb1
      have hoS : OwnI .i64 w1 w.heap.size 3 (.slice (some ⟨g1, 0, none⟩) (0 + m) c1) m (setR L F 0 who) := by
        have h := ho1.out
        rw [List.nil_append] at h
        have e : setR L F 0 who = L := by unfold setR; simp
        rw [e]
        simpa using h
      rw [Nat.zero_add] at hoS hg3
      have HS0 := Lib.hid hoS
      unfold maxLen at hg4
      clear hoS ho1
      go_loopw [11] (fun i wr => ∃ q : Nat, q ≤ k ∧ i = .int .i64 q ∧ OwnI .i64 wr w.heap.size 3 (.slice (some ⟨g1, 0, none⟩) m c1) m (setR L F q who) ∧ Below w.heap.size w wr) (fun i _ => k - (intOf i).toNat)
      case atStart => exact ⟨0, Nat.zero_le _, rfl, HS0.out, hba⟩
      case round =>
        obtain ⟨q, hq, rfl, ho, hb⟩ := hrel
        have HO := Lib.hid ho
        clear ho
        by_cases hlt2 : q < k
        · have cc := HO.out.cellAt (F + q) (by omega)
          have ff := HO.out.frozenAt (F + q)
          have hst := HO.out.store (F + q) who
          have hsu := setR_succ L F q who (by have := HL.out; omega)
          rw [hsu] at hst
          have HSt := Lib.hid hst
          have b3 : (0 : Int) ≤ (F : Int) + (q : Int) := by omega
          have b4 : (F : Int) + (q : Int) < (m : Int) := by omega
          have b5 : (q : Int) < (k : Int) := by omega
          clear hst hsu
          go_wp2
          go_roundw
          case rel => exact ⟨q + 1, by omega, by go_num, HSt.out, hb.setCell (p := ⟨g1, F + q, none⟩) hg1 _⟩
          case measure => simp [intOf]; omega
        · have hqk : q = k := by omega
          subst hqk
          have b5 : ¬ (q : Int) < (q : Int) := by omega
          have hH2 := (hb.block br hbr).trans HH.out
          have d1 : wr.cell? ⟨br, 0, none⟩ = some (.slice a m cap) := by simp [World.cell?, hH2]
          have d2 : wr.frozen? ⟨br, 0, none⟩ = false := by simp [World.frozen?, hH2]
          have HH2 := Lib.hid hH2
          clear hH2 hc hfr
          go_wp2
          go_ret
          refine ⟨rfl, ⟨_, heap_set HH2.out 0 _, ?_⟩, grownBy_trans (grownBy_of_below _ hb) (grownBy_setCell' _ _ _)⟩
          have hne : some br ≠ (Value.slice (some ⟨g1, 0, none⟩) m c1).ownBlock := by
            simp only [Value.ownBlock, ne_eq, Option.some.injEq]
            omega
          have ho2 := World.ownsRow.kept HO.out (grownBy_setCell' wr br (.slice (some ⟨g1, 0, none⟩) m c1)) (.inr hne.symm)
          rw [setR_length _ _ _ _ (by have := HL.out; omega), ← HL.out]
          exact ownsRow_less ho2 (Nat.zero_le _)
end Go.Proofs.Ytmekoanobicddaa.Pt
