/- The document's own table: Of, New. -/
import Derived.Test.YtmekoanobicddaaPk
import Derived.RangeFuncBox
namespace Go.Proofs.Ytmekoanobicddaa.Pt
open Go.RowKit Ut
set_option linter.unusedVariables false

/-- who's places, as the document's loop finds them -/
def plR (who : Int) (L : List Int) : List Int := if 0 ≤ who then placesFrom who 0 L else []
theorem plR_take (who : Int) (L : List Int) (k : Nat) (hk : k < L.length) : plR who (L.take (k + 1)) = plR who (L.take k) ++ if L.getD k 0 = who ∧ 0 ≤ who then [(k : Int)] else [] := by
  rw [List.take_succ_eq_append_getElem hk]
  have e : L.getD k 0 = L[k] := by simp [List.getD, hk]
  have hl : (L.take k).length = k := by simp; omega
  unfold plR
  by_cases h0 : 0 ≤ who
  · rw [if_pos h0, if_pos h0, placesFrom_append, Nat.zero_add, hl, e]
    by_cases h1 : L[k] = who <;> simp [placesFrom, h1, h0]
  · rw [if_neg h0, if_neg h0, if_neg (by omega)]; rfl
theorem plR_length (who : Int) (L : List Int) : (plR who L).length ≤ L.length := by
  unfold plR
  split
  · suffices h : ∀ (A : List Int) (k : Nat), (placesFrom who k A).length ≤ A.length from h L 0
    intro A
    induction A with
    | nil => intro k; simp [placesFrom]
    | cons o A ih =>
      intro k
      have := ih (k + 1)
      simp only [placesFrom, List.length_append, List.length_cons]
      split <;> simp <;> omega
  · simp

theorem refNew_no (n : Int) (w : World) (h : n < 0 ∨ 64 < n) :
    Calls Try.prog 85 #[.int .i64 n] w fun e W' => e = .returned (.tuple #[.pointer none, .int .i64 1]) ∧ w = W' := by
  by_cases h0 : n < 0
  · go_enter Try.func85, Try.ntmps85
    go_wp2_with fail
    go_ret2
    exact ⟨rfl, rfl⟩
  · have h1 : 64 < n := by omega
    go_enter Try.func85, Try.ntmps85
    go_wp2_with fail
    go_ret2
    exact ⟨rfl, rfl⟩

set_option maxRecDepth 100000 in
theorem refNew_yes (n : Nat) (w : World) (h1 : n ≤ 64) :
    Calls Try.prog 85 #[.int .i64 n] w fun e W' => e = .returned (.tuple #[.pointer (some ⟨w.heap.size, 0, none⟩), .int .i64 0]) ∧ RefAt W' w.heap.size (List.replicate n (-1)) ∧ Below w.heap.size w W' := by
  have h0 : (0 : Int) ≤ (n : Int) := by omega
  have h1' : (n : Int) ≤ 64 := by omega
  obtain ⟨i0, hi, hz0, hz1, hz2⟩ := info_parts A.info3
  have HI := Lib.hid hi
  clear hi
  have bB := Boxed.new w 105 (.slice none 0 0)
  have hB0 := (Below.refl w.heap.size w).alloc (Nat.le_refl _) (.cells #[.slice none 0 0] 105)
  go_enter Try.func85, Try.ntmps85
  go_wp2
  go_loopw [5] (fun i wr => ∃ (k : Nat) (v : Value), k ≤ n ∧ i = .int .i64 k ∧ Boxed wr w.heap.size 105 v ∧ wr.ownsRow w.heap.size 3 1 v k ((List.replicate k (-1 : Int)).map (Value.int .i64)) ∧ Below w.heap.size w wr) (fun i _ => n - (intOf i).toNat)
  case atStart => exact ⟨0, _, Nat.zero_le _, rfl, bB, World.ownsRow_nil _ _ _ _, hB0⟩
  case round =>
    obtain ⟨k, v, hk, rfl, hv, hrow, hb⟩ := hrel
    have hcv := hv.cell
    by_cases hlt : k < n
    · have h2' : (k : Int) < (n : Int) := by omega
      have hrep : (List.replicate (k + 1) (-1 : Int)).map (Value.int .i64) = (List.replicate k (-1 : Int)).map (Value.int .i64) ++ [.int .i64 (-1)] := by rw [List.replicate_succ', List.map_append]; rfl
      have HRp := Lib.hid hrep
      clear hrep bB hB0
      go_wp2_with (at_builtin; refine wpList_append_own _ rfl _ _ _ rfl w.heap.size 3 i0 _ 1 8 Try.underlying22 HI.out hz0 hz1 hz2 rfl (by decide) _ _ _ rfl (hrow.alloc _) ⟨wr.heap.size, 0, none⟩ 1 1 [.int .i64 (-1)] rfl rfl (cell_one_new _ _ _) (by simp [Value.oneCell']) (by unfold maxLen; omega) (by omega) (by have := hb.size; simp; omega) ?_; intro v' w1 hown' hgrow _; obtain ⟨g', cap', rfl⟩ := ownsRow_succ hown'; obtain ⟨hv1, hv2, hr2, hk2, hb2⟩ := hv.appended (by decide) hrow hb.size (Nat.le_refl _) hown' hgrow; have hc1 := hv1.cell; have hf1 := hv1.frozen)
      go_roundw
      case rel => exact ⟨k + 1, _, by omega, by go_num, hv2, by rw [HRp.out]; exact hr2, hb.trans hb2⟩
      case measure => simp [intOf]; omega
    · have hkn : k = n := by omega
      subst hkn
      have h2' : ¬ (k : Int) < (k : Int) := by omega
      have HR := Lib.hid hrow
      clear hrow bB hB0
      go_wp2
      go_ret2
      refine ⟨rfl, ⟨v, hv, ?_⟩, hb⟩
      have ho := HR.out
      rw [List.length_replicate]
      rcases ho.2 with h | ⟨q, cap', cur, e1, e2, e3⟩
      · exact ⟨ho.1, .inl h⟩
      · exact ⟨ho.1, .inr ⟨q, cap', cur, e1, Nat.zero_le _, e3⟩⟩
end Go.Proofs.Ytmekoanobicddaa.Pt
