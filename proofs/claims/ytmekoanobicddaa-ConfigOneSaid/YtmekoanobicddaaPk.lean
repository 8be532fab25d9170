/- The document's own table: New, Who, Free, Of. -/
import Derived.Test.YtmekoanobicddaaPm
import Derived.Test.YtmekoanobicddaaPn
namespace Go.Proofs.Ytmekoanobicddaa.Pt
open Go.RowKit Ut
set_option linter.unusedVariables false

/-- block br is the document's table: whose the places are -/
def RefAt (W : World) (br : Nat) (L : List Int) : Prop := ∃ v, W.heap[br]? = some (.cells #[v] 105 (0, 0)) ∧ W.ownsRow 0 3 1 v L.length (L.map (Value.int .i64))

theorem RefAt.form {W : World} {br : Nat} {L : List Int} (h : RefAt W br L) : ∃ a cap, W.cell? ⟨br, 0, none⟩ = some (.slice a L.length cap) ∧ W.frozen? ⟨br, 0, none⟩ = false ∧ br < W.heap.size ∧ L.length ≤ cap ∧ cap ≤ 9223372036854775807 ∧ RowK .i64 W W.heap.size a L.length L ∧ W.heap[br]? = some (.cells #[.slice a L.length cap] 105 (0, 0)) ∧ W.ownsRow 0 3 1 (.slice a L.length cap) L.length (L.map (Value.int .i64)) := by
  obtain ⟨v, h1, h2⟩ := h
  obtain ⟨a, cap, rfl, h3, h4, h5⟩ := RowK.of_own h2
  exact ⟨a, cap, by simp [World.cell?, h1], by simp [World.frozen?, h1], (Array.getElem?_eq_some_iff.1 h1).1, h3, h4, h5, h1, h2⟩
theorem RefAt.kept {W W' : World} {br : Nat} {L : List Int} {row : Option Nat} (h : RefAt W br L) (hg : W.grownBy W' row) (hr : ∀ q, row = some q → ∃ c t f, W.heap[q]? = some (.cells c t f) ∧ t ≠ 105 ∧ t ≠ 3) : RefAt W' br L := by
  obtain ⟨v, h1, h2⟩ := h
  refine ⟨v, (hg.block br (Array.getElem?_eq_some_iff.1 h1).1 fun e => ?_).trans h1, World.ownsRow.kept h2 hg ?_⟩
  · obtain ⟨c, t, f, hq, ht, _⟩ := hr br e.symm
    rw [h1] at hq
    injection hq with hq
    injection hq with _ hq
    exact ht hq.symm
  · rcases h2.2 with ⟨rfl, _⟩ | ⟨g, cap, cur, rfl, _, hgb, _⟩
    · exact .inl rfl
    · refine .inr fun e => ?_
      obtain ⟨c, t, f, hq, _, ht⟩ := hr g (by simpa [Value.ownBlock] using e.symm)
      rw [hgb] at hq
      injection hq with hq
      injection hq with _ hq
      exact ht hq.symm
theorem RefAt.below {W W' : World} {br : Nat} {L : List Int} (h : RefAt W br L) (hb : Below W.heap.size W W') : RefAt W' br L :=
  h.kept (row := none) ⟨hb.os, hb.tape, hb.output, hb.size, fun q hq _ => hb.block q hq⟩ (fun q e => by cases e)

def whoRB (i : Int) (L : List Int) : Bool := decide (0 ≤ i) && decide (i < L.length) && decide (0 ≤ L.getD i.toNat 0)
def whoRW (i : Int) (L : List Int) : Int := if whoRB i L then L.getD i.toNat 0 else 0

/-- how many are below nought -/
def cntNeg (L : List Int) : Int := (L.filter fun o => decide (o < 0)).length
theorem cntNeg_take (L : List Int) (k : Nat) (hk : k < L.length) : cntNeg (L.take (k + 1)) = cntNeg (L.take k) + if L.getD k 0 < 0 then 1 else 0 := by
  rw [List.take_succ_eq_append_getElem hk]
  unfold cntNeg
  rw [List.filter_append, List.length_append]
  have e : L.getD k 0 = L[k] := by simp [List.getD, hk]
  rw [e]
  by_cases h : L[k] < 0 <;> simp [h]
theorem cntNeg_bd (L : List Int) : 0 ≤ cntNeg L ∧ cntNeg L ≤ L.length := by
  unfold cntNeg
  exact ⟨by omega, by have := List.length_filter_le (fun o => decide (o < 0)) L; omega⟩

end Go.Proofs.Ytmekoanobicddaa.Pt
