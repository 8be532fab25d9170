/- The document's own table: Runs. -/
import Derived.Test.YtmekoanobicddaaPo
import Derived.Deep.QuietTactic
import Derived.BigQuiet
namespace Go.Proofs.Ytmekoanobicddaa.Pt
open Go.RowKit Ut
set_option linter.unusedVariables false

theorem nm_nil {rs : List R3} (h : Nm rs []) : rs = [] := by
  cases rs with
  | nil => rfl
  | cons r rs =>
    obtain ⟨_, h2, _, L', hL, _⟩ := h
    have := congrArg List.length hL
    simp at this; omega
/-- the last run is the last place's -/
theorem nm_last {rs : List R3} {L : List Int} (h : Nm rs L) (hL : L ≠ []) : rs ≠ [] ∧ (rs.getD (rs.length - 1) default).w = L.getD (L.length - 1) 0 ∧ 1 ≤ (rs.getD (rs.length - 1) default).n ∧ (rs.getD (rs.length - 1) default).n ≤ L.length := by
  have hne : rs ≠ [] := fun e => hL (by subst e; exact h)
  refine ⟨hne, ?_⟩
  obtain ⟨l, rs0, rfl⟩ : ∃ l rs0, rs = rs0 ++ [l] := ⟨rs.getLast hne, rs.dropLast, (List.dropLast_concat_getLast hne).symm⟩
  have hg : (rs0 ++ [l]).getD ((rs0 ++ [l]).length - 1) default = l := by simp [List.getD]
  rw [hg]
  obtain ⟨L0, e, _, _, hn, _⟩ := Fw.unsnoc h
  have hlen : L.length = L0.length + l.n.toNat := by rw [e]; simp
  refine ⟨?_, hn, by omega⟩
  rw [e]
  simp only [List.getD_eq_getElem?_getD, List.getElem?_append, List.length_append, List.length_replicate, List.getElem?_replicate]
  rw [if_neg (by omega), if_pos (by omega)]
  rfl

/-- what Runs answers -/
def RunsPost (w : World) (L : List Int) (e : Ending) (W' : World) : Prop := ∃ v rs, e = .returned v ∧ Nm rs L ∧ OwnS W' w.heap.size v rs ∧ Below w.heap.size w W'

theorem RefAt.head {W : World} {br : Nat} {L : List Int} (h : RefAt W br L) {a : Option Addr} {n cap : Nat} (hc : W.cell? ⟨br, 0, none⟩ = some (.slice a n cap)) {x : Addr} (hx : a = some x) : ∃ g, x = ⟨g, 0, none⟩ := by
  obtain ⟨v, h1, h2⟩ := h
  have : W.cell? ⟨br, 0, none⟩ = some v := by simp [World.cell?, h1]
  rw [this] at hc
  injection hc with hc
  subst hc
  rcases h2.2 with ⟨e, _⟩ | ⟨g, _, _, e, _⟩
  · injection e with e1; rw [e1] at hx; cases hx
  · injection e with e1; rw [e1] at hx; injection hx with hx; exact ⟨g, hx.symm⟩

end Go.Proofs.Ytmekoanobicddaa.Pt
