/- Places that came in, read; what stays where others are set and dropped. -/
import Derived.Test.YtlgohgjnocoadaaXj
import Derived.Test.YtlgohgjnocoadaaXl
import Derived.Test.YtlgohgjnocoadaaXm
namespace Go.Proofs.Ytlgohgjnocoadaa.Gm
open Go.RowKit Ut
set_option maxRecDepth 100000
set_option linter.unusedVariables false

theorem add_some2 (x : Addr) (k j : Nat) (hj : 0 < j) : x.add (k * 2 + j) = ⟨(x.add (k * 2)).block, (x.add (k * 2)).off + j, none⟩ := by
  rw [← add_of_add]
  generalize x.add (k * 2) = y
  unfold Addr.add
  rw [if_neg (by omega)]
theorem pl_cells {w W : World} {x : Addr} {k B : Nat} {p : Pl} (hb : Below B w W) (hx : x.block < B) (h : w.cell? (x.add (k * 2)) = some (.int .i64 p.1) ∧ w.cell? (x.add (k * 2 + 1)) = some (.int .i64 p.2)) :
    W.cell? (x.add (k * 2)) = some (.int .i64 p.1) ∧ W.cell? ⟨(x.add (k * 2)).block, (x.add (k * 2)).off + 1, none⟩ = some (.int .i64 p.2) := by
  have g : ∀ j, W.cell? (x.add (k * 2 + j)) = w.cell? (x.add (k * 2 + j)) := fun j => hb.cell (p := x.add (k * 2 + j)) (by rw [block_of_add]; exact hx)
  refine ⟨(g 0).trans h.1, ?_⟩
  rw [← add_some2 x _ 1 (by decide)]
  exact (g 1).trans h.2

/-- page k lies at p, whatever is done with others -/
theorem stay_drop {L : List Pl} {k : Nat} {p : Pl} (h : plN L k = p) (n : Int) (hne : n ≠ k) : plN (drL L n) k = p := by
  unfold drL
  split
  · rename_i he
    have hn : 0 ≤ n ∧ n < 12 := by
      unfold drE at he
      split at he
      · assumption
      · omega
    rw [plN_other L n.toNat k (by omega)]
    exact h
  · exact h
theorem stay_set {L : List Pl} {k : Nat} {p : Pl} (h : plN L k = p) (ht : thB p = true) (n : Int) (q : Pl) : plN (setL L n q) k = p := by
  unfold setL
  split
  · rename_i he
    have hn : 0 ≤ n ∧ n < 12 := by
      unfold setE at he
      split at he
      · assumption
      · omega
    by_cases hk : k = n.toNat
    · subst hk
      unfold setE at he
      rw [if_pos hn, h, if_pos ht] at he
      split at he <;> omega
    · rw [plN_other L n.toNat k hk]
      exact h
  · exact h
theorem set_first {k : Nat} {p : Pl} (hk : k < 12) : (okB p = false ∧ setE noP k p = 1 ∧ setL noP k p = noP) ∨ (okB p = true ∧ setE noP k p = 0 ∧ setL noP k p = noP.set k p) := by
  have e := setE_is (L := noP) (p := p) hk
  rw [plN_no] at e
  rw [if_neg (show ¬ thB (0, 0) = true by decide)] at e
  by_cases hp : okB p = true
  · rw [if_pos hp] at e
    refine .inr ⟨hp, e, ?_⟩
    unfold setL
    rw [if_pos e]
    simp
  · rw [if_neg hp] at e
    refine .inl ⟨by simpa using hp, e, ?_⟩
    unfold setL
    rw [e]
    rfl
end Go.Proofs.Ytlgohgjnocoadaa.Gm
