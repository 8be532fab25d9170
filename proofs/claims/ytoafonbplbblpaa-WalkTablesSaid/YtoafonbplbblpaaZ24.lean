/- Several texts in one: Xn Yn -/
import Derived.Test.YtoafonbplbblpaaZ14
import Derived.Test.YtoafonbplbblpaaZ22
import Derived.Test.YtoafonbplbblpaaZ23
import Derived.Test.YtoafonbplbblpaaZ18
import Derived.StillTailTactics
section
/- Places that came in, read; what stays where others are set and dropped. -/
namespace Go.Proofs.Ytoafonbplbblpaa.Gm
open Go.RowKit Ut
set_option maxRecDepth 100000
set_option linter.unusedVariables false

theorem add_some2 (x : Addr) (k j : Nat) (hj : 0 < j) : x.add (k * 2 + j) = ⟨(x.add (k * 2)).block, (x.add (k * 2)).off + j, none⟩ := by
  rw [← add_of_add]
  generalize x.add (k * 2) = y
  unfold Addr.add
  rw [if_neg (by omega)]
theorem pl_cells {w W : World} {x : Addr} {k B : Nat} {p : Pl} (hb : Below B w W) (hx : x.block < B) (h : w.cell? (x.add (k * 2)) = some (.int .i64 p.1) ∧ w.cell? (x.add (k * 2 + 1)) = some (.int .i64 p.2)) :
    W.cell? (x.add (k * 2)) = some (.int .i64 p.1) ∧ W.cell? ⟨(x.add (k * 2)).block, (x.add (k * 2)).off + 1, none⟩ = some (.int .i64 p.2) := by
  have g : ∀ j, W.cell? (x.add (k * 2 + j)) = w.cell? (x.add (k * 2 + j)) := fun j => hb.cell (p := x.add (k * 2 + j)) (by rw [block_of_add]; exact hx)
  refine ⟨(g 0).trans h.1, ?_⟩
  rw [← add_some2 x _ 1 (by decide)]
  exact (g 1).trans h.2

/-- page k lies at p, whatever is done with others -/
theorem stay_drop {L : List Pl} {k : Nat} {p : Pl} (h : plN L k = p) (n : Int) (hne : n ≠ k) : plN (drL L n) k = p := by
  unfold drL
  split
  · rename_i he
    have hn : 0 ≤ n ∧ n < 12 := by
      unfold drE at he
      split at he
      · assumption
      · omega
    rw [plN_other L n.toNat k (by omega)]
    exact h
  · exact h
theorem stay_set {L : List Pl} {k : Nat} {p : Pl} (h : plN L k = p) (ht : thB p = true) (n : Int) (q : Pl) : plN (setL L n q) k = p := by
  unfold setL
  split
  · rename_i he
    have hn : 0 ≤ n ∧ n < 12 := by
      unfold setE at he
      split at he
      · assumption
      · omega
    by_cases hk : k = n.toNat
    · subst hk
      unfold setE at he
      rw [if_pos hn, h, if_pos ht] at he
      split at he <;> omega
    · rw [plN_other L n.toNat k hk]
      exact h
  · exact h
theorem set_first {k : Nat} {p : Pl} (hk : k < 12) : (okB p = false ∧ setE noP k p = 1 ∧ setL noP k p = noP) ∨ (okB p = true ∧ setE noP k p = 0 ∧ setL noP k p = noP.set k p) := by
  have e := setE_is (L := noP) (p := p) hk
  rw [plN_no] at e
  rw [if_neg (show ¬ thB (0, 0) = true by decide)] at e
  by_cases hp : okB p = true
  · rw [if_pos hp] at e
    refine .inr ⟨hp, e, ?_⟩
    unfold setL
    rw [if_pos e]
    simp
  · rw [if_neg hp] at e
    refine .inl ⟨by simpa using hp, e, ?_⟩
    unfold setL
    rw [e]
    rfl
end Go.Proofs.Ytoafonbplbblpaa.Gm
end
section
/- hermitagelaw16: made; the document's Read and Write whatever they are asked. -/
namespace Go.Proofs.Ytoafonbplbblpaa.Vw
open Go.RowKit Go.Shelf Ut Oc
set_option maxRecDepth 100000
set_option linter.unusedVariables false
set_option maxHeartbeats 4000000

section
variable {g bt B q n gv cap : Nat} {S : List Int} {L : List Gm.Pl} {D : List Bool}
theorem refRead_any (z k : Int) (t : Bool) (h0 : 0 ≤ z) (h1 : z < 4294967296) (ht : ownB n L z k = t) (w : World) (hP : DV w g bt B q n gv cap S L D) :
    Calls Try.prog 75 #[.pointer (some ⟨g, 0, none⟩), .int .u32 z, .int .i64 k] w fun e w' => ∃ p q c, e = .returned (.tuple #[.slice p q c, .bool t]) ∧ Hid (RowK .u8 w' w'.heap.size p q (rdL n S L z k)) ∧ Below w.heap.size w w' := by
  have hno : ownB n L z k = false → Calls Try.prog 75 #[.pointer (some ⟨g, 0, none⟩), .int .u32 z, .int .i64 k] w fun e w' => ∃ p q c, e = .returned (.tuple #[.slice p q c, .bool false]) ∧ Hid (RowK .u8 w' w'.heap.size p q (rdL n S L z k)) ∧ Below w.heap.size w w' := fun hf => by
    have e : rdL n S L z k = [] := by unfold rdL; rw [hf]; rfl
    rw [e]
    exact (refRead_no z k h0 h1 hf w hP).mono fun e w' ⟨he, hb⟩ => ⟨none, 0, 0, he, RowK.nil _ _ _ _, hb⟩
  rcases own_cases n L z k h0 with ⟨h2, _⟩ | ⟨a, K, rfl, rfl, h2, h3⟩
  · rw [h2] at ht
    subst ht
    exact hno h2
  · cases t
    · exact hno ht
    · have e : rdL n S L a K = rB L S a K := by unfold rdL; rw [if_pos ht]; rfl
      rw [e]
      exact refRead_yes a K h2 ht (h3.1 ht) w hP
end

/-- the map behind the first k pages -/
def mkL (xs : List Int) (Z : Nat → Gm.Pl) : Nat → List Gm.Pl
  | 0 => Gm.noP
  | k + 1 => Gm.setL (mkL xs Z k) (xs.getD k 0) (Z k)
def cnt (li lp : Nat) : Nat := min (min li lp) 30

/-- what made makes -/
structure Mk (w0 w : World) (b s m n g bt B q gv cap : Nat) (L : List Gm.Pl) : Prop where
  pv : PV w b s m n Fr.zeros L noD
  dv : DV w g bt B q n gv cap Fr.zeros L noD
  ws : w0.heap.size ≤ s
  mB : m < B
  qb : q < b
  bg : b < g
  blw : Below w0.heap.size w0 w

end Go.Proofs.Ytoafonbplbblpaa.Vw
end
