/- Runs in memory: a run, rows of runs, rows of runs that the call owns; tables. -/
import Derived.Test.YtmekoanobicddaaVt
import Derived.Test.YtmekoanobicddaaRg
import Derived.RangeFuncNested
import Derived.Deep.AppendLies
namespace Go.Proofs.Ytmekoanobicddaa.Pt
open Go.RowKit Ut
set_option linter.unusedVariables false

/-- a run: from, how many, whose -/
structure R3 where
  f : Int
  n : Int
  w : Int
def R3.v (r : R3) : Value := .agg #[.int .i64 r.f, .int .i64 r.n, .int .i64 r.w]
def R3.cs (r : R3) : List Value := [.int .i64 r.f, .int .i64 r.n, .int .i64 r.w]
def R3.zero : R3 := ⟨0, 0, 0⟩
instance : Inhabited R3 := ⟨R3.zero⟩
def cs3 (rs : List R3) : List Value := rs.flatMap R3.cs

theorem cs3_cons (r : R3) (rs : List R3) : cs3 (r :: rs) = .int .i64 r.f :: .int .i64 r.n :: .int .i64 r.w :: cs3 rs := rfl
theorem cs3_append (a b : List R3) : cs3 (a ++ b) = cs3 a ++ cs3 b := by simp [cs3]
theorem cs3_length (rs : List R3) : (cs3 rs).length = rs.length * 3 := by
  induction rs with
  | nil => rfl
  | cons r rs ih => rw [cs3_cons]; simp [ih]; omega
theorem cs3_get (rs : List R3) : ∀ i, i < rs.length → (cs3 rs)[i * 3]? = some (.int .i64 (rs.getD i default).f) ∧ (cs3 rs)[i * 3 + 1]? = some (.int .i64 (rs.getD i default).n) ∧ (cs3 rs)[i * 3 + 2]? = some (.int .i64 (rs.getD i default).w) := by
  induction rs with
  | nil => intro i hi; exact absurd hi (by simp)
  | cons r rs ih =>
    intro i hi
    rw [cs3_cons]
    cases i with
    | zero => exact ⟨rfl, rfl, rfl⟩
    | succ i =>
      have h := ih i (by simpa using hi)
      have e0 : (i + 1) * 3 = i * 3 + 1 + 1 + 1 := by omega
      have e1 : (i + 1) * 3 + 1 = i * 3 + 1 + 1 + 1 + 1 := by omega
      have e2 : (i + 1) * 3 + 2 = i * 3 + 2 + 1 + 1 + 1 := by omega
      rw [e2, e1, e0]
      simp only [List.getElem?_cons_succ, List.getD_cons_succ]
      exact h
theorem cs3_one (rs : List R3) : ∀ u ∈ cs3 rs, u.oneCell' = true := by
  induction rs with
  | nil => intro u hu; cases hu
  | cons r rs ih =>
    intro u hu
    rw [cs3_cons] at hu
    simp only [List.mem_cons] at hu
    rcases hu with rfl | rfl | rfl | hu
    · rfl
    · rfl
    · rfl
    · exact ih u hu

/-- the three cells of run number i in block g -/
def CellsAt (w : World) (g : Nat) (i : Nat) (r : R3) : Prop :=
  w.cell? ⟨g, i * 3, none⟩ = some (.int .i64 r.f) ∧ w.cell? ⟨g, i * 3 + 1, none⟩ = some (.int .i64 r.n) ∧ w.cell? ⟨g, i * 3 + 2, none⟩ = some (.int .i64 r.w)

/-- the slice v reads as the runs rs, and lies below block B -/
def RowS (w : World) (B : Nat) (v : Value) (rs : List R3) : Prop :=
  (v = .slice none 0 0 ∧ rs = []) ∨ ∃ g cap, v = .slice (some ⟨g, 0, none⟩) rs.length cap ∧ rs.length ≤ cap ∧ cap ≤ maxLen ∧ g < B ∧ ∀ i, i < rs.length → CellsAt w g i (rs.getD i default)

theorem CellsAt.below {w w' : World} {B g i : Nat} {r : R3} (h : CellsAt w g i r) (hg : g < B) (hb : Below B w w') : CellsAt w' g i r :=
  ⟨(hb.cell (p := ⟨g, _, none⟩) hg).trans h.1, (hb.cell (p := ⟨g, _, none⟩) hg).trans h.2.1, (hb.cell (p := ⟨g, _, none⟩) hg).trans h.2.2⟩
theorem RowS.below {w w' : World} {B : Nat} {v : Value} {rs : List R3} (h : RowS w B v rs) (hb : Below B w w') : RowS w' B v rs := by
  rcases h with h | ⟨g, cap, hv, hl, hm, hg, hc⟩
  · exact .inl h
  · exact .inr ⟨g, cap, hv, hl, hm, hg, fun i hi => (hc i hi).below hg hb⟩
theorem RowS.more {w : World} {B B' : Nat} {v : Value} {rs : List R3} (h : RowS w B v rs) (hB : B ≤ B') : RowS w B' v rs := by
  rcases h with h | ⟨g, cap, hv, hl, hm, hg, hc⟩
  · exact .inl h
  · exact .inr ⟨g, cap, hv, hl, hm, by omega, hc⟩

/-- what the call owns, as runs -/
def OwnS (w : World) (B : Nat) (v : Value) (rs : List R3) : Prop := w.ownsRow B 33 3 v rs.length (cs3 rs)
theorem OwnS.nil (w : World) (B : Nat) : OwnS w B (.slice none 0 0) [] := World.ownsRow_nil _ _ _ _
theorem OwnS.row {w : World} {B : Nat} {v : Value} {rs : List R3} (h : OwnS w B v rs) : RowS w w.heap.size v rs := by
  rcases h.2 with ⟨rfl, h0⟩ | ⟨g, cap, cur, rfl, hb, hg, hnc, hm, hsz, hcur⟩
  · exact .inl ⟨rfl, List.length_eq_zero_iff.1 h0⟩
  · refine .inr ⟨g, cap, rfl, hnc, hm, (Array.getElem?_eq_some_iff.1 hg).1, fun i hi => ?_⟩
    obtain ⟨h1, h2, h3⟩ := cs3_get rs i hi
    exact ⟨by rw [World.ownsRow.cellAt h _ (by omega)]; exact h1, by rw [World.ownsRow.cellAt h _ (by omega)]; exact h2, by rw [World.ownsRow.cellAt h _ (by omega)]; exact h3⟩
theorem OwnS.below {w w' : World} {B : Nat} {v : Value} {rs : List R3} (h : OwnS w B v rs) (hb : Below w.heap.size w w') : OwnS w' B v rs :=
  h.kept (row := none) ⟨hb.os, hb.tape, hb.output, hb.size, fun q hq _ => hb.block q hq⟩ (Classical.em _)
theorem OwnS.form {w : World} {B : Nat} {v : Value} {rs : List R3} (h : OwnS w B v rs) (hn : rs ≠ []) : ∃ g cap, v = .slice (some ⟨g, 0, none⟩) rs.length cap ∧ B ≤ g ∧ g < w.heap.size ∧ rs.length ≤ cap ∧ cap ≤ maxLen := by
  rcases h.2 with ⟨_, h0⟩ | ⟨g, cap, cur, hv, hb, hg, hnc, hm, _⟩
  · exact absurd (List.length_eq_zero_iff.1 h0) hn
  · exact ⟨g, cap, hv, hb, (Array.getElem?_eq_some_iff.1 hg).1, hnc, hm⟩

/-- a run that a table can have -/
def Fine (r : R3) : Prop := 0 ≤ r.f ∧ r.f ≤ 64 ∧ 0 ≤ r.n ∧ r.n ≤ 64 ∧ -1 ≤ r.w ∧ r.w < 64
def BR : Type := { r : R3 // Fine r }

/-- p is a table (nil, or one whose runs are nothing, too) with the runs xs, all below block B -/
def Tbl (w : World) (B : Nat) (p : Option Addr) (xs : List BR) : Prop :=
  (p = none ∧ xs = []) ∨ ∃ bt v, p = some ⟨bt, 0, none⟩ ∧ bt < B ∧ w.cell? ⟨bt, 1, none⟩ = some v ∧ RowS w B v (xs.map (·.1))
theorem Tbl.below {w w' : World} {B : Nat} {p : Option Addr} {xs : List BR} (h : Tbl w B p xs) (hb : Below B w w') : Tbl w' B p xs := by
  rcases h with h | ⟨bt, v, hp, hB, hc, hr⟩
  · exact .inl h
  · exact .inr ⟨bt, v, hp, hB, (hb.cell (p := ⟨bt, 1, none⟩) hB).trans hc, hr.below hb⟩
theorem Tbl.more {w : World} {B B' : Nat} {p : Option Addr} {xs : List BR} (h : Tbl w B p xs) (hB' : B ≤ B') : Tbl w B' p xs := by
  rcases h with h | ⟨bt, v, hp, hB, hc, hr⟩
  · exact .inl h
  · exact .inr ⟨bt, v, hp, by omega, hc, hr.more hB'⟩

/-- three cells of a block: a run's own variable -/
def Run3 (w : World) (b : Nat) (r : R3) : Prop := w.heap[b]? = some (.cells #[.int .i64 r.f, .int .i64 r.n, .int .i64 r.w] 33 (0, 0))
theorem Run3.lt {w : World} {b : Nat} {r : R3} (h : Run3 w b r) : b < w.heap.size := (Array.getElem?_eq_some_iff.1 h).1
theorem Run3.new (w : World) (r : R3) : Run3 (w.alloc (.cells #[.int .i64 r.f, .int .i64 r.n, .int .i64 r.w] 33)) w.heap.size r := World.alloc_heap_new w _
theorem Run3.cell {w : World} {b : Nat} {r : R3} (h : Run3 w b r) : w.cell? ⟨b, 0, none⟩ = some (.int .i64 r.f) ∧ w.cell? ⟨b, 1, none⟩ = some (.int .i64 r.n) ∧ w.cell? ⟨b, 2, none⟩ = some (.int .i64 r.w) := by
  refine ⟨?_, ?_, ?_⟩ <;> simp [World.cell?, show w.heap[b]? = _ from h]
theorem Run3.kept {w w' : World} {row : Option Nat} {b : Nat} {r : R3} (h : Run3 w b r) (hg : w.grownBy w' row) (hne : some b ≠ row) : Run3 w' b r := (hg.block b h.lt hne).trans h
theorem Run3.below {w w' : World} {B b : Nat} {r : R3} (h : Run3 w b r) (hb : Below B w w') (hB : b < B) : Run3 w' b r := (hb.block b hB).trans h
theorem run3_own {β : Type} (B : Nat) (f : β → R3) : Own (fun s W => Run3 W B (f s)) := fun s X Y row hs hg hrow =>
  hs.kept hg (fun e' => by obtain ⟨o, ho, hc⟩ := hrow B e'.symm; rw [show X.heap[B]? = _ from hs] at ho; cases ho; cases hc)
end Go.Proofs.Ytmekoanobicddaa.Pt
