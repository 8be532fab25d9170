/- A struct, or a slice of structs, whose fields are structs again, that came in as an argument: what each of its cells reads as. Serves all packages. -/
import Derived.Test.YtkkolbdapoejkaaAr
namespace Go.Proofs.Ytkkolbdapoejkaa.Ut
open Go.ChangeShapes Go.WideShapes Go.Deep Go.RowKit
set_option linter.unusedVariables false
/-- the type of cell j of a value of type t: structs are opened, whatever lies in them; what is no struct has one cell -/
def leafAt (P : Program) : Nat → TypeId → Nat → Option TypeId
  | 0, _, _ => none
  | n + 1, t, j => match P.underlying t with
    | some (.struct fs) => match fs.toList.find? fun f => decide (f.offset ≤ j) && decide (j < f.offset + P.cellsOf f.type) && decide (f.offset + P.cellsOf f.type ≤ P.cellsOf t) with
      | some f => leafAt P n f.type (j - f.offset)
      | none => none
    | _ => if j = 0 ∧ P.cellsOf t = 1 then some t else none
section
variable {H : Type} {enc : TypeId × Value → H} {P : Program} {w : World} {base : Nat} {held : Bool} {spare : Nat → Bool}
theorem open_leaf {T : TypeId} : ∀ (n : Nat) {t : TypeId} {j fuel : Nat} {cs : List Value} {x : DataW H × List MemPlace}, DataW.trod enc P w base spare held fuel t cs = some x → cs.length = P.cellsOf t → leafAt P n t j = some T →
    ∃ (v : Value) (m : Nat) (q : DataW H × List MemPlace), cs[j]? = some v ∧ DataW.trod enc P w base spare held m T [v] = some q := by
  intro n
  induction n with
  | zero => intro t j fuel cs x _ _ h; simp [leafAt] at h
  | succ n ih =>
    intro t j fuel cs x h hl hj
    unfold leafAt at hj
    split at hj
    · rename_i fs hs
      split at hj
      · rename_i f hf
        have hp := List.find?_some hf
        simp only [Bool.and_eq_true, decide_eq_true_eq] at hp
        obtain ⟨⟨p1, p2⟩, p3⟩ := hp
        obtain ⟨i, hi, he⟩ := List.getElem_of_mem (List.mem_of_find?_eq_some hf)
        have hfi : fs[i]? = some f := by
          rw [← Array.getElem?_toList, List.getElem?_eq_getElem hi, he]
        obtain ⟨ys, k, _, _, _, hyl, hg⟩ := DataW.trod_struct hs h
        have h1 := hg i f hfi
        have hil : i < ys.length := by rw [hyl]; simpa using hi
        rw [List.getElem?_eq_getElem hil] at h1
        have hlen : ((cs.drop f.offset).take (P.cellsOf f.type)).length = P.cellsOf f.type := by
          rw [List.length_take, List.length_drop]
          omega
        obtain ⟨v, m, q, e1, e2⟩ := ih h1 hlen hj
        refine ⟨v, m, q, ?_, e2⟩
        rw [List.getElem?_take, if_pos (by omega), List.getElem?_drop] at e1
        rw [← e1]
        congr 1
        omega
      · exact absurd hj (by simp)
    · split at hj
      · rename_i h2
        obtain ⟨rfl, h3⟩ := h2
        injection hj with hj
        subst hj
        rw [h3] at hl
        match cs, hl, h with
        | [v], _, h => exact ⟨v, fuel, x, rfl, h⟩
      · exact absurd hj (by simp)
/-- the cells of a struct that came in by value -/
theorem open_flat {r : Reach} {b0 : Nat} {t : TypeId} {fs : Array Field} {v : Value} {d : DataW H} {p : List MemPlace} (n : Nat) (hs : P.underlying t = some (.struct fs)) (hv : Value.okWide P w r b0 t v) (h : DataW.Trod enc P w base spare held t v d p) :
    ∃ cs : List Value, v = .agg cs.toArray ∧ cs.length = P.cellsOf t ∧ ∀ (j : Nat) (T : TypeId), leafAt P n t j = some T → ∃ c m q, cs[j]? = some c ∧ DataW.trod enc P w base spare held m T [c] = some q := by
  obtain ⟨cs, rfl, hsz⟩ := okWide_struct hs hv
  obtain ⟨l⟩ := cs
  have hl : l.length = P.cellsOf t := by simpa using hsz
  obtain ⟨fuel, hf⟩ := h
  exact ⟨l, rfl, hl, fun j T hj => open_leaf n hf hl hj⟩
/-- the cells of the structs of a slice that came in -/
theorem open_flats {t e : TypeId} {fuel : Nat} {c : Value} {x : DataW H × List MemPlace} (n : Nat) (ht : P.underlying t = some (.slice e)) (h : DataW.trod enc P w base (fun _ => true) held fuel t [c] = some x) :
    ∃ (a : Option Addr) (len cap : Nat), c = .slice a len cap ∧ len ≤ cap ∧ ((cap = 0) ∨ ∃ el sp, x.1 = .slice el sp ∧ el.length + sp.length = cap) ∧
      ∀ i, i < len → ∃ y, a = some y ∧ ∀ (j : Nat) (T : TypeId), j < P.cellsOf e → leafAt P n e j = some T → ∃ (v : Value) (m : Nat) (q : DataW H × List MemPlace), w.cell? (y.add (i * P.cellsOf e + j)) = some v ∧ DataW.trod enc P w base (fun _ => true) held m T [v] = some q := by
  rcases Go.Deep.open_slice ht h with ⟨hc, _⟩ | ⟨a, k, cap, m, q, D, Pl, hc, hb, hl, hm, hmm, hx, hi⟩
  · simp only [List.cons.injEq, and_true] at hc
    exact ⟨none, 0, 0, hc, Nat.le_refl _, .inl rfl, fun i hi => absurd hi (by omega)⟩
  · simp only [List.cons.injEq, and_true] at hc
    simp only [if_true] at hmm
    subst hmm
    refine ⟨some a, k, m, hc, hl, .inr ⟨_, _, by rw [hx], by simp; omega⟩, fun i hin => ⟨a, rfl, fun j T hj hT => ?_⟩⟩
    obtain ⟨cs', hcs, ht'⟩ := hi i (by omega)
    obtain ⟨_, hcl, hat⟩ := World.cells?_some hcs
    obtain ⟨v, m', q', e1, e2⟩ := open_leaf n ht' hcl hT
    exact ⟨v, m', q', by rw [← add_of_add, hat j hj, e1], e2⟩
end
end Go.Proofs.Ytkkolbdapoejkaa.Ut
