/- A slice of structs, a slice of bytes, that came in as an argument: what it reads as. Serves all packages. -/
import Derived.Test.YtgcpcffgpokbfaaVt
import Derived.Test.YtgcpcffgpokbfaaAr
namespace Go.Proofs.Ytgcpcffgpokbfaa.Ut
open Go.ChangeShapes Go.WideShapes Go.Deep Go.RowKit
section
variable {H : Type} {enc : TypeId × Value → H} {P : Program} {w : World} {base : Nat} {held : Bool}
/-- a slice of structs, each field of one cell, whatever its type -/
theorem open_structs {t e : TypeId} {fs : Array Field} {fuel : Nat} {c : Value} {x : DataW H × List MemPlace} (ht : P.underlying t = some (.slice e)) (he : P.underlying e = some (.struct fs)) (hone : oneCellFields P fs = true) (hC : P.cellsOf e = fs.size)
    (h : DataW.trod enc P w base (fun _ => true) held fuel t [c] = some x) :
    ∃ (a : Option Addr) (n cap : Nat), c = .slice a n cap ∧ n ≤ cap ∧ ((cap = 0) ∨ ∃ el sp, x.1 = .slice el sp ∧ el.length + sp.length = cap) ∧
      ∀ i, i < n → ∃ y, a = some y ∧ ∀ (j : Nat) (f : Field), fs[j]? = some f → ∃ (v : Value) (q : DataW H × List MemPlace) (m : Nat), w.cell? (y.add (i * fs.size + j)) = some v ∧ DataW.trod enc P w base (fun _ => true) held m f.type [v] = some q := by
  rcases Go.Deep.open_slice ht h with ⟨hc, _⟩ | ⟨a, n, cap, m, q, D, Pl, hc, hb, hl, hm, hmm, hx, hi⟩
  · simp only [List.cons.injEq, and_true] at hc
    exact ⟨none, 0, 0, hc, Nat.le_refl _, .inl rfl, fun i hi => absurd hi (by omega)⟩
  · simp only [List.cons.injEq, and_true] at hc
    simp only [if_true] at hmm
    subst hmm
    refine ⟨some a, n, m, hc, hl, .inr ⟨_, _, by rw [hx], by simp; omega⟩, fun i hin => ⟨a, rfl, fun j f hj => ?_⟩⟩
    obtain ⟨cs', hcs, ht'⟩ := hi i (by omega)
    rw [hC] at hcs
    obtain ⟨ys, n', _, _, _, hyl, hf⟩ := DataW.trod_struct he ht'
    obtain ⟨_, hcl, hat⟩ := World.cells?_some hcs
    have hjl : j < fs.size := (Array.getElem?_eq_some_iff.1 hj).1
    obtain ⟨o1, k1⟩ := hone_of hone j _ hj
    have h2 := hf j _ hj
    rw [o1, k1] at h2
    have hd1 : (cs'.drop j).take 1 = [cs'[j]'(by omega)] := by
      rw [List.drop_eq_getElem_cons (by omega)]
      rfl
    rw [hd1] at h2
    have hy : ys[j]? = some (ys[j]'(by omega)) := List.getElem?_eq_getElem (by omega)
    rw [hy] at h2
    exact ⟨_, _, _, by rw [← add_of_add, hat j hjl, List.getElem?_eq_getElem (by omega)], h2⟩
/-- a slice of bytes -/
theorem open_bytes {t e : TypeId} {fuel : Nat} {v : Value} {x : DataW H × List MemPlace} (ht : P.underlying t = some (.slice e)) (he : P.underlying e = some (.int .u8)) (hC : P.cellsOf e = 1) (h : DataW.trod enc P w base (fun _ => true) held fuel t [v] = some x) :
    ∃ (a : Option Addr) (n cap : Nat) (zs : List Int), v = .slice a n cap ∧ n ≤ cap ∧ RowK .u8 w w.heap.size a n zs ∧ ∀ z ∈ zs, 0 ≤ z ∧ z < 256 := by
  rcases Go.Deep.open_slice1 ht hC h with ⟨hc, _⟩ | ⟨a, n, cap, m, q, V, D, Pl, hc, hb, hl, hm, hmm, hx, hi⟩
  · simp only [List.cons.injEq, and_true] at hc
    exact ⟨none, 0, 0, [], hc, Nat.le_refl _, RowK.nil _ _ _ _, by simp⟩
  · simp only [List.cons.injEq, and_true] at hc
    simp only [if_true] at hmm
    have key : ∀ i, i < n → ∃ z : Int, w.cell? (a.add i) = some (.int .u8 z) ∧ 0 ≤ z ∧ z < 256 := fun i h1 => by
      obtain ⟨h2, h3⟩ := hi i (by omega)
      obtain ⟨z, hz, _, hw⟩ := DataW.trod_int he h3
      simp only [List.cons.injEq, and_true] at hz
      rw [hz] at h2
      exact ⟨z, h2, wf_u8 hw⟩
    obtain ⟨Z, hZ⟩ := choose_lt (α := Int) key
    refine ⟨some a, n, cap, (List.range n).map Z, hc, hl, ⟨by simp, fun i h1 => ⟨a, rfl, ?_, ?_⟩⟩, fun z hz => ?_⟩
    · have h2 := cell_lt (hZ i h1).1
      rwa [block_of_add] at h2
    · rw [(hZ i h1).1]
      simp [List.getD, h1]
    · obtain ⟨i, h1, rfl⟩ := List.mem_map.1 hz
      exact (hZ i (List.mem_range.1 h1)).2
end
end Go.Proofs.Ytgcpcffgpokbfaa.Ut
