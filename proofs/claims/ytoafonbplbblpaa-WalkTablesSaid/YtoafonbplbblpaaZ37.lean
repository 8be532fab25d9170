/- Several texts in one: Yv Zn -/
import Derived.Test.YtoafonbplbblpaaZ01
import Derived.Test.YtoafonbplbblpaaZ23
import Derived.Test.YtoafonbplbblpaaZ26
import Derived.OpenShut
section
/- A slice of structs, a slice of bytes, that came in as an argument: what it reads as. Serves all packages. -/
namespace Go.Proofs.Ytoafonbplbblpaa.Ut
open Go.ChangeShapes Go.WideShapes Go.Deep Go.RowKit
section
variable {H : Type} {enc : TypeId × Value → H} {P : Program} {w : World} {base : Nat} {held : Bool}
/-- a slice of structs, each field of one cell, whatever its type -/
theorem open_structs {t e : TypeId} {fs : Array Field} {fuel : Nat} {c : Value} {x : DataW H × List MemPlace} (ht : P.underlying t = some (.slice e)) (he : P.underlying e = some (.struct fs)) (hone : oneCellFields P fs = true) (hC : P.cellsOf e = fs.size)
    (h : DataW.trod enc P w base (fun _ => true) held fuel t [c] = some x) :
    ∃ (a : Option Addr) (n cap : Nat), c = .slice a n cap ∧ n ≤ cap ∧ ((cap = 0) ∨ ∃ el sp, x.1 = .slice el sp ∧ el.length + sp.length = cap) ∧
      ∀ i, i < n → ∃ y, a = some y ∧ ∀ (j : Nat) (f : Field), fs[j]? = some f → ∃ (v : Value) (q : DataW H × List MemPlace) (m : Nat), w.cell? (y.add (i * fs.size + j)) = some v ∧ DataW.trod enc P w base (fun _ => true) held m f.type [v] = some q := by
  rcases Go.Deep.open_slice ht h with ⟨hc, _⟩ | ⟨a, n, cap, m, q, D, Pl, hc, hb, hl, hm, hmm, hx, hi⟩
  · simp only [List.cons.injEq, and_true] at hc
    exact ⟨none, 0, 0, hc, Nat.le_refl _, .inl rfl, fun i hi => absurd hi (by omega)⟩
  · simp only [List.cons.injEq, and_true] at hc
    simp only [if_true] at hmm
    subst hmm
    refine ⟨some a, n, m, hc, hl, .inr ⟨_, _, by rw [hx], by simp; omega⟩, fun i hin => ⟨a, rfl, fun j f hj => ?_⟩⟩
    obtain ⟨cs', hcs, ht'⟩ := hi i (by omega)
    rw [hC] at hcs
    obtain ⟨ys, n', _, _, _, hyl, hf⟩ := DataW.trod_struct he ht'
    obtain ⟨_, hcl, hat⟩ := World.cells?_some hcs
    have hjl : j < fs.size := (Array.getElem?_eq_some_iff.1 hj).1
    obtain ⟨o1, k1⟩ := hone_of hone j _ hj
    have h2 := hf j _ hj
    rw [o1, k1] at h2
    have hd1 : (cs'.drop j).take 1 = [cs'[j]'(by omega)] := by
      rw [List.drop_eq_getElem_cons (by omega)]
      rfl
    rw [hd1] at h2
    have hy : ys[j]? = some (ys[j]'(by omega)) := List.getElem?_eq_getElem (by omega)
    rw [hy] at h2
    exact ⟨_, _, _, by rw [← add_of_add, hat j hjl, List.getElem?_eq_getElem (by omega)], h2⟩
/-- a slice of bytes -/
theorem open_bytes {t e : TypeId} {fuel : Nat} {v : Value} {x : DataW H × List MemPlace} (ht : P.underlying t = some (.slice e)) (he : P.underlying e = some (.int .u8)) (hC : P.cellsOf e = 1) (h : DataW.trod enc P w base (fun _ => true) held fuel t [v] = some x) :
    ∃ (a : Option Addr) (n cap : Nat) (zs : List Int), v = .slice a n cap ∧ n ≤ cap ∧ RowK .u8 w w.heap.size a n zs ∧ ∀ z ∈ zs, 0 ≤ z ∧ z < 256 := by
  rcases Go.Deep.open_slice1 ht hC h with ⟨hc, _⟩ | ⟨a, n, cap, m, q, V, D, Pl, hc, hb, hl, hm, hmm, hx, hi⟩
  · simp only [List.cons.injEq, and_true] at hc
    exact ⟨none, 0, 0, [], hc, Nat.le_refl _, RowK.nil _ _ _ _, by simp⟩
  · simp only [List.cons.injEq, and_true] at hc
    simp only [if_true] at hmm
    have key : ∀ i, i < n → ∃ z : Int, w.cell? (a.add i) = some (.int .u8 z) ∧ 0 ≤ z ∧ z < 256 := fun i h1 => by
      obtain ⟨h2, h3⟩ := hi i (by omega)
      obtain ⟨z, hz, _, hw⟩ := DataW.trod_int he h3
      simp only [List.cons.injEq, and_true] at hz
      rw [hz] at h2
      exact ⟨z, h2, wf_u8 hw⟩
    obtain ⟨Z, hZ⟩ := choose_lt (α := Int) key
    refine ⟨some a, n, cap, (List.range n).map Z, hc, hl, ⟨by simp, fun i h1 => ⟨a, rfl, ?_, ?_⟩⟩, fun z hz => ?_⟩
    · have h2 := cell_lt (hZ i h1).1
      rwa [block_of_add] at h2
    · rw [(hZ i h1).1]
      simp [List.getD, h1]
    · obtain ⟨i, h1, rfl⟩ := List.mem_map.1 hz
      exact (hZ i (List.mem_range.1 h1)).2
end
end Go.Proofs.Ytoafonbplbblpaa.Ut
end
section
/- A mode, a slice of words with their places, as arguments. -/
namespace Go.Proofs.Ytoafonbplbblpaa.Wa
open Go.ChangeShapes Go.WideShapes Go.Deep Go.RowKit Ut
set_option linter.unusedVariables false
set_option maxRecDepth 100000

section
variable {H : Type} {enc : TypeId × Value → H} {W : World}
theorem mode_arg {b0 : Nat} {v : Value} {d : DataW H} {p : List MemPlace} (hv : Value.okWide Try.prog W .any b0 25 v) (h : DataW.Trod enc Try.prog W 0 (fun _ => true) true 25 v d p) : ∃ (o : Bool) (r : Int) (u : Bool), v = .agg #[.bool o, .int .i64 r, .bool u] := by
  obtain ⟨cs, ys, n, rfl, hl, rfl, hyl, hf⟩ := open_fields Try.underlying25 (by kernel_rfl) (by kernel_rfl) hv h
  obtain ⟨c0, y0, e0, g0, t0⟩ := hf 0 _ rfl
  obtain ⟨c1, y1, e1, g1, t1⟩ := hf 1 _ rfl
  obtain ⟨c2, y2, e2, g2, t2⟩ := hf 2 _ rfl
  match cs, hl, e0, e1, e2 with
  | [x0, x1, x2], _, e0, e1, e2 =>
    simp only [List.getElem?_cons_zero, List.getElem?_cons_succ, Option.some.injEq] at e0 e1 e2
    subst e0 e1 e2
    obtain ⟨z0, q0, _⟩ := DataW.trod_bool Try.underlying4 t0
    obtain ⟨z1, q1, _, _⟩ := DataW.trod_int Try.underlying3 t1
    obtain ⟨z2, q2, _⟩ := DataW.trod_bool Try.underlying4 t2
    simp only [List.cons.injEq, and_true] at q0 q1 q2
    subst q0 q1 q2
    exact ⟨z0, z1, z2, rfl⟩
theorem puts_arg {a : Option Addr} {len cap : Nat} {d : DataW H} {p : List MemPlace} {ts : List TypeId} {ds : List (DataW H)} {j : Nat} (h : DataW.Trod enc Try.prog W 0 (fun _ => true) true 23 (.slice a len cap) d p)
    (hsz : (DataW.weightsEach Try.prog ts ds).all (· ≤ reachBytes) = true) (ht : ts[j]? = some 23) (hd : ds[j]? = some d) : ∃ Z : Nat → Int × Int, PutRow W W.heap.size a len Z ∧ len ≤ 9223372036854775807 := by
  obtain ⟨fuel, hf⟩ := h
  have hf2 : DataW.trod enc Try.prog W 0 (fun _ => true) true fuel 23 [.slice a len cap] = some (d, p) := hf
  obtain ⟨aa, n, c, hc, hle, hcap, hcell⟩ := open_structs Try.underlying23 Try.underlying84 (by kernel_rfl) (by kernel_rfl) hf2
  injection hc with e1 e2 e3
  subst e1 e2 e3
  have key : ∀ i, i < len → ∃ Z : Int × Int, ∃ y, a = some y ∧ y.block < W.heap.size ∧ W.cell? (y.add (i * 2)) = some (.int .u32 Z.1) ∧ W.cell? (y.add (i * 2 + 1)) = some (.int .u32 Z.2) ∧ 0 ≤ Z.1 ∧ Z.1 < 4294967296 ∧ 0 ≤ Z.2 ∧ Z.2 < 4294967296 := fun i hi => by
    obtain ⟨y, e, hy⟩ := hcell i hi
    obtain ⟨v0, q0, m0, c0, t0⟩ := hy 0 _ rfl
    obtain ⟨v1, q1, m1, c1, t1⟩ := hy 1 _ rfl
    obtain ⟨z0, g0, _, k0⟩ := DataW.trod_int Try.underlying35 t0
    obtain ⟨z1, g1, _, k1⟩ := DataW.trod_int Try.underlying35 t1
    simp only [List.cons.injEq, and_true] at g0 g1
    subst g0 g1
    refine ⟨(z0, z1), y, e, ?_, c0, c1, (wf_u32 k0).1, (wf_u32 k0).2, (wf_u32 k1).1, (wf_u32 k1).2⟩
    have := cell_lt c0
    rwa [block_of_add] at this
  obtain ⟨Z, hZ⟩ := choose_lt (α := Int × Int) key
  refine ⟨Z, fun i hi => hZ i hi, ?_⟩
  rcases hcap with h0 | ⟨el, sp, he, hl⟩
  · omega
  · have he2 : d = .slice el sp := he
    rw [he2] at hd
    have h1 := sized_slice hsz ht hd Try.underlying23
    rw [show Try.prog.bytesOf 84 = 8 by kernel_rfl] at h1
    unfold reachBytes at h1
    omega
end
end Go.Proofs.Ytoafonbplbblpaa.Wa
end
