/- A slice of structs, a slice of bytes in each, that came in as an argument: what it reads as. -/
import Derived.Test.YtlgohgjnocoadaaYt
import Derived.Test.YtlgohgjnocoadaaAr
namespace Go.Proofs.Ytlgohgjnocoadaa.Ut
open Go.ChangeShapes Go.WideShapes Go.Deep Go.RowKit
section
variable {H : Type} {enc : TypeId × Value → H} {P : Program} {w : World} {base : Nat} {held : Bool}
/-- a slice of structs, each field of one cell, whatever its type -/
theorem open_structs {t e : TypeId} {fs : Array Field} {fuel : Nat} {c : Value} {x : DataW H × List MemPlace} (ht : P.underlying t = some (.slice e)) (he : P.underlying e = some (.struct fs)) (hone : oneCellFields P fs = true) (hC : P.cellsOf e = fs.size)
    (h : DataW.trod enc P w base (fun _ => true) held fuel t [c] = some x) :
    ∃ (a : Option Addr) (n cap : Nat), c = .slice a n cap ∧ n ≤ cap ∧ ((cap = 0) ∨ ∃ el sp, x.1 = .slice el sp ∧ el.length + sp.length = cap) ∧
      ∀ i, i < n → ∃ y, a = some y ∧ ∀ (j : Nat) (f : Field), fs[j]? = some f → ∃ (v : Value) (q : DataW H × List MemPlace) (m : Nat), w.cell? (y.add (i * fs.size + j)) = some v ∧ DataW.trod enc P w base (fun _ => true) held m f.type [v] = some q := by
  rcases Go.Deep.open_slice ht h with ⟨hc, _⟩ | ⟨a, n, cap, m, q, D, Pl, hc, hb, hl, hm, hmm, hx, hi⟩
  · simp only [List.cons.injEq, and_true] at hc
    exact ⟨none, 0, 0, hc, Nat.le_refl _, .inl rfl, fun i hi => absurd hi (by omega)⟩
  · simp only [List.cons.injEq, and_true] at hc
    simp only [if_true] at hmm
    subst hmm
    refine ⟨some a, n, m, hc, hl, .inr ⟨_, _, by rw [hx], by simp; omega⟩, fun i hin => ⟨a, rfl, fun j f hj => ?_⟩⟩
    obtain ⟨cs', hcs, ht'⟩ := hi i (by omega)
    rw [hC] at hcs
    obtain ⟨ys, n', _, _, _, hyl, hf⟩ := DataW.trod_struct he ht'
    obtain ⟨_, hcl, hat⟩ := World.cells?_some hcs
    have hjl : j < fs.size := (Array.getElem?_eq_some_iff.1 hj).1
    obtain ⟨o1, k1⟩ := hone_of hone j _ hj
    have h2 := hf j _ hj
    rw [o1, k1] at h2
    have hd1 : (cs'.drop j).take 1 = [cs'[j]'(by omega)] := by
      rw [List.drop_eq_getElem_cons (by omega)]
      rfl
    rw [hd1] at h2
    have hy : ys[j]? = some (ys[j]'(by omega)) := List.getElem?_eq_getElem (by omega)
    rw [hy] at h2
    exact ⟨_, _, _, by rw [← add_of_add, hat j hjl, List.getElem?_eq_getElem (by omega)], h2⟩
/-- a slice of bytes -/
theorem open_bytes {t e : TypeId} {fuel : Nat} {v : Value} {x : DataW H × List MemPlace} (ht : P.underlying t = some (.slice e)) (he : P.underlying e = some (.int .u8)) (hC : P.cellsOf e = 1) (h : DataW.trod enc P w base (fun _ => true) held fuel t [v] = some x) :
    ∃ (a : Option Addr) (n cap : Nat) (zs : List Int), v = .slice a n cap ∧ n ≤ cap ∧ RowK .u8 w w.heap.size a n zs ∧ ∀ z ∈ zs, 0 ≤ z ∧ z < 256 := by
  rcases Go.Deep.open_slice1 ht hC h with ⟨hc, _⟩ | ⟨a, n, cap, m, q, V, D, Pl, hc, hb, hl, hm, hmm, hx, hi⟩
  · simp only [List.cons.injEq, and_true] at hc
    exact ⟨none, 0, 0, [], hc, Nat.le_refl _, RowK.nil _ _ _ _, by simp⟩
  · simp only [List.cons.injEq, and_true] at hc
    simp only [if_true] at hmm
    have key : ∀ i, i < n → ∃ z : Int, w.cell? (a.add i) = some (.int .u8 z) ∧ 0 ≤ z ∧ z < 256 := fun i h1 => by
      obtain ⟨h2, h3⟩ := hi i (by omega)
      obtain ⟨z, hz, _, hw⟩ := DataW.trod_int he h3
      simp only [List.cons.injEq, and_true] at hz
      rw [hz] at h2
      exact ⟨z, h2, wf_u8 hw⟩
    obtain ⟨Z, hZ⟩ := choose_lt (α := Int) key
    refine ⟨some a, n, cap, (List.range n).map Z, hc, hl, ⟨by simp, fun i h1 => ⟨a, rfl, ?_, ?_⟩⟩, fun z hz => ?_⟩
    · have h2 := cell_lt (hZ i h1).1
      rwa [block_of_add] at h2
    · rw [(hZ i h1).1]
      simp [List.getD, h1]
    · obtain ⟨i, h1, rfl⟩ := List.mem_map.1 hz
      exact (hZ i (List.mem_range.1 h1)).2
end
end Go.Proofs.Ytlgohgjnocoadaa.Ut
namespace Go.Proofs.Ytlgohgjnocoadaa.Vw
open Go.ChangeShapes Go.WideShapes Go.Deep Go.RowKit Ut
set_option linter.unusedVariables false
set_option maxRecDepth 100000
section
variable {H : Type} {enc : TypeId × Value → H} {W : World}
theorem acts_arg {a : Option Addr} {len cap : Nat} {d : DataW H} {p : List MemPlace} {ts : List TypeId} {ds : List (DataW H)} {j : Nat} (h : DataW.Trod enc Try.prog W 0 (fun _ => true) true 24 (.slice a len cap) d p)
    (hsz : (DataW.weightsEach Try.prog ts ds).all (· ≤ reachBytes) = true) (ht : ts[j]? = some 24) (hd : ds[j]? = some d) : ∃ A : Nat → ActV, ActRow W W.heap.size a len A ∧ len ≤ 9223372036854775807 := by
  obtain ⟨fuel, hf⟩ := h
  have hf2 : DataW.trod enc Try.prog W 0 (fun _ => true) true fuel 24 [.slice a len cap] = some (d, p) := hf
  obtain ⟨aa, n, c, hc, hle, hcap, hcell⟩ := open_structs Try.underlying24 Try.underlying32 (by kernel_rfl) (by kernel_rfl) hf2
  injection hc with e1 e2 e3
  subst e1 e2 e3
  have key : ∀ i, i < len → ∃ A : ActV, ∃ y, a = some y ∧ y.block < W.heap.size ∧ (∀ j v, A.cs[j]? = some v → W.cell? (y.add (i * 6 + j)) = some v) ∧ A.fine W W.heap.size := fun i hi => by
    obtain ⟨y, e, hy⟩ := hcell i hi
    obtain ⟨v0, q0, m0, c0, t0⟩ := hy 0 _ rfl
    obtain ⟨v1, q1, m1, c1, t1⟩ := hy 1 _ rfl
    obtain ⟨v2, q2, m2, c2, t2⟩ := hy 2 _ rfl
    obtain ⟨v3, q3, m3, c3, t3⟩ := hy 3 _ rfl
    obtain ⟨v4, q4, m4, c4, t4⟩ := hy 4 _ rfl
    obtain ⟨v5, q5, m5, c5, t5⟩ := hy 5 _ rfl
    obtain ⟨z0, g0, _, _⟩ := DataW.trod_int Try.underlying3 t0
    obtain ⟨z1, g1, _, k1⟩ := DataW.trod_int Try.underlying29 t1
    obtain ⟨z2, g2, _, _⟩ := DataW.trod_int Try.underlying3 t2
    obtain ⟨z3, g3, _, _⟩ := DataW.trod_int Try.underlying3 t3
    obtain ⟨z4, g4, _, k4⟩ := DataW.trod_int Try.underlying29 t4
    obtain ⟨ba, bl, bc, bs, g5, hbl, hbr, hbb⟩ := open_bytes Try.underlying30 Try.underlying5 (by kernel_rfl) t5
    simp only [List.cons.injEq, and_true] at g0 g1 g2 g3 g4
    subst g0 g1 g2 g3 g4 g5
    refine ⟨⟨z0, z1, z2, z3, z4, ba, bl, bc, bs⟩, y, e, ?_, fun j v hj => ?_, (wf_u32 k1).1, (wf_u32 k1).2, (wf_u32 k4).1, (wf_u32 k4).2, hbl, hbr, hbb⟩
    · have := cell_lt c0
      rwa [block_of_add] at this
    · match j, hj with
      | 0, hj => injection hj with hj; subst hj; exact c0
      | 1, hj => injection hj with hj; subst hj; exact c1
      | 2, hj => injection hj with hj; subst hj; exact c2
      | 3, hj => injection hj with hj; subst hj; exact c3
      | 4, hj => injection hj with hj; subst hj; exact c4
      | 5, hj => injection hj with hj; subst hj; exact c5
      | j + 6, hj => simp [ActV.cs] at hj
  haveI : Inhabited ActV := ⟨⟨0, 0, 0, 0, 0, none, 0, 0, []⟩⟩
  obtain ⟨A, hA⟩ := choose_lt (α := ActV) key
  refine ⟨A, fun i hi => hA i hi, ?_⟩
  rcases hcap with h0 | ⟨el, sp, he, hl⟩
  · omega
  · have he2 : d = .slice el sp := he
    rw [he2] at hd
    have h1 := sized_slice hsz ht hd Try.underlying24
    rw [show Try.prog.bytesOf 32 = 64 by kernel_rfl] at h1
    unfold reachBytes at h1
    omega
end
end Go.Proofs.Ytlgohgjnocoadaa.Vw
