/- Several texts in one: Ar Cz Eu -/
import Derived.Test.YtikkfapgmbamlaaDoorZ01
import Derived.Deep.Slices
import Derived.Deep.Fields
import Derived.ChangeSame
import Derived.SizedLaws
import Derived.Lib.SmallJoins
import Derived.Test.YtikkfapgmbamlaaDoorZ19
import Derived.Test.YtikkfapgmbamlaaDoorRows
import Derived.Test.YtikkfapgmbamlaaDoorZ05
import Derived.ProofKit
import Derived.LaidMore
import Derived.OpenShut
import Derived.Stop.Joined
section
/- Arguments that are structs of integers and of slices of structs of integers: what they read as. Serves all packages. -/
namespace Go.Proofs.YtikkfapgmbamlaaDoor.Ut
open Go.ChangeShapes Go.WideShapes Go.Deep Go.RowKit

theorem cell_lt {w : World} {a : Addr} {v : Value} (h : w.cell? a = some v) : a.block < w.heap.size := by
  rcases Nat.lt_or_ge a.block w.heap.size with hl | hl
  · exact hl
  · simp [World.cell?, Array.getElem?_eq_none hl] at h

section
variable {H : Type} {enc : TypeId × Value → H} {P : Program} {w : World} {base : Nat} {held : Bool}

/-- the fields of a struct that came in by value -/
theorem open_fields {r : Reach} {b0 : Nat} {t : TypeId} {fs : Array Field} {v : Value} {d : DataW H} {p : List MemPlace} {spare : Nat → Bool} (hs : P.underlying t = some (.struct fs)) (hone : oneCellFields P fs = true) (hC : P.cellsOf t = fs.size)
    (hv : Value.okWide P w r b0 t v) (h : DataW.Trod enc P w base spare held t v d p) :
    ∃ (cs : List Value) (ys : List (DataW H × List MemPlace)) (n : Nat), v = .agg cs.toArray ∧ cs.length = fs.size ∧ d = .agg (ys.map (·.1)) ∧ ys.length = fs.size ∧
      ∀ (j : Nat) (f : Field), fs[j]? = some f → ∃ c y, cs[j]? = some c ∧ ys[j]? = some y ∧ DataW.trod enc P w base spare held n f.type [c] = some y := by
  obtain ⟨cs, rfl, hsz⟩ := okWide_struct hs hv
  obtain ⟨l⟩ := cs
  have hl : l.length = fs.size := by simpa using hsz.trans hC
  obtain ⟨fuel, hf⟩ := h
  obtain ⟨ys, n, _, hx, _, hlen, hg⟩ := DataW.trod_struct hs hf
  simp only [Prod.mk.injEq] at hx
  refine ⟨l, ys, n, rfl, hl, hx.1, hlen, fun j f hj => ?_⟩
  obtain ⟨o1, k1⟩ := hone_of hone j f hj
  have hjl : j < fs.size := (Array.getElem?_eq_some_iff.1 hj).1
  have h1 := hg j f hj
  simp only [Value.cells] at h1
  rw [o1, k1] at h1
  have hd1 : (l.drop j).take 1 = [l[j]'(by omega)] := by
    rw [List.drop_eq_getElem_cons (by omega)]
    rfl
  rw [hd1] at h1
  have hy : ys[j]? = some (ys[j]'(by omega)) := List.getElem?_eq_getElem (by omega)
  exact ⟨_, _, List.getElem?_eq_getElem (by omega), hy, h1.trans hy⟩

/-- a slice of structs of integers -/
theorem open_recs {t e : TypeId} {fs : Array Field} {fuel : Nat} {c : Value} {x : DataW H × List MemPlace} (ht : P.underlying t = some (.slice e)) (he : P.underlying e = some (.struct fs)) (hone : oneCellFields P fs = true) (hC : P.cellsOf e = fs.size)
    (hint : ∀ (j : Nat) (f : Field), fs[j]? = some f → P.underlying f.type = some (.int .i64)) (h0 : 0 < fs.size) (h : DataW.trod enc P w base (fun _ => true) held fuel t [c] = some x) :
    ∃ (a : Option Addr) (n cap : Nat) (Z : Nat → Nat → Int), c = .slice a n cap ∧ n ≤ cap ∧ ((cap = 0) ∨ ∃ el sp, x.1 = .slice el sp ∧ el.length + sp.length = cap) ∧
      ∀ i, i < n → ∃ y, a = some y ∧ y.block < w.heap.size ∧ ∀ j, j < fs.size → w.cell? (y.add (i * fs.size + j)) = some (.int .i64 (Z i j)) ∧ -9223372036854775808 ≤ Z i j ∧ Z i j < 9223372036854775808 := by
  rcases Go.Deep.open_slice ht h with ⟨hc, _⟩ | ⟨a, n, cap, m, q, D, Pl, hc, hb, hl, hm, hmm, hx, hi⟩
  · simp only [List.cons.injEq, and_true] at hc
    exact ⟨none, 0, 0, fun _ _ => 0, hc, Nat.le_refl _, .inl rfl, fun i hi => absurd hi (by omega)⟩
  · simp only [List.cons.injEq, and_true] at hc
    simp only [if_true] at hmm
    subst hmm
    have key : ∀ i j, ∃ z : Int, i < n → j < fs.size → w.cell? (a.add (i * fs.size + j)) = some (.int .i64 z) ∧ -9223372036854775808 ≤ z ∧ z < 9223372036854775808 := fun i j => by
      by_cases h1 : i < n ∧ j < fs.size
      · obtain ⟨cs', hcs, ht'⟩ := hi i (by omega)
        rw [hC] at hcs
        obtain ⟨ys, n', _, _, _, hyl, hf⟩ := DataW.trod_struct he ht'
        obtain ⟨_, hcl, hat⟩ := World.cells?_some hcs
        have hj : fs[j]? = some fs[j] := by simp [h1.2]
        obtain ⟨o1, k1⟩ := hone_of hone j _ hj
        have h2 := hf j _ hj
        rw [o1, k1] at h2
        have hd1 : (cs'.drop j).take 1 = [cs'[j]'(by omega)] := by
          rw [List.drop_eq_getElem_cons (by omega)]
          rfl
        rw [hd1] at h2
        have hy : ys[j]? = some (ys[j]'(by omega)) := List.getElem?_eq_getElem (by omega)
        rw [hy] at h2
        obtain ⟨z, hz, _, hw⟩ := DataW.trod_int (hint j _ hj) h2
        simp only [List.cons.injEq, and_true] at hz
        refine ⟨z, fun _ _ => ⟨?_, wf_i64 hw⟩⟩
        rw [← add_of_add, hat j h1.2, List.getElem?_eq_getElem (by omega), hz]
      · exact ⟨0, fun h2 h3 => absurd ⟨h2, h3⟩ h1⟩
    refine ⟨some a, n, m, fun i j => Classical.choose (key i j), hc, hl, .inr ⟨_, _, by rw [hx], by simp; omega⟩, fun i hin => ?_⟩
    refine ⟨a, rfl, ?_, fun j hj => Classical.choose_spec (key i j) hin hj⟩
    have h1 := Classical.choose_spec (key i 0) hin h0
    have h2 := cell_lt h1.1
    rwa [block_of_add] at h2

/-- what a slice in a field of a struct may take -/
theorem sized_field {ts : List TypeId} {ds : List (DataW H)} (h : (DataW.weightsEach P ts ds).all (· ≤ reachBytes) = true) {j : Nat} {t : TypeId} {fs : Array Field} {parts : List (DataW H)} (ht : ts[j]? = some t) (hd : ds[j]? = some (.agg parts))
    (hu : P.underlying t = some (.struct fs)) {i : Nat} {f : Field} {e : TypeId} {el sp : List (DataW H)} (hf : fs[i]? = some f) (hp : parts[i]? = some (.slice el sp)) (he : P.underlying f.type = some (.slice e)) : (el.length + sp.length) * P.bytesOf e ≤ reachBytes := by
  refine sized_slice (P := P) (ts := fs.toList.map (·.type)) (ds := parts) (j := i) (t := f.type) ?_ (by simp [hf]) hp he
  rw [List.all_eq_true]
  intro q hq
  refine List.all_eq_true.1 h q (DataW.weights_mem_each ht hd q ?_)
  simp only [DataW.weights, hu]
  exact hq
end
end Go.Proofs.YtikkfapgmbamlaaDoor.Ut
end
section
/- A configuration that came in as an argument. -/
namespace Go.Proofs.YtikkfapgmbamlaaDoor.Cf
open Go.ChangeShapes Go.WideShapes Go.Deep Go.RowKit Ut
set_option linter.unusedVariables false

theorem ints3 {fs : Array Field} {f0 f1 f2 : Field} (h : fs = #[f0, f1, f2]) (h0 : f0.type = 3) (h1 : f1.type = 3) (h2 : f2.type = 3) : ∀ (j : Nat) (f : Field), fs[j]? = some f → Tryd.prog.underlying f.type = some (.int .i64) := fun j f hj => by
  subst h
  match j, hj with
  | 0, hj => simp at hj; subst hj; rw [h0]; exact Tryd.underlying3
  | 1, hj => simp at hj; subst hj; rw [h1]; exact Tryd.underlying3
  | 2, hj => simp at hj; subst hj; rw [h2]; exact Tryd.underlying3
  | j + 3, hj => simp at hj
theorem ints2 {fs : Array Field} {f0 f1 : Field} (h : fs = #[f0, f1]) (h0 : f0.type = 3) (h1 : f1.type = 3) : ∀ (j : Nat) (f : Field), fs[j]? = some f → Tryd.prog.underlying f.type = some (.int .i64) := fun j f hj => by
  subst h
  match j, hj with
  | 0, hj => simp at hj; subst hj; rw [h0]; exact Tryd.underlying3
  | 1, hj => simp at hj; subst hj; rw [h1]; exact Tryd.underlying3
  | j + 2, hj => simp at hj

section
variable {H : Type} {enc : TypeId × Value → H} {W : World}
set_option maxRecDepth 100000 in
theorem cfg_arg {b0 : Nat} {v : Value} {d : DataW H} {p : List MemPlace} {ts : List TypeId} {ds : List (DataW H)} {j : Nat} (hv : Value.okWide Tryd.prog W .any b0 36 v) (h : DataW.Trod enc Tryd.prog W 0 (fun _ => true) true 36 v d p)
    (hsz : (DataW.weightsEach Tryd.prog ts ds).all (· ≤ reachBytes) = true) (ht : ts[j]? = some 36) (hd : ds[j]? = some d) : ∃ c : Cfg, v = c.v ∧ c.At W W.heap.size := by
  obtain ⟨cs, ys, n, rfl, hl, rfl, hyl, hf⟩ := open_fields Tryd.underlying36 (by kernel_rfl) (by kernel_rfl) hv h
  obtain ⟨c0, y0, e0, g0, t0⟩ := hf 0 _ rfl
  obtain ⟨c1, y1, e1, g1, t1⟩ := hf 1 _ rfl
  obtain ⟨c2, y2, e2, g2, t2⟩ := hf 2 _ rfl
  obtain ⟨c3, y3, e3, g3, t3⟩ := hf 3 _ rfl
  obtain ⟨c4, y4, e4, g4, t4⟩ := hf 4 _ rfl
  obtain ⟨c5, y5, e5, g5, t5⟩ := hf 5 _ rfl
  obtain ⟨c6, y6, e6, g6, t6⟩ := hf 6 _ rfl
  obtain ⟨c7, y7, e7, g7, t7⟩ := hf 7 _ rfl
  match cs, hl, e0, e1, e2, e3, e4, e5, e6, e7 with
  | [x0, x1, x2, x3, x4, x5, x6, x7], _, e0, e1, e2, e3, e4, e5, e6, e7 =>
    simp only [List.getElem?_cons_zero, List.getElem?_cons_succ, Option.some.injEq] at e0 e1 e2 e3 e4 e5 e6 e7
    subst e0 e1 e2 e3 e4 e5 e6 e7
    obtain ⟨cats, q0, _, w0⟩ := DataW.trod_int Tryd.underlying3 t0
    obtain ⟨gate, q6, _, w6⟩ := DataW.trod_int Tryd.underlying3 t6
    obtain ⟨quota, q7, _, w7⟩ := DataW.trod_int Tryd.underlying3 t7
    simp only [List.cons.injEq, and_true] at q0 q6 q7
    subst q0 q6 q7
    obtain ⟨ga, gn, gc, G, rfl, l1, s1, r1⟩ := open_recs Tryd.underlying30 Tryd.underlying58 (by kernel_rfl) (by kernel_rfl) (ints3 rfl rfl rfl rfl) (by decide) t1
    obtain ⟨ra, rn, rc, R, rfl, l2, s2, r2⟩ := open_recs Tryd.underlying31 Tryd.underlying60 (by kernel_rfl) (by kernel_rfl) (ints3 rfl rfl rfl rfl) (by decide) t2
    obtain ⟨pa, pn, pc, P, rfl, l3, s3, r3⟩ := open_recs Tryd.underlying32 Tryd.underlying62 (by kernel_rfl) (by kernel_rfl) (ints2 rfl rfl rfl) (by decide) t3
    obtain ⟨na, nn, nc, N, rfl, l4, s4, r4⟩ := open_recs Tryd.underlying33 Tryd.underlying64 (by kernel_rfl) (by kernel_rfl) (ints2 rfl rfl rfl) (by decide) t4
    obtain ⟨sa, sn, sc, S, rfl, l5, s5, r5⟩ := open_recs Tryd.underlying34 Tryd.underlying66 (by kernel_rfl) (by kernel_rfl) (ints2 rfl rfl rfl) (by decide) t5
    have big : ∀ {fs : Array Field} {i : Nat} {f : Field} {e : TypeId} {y : DataW H × List MemPlace} {cap b : Nat}, ys[i]? = some y → (cap = 0 ∨ ∃ el sp, y.1 = .slice el sp ∧ el.length + sp.length = cap) → fs[i]? = some f → Tryd.prog.underlying f.type = some (.slice e) → Tryd.prog.bytesOf e = b → 1 ≤ b → Tryd.prog.underlying 36 = some (.struct fs) → cap ≤ 140737488355328 := by
      intro fs i f e y cap b hy hc hfi hu hb hb1 hst
      rcases hc with rfl | ⟨el, sp, hy1, rfl⟩
      · omega
      · have h1 := sized_field hsz ht hd hst hfi (i := i) (el := el) (sp := sp) (by simp [hy, hy1]) hu
        rw [hb] at h1
        unfold reachBytes at h1
        have h2 : (el.length + sp.length) * 1 ≤ (el.length + sp.length) * b := Nat.mul_le_mul_left _ hb1
        omega
    refine ⟨⟨cats, ga, gn, gc, ra, rn, rc, pa, pn, pc, na, nn, nc, sa, sn, sc, gate, quota, G, R, P, N, S⟩, rfl, r1, r2, r3, r4, r5, ⟨l1, ?_⟩, ⟨l2, ?_⟩, ⟨l3, ?_⟩, ⟨l4, ?_⟩, ⟨l5, ?_⟩, wf_i64 w0, wf_i64 w6, wf_i64 w7⟩
    · refine Nat.le_trans l1 ?_
      exact big (b := 24) g1 s1 rfl Tryd.underlying30 (by kernel_rfl) (by omega) Tryd.underlying36
    · refine Nat.le_trans l2 ?_
      exact big (b := 24) g2 s2 rfl Tryd.underlying31 (by kernel_rfl) (by omega) Tryd.underlying36
    · refine Nat.le_trans l3 ?_
      exact big (b := 16) g3 s3 rfl Tryd.underlying32 (by kernel_rfl) (by omega) Tryd.underlying36
    · refine Nat.le_trans l4 ?_
      exact big (b := 16) g4 s4 rfl Tryd.underlying33 (by kernel_rfl) (by omega) Tryd.underlying36
    · refine Nat.le_trans l5 ?_
      exact big (b := 16) g5 s5 rfl Tryd.underlying34 (by kernel_rfl) (by omega) Tryd.underlying36
end
end Go.Proofs.YtikkfapgmbamlaaDoor.Cf
end
section
/- The table of kinds, out of what the row says that lies in its variable. -/
namespace Go.Proofs.YtikkfapgmbamlaaDoor.Pl
open Go.ChangeShapes Go.WideShapes Go.ChangeAt Go.WideMaps Go.WideElems Go.RowKit Ut
set_option linter.unusedVariables false
set_option maxRecDepth 100000

theorem gKinds : Tryd.prog.globalNamed "hermitage/plan.kinds" = some 0 := by kernel_rfl
theorem tKinds : (Tryd.prog.globals[0]?).map (·.type) = some 100 := by kernel_rfl
theorem kind_of {H : Type} {enc : TypeId × Value → H} {W : World} {sp : Nat → Bool} {held : Bool} {base fuel : Nat} {l : List Value} {a b : List UInt8} {m : Bool} {q : DataW H × List MemPlace} (h : DataW.trod enc Tryd.prog W base sp held fuel 99 l = some q) (hq : q.1 = .agg [.lit (.string a), .lit (.string b), .lit (.bool m)]) : l = [.string (tb a), .string (tb b), .bool m] := by
  obtain ⟨xs, n, _, hx, hlen, hn, hf⟩ := DataW.trod_struct Tryd.underlying99 h
  have c3 : Tryd.prog.cellsOf 99 = 3 := by kernel_rfl
  have cs : Tryd.prog.cellsOf 9 = 1 := by kernel_rfl
  have cb : Tryd.prog.cellsOf 4 = 1 := by kernel_rfl
  rw [c3] at hlen
  have h0 := hf 0 _ rfl
  have h1 := hf 1 _ rfl
  have h2 := hf 2 _ rfl
  match l, hlen, xs, hn, hx, h0, h1, h2 with
  | [u0, u1, u2], _, [x0, x1, x2], _, hx, h0, h1, h2 =>
    have e0 : DataW.trod enc Tryd.prog W base sp held n 9 [u0] = some x0 := by simpa [cs] using h0
    have e1 : DataW.trod enc Tryd.prog W base sp held n 9 [u1] = some x1 := by simpa [cs] using h1
    have e2 : DataW.trod enc Tryd.prog W base sp held n 4 [u2] = some x2 := by simpa [cb] using h2
    obtain ⟨s0, g0, k0, _⟩ := DataW.trod_string Tryd.underlying9 e0
    obtain ⟨s1, g1, k1, _⟩ := DataW.trod_string Tryd.underlying9 e1
    obtain ⟨b2, g2, k2⟩ := DataW.trod_bool Tryd.underlying4 e2
    rw [hx] at hq
    simp only [List.map_cons, List.map_nil, DataW.agg.injEq, List.cons.injEq, and_true, k0, k1, k2, DataW.lit.injEq, Lit.string.injEq, Lit.bool.injEq] at hq
    simp only [List.cons.injEq, and_true] at g0 g1 g2
    rw [g0, g1, g2, ← hq.1, ← hq.2.1, ← hq.2.2, tb_of, tb_of]
theorem kinds_of_vars {W : World} {ps : List MemPlace} (h : DataW.LaidVars Tryd.prog W [("hermitage/plan.kinds", Rows.laid_hermitage_plan_kinds)] ps) : Kinds W := by
  obtain ⟨g0, t0, cs0, f0, p0, q0, hg0, ht0, hv0, hd0, hrest⟩ := h
  obtain rfl := Option.some.inj (gKinds.symm.trans hg0)
  obtain rfl := Option.some.inj (tKinds.symm.trans ht0)
  obtain ⟨xs, m1, _, hx, hlen, hn, hel⟩ := DataW.trod_array Tryd.underlying100 hd0
  have c3 : Tryd.prog.cellsOf 99 = 3 := by kernel_rfl
  have c21 : Tryd.prog.cellsOf 100 = 21 := by kernel_rfl
  rw [c21] at hlen
  rw [c3] at hel
  simp only [Prod.mk.injEq] at hx
  have hx1 := hx.1
  have hcs : cs0.toList = kcells := by
    generalize cs0.toList = l at hlen hel
    match xs, hn, hx1, hel with
    | [x0, x1, x2, x3, x4, x5, x6], _, hx1, hel =>
      simp only [Rows.laid_hermitage_plan_kinds, List.map_cons, List.map_nil, DataW.agg.injEq, List.cons.injEq, and_true] at hx1
      obtain ⟨y0, y1, y2, y3, y4, y5, y6⟩ := hx1
      have z0 := kind_of (hel 0 (by decide)) y0.symm
      have z1 := kind_of (hel 1 (by decide)) y1.symm
      have z2 := kind_of (hel 2 (by decide)) y2.symm
      have z3 := kind_of (hel 3 (by decide)) y3.symm
      have z4 := kind_of (hel 4 (by decide)) y4.symm
      have z5 := kind_of (hel 5 (by decide)) y5.symm
      have z6 := kind_of (hel 6 (by decide)) y6.symm
      match l, hlen with
      | [a0, a1, a2, a3, a4, a5, a6, a7, a8, a9, a10, a11, a12, a13, a14, a15, a16, a17, a18, a19, a20], _ =>
        simp only [List.drop, List.take, List.cons.injEq, and_true] at z0 z1 z2 z3 z4 z5 z6
        obtain ⟨rfl, rfl, rfl⟩ := z0
        obtain ⟨rfl, rfl, rfl⟩ := z1
        obtain ⟨rfl, rfl, rfl⟩ := z2
        obtain ⟨rfl, rfl, rfl⟩ := z3
        obtain ⟨rfl, rfl, rfl⟩ := z4
        obtain ⟨rfl, rfl, rfl⟩ := z5
        obtain ⟨rfl, rfl, rfl⟩ := z6
        rfl
  simp only [World.var?, gKinds, Option.bind_some] at hv0
  split at hv0
  · rename_i cs t fr hh
    injection hv0 with hv0
    subst hv0
    refine ⟨t, fr, ?_⟩
    rw [hh]
    congr 2
    rw [← hcs]
  · cases hv0
theorem kinds_of_laid {W : World} (h : laidMetH Tryd.prog [("hermitage/plan.kinds", Rows.laid_hermitage_plan_kinds)] W) : Kinds W := by
  rw [MakeChecks.laidMetH_plain _ _ _ (by kernel_rfl)] at h
  obtain ⟨ps, h, _, _⟩ := h
  exact kinds_of_vars h
end Go.Proofs.YtikkfapgmbamlaaDoor.Pl
end
