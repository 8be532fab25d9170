/- Several texts in one: Eu -/
import Derived.Test.YtikkfapgmbamlaaGreatDoorRows
import Derived.Test.YtikkfapgmbamlaaGreatDoorZ05
import Derived.ProofKit
import Derived.LaidMore
import Derived.OpenShut
import Derived.Stop.Joined
import Derived.Deep.Fields
section
/- The table of kinds, out of what the row says that lies in its variable. -/
namespace Go.Proofs.YtikkfapgmbamlaaGreatDoor.Pl
open Go.ChangeShapes Go.WideShapes Go.ChangeAt Go.WideMaps Go.WideElems Go.RowKit Ut
set_option linter.unusedVariables false
set_option maxRecDepth 100000

theorem gKinds : Tryz.prog.globalNamed "hermitage/plan.kinds" = some 0 := by kernel_rfl
theorem tKinds : (Tryz.prog.globals[0]?).map (·.type) = some 75 := by kernel_rfl
theorem kind_of {H : Type} {enc : TypeId × Value → H} {W : World} {sp : Nat → Bool} {held : Bool} {base fuel : Nat} {l : List Value} {a b : List UInt8} {m : Bool} {q : DataW H × List MemPlace} (h : DataW.trod enc Tryz.prog W base sp held fuel 74 l = some q) (hq : q.1 = .agg [.lit (.string a), .lit (.string b), .lit (.bool m)]) : l = [.string (tb a), .string (tb b), .bool m] := by
  obtain ⟨xs, n, _, hx, hlen, hn, hf⟩ := DataW.trod_struct Tryz.underlying74 h
  have c3 : Tryz.prog.cellsOf 74 = 3 := by kernel_rfl
  have cs : Tryz.prog.cellsOf 9 = 1 := by kernel_rfl
  have cb : Tryz.prog.cellsOf 4 = 1 := by kernel_rfl
  rw [c3] at hlen
  have h0 := hf 0 _ rfl
  have h1 := hf 1 _ rfl
  have h2 := hf 2 _ rfl
  match l, hlen, xs, hn, hx, h0, h1, h2 with
  | [u0, u1, u2], _, [x0, x1, x2], _, hx, h0, h1, h2 =>
    have e0 : DataW.trod enc Tryz.prog W base sp held n 9 [u0] = some x0 := by simpa [cs] using h0
    have e1 : DataW.trod enc Tryz.prog W base sp held n 9 [u1] = some x1 := by simpa [cs] using h1
    have e2 : DataW.trod enc Tryz.prog W base sp held n 4 [u2] = some x2 := by simpa [cb] using h2
    obtain ⟨s0, g0, k0, _⟩ := DataW.trod_string Tryz.underlying9 e0
    obtain ⟨s1, g1, k1, _⟩ := DataW.trod_string Tryz.underlying9 e1
    obtain ⟨b2, g2, k2⟩ := DataW.trod_bool Tryz.underlying4 e2
    rw [hx] at hq
    simp only [List.map_cons, List.map_nil, DataW.agg.injEq, List.cons.injEq, and_true, k0, k1, k2, DataW.lit.injEq, Lit.string.injEq, Lit.bool.injEq] at hq
    simp only [List.cons.injEq, and_true] at g0 g1 g2
    rw [g0, g1, g2, ← hq.1, ← hq.2.1, ← hq.2.2, tb_of, tb_of]
theorem kinds_of_vars {W : World} {ps : List MemPlace} (h : DataW.LaidVars Tryz.prog W [("hermitage/plan.kinds", Rows.laid_hermitage_plan_kinds)] ps) : Kinds W := by
  obtain ⟨g0, t0, cs0, f0, p0, q0, hg0, ht0, hv0, hd0, hrest⟩ := h
  obtain rfl := Option.some.inj (gKinds.symm.trans hg0)
  obtain rfl := Option.some.inj (tKinds.symm.trans ht0)
  obtain ⟨xs, m1, _, hx, hlen, hn, hel⟩ := DataW.trod_array Tryz.underlying75 hd0
  have c3 : Tryz.prog.cellsOf 74 = 3 := by kernel_rfl
  have c21 : Tryz.prog.cellsOf 75 = 21 := by kernel_rfl
  rw [c21] at hlen
  rw [c3] at hel
  simp only [Prod.mk.injEq] at hx
  have hx1 := hx.1
  have hcs : cs0.toList = kcells := by
    generalize cs0.toList = l at hlen hel
    match xs, hn, hx1, hel with
    | [x0, x1, x2, x3, x4, x5, x6], _, hx1, hel =>
      simp only [Rows.laid_hermitage_plan_kinds, List.map_cons, List.map_nil, DataW.agg.injEq, List.cons.injEq, and_true] at hx1
      obtain ⟨y0, y1, y2, y3, y4, y5, y6⟩ := hx1
      have z0 := kind_of (hel 0 (by decide)) y0.symm
      have z1 := kind_of (hel 1 (by decide)) y1.symm
      have z2 := kind_of (hel 2 (by decide)) y2.symm
      have z3 := kind_of (hel 3 (by decide)) y3.symm
      have z4 := kind_of (hel 4 (by decide)) y4.symm
      have z5 := kind_of (hel 5 (by decide)) y5.symm
      have z6 := kind_of (hel 6 (by decide)) y6.symm
      match l, hlen with
      | [a0, a1, a2, a3, a4, a5, a6, a7, a8, a9, a10, a11, a12, a13, a14, a15, a16, a17, a18, a19, a20], _ =>
        simp only [List.drop, List.take, List.cons.injEq, and_true] at z0 z1 z2 z3 z4 z5 z6
        obtain ⟨rfl, rfl, rfl⟩ := z0
        obtain ⟨rfl, rfl, rfl⟩ := z1
        obtain ⟨rfl, rfl, rfl⟩ := z2
        obtain ⟨rfl, rfl, rfl⟩ := z3
        obtain ⟨rfl, rfl, rfl⟩ := z4
        obtain ⟨rfl, rfl, rfl⟩ := z5
        obtain ⟨rfl, rfl, rfl⟩ := z6
        rfl
  simp only [World.var?, gKinds, Option.bind_some] at hv0
  split at hv0
  · rename_i cs t fr hh
    injection hv0 with hv0
    subst hv0
    refine ⟨t, fr, ?_⟩
    rw [hh]
    congr 2
    rw [← hcs]
  · cases hv0
theorem kinds_of_laid {W : World} (h : laidMetH Tryz.prog [("hermitage/plan.kinds", Rows.laid_hermitage_plan_kinds)] W) : Kinds W := by
  rw [MakeChecks.laidMetH_plain _ _ _ (by kernel_rfl)] at h
  obtain ⟨ps, h, _, _⟩ := h
  exact kinds_of_vars h
end Go.Proofs.YtikkfapgmbamlaaGreatDoor.Pl
end
