/- An instruction that came in as an argument; the table, out of what the row says that lies in its variable. -/
import Derived.Test.YtniaclhmfmkikaaDoorRows
import Derived.Test.YtniaclhmfmkikaaDoorAr
import Derived.Test.YtniaclhmfmkikaaDoorNd
import Derived.ProofKit
import Derived.LaidMore
import Derived.OpenShut
import Derived.Stop.Joined
import Derived.Deep.Fields
namespace Go.Proofs.YtniaclhmfmkikaaDoor.Is
open Go.ChangeShapes Go.WideShapes Go.ChangeAt Go.WideMaps Go.WideElems Go.Deep Go.RowKit Ut
set_option linter.unusedVariables false
set_option maxRecDepth 100000

section
variable {H : Type} {enc : TypeId × Value → H} {W : World}
theorem ins_arg {b0 : Nat} {v : Value} {d : DataW H} {p : List MemPlace} (hv : Value.okWide Tryd.prog W .any b0 23 v) (h : DataW.Trod enc Tryd.prog W 0 (fun _ => true) true 23 v d p) : ∃ o d a b m : Int, v = insV o d a b m := by
  obtain ⟨cs, ys, n, rfl, hl, rfl, hyl, hf⟩ := open_fields Tryd.underlying23 (by kernel_rfl) (by kernel_rfl) hv h
  obtain ⟨c0, y0, e0, g0, t0⟩ := hf 0 _ rfl
  obtain ⟨c1, y1, e1, g1, t1⟩ := hf 1 _ rfl
  obtain ⟨c2, y2, e2, g2, t2⟩ := hf 2 _ rfl
  obtain ⟨c3, y3, e3, g3, t3⟩ := hf 3 _ rfl
  obtain ⟨c4, y4, e4, g4, t4⟩ := hf 4 _ rfl
  match cs, hl, e0, e1, e2, e3, e4 with
  | [x0, x1, x2, x3, x4], _, e0, e1, e2, e3, e4 =>
    simp only [List.getElem?_cons_zero, List.getElem?_cons_succ, Option.some.injEq] at e0 e1 e2 e3 e4
    subst e0 e1 e2 e3 e4
    obtain ⟨z0, q0, _, _⟩ := DataW.trod_int Tryd.underlying3 t0
    obtain ⟨z1, q1, _, _⟩ := DataW.trod_int Tryd.underlying3 t1
    obtain ⟨z2, q2, _, _⟩ := DataW.trod_int Tryd.underlying3 t2
    obtain ⟨z3, q3, _, _⟩ := DataW.trod_int Tryd.underlying3 t3
    obtain ⟨z4, q4, _, _⟩ := DataW.trod_int Tryd.underlying3 t4
    simp only [List.cons.injEq, and_true] at q0 q1 q2 q3 q4
    subst q0 q1 q2 q3 q4
    exact ⟨z0, z1, z2, z3, z4, rfl⟩

theorem gHas : Tryd.prog.globalNamed "hermitage/isa.has" = some 0 := by kernel_rfl
theorem tHas : (Tryd.prog.globals[0]?).map (·.type) = some 62 := by kernel_rfl
theorem has_of_vars {ps : List MemPlace} (h : DataW.LaidVars Tryd.prog W [("hermitage/isa.has", Rows.laid_hermitage_isa_has)] ps) : HasT W := by
  obtain ⟨g0, t0, cs0, f0, p0, q0, hg0, ht0, hv0, hd0, hrest⟩ := h
  obtain rfl := Option.some.inj (gHas.symm.trans hg0)
  obtain rfl := Option.some.inj (tHas.symm.trans ht0)
  obtain ⟨xs, m1, _, hx, hlen, hn, hel⟩ := DataW.trod_array Tryd.underlying62 hd0
  have c1 : Tryd.prog.cellsOf 5 = 1 := by kernel_rfl
  have c42 : Tryd.prog.cellsOf 62 = 42 := by kernel_rfl
  rw [c42] at hlen
  rw [c1] at hel
  simp only [Prod.mk.injEq] at hx
  have hx1 : (DataW.agg (hasL.map fun n : Nat => DataW.lit (Lit.int .u8 (n : Int))) : DataW _) = .agg (xs.map (·.1)) := hx.1
  rw [DataW.agg.injEq] at hx1
  have hcs : cs0.toList = hasL.map fun n : Nat => Value.int .u8 (n : Int) := by
    apply List.ext_getElem?
    intro i
    rcases Nat.lt_or_ge i 42 with hi | hi
    · obtain hd := hel i hi
      have hxi : xs[i]? = some (xs[i]'(by omega)) := List.getElem?_eq_getElem (by omega)
      rw [Nat.mul_one] at hd
      have hd1 : (cs0.toList.drop i).take 1 = [cs0.toList[i]'(by omega)] := by
        rw [List.drop_eq_getElem_cons (by omega)]
        rfl
      rw [hd1, hxi] at hd
      obtain ⟨z, hz, hz2, _⟩ := DataW.trod_int Tryd.underlying5 hd
      simp only [List.cons.injEq, and_true] at hz
      rw [List.getElem?_eq_getElem (by omega), hz]
      have h1 := congrArg (fun l => l[i]?) hx1
      simp only [List.getElem?_map] at h1
      rw [hxi] at h1
      simp only [Option.map_some, hz2] at h1
      rw [List.getElem?_map]
      cases hq : hasL[i]? with
      | none => rw [hq] at h1; simp at h1
      | some n => rw [hq] at h1; simp at h1; simp [h1]
    · rw [List.getElem?_eq_none (by omega), List.getElem?_eq_none (by simpa [hasL] using hi)]
  simp only [World.var?, gHas, Option.bind_some] at hv0
  split at hv0
  · rename_i cs t fr hh
    injection hv0 with hv0
    subst hv0
    refine ⟨t, fr, ?_⟩
    rw [hh, ← hcs]
  · cases hv0
theorem has_of_laid (h : laidMetH Tryd.prog [("hermitage/isa.has", Rows.laid_hermitage_isa_has)] W) : HasT W := by
  rw [MakeChecks.laidMetH_plain _ _ _ (by kernel_rfl)] at h
  obtain ⟨ps, h, _, _⟩ := h
  exact has_of_vars h
end
end Go.Proofs.YtniaclhmfmkikaaDoor.Is
