/- Several texts in one: Mr -/
import Derived.Test.YteaincdeoajkeaaGreatDoorRows
import Derived.Test.YteaincdeoajkeaaGreatDoorZ42
import Derived.ProofKit
import Derived.LaidMore
import Derived.OpenShut
import Derived.Stop.Joined
import Derived.Deep.Fields
section
/- Package mmu: what kinds of accesses ask for, out of what the row says that lies in its variable. -/
namespace Go.Proofs.YteaincdeoajkeaaGreatDoor.Mm
open Go.ChangeShapes Go.WideShapes Go.ChangeAt Go.WideMaps Go.WideElems Go.Deep Go.RowKit Ut
set_option linter.unusedVariables false
set_option maxRecDepth 100000

section
variable {H : Type} {enc : TypeId × Value → H} {W : World}
def needL : List Int := [4, 1, 2]
theorem gNeed : Tryz.prog.globalNamed "hermitage/mmu.needed" = some 0 := by kernel_rfl
theorem tNeed : (Tryz.prog.globals[0]?).map (·.type) = some 210 := by kernel_rfl
theorem need_of_vars {ps : List MemPlace} (h : DataW.LaidVars Tryz.prog W [("hermitage/mmu.needed", Rows.laid_hermitage_mmu_needed)] ps) : HasN W := by
 obtain ⟨g0, t0, cs0, f0, p0, q0, hg0, ht0, hv0, hd0, hrest⟩ := h
 obtain rfl := Option.some.inj (gNeed.symm.trans hg0)
 obtain rfl := Option.some.inj (tNeed.symm.trans ht0)
 obtain ⟨xs, m1, _, hx, hlen, hn, hel⟩ := DataW.trod_array Tryz.underlying210 hd0
 have c1 : Tryz.prog.cellsOf 3 = 1 := by kernel_rfl
 have c3 : Tryz.prog.cellsOf 210 = 3 := by kernel_rfl
 rw [c3] at hlen
 rw [c1] at hel
 simp only [Prod.mk.injEq] at hx
 have hx1 : (DataW.agg (needL.map fun n : Int => DataW.lit (Lit.int .i64 n)) : DataW _) = .agg (xs.map (·.1)) := hx.1
 rw [DataW.agg.injEq] at hx1
 have hcs : cs0.toList = needL.map fun n : Int => Value.int .i64 n := by
  apply List.ext_getElem?
  intro i
  rcases Nat.lt_or_ge i 3 with hi | hi
  ·obtain hd := hel i hi
   have hxi : xs[i]? = some (xs[i]'(by omega)) := List.getElem?_eq_getElem (by omega)
   rw [Nat.mul_one] at hd
   have hd1 : (cs0.toList.drop i).take 1 = [cs0.toList[i]'(by omega)] := by
    rw [List.drop_eq_getElem_cons (by omega)]
    rfl
   rw [hd1, hxi] at hd
   obtain ⟨z, hz, hz2, _⟩ := DataW.trod_int Tryz.underlying3 hd
   simp only [List.cons.injEq, and_true] at hz
   rw [List.getElem?_eq_getElem (by omega), hz]
   have h1 := congrArg (fun l => l[i]?) hx1
   simp only [List.getElem?_map] at h1
   rw [hxi] at h1
   simp only [Option.map_some, hz2] at h1
   rw [List.getElem?_map]
   cases hq : needL[i]? with
   | none => rw [hq] at h1; simp at h1
   | some n => rw [hq] at h1; simp at h1; simp [h1]
  ·rw [List.getElem?_eq_none (by omega), List.getElem?_eq_none (by simpa [needL] using hi)]
 simp only [World.var?, gNeed, Option.bind_some] at hv0
 split at hv0
 ·rename_i cs t fr hh
  injection hv0 with hv0
  subst hv0
  refine ⟨t, fr, ?_⟩
  rw [hh]
  have e : cs = #[.int .i64 4, .int .i64 1, .int .i64 2] := by
   apply Array.toList_inj.1
   rw [hcs]
   rfl
  rw [e]
 ·cases hv0
theorem need_of_laid (h : laidMetH Tryz.prog [("hermitage/mmu.needed", Rows.laid_hermitage_mmu_needed)] W) : HasN W := by
 rw [MakeChecks.laidMetH_plain _ _ _ (by kernel_rfl)] at h
 obtain ⟨ps, h, _, _⟩ := h
 exact need_of_vars h
end
end Go.Proofs.YteaincdeoajkeaaGreatDoor.Mm
end
