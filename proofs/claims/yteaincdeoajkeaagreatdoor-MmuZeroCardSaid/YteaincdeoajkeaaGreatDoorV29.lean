/- Several texts in one: Yv Zn -/
import Derived.Test.YteaincdeoajkeaaGreatDoorV02
import Derived.Test.YteaincdeoajkeaaGreatDoorV18
import Derived.Test.YteaincdeoajkeaaGreatDoorV28
import Derived.OpenShut
section
/- A slice of structs, a slice of bytes, that came in as an argument: what it reads as. Serves all packages. -/
namespace Go.Proofs.YteaincdeoajkeaaGreatDoor.Ut
open Go.ChangeShapes Go.WideShapes Go.Deep Go.RowKit
section
variable {H : Type} {enc : TypeId × Value → H} {P : Program} {w : World} {base : Nat} {held : Bool}
end
end Go.Proofs.YteaincdeoajkeaaGreatDoor.Ut
end
section
/- A mode, a slice of words with their places, as arguments. -/
namespace Go.Proofs.YteaincdeoajkeaaGreatDoor.Wa
open Go.ChangeShapes Go.WideShapes Go.Deep Go.RowKit Ut
set_option linter.unusedVariables false
set_option maxRecDepth 100000

section
variable {H : Type} {enc : TypeId × Value → H} {W : World}
theorem mode_arg {b0 : Nat} {v : Value} {d : DataW H} {p : List MemPlace} (hv : Value.okWide Tryz.prog W .any b0 30 v) (h : DataW.Trod enc Tryz.prog W 0 (fun _ => true) true 30 v d p) : ∃ (o : Bool) (r : Int) (u : Bool), v = .agg #[.bool o, .int .i64 r, .bool u] := by
 obtain ⟨cs, ys, n, rfl, hl, rfl, hyl, hf⟩ := open_fields Tryz.underlying30 (by kernel_rfl) (by kernel_rfl) hv h
 obtain ⟨c0, y0, e0, g0, t0⟩ := hf 0 _ rfl
 obtain ⟨c1, y1, e1, g1, t1⟩ := hf 1 _ rfl
 obtain ⟨c2, y2, e2, g2, t2⟩ := hf 2 _ rfl
 match cs, hl, e0, e1, e2 with
 | [x0, x1, x2], _, e0, e1, e2 =>
  simp only [List.getElem?_cons_zero, List.getElem?_cons_succ, Option.some.injEq] at e0 e1 e2
  subst e0 e1 e2
  obtain ⟨z0, q0, _⟩ := DataW.trod_bool Tryz.underlying4 t0
  obtain ⟨z1, q1, _, _⟩ := DataW.trod_int Tryz.underlying3 t1
  obtain ⟨z2, q2, _⟩ := DataW.trod_bool Tryz.underlying4 t2
  simp only [List.cons.injEq, and_true] at q0 q1 q2
  subst q0 q1 q2
  exact ⟨z0, z1, z2, rfl⟩
end
end Go.Proofs.YteaincdeoajkeaaGreatDoor.Wa
end
