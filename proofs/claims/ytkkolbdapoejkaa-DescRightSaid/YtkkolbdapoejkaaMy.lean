/- Package desc: a descriptor, and where a queue lies, that came in as arguments. -/
import Derived.Test.YtkkolbdapoejkaaJf
import Derived.Test.YtkkolbdapoejkaaVt
namespace Go.Proofs.Ytkkolbdapoejkaa.De
open Go.ChangeShapes Go.WideShapes Go.Deep Go.RowKit Ut
set_option linter.unusedVariables false
set_option maxRecDepth 100000
section
variable {H : Type} {enc : TypeId × Value → H} {W : World}
theorem desc_arg_len : Try.prog.cellsOf 24 = 4 := by kernel_rfl
theorem desc_arg_leaf (j : Nat) (hj : j < 4) : leafAt Try.prog 4 24 j = some 22 := by
  match j, hj with
  | 0, _ => exact (by kernel_rfl : leafAt Try.prog 4 24 0 = some 22)
  | 1, _ => exact (by kernel_rfl : leafAt Try.prog 4 24 1 = some 22)
  | 2, _ => exact (by kernel_rfl : leafAt Try.prog 4 24 2 = some 22)
  | 3, _ => exact (by kernel_rfl : leafAt Try.prog 4 24 3 = some 22)
theorem desc_arg {b0 : Nat} {v : Value} {d : DataW H} {p : List MemPlace} (hv : Value.okWide Try.prog W .any b0 24 v) (h : DataW.Trod enc Try.prog W 0 (fun _ => true) true 24 v d p) : ∃ (z0 z1 z2 z3 : Int), ((0 ≤ z0 ∧ z0 < 4294967296) ∧ (0 ≤ z1 ∧ z1 < 4294967296) ∧ (0 ≤ z2 ∧ z2 < 4294967296) ∧ (0 ≤ z3 ∧ z3 < 4294967296)) ∧ v = .agg #[.int .u32 z0, .int .u32 z1, .int .u32 z2, .int .u32 z3] := by
  obtain ⟨cs, rfl, hl, hf⟩ := open_flat 4 Try.underlying24 hv h
  rw [desc_arg_len] at hl
  have key : ∀ j, j < 4 → ∃ z, cs[j]? = some (.int .u32 z) ∧ (0 ≤ z ∧ z < 4294967296) := fun j hj => by
    obtain ⟨c, m, q, e, t⟩ := hf j _ (desc_arg_leaf j hj)
    obtain ⟨z, q0, _, hw⟩ := DataW.trod_int Try.underlying22 t
    simp only [List.cons.injEq, and_true] at q0
    subst q0
    exact ⟨z, e, Ut.wf_u32 hw⟩
  obtain ⟨z0, e0, l0⟩ := key 0 (by decide)
  obtain ⟨z1, e1, l1⟩ := key 1 (by decide)
  obtain ⟨z2, e2, l2⟩ := key 2 (by decide)
  obtain ⟨z3, e3, l3⟩ := key 3 (by decide)
  match cs, hl, e0, e1, e2, e3 with
  | [x0, x1, x2, x3], _, e0, e1, e2, e3 =>
    simp only [List.getElem?_cons_zero, List.getElem?_cons_succ, Option.some.injEq] at e0 e1 e2 e3
    subst e0 e1 e2 e3
    exact ⟨z0, z1, z2, z3, ⟨l0, l1, l2, l3⟩, rfl⟩
theorem ring_arg_len : Try.prog.cellsOf 27 = 4 := by kernel_rfl
theorem ring_arg_leaf (j : Nat) (hj : j < 3) : leafAt Try.prog 4 27 j = some 22 := by
  match j, hj with
  | 0, _ => exact (by kernel_rfl : leafAt Try.prog 4 27 0 = some 22)
  | 1, _ => exact (by kernel_rfl : leafAt Try.prog 4 27 1 = some 22)
  | 2, _ => exact (by kernel_rfl : leafAt Try.prog 4 27 2 = some 22)
theorem ring_arg_last : leafAt Try.prog 4 27 3 = some 3 := by kernel_rfl
theorem ring_arg {b0 : Nat} {v : Value} {d : DataW H} {p : List MemPlace} (hv : Value.okWide Try.prog W .any b0 27 v) (h : DataW.Trod enc Try.prog W 0 (fun _ => true) true 27 v d p) : ∃ (z0 z1 z2 z3 : Int), ((0 ≤ z0 ∧ z0 < 4294967296) ∧ (0 ≤ z1 ∧ z1 < 4294967296) ∧ (0 ≤ z2 ∧ z2 < 4294967296)) ∧ v = .agg #[.int .u32 z0, .int .u32 z1, .int .u32 z2, .int .i64 z3] := by
  obtain ⟨cs, rfl, hl, hf⟩ := open_flat 4 Try.underlying27 hv h
  rw [ring_arg_len] at hl
  have key : ∀ j, j < 3 → ∃ z, cs[j]? = some (.int .u32 z) ∧ (0 ≤ z ∧ z < 4294967296) := fun j hj => by
    obtain ⟨c, m, q, e, t⟩ := hf j _ (ring_arg_leaf j hj)
    obtain ⟨z, q0, _, hw⟩ := DataW.trod_int Try.underlying22 t
    simp only [List.cons.injEq, and_true] at q0
    subst q0
    exact ⟨z, e, Ut.wf_u32 hw⟩
  obtain ⟨z0, e0, l0⟩ := key 0 (by decide)
  obtain ⟨z1, e1, l1⟩ := key 1 (by decide)
  obtain ⟨z2, e2, l2⟩ := key 2 (by decide)
  obtain ⟨z3, e3⟩ : ∃ z, cs[3]? = some (.int .i64 z) := by
    obtain ⟨c, m, q, e, t⟩ := hf 3 _ ring_arg_last
    obtain ⟨z, q0, _, hw⟩ := DataW.trod_int Try.underlying3 t
    simp only [List.cons.injEq, and_true] at q0
    subst q0
    exact ⟨z, e⟩
  match cs, hl, e0, e1, e2, e3 with
  | [x0, x1, x2, x3], _, e0, e1, e2, e3 =>
    simp only [List.getElem?_cons_zero, List.getElem?_cons_succ, Option.some.injEq] at e0 e1 e2 e3
    subst e0 e1 e2 e3
    exact ⟨z0, z1, z2, z3, ⟨l0, l1, l2⟩, rfl⟩
end
end Go.Proofs.Ytkkolbdapoejkaa.De
