/- Keys and entries, alone and in slices, as arguments. -/
import Derived.Test.YtgcpcffgpokbfaaYv
import Derived.Test.YtgcpcffgpokbfaaAa
import Derived.OpenShut
namespace Go.Proofs.Ytgcpcffgpokbfaa.Sb
open Go.ChangeShapes Go.WideShapes Go.Deep Go.RowKit Ut
set_option linter.unusedVariables false
set_option maxRecDepth 100000

/-- keys that came in; entries -/
def KeyRow (w : World) (B : Nat) (a : Option Addr) (n : Nat) (Z : Nat → Int × Int) : Prop := ∀ i, i < n → ∃ y, a = some y ∧ y.block < B ∧ w.cell? (y.add (i * 2)) = some (.int .i64 (Z i).1) ∧ w.cell? (y.add (i * 2 + 1)) = some (.int .i64 (Z i).2)
def EntRow (w : World) (B : Nat) (a : Option Addr) (n : Nat) (Z : Nat → Int × Int × Int) : Prop := ∀ i, i < n → ∃ y, a = some y ∧ y.block < B ∧ w.cell? (y.add (i * 3)) = some (.int .i64 (Z i).1) ∧ w.cell? (y.add (i * 3 + 1)) = some (.int .i64 (Z i).2.1) ∧ w.cell? (y.add (i * 3 + 2)) = some (.int .i64 (Z i).2.2) ∧ -9223372036854775808 ≤ (Z i).2.2 ∧ (Z i).2.2 < 9223372036854775808
section
variable {H : Type} {enc : TypeId × Value → H} {W : World}
theorem key_arg {b0 : Nat} {v : Value} {d : DataW H} {p : List MemPlace} (hv : Value.okWide Try.prog W .any b0 38 v) (h : DataW.Trod enc Try.prog W 0 (fun _ => true) true 38 v d p) : ∃ (r g : Int), v = .agg #[.int .i64 r, .int .i64 g] := by
  obtain ⟨cs, ys, n, rfl, hl, rfl, hyl, hf⟩ := open_fields Try.underlying38 (by kernel_rfl) (by kernel_rfl) hv h
  obtain ⟨c0, y0, e0, g0, t0⟩ := hf 0 _ rfl
  obtain ⟨c1, y1, e1, g1, t1⟩ := hf 1 _ rfl
  match cs, hl, e0, e1 with
  | [x0, x1], _, e0, e1 =>
    simp only [List.getElem?_cons_zero, List.getElem?_cons_succ, Option.some.injEq] at e0 e1
    subst e0 e1
    obtain ⟨z0, q0, _, _⟩ := DataW.trod_int Try.underlying3 t0
    obtain ⟨z1, q1, _, _⟩ := DataW.trod_int Try.underlying3 t1
    simp only [List.cons.injEq, and_true] at q0 q1
    subst q0 q1
    exact ⟨z0, z1, rfl⟩
theorem entry_arg {b0 : Nat} {v : Value} {d : DataW H} {p : List MemPlace} (hv : Value.okWide Try.prog W .any b0 34 v) (h : DataW.Trod enc Try.prog W 0 (fun _ => true) true 34 v d p) : ∃ (r g f : Int), v = .agg #[.int .i64 r, .int .i64 g, .int .i64 f] := by
  obtain ⟨cs, ys, n, rfl, hl, rfl, hyl, hf⟩ := open_fields Try.underlying34 (by kernel_rfl) (by kernel_rfl) hv h
  obtain ⟨c0, y0, e0, g0, t0⟩ := hf 0 _ rfl
  obtain ⟨c1, y1, e1, g1, t1⟩ := hf 1 _ rfl
  obtain ⟨c2, y2, e2, g2, t2⟩ := hf 2 _ rfl
  match cs, hl, e0, e1, e2 with
  | [x0, x1, x2], _, e0, e1, e2 =>
    simp only [List.getElem?_cons_zero, List.getElem?_cons_succ, Option.some.injEq] at e0 e1 e2
    subst e0 e1 e2
    obtain ⟨z0, q0, _, _⟩ := DataW.trod_int Try.underlying3 t0
    obtain ⟨z1, q1, _, _⟩ := DataW.trod_int Try.underlying3 t1
    obtain ⟨z2, q2, _, _⟩ := DataW.trod_int Try.underlying3 t2
    simp only [List.cons.injEq, and_true] at q0 q1 q2
    subst q0 q1 q2
    exact ⟨z0, z1, z2, rfl⟩
theorem keys_arg {a : Option Addr} {len cap : Nat} {d : DataW H} {p : List MemPlace} {ts : List TypeId} {ds : List (DataW H)} {j : Nat} (h : DataW.Trod enc Try.prog W 0 (fun _ => true) true 23 (.slice a len cap) d p)
    (hsz : (DataW.weightsEach Try.prog ts ds).all (· ≤ reachBytes) = true) (ht : ts[j]? = some 23) (hd : ds[j]? = some d) : ∃ Z : Nat → Int × Int, KeyRow W W.heap.size a len Z ∧ len ≤ 9223372036854775807 := by
  obtain ⟨fuel, hf⟩ := h
  have hf2 : DataW.trod enc Try.prog W 0 (fun _ => true) true fuel 23 [.slice a len cap] = some (d, p) := hf
  obtain ⟨aa, n, c, hc, hle, hcap, hcell⟩ := open_structs Try.underlying23 Try.underlying38 (by kernel_rfl) (by kernel_rfl) hf2
  injection hc with e1 e2 e3
  subst e1 e2 e3
  have key : ∀ i, i < len → ∃ Z : Int × Int, ∃ y, a = some y ∧ y.block < W.heap.size ∧ W.cell? (y.add (i * 2)) = some (.int .i64 Z.1) ∧ W.cell? (y.add (i * 2 + 1)) = some (.int .i64 Z.2) := fun i hi => by
    obtain ⟨y, e, hy⟩ := hcell i hi
    obtain ⟨v0, q0, m0, c0, t0⟩ := hy 0 _ rfl
    obtain ⟨v1, q1, m1, c1, t1⟩ := hy 1 _ rfl
    obtain ⟨z0, g0, _, _⟩ := DataW.trod_int Try.underlying3 t0
    obtain ⟨z1, g1, _, _⟩ := DataW.trod_int Try.underlying3 t1
    simp only [List.cons.injEq, and_true] at g0 g1
    subst g0 g1
    refine ⟨(z0, z1), y, e, ?_, c0, c1⟩
    have := cell_lt c0
    rwa [block_of_add] at this
  obtain ⟨Z, hZ⟩ := choose_lt (α := Int × Int) key
  refine ⟨Z, fun i hi => hZ i hi, ?_⟩
  rcases hcap with h0 | ⟨el, sp, he, hl⟩
  · omega
  · have he2 : d = .slice el sp := he
    rw [he2] at hd
    have h1 := sized_slice hsz ht hd Try.underlying23
    rw [show Try.prog.bytesOf 38 = 16 by kernel_rfl] at h1
    unfold reachBytes at h1
    omega
theorem entries_arg {a : Option Addr} {len cap : Nat} {d : DataW H} {p : List MemPlace} {ts : List TypeId} {ds : List (DataW H)} {j : Nat} (h : DataW.Trod enc Try.prog W 0 (fun _ => true) true 24 (.slice a len cap) d p)
    (hsz : (DataW.weightsEach Try.prog ts ds).all (· ≤ reachBytes) = true) (ht : ts[j]? = some 24) (hd : ds[j]? = some d) : ∃ Z : Nat → Int × Int × Int, EntRow W W.heap.size a len Z ∧ len ≤ 9223372036854775807 := by
  obtain ⟨fuel, hf⟩ := h
  have hf2 : DataW.trod enc Try.prog W 0 (fun _ => true) true fuel 24 [.slice a len cap] = some (d, p) := hf
  obtain ⟨aa, n, c, hc, hle, hcap, hcell⟩ := open_structs Try.underlying24 Try.underlying34 (by kernel_rfl) (by kernel_rfl) hf2
  injection hc with e1 e2 e3
  subst e1 e2 e3
  have key : ∀ i, i < len → ∃ Z : Int × Int × Int, ∃ y, a = some y ∧ y.block < W.heap.size ∧ W.cell? (y.add (i * 3)) = some (.int .i64 Z.1) ∧ W.cell? (y.add (i * 3 + 1)) = some (.int .i64 Z.2.1) ∧ W.cell? (y.add (i * 3 + 2)) = some (.int .i64 Z.2.2) ∧ -9223372036854775808 ≤ Z.2.2 ∧ Z.2.2 < 9223372036854775808 := fun i hi => by
    obtain ⟨y, e, hy⟩ := hcell i hi
    obtain ⟨v0, q0, m0, c0, t0⟩ := hy 0 _ rfl
    obtain ⟨v1, q1, m1, c1, t1⟩ := hy 1 _ rfl
    obtain ⟨v2, q2, m2, c2, t2⟩ := hy 2 _ rfl
    obtain ⟨z0, g0, _, _⟩ := DataW.trod_int Try.underlying3 t0
    obtain ⟨z1, g1, _, _⟩ := DataW.trod_int Try.underlying3 t1
    obtain ⟨z2, g2, _, hw2⟩ := DataW.trod_int Try.underlying3 t2
    simp only [List.cons.injEq, and_true] at g0 g1 g2
    subst g0 g1 g2
    refine ⟨(z0, z1, z2), y, e, ?_, c0, c1, c2, Ut.wf_i64 hw2⟩
    have := cell_lt c0
    rwa [block_of_add] at this
  obtain ⟨Z, hZ⟩ := choose_lt (α := Int × Int × Int) key
  refine ⟨Z, fun i hi => hZ i hi, ?_⟩
  rcases hcap with h0 | ⟨el, sp, he, hl⟩
  · omega
  · have he2 : d = .slice el sp := he
    rw [he2] at hd
    have h1 := sized_slice hsz ht hd Try.underlying24
    rw [show Try.prog.bytesOf 34 = 24 by kernel_rfl] at h1
    unfold reachBytes at h1
    omega
end
end Go.Proofs.Ytgcpcffgpokbfaa.Sb
