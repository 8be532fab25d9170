/- A place as an argument; a slice of places. -/
import Derived.Test.YtlgohgjnocoadaaXa
import Derived.Test.YtlgohgjnocoadaaAr
namespace Go.Proofs.Ytlgohgjnocoadaa.Gm
open Go.ChangeShapes Go.WideShapes Go.Deep Go.RowKit Ut
set_option linter.unusedVariables false
set_option maxRecDepth 100000

theorem ints2 {fs : Array Field} {f0 f1 : Field} (h : fs = #[f0, f1]) (h0 : f0.type = 3) (h1 : f1.type = 3) : ∀ (j : Nat) (f : Field), fs[j]? = some f → Try.prog.underlying f.type = some (.int .i64) := fun j f hj => by
  subst h
  match j, hj with
  | 0, hj => simp at hj; subst hj; rw [h0]; exact Try.underlying3
  | 1, hj => simp at hj; subst hj; rw [h1]; exact Try.underlying3
  | j + 2, hj => simp at hj
/-- the slice at a of n places reads as Z, and lies below block B -/
def PlRow (w : World) (B : Nat) (a : Option Addr) (n : Nat) (Z : Nat → Pl) : Prop := ∀ i, i < n → ∃ x, a = some x ∧ x.block < B ∧ w.cell? (x.add (i * 2)) = some (.int .i64 (Z i).1) ∧ w.cell? (x.add (i * 2 + 1)) = some (.int .i64 (Z i).2)
section
variable {H : Type} {enc : TypeId × Value → H} {W : World}
theorem place_arg {r : Reach} {b0 : Nat} {v : Value} {d : DataW H} {p : List MemPlace} (hv : Value.okWide Try.prog W r b0 66 v) (h : DataW.Trod enc Try.prog W 0 (fun _ => true) true 66 v d p) : ∃ f r : Int, v = .agg #[.int .i64 f, .int .i64 r] := by
  obtain ⟨cs, ys, n, rfl, hl, _, hyl, hj⟩ := open_fields Try.underlying66 (by kernel_rfl) (by kernel_rfl) hv h
  obtain ⟨x0, y0, e0, _, t0⟩ := hj 0 _ rfl
  obtain ⟨x1, y1, e1, _, t1⟩ := hj 1 _ rfl
  have hl2 : cs.length = 2 := hl
  match cs, hl2, e0, e1 with
  | [x0, x1], _, e0, e1 =>
    simp only [List.getElem?_cons_zero, List.getElem?_cons_succ, Option.some.injEq] at e0 e1
    subst e0 e1
    obtain ⟨z0, q0, _, _⟩ := DataW.trod_int Try.underlying3 t0
    obtain ⟨z1, q1, _, _⟩ := DataW.trod_int Try.underlying3 t1
    simp only [List.cons.injEq, and_true] at q0 q1
    subst q0 q1
    exact ⟨z0, z1, rfl⟩
theorem places_arg {a : Option Addr} {len cap : Nat} {d : DataW H} {p : List MemPlace} {ts : List TypeId} {ds : List (DataW H)} {j : Nat} (h : DataW.Trod enc Try.prog W 0 (fun _ => true) true 23 (.slice a len cap) d p)
    (hsz : (DataW.weightsEach Try.prog ts ds).all (· ≤ reachBytes) = true) (ht : ts[j]? = some 23) (hd : ds[j]? = some d) : ∃ Z : Nat → Pl, PlRow W W.heap.size a len Z ∧ len ≤ 9223372036854775807 := by
  obtain ⟨fuel, hf⟩ := h
  have hf2 : DataW.trod enc Try.prog W 0 (fun _ => true) true fuel 23 [.slice a len cap] = some (d, p) := hf
  obtain ⟨aa, n, c, Z, hc, hle, hcap, hcell⟩ := open_recs Try.underlying23 Try.underlying66 (by kernel_rfl) (by kernel_rfl) (ints2 rfl rfl rfl) (by decide) hf2
  injection hc with e1 e2 e3
  subst e1 e2 e3
  refine ⟨fun i => (Z i 0, Z i 1), fun i hi => ?_, ?_⟩
  · obtain ⟨y, e, hy, hz⟩ := hcell i hi
    exact ⟨y, e, hy, (hz 0 (by decide)).1, (hz 1 (by decide)).1⟩
  · rcases hcap with h0 | ⟨el, sp, he, hl⟩
    · omega
    · have he2 : d = .slice el sp := he
      rw [he2] at hd
      have h1 := sized_slice hsz ht hd Try.underlying23
      rw [show Try.prog.bytesOf 66 = 16 by kernel_rfl] at h1
      unfold reachBytes at h1
      omega
end
end Go.Proofs.Ytlgohgjnocoadaa.Gm
