/- Several texts in one: Sq -/
import Derived.Test.YtniaclhmfmkikaaGreatDoorZ44
import Derived.Test.YtniaclhmfmkikaaGreatDoorZ38
import Derived.Test.YtniaclhmfmkikaaGreatDoorZ39
section
/- A slice of instructions that came in as an argument. -/
namespace Go.Proofs.YtniaclhmfmkikaaGreatDoor.Ex
open Go.ChangeShapes Go.WideShapes Go.Deep Go.RowKit Ut
set_option linter.unusedVariables false
set_option maxRecDepth 100000

theorem ints5 {fs : Array Field} {f0 f1 f2 f3 f4 : Field} (h : fs = #[f0, f1, f2, f3, f4]) (h0 : f0.type = 3) (h1 : f1.type = 3) (h2 : f2.type = 3) (h3 : f3.type = 3) (h4 : f4.type = 3) : ∀ (j : Nat) (f : Field), fs[j]? = some f → Tryz.prog.underlying f.type = some (.int .i64) := fun j f hj => by
  subst h
  match j, hj with
  | 0, hj => simp at hj; subst hj; rw [h0]; exact Tryz.underlying3
  | 1, hj => simp at hj; subst hj; rw [h1]; exact Tryz.underlying3
  | 2, hj => simp at hj; subst hj; rw [h2]; exact Tryz.underlying3
  | 3, hj => simp at hj; subst hj; rw [h3]; exact Tryz.underlying3
  | 4, hj => simp at hj; subst hj; rw [h4]; exact Tryz.underlying3
  | j + 5, hj => simp at hj
section
variable {H : Type} {enc : TypeId × Value → H} {W : World}
theorem instrs_arg {a : Option Addr} {len cap : Nat} {d : DataW H} {p : List MemPlace} {ts : List TypeId} {ds : List (DataW H)} {j : Nat} (h : DataW.Trod enc Tryz.prog W 0 (fun _ => true) true 24 (.slice a len cap) d p)
    (hsz : (DataW.weightsEach Tryz.prog ts ds).all (· ≤ reachBytes) = true) (ht : ts[j]? = some 24) (hd : ds[j]? = some d) : ∃ Z : Nat → Nat → Int, InsRow W W.heap.size a len Z ∧ len ≤ 9223372036854775807 := by
  obtain ⟨fuel, hf⟩ := h
  have hf2 : DataW.trod enc Tryz.prog W 0 (fun _ => true) true fuel 24 [.slice a len cap] = some (d, p) := hf
  obtain ⟨aa, n, c, Z, hc, hle, hcap, hcell⟩ := open_recs Tryz.underlying24 Tryz.underlying37 (by kernel_rfl) (by kernel_rfl) (ints5 rfl rfl rfl rfl rfl rfl) (by decide) hf2
  injection hc with e1 e2 e3
  subst e1 e2 e3
  refine ⟨Z, fun i hi => ?_, ?_⟩
  · obtain ⟨y, e, hy, hz⟩ := hcell i hi
    exact ⟨y, e, hy, fun j hj => (hz j hj).1⟩
  · rcases hcap with h0 | ⟨el, sp, he, hl⟩
    · omega
    · have he2 : d = .slice el sp := he
      rw [he2] at hd
      have h1 := sized_slice hsz ht hd Tryz.underlying24
      rw [show Tryz.prog.bytesOf 37 = 40 by kernel_rfl] at h1
      unfold reachBytes at h1
      omega
end
end Go.Proofs.YtniaclhmfmkikaaGreatDoor.Ex
end
