/- The library's heaps: which method is meant, where the heap is a pointer and its methods have pointer receivers. Serves all packages. -/
import Derived.Test.YtgcpcffgpokbfaaHx
namespace Go.Proofs.Ytgcpcffgpokbfaa.Hg
open Go.RowKit Ut
set_option linter.unusedVariables false

theorem asked_ptr {P : Program} (n t elem f : Nat) (name : String) (a : Addr) (W : World)
    (hm : ((P.info? t).bind fun i => i.methods.find? (·.name == name)).map (fun m => (m.path.toList, m.func)) = some ([], some (f, true))) (hu : P.underlying t = some (.pointer elem)) :
    (method (n + 1) t (.pointer (some a)) name).run P W = .ok (f, .pointer (some a)) W := by
  cases hi : P.info? t with
  | none => rw [hi] at hm; cases hm
  | some i =>
    rw [hi] at hm
    simp only [Option.bind_some] at hm
    cases hf : i.methods.find? (·.name == name) with
    | none => rw [hf] at hm; cases hm
    | some m =>
      rw [hf] at hm
      simp only [Option.map_some, Option.some.injEq, Prod.mk.injEq] at hm
      obtain ⟨hp, hfn⟩ := hm
      have hpe : m.path = #[] := by
        cases hq : m.path with
        | mk l => rw [hq] at hp; simp at hp; rw [hp]
      unfold method
      simp [typeInfo, hi, hf, hpe, follow, hfn, receiverAt, run_underlying hu, Place.get]
/-- a heap behind a pointer, its method f: what f does is what is asked of it -/
theorem Asks.ptr (T elem f : Nat) (name : String) (a : Addr) (W : World) (D : Nat → Value → Prop)
    (hm : ((Try.prog.info? T).bind fun i => i.methods.find? (·.name == name)).map (fun m => (m.path.toList, m.func)) = some ([], some (f, true))) (hu : Try.prog.underlying T = some (.pointer elem))
    (hen : ∀ (args : Array Value) (w : World), (callFunc f args).run Try.prog w = .ok (.enter f args) w) (h : D f (.pointer (some a))) : Asks T (.pointer (some a)) name W D :=
  ⟨f, .pointer (some a), fun m => asked_ptr m T elem f name a W hm hu, hen, h⟩
end Go.Proofs.Ytgcpcffgpokbfaa.Hg
