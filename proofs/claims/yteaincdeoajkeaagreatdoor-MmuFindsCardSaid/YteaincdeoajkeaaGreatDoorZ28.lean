/- Several texts in one: Re -/
import Derived.Test.YteaincdeoajkeaaGreatDoorZ07
section
/- Drawn regions whose invariant looks at which operations are done, and whose operations are told that what they lean on is done; a store among them. Serves all packages. -/
namespace Go.Proofs.YteaincdeoajkeaaGreatDoor.Ut
open Go.RowKit
set_option linter.unusedVariables false

section
variable {P : Program} {ops : Array Oper} {Q : Exit → Act → World → Prop} {T : (Nat → Value) → Array Value} {d : List Deferred} {WI : (Nat → Bool) → World → Prop} {vals : List Value}
theorem autoC_op {k : Nat} {o o' : Oper} {l : List Oper} (s : Nat) (ds : List Nat) (hd : depsOf o = ds)
  (h : ∀ (L : Nat → Bool) (x : Nat → Value) (w : World), L k = false → Closed ops L → WI L w → (∀ j ∈ ds, RV vals j (x j) w) → ∀ K : Act → World → Prop, (∀ tm w', tm = T (upd x k (tm.getD s undef)) → tm.getD s undef = nth vals k → WI (fun j => if j = k then true else L j) w' → K { tmps := tm, defers := d } w') →
   if Region.wanted o (yielded ops (T x)) = true then Oper.wp P o { tmps := T x, defers := d } w K Q else K (Act.put { tmps := T x, defers := d } o.dst undef) w)
  (hs : AutoLFrom P ops Q T d vals WI (k + 1) (o' :: l)) : AutoLFrom P ops Q T d vals WI k (o :: o' :: l) := by
 refine steps_op ds hd (fun L x w hL hC hw hR K hK => h L x w hL hC hw hR K fun tm w' ht hv hw' => ?_) hs
 exact hK _ w' tm ht hv hw' trivial
/-- what leans on number i is not done, as long as i isn't -/
theorem Closed.not {L : Nat → Bool} (h : Closed ops L) (k i : Nat) (hd : ((ops[k]?).map fun o => (depsOf o).contains i).getD false = true) (hL : L i = false) : L k = false := by
 cases hk : L k with
 | false => rfl
 | true =>
  cases ho : ops[k]? with
  | none => rw [ho] at hd; cases hd
  | some o =>
   rw [ho] at hd
   have := h k o ho hk i (by simpa using hd)
   rw [hL] at this
   cases this
end
end Go.Proofs.YteaincdeoajkeaaGreatDoor.Ut
end
