/- Several texts in one: Rd -/
import Derived.Test.YteaincdeoajkeaaGreatDoorZ05
section
/- Drawn regions with neither the frame nor the operations' values written out, whose invariant looks at which operations are done (calls that write among them). Serves all packages. -/
namespace Go.Proofs.YteaincdeoajkeaaGreatDoor.Ut
open Go.RowKit
set_option linter.unusedVariables false

section
variable {P : Program} {ops : Array Oper} {Q : Exit → Act → World → Prop} {T : (Nat → Value) → Array Value} {d : List Deferred} {WI : (Nat → Bool) → World → Prop} {vals : List Value}

/-- what the operations from number k on are asked -/
def AutoLFrom (P : Program) (ops : Array Oper) (Q : Exit → Act → World → Prop) (T : (Nat → Value) → Array Value) (d : List Deferred) (vals : List Value) (WI : (Nat → Bool) → World → Prop) (k : Nat) (l : List Oper) : Prop :=
 StepsFrom P ops Q T d (RV vals) WI (fun _ _ _ => True) k l
theorem autoL_last {k : Nat} {o : Oper}
  (h : ∀ (L : Nat → Bool) (x : Nat → Value) (w : World), (∀ j, j < k → L j = true) → WI L w → (∀ j, j < k → RV vals j (x j) w) → ∀ K : Act → World → Prop, (∀ a' w', Q .normal a' w' → K a' w') →
   if Region.wanted o (yielded ops (T x)) = true then Oper.wp P o { tmps := T x, defers := d } w K Q else K (Act.put { tmps := T x, defers := d } o.dst undef) w) : AutoLFrom P ops Q T d vals WI k [o] :=
 steps_last fun L x w _ hall hw hR K hK => h L x w hall hw hR K hK

/-- THE REGION: apply it; T and the values come by unification -/
theorem wp_region_autoL {id : Nat} {a : Act} {w : World} (slots : List Nat) (vals : List Value) (WI : (Nat → Bool) → World → Prop) (hm : P.follows .mixedOrders = true) (hT : ∀ y, setAll a.tmps slots 0 y = T y) (hok : goodOrder ops = true) (hn : 0 < ops.size)
  (hw : ∀ L : Nat → Bool, (∀ j, j < ops.size → L j = false) → WI L w.drew)
  (hs : AutoLFrom P ops Q T a.defers vals WI 0 ops.toList) : (Code.region id ops true).wp P Q a w := by
 refine wp_region_by hm T (RV vals) WI (fun _ _ _ => True) hok hn (fun _ _ _ _ _ _ _ _ _ _ _ h => h) (fun j => a.tmps.getD (slots.getD j 0) undef) ?_ hw hs
 rw [← hT, setAll_self]
 intro j s hj
 simp [List.getD, hj]
end
end Go.Proofs.YteaincdeoajkeaaGreatDoor.Ut
end
