/- As XRf, with any number of operations whose values depend on the order drawn. Serves all packages. -/
import Derived.Test.YtcdiigdbjncpeaaRb
namespace Go.Proofs.Ytcdiigdbjncpeaa.Ut
open Go.RowKit
set_option linter.unusedVariables false

section
variable {P : Program} {ops : Array Oper} {Q : Exit → Act → World → Prop} {T : (Nat → Value) → Array Value} {d : List Deferred}
/-- what each operation yields: where PB says a property, no more than that -/
def EvR (PB : Nat → Option (Value → World → Prop)) (vals : List Value) (j : Nat) (v : Value) (w : World) : Prop := match PB j with | some p => p v w | none => v = nth vals j
variable {W : World} {PB : Nat → Option (Value → World → Prop)} {vals : List Value} {b : Nat}
def EvFrom (P : Program) (ops : Array Oper) (Q : Exit → Act → World → Prop) (T : (Nat → Value) → Array Value) (d : List Deferred) (W : World) (PB : Nat → Option (Value → World → Prop)) (vals : List Value) (k : Nat) (l : List Oper) : Prop :=
  StepsFrom P ops Q T d (EvR PB vals) (fun _ w => Below W.heap.size W w) (fun _ w w' => Below w.heap.size w w') k l
theorem evR_nth {j : Nat} {v u : Value} {w : World} (h : EvR PB vals j v w) (hb : PB j = none) (hu : vals[j]? = some u) : v = u := by
  unfold EvR at h
  rw [hb] at h
  exact hd_nth' h hu
theorem evR_b {j : Nat} {v : Value} {w : World} {p : Value → World → Prop} (h : EvR PB vals j v w) (hb : PB j = some p) : p v w := by
  unfold EvR at h
  rwa [hb] at h
theorem ev_op {k : Nat} {o o' : Oper} {l : List Oper} (s : Nat) (ds : List Nat) (hd : depsOf o = ds) (kb : PB k = none)
    (h : ∀ (x : Nat → Value) (w : World), Below W.heap.size W w → (∀ j ∈ ds, EvR PB vals j (x j) w) → ∀ K : Act → World → Prop, (∀ tm w', tm = T (upd x k (tm.getD s undef)) → tm.getD s undef = nth vals k → Below w.heap.size w w' → K { tmps := tm, defers := d } w') →
      if Region.wanted o (yielded ops (T x)) = true then Oper.wp P o { tmps := T x, defers := d } w K Q else K (Act.put { tmps := T x, defers := d } o.dst undef) w)
    (hs : EvFrom P ops Q T d W PB vals (k + 1) (o' :: l)) : EvFrom P ops Q T d W PB vals k (o :: o' :: l) := by
  refine steps_op ds hd (fun L x w _ _ hw hR K hK => h x w hw hR K fun tm w' ht hv hb => ?_) hs
  refine hK _ w' tm ht ?_ (hw.trans (hb.mono hw.size)) hb
  unfold EvR; rw [kb]; exact hv
/-- an operation whose value is not known ahead -/
theorem ev_one {p : Value → World → Prop} {k : Nat} {o o' : Oper} {l : List Oper} (s : Nat) (ds : List Nat) (hd : depsOf o = ds) (kb : PB k = some p)
    (h : ∀ (x : Nat → Value) (w : World), Below W.heap.size W w → (∀ j ∈ ds, EvR PB vals j (x j) w) → ∀ K : Act → World → Prop, (∀ tm w', tm = T (upd x k (tm.getD s undef)) → p (tm.getD s undef) w' → Below w.heap.size w w' → K { tmps := tm, defers := d } w') →
      if Region.wanted o (yielded ops (T x)) = true then Oper.wp P o { tmps := T x, defers := d } w K Q else K (Act.put { tmps := T x, defers := d } o.dst undef) w)
    (hs : EvFrom P ops Q T d W PB vals (k + 1) (o' :: l)) : EvFrom P ops Q T d W PB vals k (o :: o' :: l) := by
  refine steps_op ds hd (fun L x w _ _ hw hR K hK => h x w hw hR K fun tm w' ht hv hb => ?_) hs
  refine hK _ w' tm ht ?_ (hw.trans (hb.mono hw.size)) hb
  unfold EvR; rw [kb]; exact hv
theorem ev_last {k : Nat} {o : Oper}
    (h : ∀ (x : Nat → Value) (w : World), Below W.heap.size W w → (∀ j, j < k → EvR PB vals j (x j) w) → ∀ K : Act → World → Prop, (∀ a' w', Q .normal a' w' → K a' w') →
      if Region.wanted o (yielded ops (T x)) = true then Oper.wp P o { tmps := T x, defers := d } w K Q else K (Act.put { tmps := T x, defers := d } o.dst undef) w) : EvFrom P ops Q T d W PB vals k [o] :=
  steps_last fun L x w _ _ hw hR K hK => h x w hw hR K hK
/-- THE REGION: apply it; T and the values come by unification -/
theorem wp_region_ev {id : Nat} {act : Act} {w : World} (slots : List Nat) (vals : List Value) (PB : Nat → Option (Value → World → Prop)) (hPB : ∀ j p, PB j = some p → ∀ v w w', Below w.heap.size w w' → p v w → p v w') (hm : P.follows .mixedOrders = true) (hT : ∀ y, setAll act.tmps slots 0 y = T y) (hok : goodOrder ops = true) (hn : 0 < ops.size)
    (hs : EvFrom P ops Q T act.defers w PB vals 0 ops.toList) : (Code.region id ops true).wp P Q act w := by
  refine wp_region_by hm T (EvR PB vals) (fun _ v => Below w.heap.size w v) (fun _ v v' => Below v.heap.size v v') hok hn ?_ (fun j => act.tmps.getD (slots.getD j 0) undef) ?_ (fun _ _ => (Below.refl _ _).drew) hs
  · intro i j L v u u' _ _ _ _ hle hR
    unfold EvR at hR ⊢
    cases hj : PB j with
    | none => rw [hj] at hR; exact hR
    | some p => rw [hj] at hR; exact hPB j p hj _ _ _ hle hR
  · rw [← hT, setAll_self]
    intro j s hj
    simp [List.getD, hj]
end
end Go.Proofs.Ytcdiigdbjncpeaa.Ut
