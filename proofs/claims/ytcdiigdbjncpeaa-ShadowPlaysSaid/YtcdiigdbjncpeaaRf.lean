/- Drawn regions in which one operation's value depends on the order drawn (a call that makes memory and answers with a slice of it): what is known of it (any property that later blocks leave) stands in its value's place. Serves all packages. -/
import Derived.Test.YtcdiigdbjncpeaaRb
namespace Go.Proofs.Ytcdiigdbjncpeaa.Ut
open Go.RowKit
set_option linter.unusedVariables false

section
variable {P : Program} {ops : Array Oper} {Q : Exit → Act → World → Prop} {T : (Nat → Value) → Array Value} {d : List Deferred}
/-- what each operation yields: of number b no more than Pb -/
def ExR (Pb : Value → World → Prop) (vals : List Value) (b : Nat) (j : Nat) (v : Value) (w : World) : Prop := if j = b then Pb v w else v = nth vals j
variable {W : World} {Pb : Value → World → Prop} {vals : List Value} {b : Nat}
def ExFrom (P : Program) (ops : Array Oper) (Q : Exit → Act → World → Prop) (T : (Nat → Value) → Array Value) (d : List Deferred) (W : World) (Pb : Value → World → Prop) (vals : List Value) (b : Nat) (k : Nat) (l : List Oper) : Prop :=
  StepsFrom P ops Q T d (ExR Pb vals b) (fun _ w => Below W.heap.size W w) (fun _ w w' => Below w.heap.size w w') k l
theorem exR_nth {j : Nat} {v u : Value} {w : World} (h : ExR Pb vals b j v w) (hb : j ≠ b) (hu : vals[j]? = some u) : v = u := by
  unfold ExR at h
  rw [if_neg hb] at h
  exact hd_nth' h hu
theorem exR_b {v : Value} {w : World} (h : ExR Pb vals b b v w) : Pb v w := by
  unfold ExR at h
  rwa [if_pos rfl] at h
theorem ex_op {k : Nat} {o o' : Oper} {l : List Oper} (s : Nat) (ds : List Nat) (hd : depsOf o = ds) (kb : k ≠ b)
    (h : ∀ (x : Nat → Value) (w : World), Below W.heap.size W w → (∀ j ∈ ds, ExR Pb vals b j (x j) w) → ∀ K : Act → World → Prop, (∀ tm w', tm = T (upd x k (tm.getD s undef)) → tm.getD s undef = nth vals k → Below w.heap.size w w' → K { tmps := tm, defers := d } w') →
      if Region.wanted o (yielded ops (T x)) = true then Oper.wp P o { tmps := T x, defers := d } w K Q else K (Act.put { tmps := T x, defers := d } o.dst undef) w)
    (hs : ExFrom P ops Q T d W Pb vals b (k + 1) (o' :: l)) : ExFrom P ops Q T d W Pb vals b k (o :: o' :: l) := by
  refine steps_op ds hd (fun L x w _ _ hw hR K hK => h x w hw hR K fun tm w' ht hv hb => ?_) hs
  refine hK _ w' tm ht ?_ (hw.trans (hb.mono hw.size)) hb
  unfold ExR; rw [if_neg kb]; exact hv
/-- the operation whose value is not known ahead -/
theorem ex_one {k : Nat} {o o' : Oper} {l : List Oper} (s : Nat) (ds : List Nat) (hd : depsOf o = ds) (kb : k = b)
    (h : ∀ (x : Nat → Value) (w : World), Below W.heap.size W w → (∀ j ∈ ds, ExR Pb vals b j (x j) w) → ∀ K : Act → World → Prop, (∀ tm w', tm = T (upd x k (tm.getD s undef)) → Pb (tm.getD s undef) w' → Below w.heap.size w w' → K { tmps := tm, defers := d } w') →
      if Region.wanted o (yielded ops (T x)) = true then Oper.wp P o { tmps := T x, defers := d } w K Q else K (Act.put { tmps := T x, defers := d } o.dst undef) w)
    (hs : ExFrom P ops Q T d W Pb vals b (k + 1) (o' :: l)) : ExFrom P ops Q T d W Pb vals b k (o :: o' :: l) := by
  refine steps_op ds hd (fun L x w _ _ hw hR K hK => h x w hw hR K fun tm w' ht hv hb => ?_) hs
  refine hK _ w' tm ht ?_ (hw.trans (hb.mono hw.size)) hb
  unfold ExR; rw [if_pos kb]; exact hv
theorem ex_last {k : Nat} {o : Oper}
    (h : ∀ (x : Nat → Value) (w : World), Below W.heap.size W w → (∀ j, j < k → ExR Pb vals b j (x j) w) → ∀ K : Act → World → Prop, (∀ a' w', Q .normal a' w' → K a' w') →
      if Region.wanted o (yielded ops (T x)) = true then Oper.wp P o { tmps := T x, defers := d } w K Q else K (Act.put { tmps := T x, defers := d } o.dst undef) w) : ExFrom P ops Q T d W Pb vals b k [o] :=
  steps_last fun L x w _ _ hw hR K hK => h x w hw hR K hK
/-- THE REGION: apply it; T and the values come by unification -/
theorem wp_region_ex {id : Nat} {act : Act} {w : World} (slots : List Nat) (vals : List Value) (b : Nat) (Pb : Value → World → Prop) (hPb : ∀ v w w', Below w.heap.size w w' → Pb v w → Pb v w') (hm : P.follows .mixedOrders = true) (hT : ∀ y, setAll act.tmps slots 0 y = T y) (hok : goodOrder ops = true) (hn : 0 < ops.size)
    (hs : ExFrom P ops Q T act.defers w Pb vals b 0 ops.toList) : (Code.region id ops true).wp P Q act w := by
  refine wp_region_by hm T (ExR Pb vals b) (fun _ v => Below w.heap.size w v) (fun _ v v' => Below v.heap.size v v') hok hn ?_ (fun j => act.tmps.getD (slots.getD j 0) undef) ?_ (fun _ _ => (Below.refl _ _).drew) hs
  · intro i j L v u u' _ _ _ _ hle hR
    unfold ExR at hR ⊢
    split at hR
    · rename_i hj
      rw [if_pos hj]
      exact hPb _ _ _ hle hR
    · rename_i hj
      rw [if_neg hj]; exact hR
  · rw [← hT, setAll_self]
    intro j s hj
    simp [List.getD, hj]
end
end Go.Proofs.Ytcdiigdbjncpeaa.Ut
