/- Drawn regions in which one slice is built, whose place in memory depends on the order drawn. Serves all packages. -/
import Derived.Test.YtfdekfobcohcjaaDoorRb
namespace Go.Proofs.YtfdekfobcohcjaaDoor.Ut
open Go.RowKit
set_option linter.unusedVariables false

section
variable {P : Program} {ops : Array Oper} {Q : Exit → Act → World → Prop} {T : (Nat → Value) → Array Value} {d : List Deferred}
/-- what each operation yields: number b makes a slice of n cells that hold cells -/
def BsR (W : World) (n : Nat) (cells : List Value) (vals : List Value) (b : Nat) (j : Nat) (v : Value) (w : World) : Prop :=
  if j = b then ∃ g, v = .slice (some ⟨g, 0, none⟩) n n ∧ W.heap.size ≤ g ∧ g < w.heap.size ∧ ∀ i u, cells[i]? = some u → w.cell? ⟨g, i, none⟩ = some u
  else v = nth vals j
variable {W : World} {n : Nat} {cells vals : List Value} {b : Nat}
def BsFrom (P : Program) (ops : Array Oper) (Q : Exit → Act → World → Prop) (T : (Nat → Value) → Array Value) (d : List Deferred) (W : World) (n : Nat) (cells vals : List Value) (b : Nat) (k : Nat) (l : List Oper) : Prop :=
  StepsFrom P ops Q T d (BsR W n cells vals b) (fun _ w => Below W.heap.size W w) (fun _ w w' => Below w.heap.size w w') k l
theorem bsR_nth {j : Nat} {v u : Value} {w : World} (h : BsR W n cells vals b j v w) (hb : j ≠ b) (hu : vals[j]? = some u) : v = u := by
  unfold BsR at h
  rw [if_neg hb] at h
  exact hd_nth' h hu
theorem bsR_slice {v : Value} {w : World} (h : BsR W n cells vals b b v w) : ∃ g, v = .slice (some ⟨g, 0, none⟩) n n ∧ W.heap.size ≤ g ∧ g < w.heap.size ∧ ∀ i u, cells[i]? = some u → w.cell? ⟨g, i, none⟩ = some u := by
  unfold BsR at h
  rwa [if_pos rfl] at h
/-- an operation that yields a value known ahead, a call among them -/
theorem bs_op {k : Nat} {o o' : Oper} {l : List Oper} (s : Nat) (ds : List Nat) (hd : depsOf o = ds) (kb : k ≠ b)
    (h : ∀ (x : Nat → Value) (w : World), Below W.heap.size W w → (∀ j ∈ ds, BsR W n cells vals b j (x j) w) → ∀ K : Act → World → Prop, (∀ tm w', tm = T (upd x k (tm.getD s undef)) → tm.getD s undef = nth vals k → Below w.heap.size w w' → K { tmps := tm, defers := d } w') →
      if Region.wanted o (yielded ops (T x)) = true then Oper.wp P o { tmps := T x, defers := d } w K Q else K (Act.put { tmps := T x, defers := d } o.dst undef) w)
    (hs : BsFrom P ops Q T d W n cells vals b (k + 1) (o' :: l)) : BsFrom P ops Q T d W n cells vals b k (o :: o' :: l) := by
  refine steps_op ds hd (fun L x w _ _ hw hR K hK => h x w hw hR K fun tm w' ht hv hb => ?_) hs
  refine hK _ w' tm ht ?_ (hw.trans (hb.mono hw.size)) hb
  unfold BsR; rw [if_neg kb]; exact hv
/-- the slice is built -/
theorem bs_build {k : Nat} {o o' : Oper} {l : List Oper} (s : Nat) (ds : List Nat) (hd : depsOf o = ds) (kb : k = b) (ty : TypeId)
    (h : ∀ (x : Nat → Value) (w : World), Below W.heap.size W w → (∀ j ∈ ds, BsR W n cells vals b j (x j) w) → ∀ K : Act → World → Prop, (∀ tm, tm = T (upd x k (tm.getD s undef)) → tm.getD s undef = .slice (some ⟨w.heap.size, 0, none⟩) n n → K { tmps := tm, defers := d } (w.alloc (.cells cells.toArray ty (0, 0)))) →
      if Region.wanted o (yielded ops (T x)) = true then Oper.wp P o { tmps := T x, defers := d } w K Q else K (Act.put { tmps := T x, defers := d } o.dst undef) w)
    (hs : BsFrom P ops Q T d W n cells vals b (k + 1) (o' :: l)) : BsFrom P ops Q T d W n cells vals b k (o :: o' :: l) := by
  refine steps_op ds hd (fun L x w _ _ hw hR K hK => h x w hw hR K fun tm ht hv => ?_) hs
  refine hK _ _ tm ht ?_ (hw.alloc hw.size _) ((Below.refl _ _).alloc (Nat.le_refl _) _)
  unfold BsR; rw [if_pos kb]
  refine ⟨_, hv, hw.size, by simp, fun i u hi => ?_⟩
  have := cells_new w cells ty i u hi
  rwa [add_plain] at this
theorem bs_last {k : Nat} {o : Oper}
    (h : ∀ (x : Nat → Value) (w : World), Below W.heap.size W w → (∀ j, j < k → BsR W n cells vals b j (x j) w) → ∀ K : Act → World → Prop, (∀ a' w', Q .normal a' w' → K a' w') →
      if Region.wanted o (yielded ops (T x)) = true then Oper.wp P o { tmps := T x, defers := d } w K Q else K (Act.put { tmps := T x, defers := d } o.dst undef) w) : BsFrom P ops Q T d W n cells vals b k [o] :=
  steps_last fun L x w _ _ hw hR K hK => h x w hw hR K hK
/-- THE REGION: apply it; T, the values and the slice's cells come by unification -/
theorem wp_region_bs {id : Nat} {act : Act} {w : World} (slots : List Nat) (vals : List Value) (n : Nat) (cells : List Value) (b : Nat) (hm : P.follows .mixedOrders = true) (hT : ∀ y, setAll act.tmps slots 0 y = T y) (hok : goodOrder ops = true) (hn : 0 < ops.size)
    (hs : BsFrom P ops Q T act.defers w n cells vals b 0 ops.toList) : (Code.region id ops true).wp P Q act w := by
  refine wp_region_by hm T (BsR w n cells vals b) (fun _ v => Below w.heap.size w v) (fun _ v v' => Below v.heap.size v v') hok hn ?_ (fun j => act.tmps.getD (slots.getD j 0) undef) ?_ (fun _ _ => (Below.refl _ _).drew) hs
  · intro i j L v u u' _ _ _ _ hle hR
    unfold BsR at hR ⊢
    split at hR
    · rename_i hj
      rw [if_pos hj]
      obtain ⟨g, e1, e2, e3, e4⟩ := hR
      exact ⟨g, e1, e2, Nat.lt_of_lt_of_le e3 hle.size, fun i u hu => (hle.cell (p := ⟨g, i, none⟩) e3).trans (e4 i u hu)⟩
    · rename_i hj
      rw [if_neg hj]; exact hR
  · rw [← hT, setAll_self]
    intro j s hj
    simp [List.getD, hj]
end
end Go.Proofs.YtfdekfobcohcjaaDoor.Ut
