/- Drawn regions with neither the frame nor the operations' values written out: both are found as the walk goes. -/
import Derived.Test.YtkkolbdapoejkaaRg
namespace Go.Proofs.Ytkkolbdapoejkaa.Ut
open Go.RowKit

def nth : List Value → Nat → Value
  | [], _ => undef
  | v :: _, 0 => v
  | _ :: l, n + 1 => nth l n
theorem hd_nth' : ∀ {vals : List Value} {j : Nat} {v u : Value}, v = nth vals j → vals[j]? = some u → v = u
  | [], j, _, _, _, hu => by simp at hu
  | a :: l, 0, _, _, h, hu => by
    simp at hu
    rw [h, ← hu]
    rfl
  | a :: l, j + 1, _, _, h, hu => hd_nth' (vals := l) (j := j) h (by simpa using hu)

def RV (vals : List Value) : Nat → Value → World → Prop := fun j v _ => v = nth vals j
theorem hd_nth {vals : List Value} {j : Nat} {v u : Value} {w : World} (h : RV vals j v w) (hu : vals[j]? = some u) : v = u := hd_nth' h hu
/-- the frame F with y k, y (k + 1), .. in the slots -/
def setAll (F : Array Value) : List Nat → Nat → (Nat → Value) → Array Value
  | [], _, _ => F
  | s :: l, k, y => setAll (F.setIfInBounds s (y k)) l (k + 1) y
theorem set_self (F : Array Value) (s : Nat) : F.setIfInBounds s (F.getD s undef) = F := by
  obtain ⟨l⟩ := F
  by_cases h : s < l.length
  · simp [Array.getD, h]
  · simp only [List.setIfInBounds_toArray]
    rw [List.set_eq_of_length_le (by omega)]
theorem setAll_self (F : Array Value) : ∀ (l : List Nat) (k : Nat) (y : Nat → Value), (∀ j s, l[j]? = some s → y (k + j) = F.getD s undef) → setAll F l k y = F
  | [], _, _, _ => rfl
  | s :: l, k, y, h => by
    have h0 := h 0 s rfl
    rw [Nat.add_zero] at h0
    unfold setAll
    rw [h0, set_self]
    exact setAll_self F l (k + 1) y fun j s hj => by
      have := h (j + 1) s (by simpa using hj)
      rwa [show k + 1 + j = k + (j + 1) by omega]

section
variable {P : Program} {ops : Array Oper} {Q : Exit → Act → World → Prop} {T : (Nat → Value) → Array Value} {d : List Deferred} {WI : World → Prop} {vals : List Value}

/-- what the operations from number k on are asked, by values alone -/
def AutoFrom (P : Program) (ops : Array Oper) (Q : Exit → Act → World → Prop) (T : (Nat → Value) → Array Value) (d : List Deferred) (vals : List Value) (WI : World → Prop) (k : Nat) (l : List Oper) : Prop :=
  StepsFrom P ops Q T d (RV vals) (fun _ W => WI W) (fun _ _ _ => True) k l

theorem auto_op {k : Nat} {o o' : Oper} {l : List Oper} (s : Nat) (ds : List Nat) (hd : depsOf o = ds)
    (h : ∀ (x : Nat → Value) (w : World), WI w → (∀ j ∈ ds, RV vals j (x j) w) → ∀ K : Act → World → Prop, (∀ tm w', tm = T (upd x k (tm.getD s undef)) → tm.getD s undef = nth vals k → WI w' → K { tmps := tm, defers := d } w') →
      if Region.wanted o (yielded ops (T x)) = true then Oper.wp P o { tmps := T x, defers := d } w K Q else K (Act.put { tmps := T x, defers := d } o.dst undef) w)
    (hs : AutoFrom P ops Q T d vals WI (k + 1) (o' :: l)) : AutoFrom P ops Q T d vals WI k (o :: o' :: l) := by
  refine steps_op ds hd (fun L x w _ _ hw hR K hK => h x w hw hR K fun tm w' ht hv hw' => ?_) hs
  exact hK _ w' tm ht hv hw' trivial
theorem auto_last {k : Nat} {o : Oper}
    (h : ∀ (x : Nat → Value) (w : World), WI w → (∀ j, j < k → RV vals j (x j) w) → ∀ K : Act → World → Prop, (∀ a' w', Q .normal a' w' → K a' w') →
      if Region.wanted o (yielded ops (T x)) = true then Oper.wp P o { tmps := T x, defers := d } w K Q else K (Act.put { tmps := T x, defers := d } o.dst undef) w) : AutoFrom P ops Q T d vals WI k [o] :=
  steps_last fun _ x w _ _ hw hR K hK => h x w hw hR K hK

/-- THE REGION: apply it; T and the values come by unification -/
theorem wp_region_auto {id : Nat} {a : Act} {w : World} (slots : List Nat) (vals : List Value) (WI : World → Prop) (hm : P.follows .mixedOrders = true) (hT : ∀ y, setAll a.tmps slots 0 y = T y) (hok : goodOrder ops = true) (hn : 0 < ops.size) (hw : WI w.drew)
    (hs : AutoFrom P ops Q T a.defers vals WI 0 ops.toList) : (Code.region id ops true).wp P Q a w := by
  refine wp_region_by hm T (RV vals) (fun _ W => WI W) (fun _ _ _ => True) hok hn (fun _ _ _ _ _ _ _ _ _ _ _ h => h) (fun j => a.tmps.getD (slots.getD j 0) undef) ?_ (fun _ _ => hw) hs
  rw [← hT, setAll_self]
  intro j s hj
  simp [List.getD, hj]
end
end Go.Proofs.Ytkkolbdapoejkaa.Ut
