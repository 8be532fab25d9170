/- Several texts in one: Rg Ra -/
import Derived.Test.YteaincdeoajkeaaGreatDoorV01
import Derived.RangeFuncNested
import Derived.RegionTactic
import Derived.OrdersIn
section
/- A region that draws its order of evaluation, by what each operation yields and what all of them keep: one case for each operation, whatever the order; the same in a round of a range over a function. -/
namespace Go.Proofs.YteaincdeoajkeaaGreatDoor.Ut
open Go.RowKit

/-- the operations that must come ahead of o -/
def depsOf (o : Oper) : List Nat := (o.after.toList.filter fun e => Region.binds .any e).map (·.on)
/-- all that comes ahead lies ahead; all but the last one is wanted by one behind it -/
def goodOrder (ops : Array Oper) : Bool :=
 ((List.range ops.size).all fun i => ((ops[i]?).map fun o => (depsOf o).all fun j => decide (j < i)).getD true) &&
 ((List.range (ops.size - 1)).all fun j => (List.range ops.size).any fun k => decide (j < k) && ((ops[k]?).map fun o => (depsOf o).contains j).getD false)

/-- whatever is listed, so is what comes ahead of it -/
def Closed (ops : Array Oper) (L : Nat → Bool) : Prop := ∀ k o, ops[k]? = some o → L k = true → ∀ j ∈ depsOf o, L j = true
/-- all that stands ahead of number k must come ahead of it -/
def allBefore (ops : Array Oper) (k : Nat) : Bool := (List.range k).all fun j => (List.range (k + 1)).any fun m => decide (j < m) && ((ops[m]?).map fun o => (depsOf o).contains j).getD false
theorem Closed.all {ops : Array Oper} {L : Nat → Bool} (h : Closed ops L) {k : Nat} (hk : allBefore ops k = true) (hL : L k = true) : ∀ j, j < k → L j = true := by
 unfold allBefore at hk
 simp only [List.all_eq_true, List.mem_range, List.any_eq_true, Bool.and_eq_true, decide_eq_true_eq] at hk
 have key : ∀ m j, k - j = m → j < k → L j = true := by
  intro m
  induction m using Nat.strongRecOn with
  | _ m ihm =>
   intro j hjm hj
   obtain ⟨q, hq, hjq, hc⟩ := hk j hj
   cases ho : ops[q]? with
   | none => rw [ho] at hc; cases hc
   | some o =>
    have hmem : j ∈ depsOf o := by simpa [ho] using hc
    by_cases e : q = k
    ·subst e; exact h q o ho hL j hmem
    ·exact h q o ho (ihm (k - q) (by omega) q rfl (by omega)) j hmem
 exact fun j hj => key _ j rfl hj
theorem Closed.none {ops : Array Oper} {L : Nat → Bool} (h : Closed ops L) {k i : Nat} (hk : allBefore ops k = true) (hi : i < k) (hL : L i = false) : L k = false := by
 cases e : L k with
 | false => rfl
 | true => rw [h.all hk e i hi] at hL; cases hL

def upd (x : Nat → Value) (i : Nat) (v : Value) : Nat → Value := fun j => if j = i then v else x j

section
variable {P : Program} {ops : Array Oper} {Q : Exit → Act → World → Prop} {T : (Nat → Value) → Array Value} {d : List Deferred} {R : Nat → Value → World → Prop} {WI : (Nat → Bool) → World → Prop} {Le : Nat → World → World → Prop}

/-- what is asked of operation o, number i -/
def StepOk (P : Program) (ops : Array Oper) (Q : Exit → Act → World → Prop) (T : (Nat → Value) → Array Value) (d : List Deferred) (R : Nat → Value → World → Prop) (WI : (Nat → Bool) → World → Prop) (Le : Nat → World → World → Prop) (i : Nat) (o : Oper) : Prop :=
 ∀ (L : Nat → Bool) (x : Nat → Value) (w : World), L i = false → Closed ops L → WI L w → (∀ j ∈ depsOf o, R j (x j) w) → ∀ K : Act → World → Prop, (∀ v w' tm, tm = T (upd x i v) → R i v w' → WI (fun j => if j = i then true else L j) w' → Le i w w' → K { tmps := tm, defers := d } w') →
  if Region.wanted o (yielded ops (T x)) = true then Oper.wp P o { tmps := T x, defers := d } w K Q else K (Act.put { tmps := T x, defers := d } o.dst undef) w
/-- .. of the last one -/
def LastOk (P : Program) (ops : Array Oper) (Q : Exit → Act → World → Prop) (T : (Nat → Value) → Array Value) (d : List Deferred) (R : Nat → Value → World → Prop) (WI : (Nat → Bool) → World → Prop) (i : Nat) (o : Oper) : Prop :=
 ∀ (L : Nat → Bool) (x : Nat → Value) (w : World), L i = false → (∀ j, j < i → L j = true) → WI L w → (∀ j, j < i → R j (x j) w) → ∀ K : Act → World → Prop, (∀ a' w', Q .normal a' w' → K a' w') →
  if Region.wanted o (yielded ops (T x)) = true then Oper.wp P o { tmps := T x, defers := d } w K Q else K (Act.put { tmps := T x, defers := d } o.dst undef) w

/-- the operations from number k on -/
def StepsFrom (P : Program) (ops : Array Oper) (Q : Exit → Act → World → Prop) (T : (Nat → Value) → Array Value) (d : List Deferred) (R : Nat → Value → World → Prop) (WI : (Nat → Bool) → World → Prop) (Le : Nat → World → World → Prop) (k : Nat) (l : List Oper) : Prop :=
 ∀ j o, l[j]? = some o → if j + 1 = l.length then LastOk P ops Q T d R WI (k + j) o else StepOk P ops Q T d R WI Le (k + j) o

/-! ### In a round -/
end
end Go.Proofs.YteaincdeoajkeaaGreatDoor.Ut
end
section
/- Drawn regions with neither the frame nor the operations' values written out: both are found as the walk goes. -/
namespace Go.Proofs.YteaincdeoajkeaaGreatDoor.Ut
open Go.RowKit

def nth : List Value → Nat → Value
 | [], _ => undef
 | v :: _, 0 => v
 | _ :: l, n + 1 => nth l n
def RV (vals : List Value) : Nat → Value → World → Prop := fun j v _ => v = nth vals j
/-- the frame F with y k, y (k + 1), .. in the slots -/
def setAll (F : Array Value) : List Nat → Nat → (Nat → Value) → Array Value
 | [], _, _ => F
 | s :: l, k, y => setAll (F.setIfInBounds s (y k)) l (k + 1) y
section
variable {P : Program} {ops : Array Oper} {Q : Exit → Act → World → Prop} {T : (Nat → Value) → Array Value} {d : List Deferred} {WI : World → Prop} {vals : List Value}

/-- what the operations from number k on are asked, by values alone -/
def AutoFrom (P : Program) (ops : Array Oper) (Q : Exit → Act → World → Prop) (T : (Nat → Value) → Array Value) (d : List Deferred) (vals : List Value) (WI : World → Prop) (k : Nat) (l : List Oper) : Prop :=
 StepsFrom P ops Q T d (RV vals) (fun _ W => WI W) (fun _ _ _ => True) k l

end
end Go.Proofs.YteaincdeoajkeaaGreatDoor.Ut
end
