/- Several texts in one: Ea Rb -/
import Derived.Test.YteaincdeoajkeaaGreatDoorV02
import Derived.Lib.OthersKept
import Derived.Test.YteaincdeoajkeaaGreatDoorV05
section
/- Rows of texts: a slice of strings that came in or was made. Serves all packages. -/
namespace Go.Proofs.YteaincdeoajkeaaGreatDoor.Ut
open Go.RowKit

/-- bytes as a text -/
def tb (l : List UInt8) : ByteArray := ⟨l.toArray⟩
def encS (l : List UInt8) : Value := .string (tb l)
/-- the slice at a of n texts reads as ts, and lies below block B -/
def RowS (w : World) (B : Nat) (a : Option Addr) (n : Nat) (ts : List (List UInt8)) : Prop :=
 ts.length = n ∧ ∀ i, i < n → ∃ x, a = some x ∧ x.block < B ∧ w.cell? (x.add i) = some (encS (ts.getD i []))
theorem RowS.below {w w' : World} {B n : Nat} {a : Option Addr} {ts : List (List UInt8)} (h : RowS w B a n ts) (hb : Below B w w') : RowS w' B a n ts :=
 ⟨h.1, fun i hi => by
  obtain ⟨x, e, hx, hc⟩ := h.2 i hi
  exact ⟨x, e, hx, (hb.cell (p := x.add i) (by rw [block_of_add]; exact hx)).trans hc⟩⟩
theorem RowS.more {w : World} {B B' n : Nat} {a : Option Addr} {ts : List (List UInt8)} (h : RowS w B a n ts) (hB : B ≤ B') : RowS w B' a n ts :=
 ⟨h.1, fun i hi => by
  obtain ⟨x, e, hx, hc⟩ := h.2 i hi
  exact ⟨x, e, by omega, hc⟩⟩
theorem RowS.nil (w : World) (B : Nat) (a : Option Addr) : RowS w B a 0 [] := ⟨rfl, fun i hi => absurd hi (by omega)⟩
/-- what lies at place i -/
theorem RowS.at {w : World} {B n : Nat} {a : Option Addr} {ts : List (List UInt8)} (h : RowS w B a n ts) (i : Nat) (hi : i < n) : ∃ x, a = some x ∧ x.block < B ∧ w.cell? (x.add i) = some (.string (tb (ts.getD i []))) := h.2 i hi
/-- what is behind the first ones -/
theorem RowS.drop {w : World} {B n : Nat} {x : Addr} {ts : List (List UInt8)} (h : RowS w B (some x) n ts) (i : Nat) (hi : i ≤ n) : RowS w B (some (x.add i)) (n - i) (ts.drop i) := by
 refine ⟨by simp [h.1], fun j hj => ?_⟩
 obtain ⟨y, e, hx, hc⟩ := h.2 (i + j) (by omega)
 obtain rfl : x = y := by injection e
 refine ⟨_, rfl, by rw [block_of_add]; exact hx, ?_⟩
 rw [add_of_add, hc]
 simp [List.getD]

/-- what the call owns, as a list of texts -/
def OwnS (w : World) (B : Nat) (e : TypeId) (v : Value) (n : Nat) (ts : List (List UInt8)) : Prop := w.ownsRow B e 1 v n (ts.map encS)
section
variable {w w' : World} {B n : Nat} {e : TypeId} {v : Value} {ts : List (List UInt8)}
theorem OwnS.nil (w : World) (B : Nat) (e : TypeId) : OwnS w B e (.slice none 0 0) 0 [] := World.ownsRow_nil _ _ _ _
theorem OwnS.below (h : OwnS w B e v n ts) (hb : Below w.heap.size w w') : OwnS w' B e v n ts := ownsRow_below h hb
theorem OwnS.alloc (h : OwnS w B e v n ts) (o : Obj) : OwnS (w.alloc o) B e v n ts := World.ownsRow.alloc h o
theorem OwnS.len (h : OwnS w B e v n ts) : ts.length = n := by have := h.1; simpa using this
theorem OwnS.row (h : OwnS w B e v n ts) : ∃ a cap, v = .slice a n cap ∧ n ≤ cap ∧ cap ≤ maxLen ∧ RowS w w.heap.size a n ts := by
 have hl := h.len
 rcases h.2 with ⟨rfl, rfl⟩ | ⟨g, cap, cur, rfl, hb, hg, hnc, hm, hsz, hcur⟩
 ·exact ⟨none, 0, rfl, by omega, by unfold maxLen; omega, hl, fun i hi => absurd hi (by omega)⟩
 ·refine ⟨some ⟨g, 0, none⟩, cap, rfl, hnc, hm, hl, fun i hi => ⟨_, rfl, (Array.getElem?_eq_some_iff.1 hg).1, ?_⟩⟩
  rw [add_plain, World.ownsRow.cellAt h i (by omega)]
  simp [List.getD, show i < ts.length by omega]
end
end Go.Proofs.YteaincdeoajkeaaGreatDoor.Ut
end
section
/- Rows of records that the call owns, and drawn regions in which one record is appended to such a row. Serves all packages. -/
namespace Go.Proofs.YteaincdeoajkeaaGreatDoor.Ut
open Go.RowKit
set_option linter.unusedVariables false

def encI (x : List Int) : List Value := x.map (Value.int .i64)
def encR (xs : List (List Int)) : List Value := (xs.map encI).flatten
/-- what the call owns, as a list of records of k integers -/
def OwnT (k : Nat) (w : World) (B : Nat) (e : TypeId) (v : Value) (xs : List (List Int)) : Prop := w.ownsRow B e k v xs.length (encR xs) ∧ ∀ x ∈ xs, x.length = k
theorem OwnT.nil (k : Nat) (w : World) (B : Nat) (e : TypeId) : OwnT k w B e (.slice none 0 0) [] := ⟨World.ownsRow_nil _ _ _ _, fun x h => by cases h⟩
theorem ownsRow_belowK {w w' : World} {B n k : Nat} {e : TypeId} {v : Value} {xs : List Value} (h : w.ownsRow B e k v n xs) (hb : Below w.heap.size w w') : w'.ownsRow B e k v n xs := by
 refine ⟨h.1, ?_⟩
 rcases h.2 with h0 | ⟨g, cap, cur, rfl, hB, hg', r⟩
 ·exact .inl h0
 ·exact .inr ⟨g, cap, cur, rfl, hB, (hb.block g (Array.getElem?_eq_some_iff.1 hg').1).trans hg', r⟩
theorem OwnT.below {k : Nat} {w w' : World} {B : Nat} {e : TypeId} {v : Value} {xs : List (List Int)} (h : OwnT k w B e v xs) (hb : Below w.heap.size w w') : OwnT k w' B e v xs := ⟨ownsRow_belowK h.1 hb, h.2⟩
theorem OwnT.alloc {k : Nat} {w : World} {B : Nat} {e : TypeId} {v : Value} {xs : List (List Int)} (h : OwnT k w B e v xs) (o : Obj) : OwnT k (w.alloc o) B e v xs := ⟨World.ownsRow.alloc h.1 o, h.2⟩
/-- every block with another tag than e is as it was -/
def Kept (e : TypeId) (w w' : World) : Prop := w.heap.size ≤ w'.heap.size ∧ ∀ (g : Nat) (cs : Array Value) (e' : TypeId) (f : Nat × Nat), e' ≠ e → w.heap[g]? = some (Obj.cells cs e' f) → w'.heap[g]? = some (Obj.cells cs e' f)
theorem Kept.refl (e : TypeId) (w : World) : Kept e w w := ⟨Nat.le_refl _, fun _ _ _ _ _ h => h⟩
theorem Kept.of_below {e : TypeId} {w w' : World} (h : Below w.heap.size w w') : Kept e w w' := ⟨h.size, fun g cs e' f _ hc => (h.block g (Array.getElem?_eq_some_iff.1 hc).1).trans hc⟩
theorem Kept.trans {e : TypeId} {a b c : World} (h : Kept e a b) (k : Kept e b c) : Kept e a c := ⟨Nat.le_trans h.1 k.1, fun g cs e' f he hc => k.2 g cs e' f he (h.2 g cs e' f he hc)⟩
theorem Kept.grown {e : TypeId} {w w' : World} {row : Option Nat} (hg : w.grownBy w' row) (hr : ∀ (q : Nat) (cs : Array Value) (e' : TypeId) (f : Nat × Nat), row = some q → w.heap[q]? = some (Obj.cells cs e' f) → e' = e) : Kept e w w' :=
 ⟨hg.size, fun g cs e' f he hc => (hg.block g (Array.getElem?_eq_some_iff.1 hc).1 (fun h => he (hr g cs e' f h.symm hc))).trans hc⟩
theorem Kept.own {e e2 : TypeId} {w w' : World} {B n k : Nat} {v : Value} {xs : List Value} (h : w.ownsRow B e2 k v n xs) (hk : Kept e w w') (hne : e2 ≠ e) : w'.ownsRow B e2 k v n xs := by
 refine ⟨h.1, ?_⟩
 rcases h.2 with h0 | ⟨g, cap, cur, rfl, hB, hg', r⟩
 ·exact .inl h0
 ·exact .inr ⟨g, cap, cur, rfl, hB, hk.2 _ _ _ _ hne hg', r⟩
theorem Kept.drew {e : TypeId} {w w' : World} (h : Kept e w w') : Kept e w w'.drew := h

section
variable {P : Program} {ops : Array Oper} {Q : Exit → Act → World → Prop} {T : (Nat → Value) → Array Value} {d : List Deferred}
/-- what the region is about: block base, tag, cells a record, the row ahead of it, the record; the world at its beginning -/
structure AppOf where
 W : World
 B : Nat
 e : TypeId
 k : Nat
 v : Value
 xs : List (List Int)
 y : List Int
/-- what each operation yields: number a is the append, the one ahead of it makes the record's own slice -/
def AppR (X : AppOf) (vals : List Value) (a : Nat) (j : Nat) (v : Value) (w : World) : Prop :=
 if j = a then OwnT X.k w X.B X.e v (X.xs ++ [X.y])
 else if j + 1 = a then ∃ g, v = .slice (some ⟨g, 0, none⟩) 1 1 ∧ X.W.heap.size ≤ g ∧ g < w.heap.size ∧ ∀ j u, (encI X.y)[j]? = some u → w.cell? ((⟨g, 0, none⟩ : Addr).add j) = some u
 else v = nth vals j
def AppW (X : AppOf) (p : Bool) (w : World) : Prop := Below X.B X.W w ∧ Kept X.e X.W w ∧ (p = false → OwnT X.k w X.B X.e X.v X.xs)
def AppL (X : AppOf) (a : Nat) (i : Nat) (w w' : World) : Prop := if i = a then w.grownBy w' X.v.ownBlock else Below w.heap.size w w'
def AppFrom (X : AppOf) (a : Nat) (P : Program) (ops : Array Oper) (Q : Exit → Act → World → Prop) (T : (Nat → Value) → Array Value) (d : List Deferred) (vals : List Value) (k : Nat) (l : List Oper) : Prop :=
 StepsFrom P ops Q T d (AppR X vals a) (fun L w => AppW X (L a) w) (AppL X a) k l
variable {X : AppOf} {vals : List Value} {a : Nat}
end
end Go.Proofs.YteaincdeoajkeaaGreatDoor.Ut
end
