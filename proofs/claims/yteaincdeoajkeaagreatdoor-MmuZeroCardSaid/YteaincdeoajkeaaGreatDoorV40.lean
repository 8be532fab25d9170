/- Several texts in one: Hu Hv -/
import Derived.WalkKit
import Derived.Test.YteaincdeoajkeaaGreatDoorV01
section
/- Plain facts on heaps as the library keeps them (container/heap's up, down, Push, Pop, Fix, Remove), over lists of anything that has an integer key; nothing of the program. Serves all packages. -/
namespace Go.Proofs.YteaincdeoajkeaaGreatDoor.Hg
set_option linter.unusedVariables false

section
variable {α : Type} [Inhabited α] {ky : α → Int}
/-- the key at place i -/
def vl (ky : α → Int) (l : List α) (i : Nat) : Int := ky (l.getD i default)
/-- the elements at i and j exchanged -/
def swapL (l : List α) (i j : Nat) : List α := (l.set i (l.getD j default)).set j (l.getD i default)
/-- the first n are a heap: none is less than the one above it -/
def HeapL (ky : α → Int) (l : List α) (n : Nat) : Prop := ∀ k, 0 < k → k < n → vl ky l ((k - 1) / 2) ≤ vl ky l k

/-- container/heap's up -/
def upL (ky : α → Int) (l : List α) (j : Nat) : List α :=
 if h : j = 0 then l
 else if vl ky l j < vl ky l ((j - 1) / 2) then upL ky (swapL l ((j - 1) / 2) j) ((j - 1) / 2) else l
termination_by j
decreasing_by omega

/-- the lesser of the two below i, among the first n -/
def childL (ky : α → Int) (l : List α) (i n : Nat) : Nat := if 2 * i + 2 < n ∧ vl ky l (2 * i + 2) < vl ky l (2 * i + 1) then 2 * i + 2 else 2 * i + 1
theorem child_cases (l : List α) (i n : Nat) : childL ky l i n = 2 * i + 1 ∨ childL ky l i n = 2 * i + 2 ∧ 2 * i + 2 < n := by
 unfold childL
 split
 ·rename_i h; exact .inr ⟨rfl, h.1⟩
 ·exact .inl rfl
theorem child_gt (l : List α) (i n : Nat) : i < childL ky l i n := by rcases child_cases (ky := ky) l i n with h | ⟨h, _⟩ <;> omega
/-- container/heap's down, among the first n -/
def downL (ky : α → Int) (l : List α) (i n : Nat) : List α :=
 if h : 2 * i + 1 < n then
  if vl ky l (childL ky l i n) < vl ky l i then downL ky (swapL l i (childL ky l i n)) (childL ky l i n) n else l
 else l
termination_by n - i
decreasing_by
 have := child_gt (ky := ky) l i n
 omega

/-- in order but for place j, which may be less than the one above it -/
def UpInv (ky : α → Int) (l : List α) (j n : Nat) : Prop :=
 (∀ k, 0 < k → k < n → k ≠ j → vl ky l ((k - 1) / 2) ≤ vl ky l k) ∧ (0 < j → ∀ k, 0 < k → k < n → (k - 1) / 2 = j → vl ky l ((j - 1) / 2) ≤ vl ky l k)
/-- in order but for place i, which may be more than those below it -/
def DownInv (ky : α → Int) (l : List α) (i n : Nat) : Prop :=
 (∀ k, 0 < k → k < n → (k - 1) / 2 ≠ i → vl ky l ((k - 1) / 2) ≤ vl ky l k) ∧ (0 < i → ∀ k, 0 < k → k < n → (k - 1) / 2 = i → vl ky l ((i - 1) / 2) ≤ vl ky l k)
/-- one more goes in -/
def pushL (ky : α → Int) (l : List α) (x : α) : List α := upL ky (l ++ [x]) l.length
/-- the first comes out: what is left, its last cut off -/
def popL (ky : α → Int) (l : List α) : List α := downL ky (swapL l 0 (l.length - 1)) 0 (l.length - 1)
/-- container/heap's down says whether anything moved -/
def movesL (ky : α → Int) (l : List α) (i n : Nat) : Bool := decide (2 * i + 1 < n) && decide (vl ky l (childL ky l i n) < vl ky l i)
/-- one at i has turned: it goes down, or up (container/heap's Fix) -/
def fixL (ky : α → Int) (l : List α) (i n : Nat) : List α := if movesL ky l i n = true then downL ky l i n else upL ky l i
/-- a row that is in order but for place i -/
def FixInv (ky : α → Int) (l : List α) (i n : Nat) : Prop :=
 (∀ k, 0 < k → k < n → k ≠ i → (k - 1) / 2 ≠ i → vl ky l ((k - 1) / 2) ≤ vl ky l k) ∧ (0 < i → ∀ k, 0 < k → k < n → (k - 1) / 2 = i → vl ky l ((i - 1) / 2) ≤ vl ky l k)
end
end Go.Proofs.YteaincdeoajkeaaGreatDoor.Hg
end
section
/- The library's heaps (container/heap), walked once for whatever is kept: a heap's methods are told by a structure of contracts; up. Serves all packages. -/
namespace Go.Proofs.YteaincdeoajkeaaGreatDoor.Hg
open Go.RowKit Ut
set_option maxRecDepth 100000
set_option linter.unusedVariables false
set_option maxHeartbeats 4000000

/-- what a method of the heap p (of type T) does, asked by its name -/
def Asks (T : TypeId) (p : Value) (name : String) (W : World) (D : Nat → Value → Prop) : Prop :=
 ∃ f rv, (∀ m, (method (m + 1) T p name).run Tryz.prog W = .ok (f, rv) W) ∧ (∀ (args : Array Value) (w : World), (callFunc f args).run Tryz.prog w = .ok (.enter f args) w) ∧ D f rv
/-- a heap p of type T, whose elements are told by a list (St), in keys' order; K says what stays -/
structure Heaps {α : Type} [Inhabited α] (T : TypeId) (p : Value) (ky : α → Int) (St : World → List α → Prop) (K : World → World → Prop) : Prop where
 refl : ∀ w, K w w
 trans : ∀ a b c, K a b → K b c → K a c
 bd : ∀ W l, St W l → l.length ≤ 1000000
 len : ∀ W l, St W l → Asks T p "Len" W fun f rv => Calls Tryz.prog f #[rv] W fun e w' => e = .returned (.int .i64 (l.length : Nat)) ∧ St w' l ∧ K W w'
 less : ∀ W l (i j : Nat) (t : Bool), St W l → i < l.length → j < l.length → decide (vl ky l i < vl ky l j) = t → Asks T p "Less" W fun f rv => Calls Tryz.prog f #[rv, .int .i64 i, .int .i64 j] W fun e w' => e = .returned (.bool t) ∧ St w' l ∧ K W w'
 swap : ∀ W l (i j : Nat), St W l → i < l.length → j < l.length → Asks T p "Swap" W fun f rv => Calls Tryz.prog f #[rv, .int .i64 i, .int .i64 j] W fun e w' => e = .returned (.tuple #[]) ∧ St w' (swapL l i j) ∧ K W w'

section
variable {α : Type} [Inhabited α] {T : TypeId} {p : Value} {ky : α → Int} {St : World → List α → Prop} {K : World → World → Prop}
end
end Go.Proofs.YteaincdeoajkeaaGreatDoor.Hg
end
