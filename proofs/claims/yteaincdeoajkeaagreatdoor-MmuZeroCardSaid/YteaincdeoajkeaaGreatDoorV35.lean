/- Several texts in one: Jt Rf Ju -/
import Derived.Test.YteaincdeoajkeaaGreatDoorV34
import Derived.Test.YteaincdeoajkeaaGreatDoorV25
section
/- Package shadow: slices.IndexFunc, slices.ContainsFunc over its translations, Table, Len. -/
namespace Go.Proofs.YteaincdeoajkeaaGreatDoor.Sw
open Go.RowKit Ut
set_option maxRecDepth 100000
set_option linter.unusedVariables false
set_option maxHeartbeats 4000000

/-- a closure that says which ones are meant, in all worlds in which nothing but T has turned since W0 -/
def IsL (W0 : World) (T : List Nat) (fi : Nat) (caps : Array Value) (P : Ln → Bool) : Prop :=
 (∀ args w, (callFunc fi args).run Tryz.prog w = .ok (.enter fi args) w) ∧ ∀ (x : Ln) (w : World), Kq T W0 w → Calls Tryz.prog fi (#[x.v] ++ caps) w fun e w' => e = .returned (.bool (P x)) ∧ Below w.heap.size w w'
/-- what IndexFunc answers -/
def IdxP (P : Ln → Bool) (l : List Ln) (z : Int) : Prop := (∃ (i : Nat) (x : Ln), z = (i : Nat) ∧ l[i]? = some x ∧ P x = true ∧ ∀ y ∈ l.take i, P y = false) ∨ (z = -1 ∧ ∀ y ∈ l, P y = false)
section
variable {W W' : World} {g fi : Nat} {m : Bool} {l : List Ln} {caps : Array Value} {P : Ln → Bool}
/-- what there answers: v is the shadow, or nil (then nothing is there) -/
def ThP (W : World) (v : Value) (l : List Ln) : Prop := l.length ≤ 32 ∧ ∃ (a : Option Addr) (c : Nat), (∀ V, Below W.heap.size W V → Calls Tryz.prog 87 #[v] V fun e w' => e = .returned (.slice a l.length c) ∧ Below V.heap.size V w') ∧ LnRow W a l
theorem LS19.th (h : LS19 W g m l) : ThP W (.pointer (some ⟨g, 0, none⟩)) l := ⟨h.len, _, 32, fun V hb => there_any (h.more hb), h.row⟩
theorem ThP.more {v : Value} (h : ThP W v l) (hb : Below W.heap.size W W') : ThP W' v l := by
 obtain ⟨h1, a, c, h2, h3⟩ := h
 exact ⟨h1, a, c, fun V hV => h2 V (hb.trans (hV.mono hb.size)), IRow.more h3 hb⟩
end
end Go.Proofs.YteaincdeoajkeaaGreatDoor.Sw
end
section
/- Drawn regions in which one operation's value depends on the order drawn (a call that makes memory and answers with a slice of it): what is known of it (any property that later blocks leave) stands in its value's place. Serves all packages. -/
namespace Go.Proofs.YteaincdeoajkeaaGreatDoor.Ut
open Go.RowKit
set_option linter.unusedVariables false

section
variable {P : Program} {ops : Array Oper} {Q : Exit → Act → World → Prop} {T : (Nat → Value) → Array Value} {d : List Deferred}
/-- what each operation yields: of number b no more than Pb -/
def ExR (Pb : Value → World → Prop) (vals : List Value) (b : Nat) (j : Nat) (v : Value) (w : World) : Prop := if j = b then Pb v w else v = nth vals j
variable {W : World} {Pb : Value → World → Prop} {vals : List Value} {b : Nat}
def ExFrom (P : Program) (ops : Array Oper) (Q : Exit → Act → World → Prop) (T : (Nat → Value) → Array Value) (d : List Deferred) (W : World) (Pb : Value → World → Prop) (vals : List Value) (b : Nat) (k : Nat) (l : List Oper) : Prop :=
 StepsFrom P ops Q T d (ExR Pb vals b) (fun _ w => Below W.heap.size W w) (fun _ w w' => Below w.heap.size w w') k l
end
end Go.Proofs.YteaincdeoajkeaaGreatDoor.Ut
end
section
/- Package shadow: Get. -/
namespace Go.Proofs.YteaincdeoajkeaaGreatDoor.Sw
open Go.RowKit Ut
set_option maxRecDepth 100000
set_option linter.unusedVariables false
set_option maxHeartbeats 4000000

/-- a key's closure -/
def ClK (p q : Int) (v : Value) (W : World) : Prop := ∃ k, v = .func (.func 141) #[] #[.pointer (some ⟨k, 0, none⟩)] ∧ Blk W k 48 [.int .i64 p, .int .i64 q]
theorem ClK.more {p q : Int} {v : Value} {W W' : World} (h : ClK p q v W) (hb : Below W.heap.size W W') : ClK p q v W' := h.elim fun k h => ⟨k, h.1, h.2.more hb⟩
section
variable {W : World} {g : Nat} {m : Bool} {l : List Ln}
end
end Go.Proofs.YteaincdeoajkeaaGreatDoor.Sw
end
