/- Several texts in one: Bw Bx By -/
import Derived.Test.YteaincdeoajkeaaGreatDoorV26
import Derived.Test.YteaincdeoajkeaaGreatDoorV03
import Derived.Deep.QuietTactic
import Derived.BigQuiet
section
/- The document's tables in the shadow (hermitageref19): rows of seven integers; what its acts leave, plainly; Table, own, Get. -/
namespace Go.Proofs.YteaincdeoajkeaaGreatDoor.Sw
open Go.RowKit Ut
set_option maxRecDepth 100000
set_option linter.unusedVariables false
set_option maxHeartbeats 4000000

/-- a translation and the pages that it was filled through -/
structure Ln where
 kr : Int
 kp : Int
 ep : Int
 ef : Int
 er : Int
 rt : Int
 lf : Int
deriving DecidableEq
instance : Inhabited Ln := ⟨⟨0, 0, 0, 0, 0, 0, 0⟩⟩
def Ln.l (x : Ln) : List Int := [x.kr, x.kp, x.ep, x.ef, x.er, x.rt, x.lf]
abbrev Ln.v (x : Ln) : Value := .agg #[.int .i64 x.kr, .int .i64 x.kp, .int .i64 x.ep, .int .i64 x.ef, .int .i64 x.er, .int .i64 x.rt, .int .i64 x.lf]
/-- it is that key's; it was filled through that page; it is to be told as a key, as what is kept -/
def Ln.is (x : Ln) (p q : Int) : Bool := x.kr == p && x.kp == q
def Ln.by_ (x : Ln) (p : Int) : Bool := x.rt == p || x.lf == p
def Ln.key (x : Ln) : List Int := [x.kr, x.kp]
def Ln.kept (x : Ln) : List Int := [x.kr, x.kp, x.ep, x.ef, x.er]
/-- a row of them lies at a -/
def LnRow (w : World) (a : Option Addr) (l : List Ln) : Prop := IRow 7 w a (l.map Ln.l)
theorem LnRow.at_ {w : World} {a : Option Addr} {l : List Ln} (h : LnRow w a l) {i : Nat} {x : Ln} (hx : l[i]? = some x) : ∃ y, a = some y ∧ y.block < w.heap.size ∧ (y.add (i * 7)).block < w.heap.size ∧ w.cell? (y.add (i * 7)) = some (.int .i64 x.kr) ∧ w.cell? ⟨(y.add (i * 7)).block, (y.add (i * 7)).off + 1, none⟩ = some (.int .i64 x.kp) ∧ w.cell? ⟨(y.add (i * 7)).block, (y.add (i * 7)).off + 2, none⟩ = some (.int .i64 x.ep) ∧ w.cell? ⟨(y.add (i * 7)).block, (y.add (i * 7)).off + 3, none⟩ = some (.int .i64 x.ef) ∧ w.cell? ⟨(y.add (i * 7)).block, (y.add (i * 7)).off + 4, none⟩ = some (.int .i64 x.er) ∧ w.cell? ⟨(y.add (i * 7)).block, (y.add (i * 7)).off + 5, none⟩ = some (.int .i64 x.rt) ∧ w.cell? ⟨(y.add (i * 7)).block, (y.add (i * 7)).off + 6, none⟩ = some (.int .i64 x.lf) := by
 obtain ⟨y, e, hy, hy2, h0, hj⟩ := IRow.at_ (x := x.l) h (by rw [List.getElem?_map, hx]; rfl)
 exact ⟨y, e, hy, hy2, h0 _ rfl, hj 1 _ (by decide) rfl, hj 2 _ (by decide) rfl, hj 3 _ (by decide) rfl, hj 4 _ (by decide) rfl, hj 5 _ (by decide) rfl, hj 6 _ (by decide) rfl⟩
section
variable {w w' : World} {d n cap : Nat} {a : Option Addr} {l : List Ln}
end
/-- what is told plainly: is a page a table; a key's; those that stay -/
def tabL (l : List Ln) (p : Int) : Bool := l.any fun x => x.by_ p
def findS (l : List Ln) (p q : Int) : Option Ln := l.find? (·.is p q)
def entS (o : Option Ln) : Int × Int × Int := match o with | some x => (x.ep, x.ef, x.er) | none => (0, 0, 0)
def entW (e : Int × Int × Int) : Value := .agg #[.int .i64 e.1, .int .i64 e.2.1, .int .i64 e.2.2]
def entD (e : Int × Int × Int) : List Value := [.int .i64 e.1, .int .i64 e.2.1, .int .i64 e.2.2]
def ownP (p : Int) : Bool := decide (0 ≤ p) && decide (p < 8)
theorem drewN_below {B : Nat} {w w' : World} (h : Below B w w') (d : Nat) : Below B w (w'.drewN d) := ⟨h.os, h.tape, h.output, h.size, h.block⟩
section
variable {d n cap : Nat} {a : Option Addr} {l : List Ln}
end
end Go.Proofs.YteaincdeoajkeaaGreatDoor.Sw
end
section
/- The document's tables in the shadow: Get, List. -/
namespace Go.Proofs.YteaincdeoajkeaaGreatDoor.Sw
open Go.RowKit Ut
set_option maxRecDepth 100000
set_option linter.unusedVariables false
set_option maxHeartbeats 4000000

section
variable {d n cap : Nat} {a : Option Addr} {l : List Ln}
end
end Go.Proofs.YteaincdeoajkeaaGreatDoor.Sw
end
section
/- The document's tables in the shadow: Wrote. -/
namespace Go.Proofs.YteaincdeoajkeaaGreatDoor.Sw
open Go.RowKit Ut
set_option maxRecDepth 100000
set_option linter.unusedVariables false
set_option maxHeartbeats 8000000

/-- those that go: filled through the page; with all of the page, too, if that is asked -/
def goF (pg : Int) (too : Bool) (x : Ln) : Bool := x.by_ pg || (too && x.ep == pg)
def goneS (l : List Ln) (pg : Int) (too : Bool) : List Ln := l.filter fun x => goF pg too x
def leftS (l : List Ln) (pg : Int) (too : Bool) : List Ln := l.filter fun x => !goF pg too x
section
variable {w W W' : World} {u v u' v' : Value} {g s g' s' : List Ln}
end
section
variable {d n cap : Nat} {a : Option Addr} {l : List Ln}
end
end Go.Proofs.YteaincdeoajkeaaGreatDoor.Sw
end
