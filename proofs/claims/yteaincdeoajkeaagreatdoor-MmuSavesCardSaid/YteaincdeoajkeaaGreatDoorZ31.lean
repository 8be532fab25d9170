/- Several texts in one: Bw Bx By Bz -/
import Derived.Test.YteaincdeoajkeaaGreatDoorZ23
import Derived.Test.YteaincdeoajkeaaGreatDoorZ03
import Derived.Deep.QuietTactic
import Derived.BigQuiet
section
/- The document's tables in the shadow (hermitageref19): rows of seven integers; what its acts leave, plainly; Table, own, Get. -/
namespace Go.Proofs.YteaincdeoajkeaaGreatDoor.Sw
open Go.RowKit Ut
set_option maxRecDepth 100000
set_option linter.unusedVariables false
set_option maxHeartbeats 4000000

/-- a translation and the pages that it was filled through -/
structure Ln where
 kr : Int
 kp : Int
 ep : Int
 ef : Int
 er : Int
 rt : Int
 lf : Int
deriving DecidableEq
instance : Inhabited Ln := ⟨⟨0, 0, 0, 0, 0, 0, 0⟩⟩
def Ln.l (x : Ln) : List Int := [x.kr, x.kp, x.ep, x.ef, x.er, x.rt, x.lf]
abbrev Ln.v (x : Ln) : Value := .agg #[.int .i64 x.kr, .int .i64 x.kp, .int .i64 x.ep, .int .i64 x.ef, .int .i64 x.er, .int .i64 x.rt, .int .i64 x.lf]
/-- it is that key's; it was filled through that page; it is to be told as a key, as what is kept -/
def Ln.is (x : Ln) (p q : Int) : Bool := x.kr == p && x.kp == q
def Ln.by_ (x : Ln) (p : Int) : Bool := x.rt == p || x.lf == p
def Ln.key (x : Ln) : List Int := [x.kr, x.kp]
def Ln.kept (x : Ln) : List Int := [x.kr, x.kp, x.ep, x.ef, x.er]
/-- a row of them lies at a -/
def LnRow (w : World) (a : Option Addr) (l : List Ln) : Prop := IRow 7 w a (l.map Ln.l)
theorem LnRow.at_ {w : World} {a : Option Addr} {l : List Ln} (h : LnRow w a l) {i : Nat} {x : Ln} (hx : l[i]? = some x) : ∃ y, a = some y ∧ y.block < w.heap.size ∧ (y.add (i * 7)).block < w.heap.size ∧ w.cell? (y.add (i * 7)) = some (.int .i64 x.kr) ∧ w.cell? ⟨(y.add (i * 7)).block, (y.add (i * 7)).off + 1, none⟩ = some (.int .i64 x.kp) ∧ w.cell? ⟨(y.add (i * 7)).block, (y.add (i * 7)).off + 2, none⟩ = some (.int .i64 x.ep) ∧ w.cell? ⟨(y.add (i * 7)).block, (y.add (i * 7)).off + 3, none⟩ = some (.int .i64 x.ef) ∧ w.cell? ⟨(y.add (i * 7)).block, (y.add (i * 7)).off + 4, none⟩ = some (.int .i64 x.er) ∧ w.cell? ⟨(y.add (i * 7)).block, (y.add (i * 7)).off + 5, none⟩ = some (.int .i64 x.rt) ∧ w.cell? ⟨(y.add (i * 7)).block, (y.add (i * 7)).off + 6, none⟩ = some (.int .i64 x.lf) := by
 obtain ⟨y, e, hy, hy2, h0, hj⟩ := IRow.at_ (x := x.l) h (by rw [List.getElem?_map, hx]; rfl)
 exact ⟨y, e, hy, hy2, h0 _ rfl, hj 1 _ (by decide) rfl, hj 2 _ (by decide) rfl, hj 3 _ (by decide) rfl, hj 4 _ (by decide) rfl, hj 5 _ (by decide) rfl, hj 6 _ (by decide) rfl⟩
section
variable {w w' : World} {d n cap : Nat} {a : Option Addr} {l : List Ln}
end
/-- what is told plainly: is a page a table; a key's; those that stay -/
def tabL (l : List Ln) (p : Int) : Bool := l.any fun x => x.by_ p
def findS (l : List Ln) (p q : Int) : Option Ln := l.find? (·.is p q)
def entS (o : Option Ln) : Int × Int × Int := match o with | some x => (x.ep, x.ef, x.er) | none => (0, 0, 0)
def entW (e : Int × Int × Int) : Value := .agg #[.int .i64 e.1, .int .i64 e.2.1, .int .i64 e.2.2]
def entD (e : Int × Int × Int) : List Value := [.int .i64 e.1, .int .i64 e.2.1, .int .i64 e.2.2]
def ownP (p : Int) : Bool := decide (0 ≤ p) && decide (p < 8)
theorem drewN_below {B : Nat} {w w' : World} (h : Below B w w') (d : Nat) : Below B w (w'.drewN d) := ⟨h.os, h.tape, h.output, h.size, h.block⟩
theorem by_cases_ (x : Ln) (p : Int) : (x.by_ p = true ∧ (x.rt == p) = true) ∨ (x.by_ p = true ∧ (x.rt == p) = false ∧ (x.lf == p) = true) ∨ (x.by_ p = false ∧ (x.rt == p) = false ∧ (x.lf == p) = false) := by
 unfold Ln.by_
 cases x.rt == p <;> cases x.lf == p <;> simp
theorem isS_cases (x : Ln) (p q : Int) : (x.is p q = true ∧ x.kr = p ∧ x.kp = q) ∨ (x.is p q = false ∧ (x.kr == p) = false) ∨ (x.is p q = false ∧ x.kr = p ∧ (x.kp == q) = false) := by
 unfold Ln.is
 by_cases h1 : x.kr = p
 ·by_cases h2 : x.kp = q
  ·exact .inl ⟨by simp [h1, h2], h1, h2⟩
  ·exact .inr (.inr ⟨by simp [h2], h1, by simp [h2]⟩)
 ·exact .inr (.inl ⟨by simp [h1], by simp [h1]⟩)
theorem noneS {f : Ln → Bool} {l : List Ln} {i : Nat} {x : Ln} (h : ∀ y ∈ l.take i, f y = false) (hx : l[i]? = some x) (hi : f x = false) : ∀ y ∈ l.take (i + 1), f y = false := fun y hy => by
 rw [List.take_add_one, hx] at hy
 rcases List.mem_append.1 hy with hy | hy
 ·exact h y hy
 ·simp at hy
  rw [hy]
  exact hi
theorem foundS {l : List Ln} {p q : Int} {i : Nat} {x : Ln} (h : ∀ y ∈ l.take i, y.is p q = false) (hx : l[i]? = some x) (hi : x.is p q = true) : findS l p q = some x := by
 unfold findS
 obtain ⟨hl, e⟩ := List.getElem?_eq_some_iff.1 hx
 rw [List.find?_eq_some_iff_getElem]
 refine ⟨hi, i, hl, e, fun j hj => ?_⟩
 have := h l[j] (by rw [List.mem_take_iff_getElem]; exact ⟨j, by omega, rfl⟩)
 simp [this]
theorem absentS {l : List Ln} {p q : Int} (h : ∀ y ∈ l, y.is p q = false) : findS l p q = none := by
 unfold findS
 rw [List.find?_eq_none]
 intro y hy
 simp [h y hy]

section
variable {d n cap : Nat} {a : Option Addr} {l : List Ln}
end
end Go.Proofs.YteaincdeoajkeaaGreatDoor.Sw
end
section
/- The document's tables in the shadow: Get, List. -/
namespace Go.Proofs.YteaincdeoajkeaaGreatDoor.Sw
open Go.RowKit Ut
set_option maxRecDepth 100000
set_option linter.unusedVariables false
set_option maxHeartbeats 4000000

section
variable {d n cap : Nat} {a : Option Addr} {l : List Ln}
theorem info_kept19 : (Tryz.prog.info? 52).map (fun i => (i.zero, i.size, i.bytes)) = some (some (.agg #[.int .i64 0, .int .i64 0, .int .i64 0, .int .i64 0, .int .i64 0]), 5, 40) := by kernel_rfl
end
end Go.Proofs.YteaincdeoajkeaaGreatDoor.Sw
end
section
/- The document's tables in the shadow: Wrote. -/
namespace Go.Proofs.YteaincdeoajkeaaGreatDoor.Sw
open Go.RowKit Ut
set_option maxRecDepth 100000
set_option linter.unusedVariables false
set_option maxHeartbeats 8000000

/-- those that go: filled through the page; with all of the page, too, if that is asked -/
def goF (pg : Int) (too : Bool) (x : Ln) : Bool := x.by_ pg || (too && x.ep == pg)
def goneS (l : List Ln) (pg : Int) (too : Bool) : List Ln := l.filter fun x => goF pg too x
def leftS (l : List Ln) (pg : Int) (too : Bool) : List Ln := l.filter fun x => !goF pg too x
theorem info_key19 : (Tryz.prog.info? 48).map (fun i => (i.zero, i.size, i.bytes)) = some (some (.agg #[.int .i64 0, .int .i64 0]), 2, 16) := by kernel_rfl
section
variable {w W W' : World} {u v u' v' : Value} {g s g' s' : List Ln}
end
section
variable {d n cap : Nat} {a : Option Addr} {l : List Ln}
end
end Go.Proofs.YteaincdeoajkeaaGreatDoor.Sw
end
section
/- The document's tables in the shadow: Fill. -/
namespace Go.Proofs.YteaincdeoajkeaaGreatDoor.Sw
open Go.RowKit Ut
set_option maxRecDepth 100000
set_option linter.unusedVariables false
set_option maxHeartbeats 8000000

/-- which pages are told; those that are there then; which lose the right to write; what is left -/
def tellB (l : List Ln) (r f : Int) (p : Nat) : Bool := ((p : Int) == r || (p : Int) == f) && !tabL l p
def toldS (l : List Ln) (r f : Int) (i : Nat) : List (List Int) := ((List.range i).filter fun p => tellB l r f p).map fun p : Nat => [(p : Int)]
def withS (l : List Ln) (p q : Int) : List Ln := l.filter fun x => !x.is p q
def addS (l : List Ln) (x : Ln) : List Ln := if 32 < (withS l x.kr x.kp).length + 1 then (withS l x.kr x.kp ++ [x]).drop 1 else withS l x.kr x.kp ++ [x]
def loseB (m : List Ln) (r f : Int) (i : Nat) (z : Ln) : Bool := z.ep == r || (z.ep == f || (decide (i + 1 = m.length) && tabL m z.ep))
def clrS (z : Ln) : Ln := { z with er := bits .andNot .i64 z.er 2 }
def outS (m : List Ln) (r f : Int) (i : Nat) : List Ln := (m.take i).mapIdx fun j z => if loseB m r f j z = true then clrS z else z
def fillS (l : List Ln) (x : Ln) : List Ln := outS (addS l x) x.rt x.lf (addS l x).length
theorem told_snoc (l : List Ln) (r f : Int) (i : Nat) : toldS l r f (i + 1) = toldS l r f i ++ (if tellB l r f i = true then [[(i : Int)]] else []) := by
 unfold toldS
 rw [List.range_succ, List.filter_append, List.map_append]
 congr 1
 by_cases h : tellB l r f i = true
 ·rw [if_pos h]; simp [h]
 ·rw [if_neg h]; simp [h]
theorem told_len (l : List Ln) (r f : Int) (i : Nat) : (toldS l r f i).length ≤ i := by
 unfold toldS
 rw [List.length_map]
 have := List.length_filter_le (fun p => tellB l r f p) (List.range i)
 rwa [List.length_range] at this
theorem withS_len (l : List Ln) (p q : Int) : (withS l p q).length ≤ l.length := List.length_filter_le _ _
theorem outS_len (m : List Ln) (r f : Int) (i : Nat) : (outS m r f i).length = min i m.length := by unfold outS; rw [List.length_mapIdx, List.length_take]
theorem tell_cases (l : List Ln) (r f : Int) (p : Nat) : (((p : Int) == r) = true ∧ tellB l r f p = !tabL l p) ∨ (((p : Int) == r) = false ∧ ((p : Int) == f) = true ∧ tellB l r f p = !tabL l p) ∨ (((p : Int) == r) = false ∧ ((p : Int) == f) = false ∧ tellB l r f p = false) := by
 unfold tellB
 cases (p : Int) == r <;> cases (p : Int) == f <;> simp
theorem lose_cases (m : List Ln) (r f : Int) (i : Nat) (z : Ln) : ((z.ep == r) = true ∧ loseB m r f i z = true) ∨ ((z.ep == r) = false ∧ (z.ep == f) = true ∧ loseB m r f i z = true) ∨ ((z.ep == r) = false ∧ (z.ep == f) = false ∧ i + 1 = m.length ∧ loseB m r f i z = tabL m z.ep) ∨ ((z.ep == r) = false ∧ (z.ep == f) = false ∧ ¬ i + 1 = m.length ∧ loseB m r f i z = false) := by
 unfold loseB
 by_cases h : i + 1 = m.length
 ·cases z.ep == r <;> cases z.ep == f <;> simp [h]
 ·cases z.ep == r <;> cases z.ep == f <;> simp [h]
theorem info_int19 : (Tryz.prog.info? 3).map (fun i => (i.zero, i.size, i.bytes)) = some (some (.int .i64 0), 1, 8) := by kernel_rfl
section
variable {w W W' : World} {B : Nat} {u v u' v' : Value} {ts ts' : List (List Int)} {s s' : List Ln}
end
section
variable {d n cap : Nat} {a : Option Addr} {l : List Ln}
end
end Go.Proofs.YteaincdeoajkeaaGreatDoor.Sw
end
