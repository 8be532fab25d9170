/- Several texts in one: Jg Bx By Bz -/
import Derived.Test.YteaincdeoajkeaaGreatDoorZ18
import Derived.Test.YteaincdeoajkeaaGreatDoorZ20
import Derived.Test.YteaincdeoajkeaaGreatDoorZ23
import Derived.Deep.QuietTactic
import Derived.BigQuiet
import Derived.OpenShut
section
/- hermitagelaw19: ints, keys, same: two rows that read alike; an act, a slice of acts as arguments. -/
namespace Go.Proofs.YteaincdeoajkeaaGreatDoor.Sw
open Go.ChangeShapes Go.WideShapes Go.Deep Go.RowKit Ut
set_option maxRecDepth 100000
set_option linter.unusedVariables false
set_option maxHeartbeats 4000000

theorem irow_at {k : Nat} {w : World} {a : Option Addr} {xs : List (List Int)} (h : IRow k w a xs) {i : Nat} (hi : i < xs.length) : ∃ x y, xs[i]? = some x ∧ a = some y ∧ y.block < w.heap.size ∧ (y.add (i * k)).block < w.heap.size ∧ (∀ z, x[0]? = some z → w.cell? (y.add (i * k)) = some (.int .i64 z)) ∧ ∀ j z, 0 < j → x[j]? = some z → w.cell? ⟨(y.add (i * k)).block, (y.add (i * k)).off + j, none⟩ = some (.int .i64 z) := by
  obtain ⟨y, e, h1, h2, h3, h4⟩ := h.at_ (List.getElem?_eq_getElem hi)
  exact ⟨_, y, List.getElem?_eq_getElem hi, e, h1, h2, h3, h4⟩

/-- an act: its kind, a key's root and page, an entry's page, frame, rights, the root's page, the leaf's -/
structure Ak where
  kd : Int
  kr : Int
  kp : Int
  ep : Int
  ef : Int
  er : Int
  rt : Int
  lf : Int
instance : Inhabited Ak := ⟨⟨0, 0, 0, 0, 0, 0, 0, 0⟩⟩
abbrev Ak.v (x : Ak) : Value := .agg #[.int .i64 x.kd, .int .i64 x.kr, .int .i64 x.kp, .int .i64 x.ep, .int .i64 x.ef, .int .i64 x.er, .int .i64 x.rt, .int .i64 x.lf]
structure AkW (x : Ak) : Prop where
  l0 : -9223372036854775808 ≤ x.kd
  u0 : x.kd < 9223372036854775808
  l1 : -9223372036854775808 ≤ x.kr
  u1 : x.kr < 9223372036854775808
  l2 : -9223372036854775808 ≤ x.kp
  u2 : x.kp < 9223372036854775808
  l3 : -9223372036854775808 ≤ x.ep
  u3 : x.ep < 9223372036854775808
  l4 : -9223372036854775808 ≤ x.ef
  u4 : x.ef < 9223372036854775808
  l5 : -9223372036854775808 ≤ x.er
  u5 : x.er < 9223372036854775808
  l6 : -9223372036854775808 ≤ x.rt
  u6 : x.rt < 9223372036854775808
  l7 : -9223372036854775808 ≤ x.lf
  u7 : x.lf < 9223372036854775808
def AkRow (w : World) (a : Option Addr) (n : Nat) (Z : Nat → Ak) : Prop := ∀ i, i < n → ∃ y, a = some y ∧ y.block < w.heap.size ∧ AkW (Z i) ∧ w.cell? (y.add (i * 8)) = some (.int .i64 (Z i).kd) ∧ w.cell? (y.add (i * 8 + 1)) = some (.int .i64 (Z i).kr) ∧ w.cell? (y.add (i * 8 + 2)) = some (.int .i64 (Z i).kp) ∧ w.cell? (y.add (i * 8 + 3)) = some (.int .i64 (Z i).ep) ∧ w.cell? (y.add (i * 8 + 4)) = some (.int .i64 (Z i).ef) ∧ w.cell? (y.add (i * 8 + 5)) = some (.int .i64 (Z i).er) ∧ w.cell? (y.add (i * 8 + 6)) = some (.int .i64 (Z i).rt) ∧ w.cell? (y.add (i * 8 + 7)) = some (.int .i64 (Z i).lf)
section
variable {H : Type} {enc : TypeId × Value → H} {W : World}
theorem key19_arg_len : Tryz.prog.cellsOf 48 = 2 := by kernel_rfl
theorem key19_arg_leaf (j : Nat) (hj : j < 2) : leafAt Tryz.prog 4 48 j = some 3 := by
  match j, hj with
  | 0, _ => exact (by kernel_rfl : leafAt Tryz.prog 4 48 0 = some 3)
  | 1, _ => exact (by kernel_rfl : leafAt Tryz.prog 4 48 1 = some 3)
theorem key19_arg {b0 : Nat} {v : Value} {d : DataW H} {p : List MemPlace} (hv : Value.okWide Tryz.prog W .any b0 48 v) (h : DataW.Trod enc Tryz.prog W 0 (fun _ => true) true 48 v d p) : ∃ (z0 z1 : Int), (-9223372036854775808 ≤ z0 ∧ z0 < 9223372036854775808 ∧ -9223372036854775808 ≤ z1 ∧ z1 < 9223372036854775808) ∧ v = .agg #[.int .i64 z0, .int .i64 z1] := by
  obtain ⟨cs, rfl, hl, hf⟩ := open_flat 4 Tryz.underlying48 hv h
  rw [key19_arg_len] at hl
  have key : ∀ j, j < 2 → ∃ z, cs[j]? = some (.int .i64 z) ∧ -9223372036854775808 ≤ z ∧ z < 9223372036854775808 := fun j hj => by
    obtain ⟨c, m, q, e, t⟩ := hf j _ (key19_arg_leaf j hj)
    obtain ⟨z, q0, _, hw⟩ := DataW.trod_int Tryz.underlying3 t
    simp only [List.cons.injEq, and_true] at q0
    subst q0
    exact ⟨z, e, Ut.wf_i64 hw⟩
  obtain ⟨z0, e0, l0, u0⟩ := key 0 (by decide)
  obtain ⟨z1, e1, l1, u1⟩ := key 1 (by decide)
  match cs, hl, e0, e1 with
  | [x0, x1], _, e0, e1 =>
    simp only [List.getElem?_cons_zero, List.getElem?_cons_succ, Option.some.injEq] at e0 e1
    subst e0 e1
    exact ⟨z0, z1, ⟨l0, u0, l1, u1⟩, rfl⟩
theorem entry19_arg_len : Tryz.prog.cellsOf 50 = 3 := by kernel_rfl
theorem entry19_arg_leaf (j : Nat) (hj : j < 3) : leafAt Tryz.prog 4 50 j = some 3 := by
  match j, hj with
  | 0, _ => exact (by kernel_rfl : leafAt Tryz.prog 4 50 0 = some 3)
  | 1, _ => exact (by kernel_rfl : leafAt Tryz.prog 4 50 1 = some 3)
  | 2, _ => exact (by kernel_rfl : leafAt Tryz.prog 4 50 2 = some 3)
theorem entry19_arg {b0 : Nat} {v : Value} {d : DataW H} {p : List MemPlace} (hv : Value.okWide Tryz.prog W .any b0 50 v) (h : DataW.Trod enc Tryz.prog W 0 (fun _ => true) true 50 v d p) : ∃ (z0 z1 z2 : Int), (-9223372036854775808 ≤ z0 ∧ z0 < 9223372036854775808 ∧ -9223372036854775808 ≤ z1 ∧ z1 < 9223372036854775808 ∧ -9223372036854775808 ≤ z2 ∧ z2 < 9223372036854775808) ∧ v = .agg #[.int .i64 z0, .int .i64 z1, .int .i64 z2] := by
  obtain ⟨cs, rfl, hl, hf⟩ := open_flat 4 Tryz.underlying50 hv h
  rw [entry19_arg_len] at hl
  have key : ∀ j, j < 3 → ∃ z, cs[j]? = some (.int .i64 z) ∧ -9223372036854775808 ≤ z ∧ z < 9223372036854775808 := fun j hj => by
    obtain ⟨c, m, q, e, t⟩ := hf j _ (entry19_arg_leaf j hj)
    obtain ⟨z, q0, _, hw⟩ := DataW.trod_int Tryz.underlying3 t
    simp only [List.cons.injEq, and_true] at q0
    subst q0
    exact ⟨z, e, Ut.wf_i64 hw⟩
  obtain ⟨z0, e0, l0, u0⟩ := key 0 (by decide)
  obtain ⟨z1, e1, l1, u1⟩ := key 1 (by decide)
  obtain ⟨z2, e2, l2, u2⟩ := key 2 (by decide)
  match cs, hl, e0, e1, e2 with
  | [x0, x1, x2], _, e0, e1, e2 =>
    simp only [List.getElem?_cons_zero, List.getElem?_cons_succ, Option.some.injEq] at e0 e1 e2
    subst e0 e1 e2
    exact ⟨z0, z1, z2, ⟨l0, u0, l1, u1, l2, u2⟩, rfl⟩
end
end Go.Proofs.YteaincdeoajkeaaGreatDoor.Sw
end
section
/- The document's tables in the shadow: Get, List. -/
namespace Go.Proofs.YteaincdeoajkeaaGreatDoor.Sw
open Go.RowKit Ut
set_option maxRecDepth 100000
set_option linter.unusedVariables false
set_option maxHeartbeats 4000000

section
variable {d n cap : Nat} {a : Option Addr} {l : List Ln}
theorem info_kept19 : (Tryz.prog.info? 52).map (fun i => (i.zero, i.size, i.bytes)) = some (some (.agg #[.int .i64 0, .int .i64 0, .int .i64 0, .int .i64 0, .int .i64 0]), 5, 40) := by kernel_rfl
theorem kept_snoc {l : List Ln} {i : Nat} {x : Ln} (hx : l[i]? = some x) : (l.take (i + 1)).map Ln.kept = (l.take i).map Ln.kept ++ [x.kept] := by
  rw [List.take_add_one, hx]
  simp
end
end Go.Proofs.YteaincdeoajkeaaGreatDoor.Sw
end
section
/- The document's tables in the shadow: Wrote. -/
namespace Go.Proofs.YteaincdeoajkeaaGreatDoor.Sw
open Go.RowKit Ut
set_option maxRecDepth 100000
set_option linter.unusedVariables false
set_option maxHeartbeats 8000000

/-- those that go: filled through the page; with all of the page, too, if that is asked -/
def goF (pg : Int) (too : Bool) (x : Ln) : Bool := x.by_ pg || (too && x.ep == pg)
def goneS (l : List Ln) (pg : Int) (too : Bool) : List Ln := l.filter fun x => goF pg too x
def leftS (l : List Ln) (pg : Int) (too : Bool) : List Ln := l.filter fun x => !goF pg too x
theorem info_key19 : (Tryz.prog.info? 48).map (fun i => (i.zero, i.size, i.bytes)) = some (some (.agg #[.int .i64 0, .int .i64 0]), 2, 16) := by kernel_rfl
theorem goF_cases (x : Ln) (pg : Int) (too : Bool) : (goF pg too x = true ∧ ((x.rt == pg) = true ∨ ((x.rt == pg) = false ∧ (x.lf == pg) = true) ∨ ((x.rt == pg) = false ∧ (x.lf == pg) = false ∧ too = true ∧ (x.ep == pg) = true))) ∨
    (goF pg too x = false ∧ (((x.rt == pg) = false ∧ (x.lf == pg) = false ∧ too = true ∧ (x.ep == pg) = false) ∨ ((x.rt == pg) = false ∧ (x.lf == pg) = false ∧ too = false))) := by
  unfold goF Ln.by_
  cases x.rt == pg <;> cases x.lf == pg <;> cases too <;> cases x.ep == pg <;> simp
theorem gone_at {l : List Ln} {pg : Int} {too : Bool} {i : Nat} {x : Ln} (hx : l[i]? = some x) (h : goF pg too x = true) : goneS (l.take (i + 1)) pg too = goneS (l.take i) pg too ++ [x] ∧ leftS (l.take (i + 1)) pg too = leftS (l.take i) pg too := by
  unfold goneS leftS
  rw [List.take_add_one, hx, List.filter_append, List.filter_append]
  simp [h]
theorem left_at {l : List Ln} {pg : Int} {too : Bool} {i : Nat} {x : Ln} (hx : l[i]? = some x) (h : goF pg too x = false) : goneS (l.take (i + 1)) pg too = goneS (l.take i) pg too ∧ leftS (l.take (i + 1)) pg too = leftS (l.take i) pg too ++ [x] := by
  unfold goneS leftS
  rw [List.take_add_one, hx, List.filter_append, List.filter_append]
  simp [h]
section
variable {w W W' : World} {u v u' v' : Value} {g s g' s' : List Ln}
end
section
variable {d n cap : Nat} {a : Option Addr} {l : List Ln}
end
end Go.Proofs.YteaincdeoajkeaaGreatDoor.Sw
end
section
/- The document's tables in the shadow: Fill. -/
namespace Go.Proofs.YteaincdeoajkeaaGreatDoor.Sw
open Go.RowKit Ut
set_option maxRecDepth 100000
set_option linter.unusedVariables false
set_option maxHeartbeats 8000000

/-- which pages are told; those that are there then; which lose the right to write; what is left -/
def tellB (l : List Ln) (r f : Int) (p : Nat) : Bool := ((p : Int) == r || (p : Int) == f) && !tabL l p
def toldS (l : List Ln) (r f : Int) (i : Nat) : List (List Int) := ((List.range i).filter fun p => tellB l r f p).map fun p : Nat => [(p : Int)]
def withS (l : List Ln) (p q : Int) : List Ln := l.filter fun x => !x.is p q
def addS (l : List Ln) (x : Ln) : List Ln := if 32 < (withS l x.kr x.kp).length + 1 then (withS l x.kr x.kp ++ [x]).drop 1 else withS l x.kr x.kp ++ [x]
def loseB (m : List Ln) (r f : Int) (i : Nat) (z : Ln) : Bool := z.ep == r || (z.ep == f || (decide (i + 1 = m.length) && tabL m z.ep))
def clrS (z : Ln) : Ln := { z with er := bits .andNot .i64 z.er 2 }
def outS (m : List Ln) (r f : Int) (i : Nat) : List Ln := (m.take i).mapIdx fun j z => if loseB m r f j z = true then clrS z else z
def fillS (l : List Ln) (x : Ln) : List Ln := outS (addS l x) x.rt x.lf (addS l x).length
theorem told_snoc (l : List Ln) (r f : Int) (i : Nat) : toldS l r f (i + 1) = toldS l r f i ++ (if tellB l r f i = true then [[(i : Int)]] else []) := by
  unfold toldS
  rw [List.range_succ, List.filter_append, List.map_append]
  congr 1
  by_cases h : tellB l r f i = true
  · rw [if_pos h]; simp [h]
  · rw [if_neg h]; simp [h]
theorem told_len (l : List Ln) (r f : Int) (i : Nat) : (toldS l r f i).length ≤ i := by
  unfold toldS
  rw [List.length_map]
  have := List.length_filter_le (fun p => tellB l r f p) (List.range i)
  rwa [List.length_range] at this
theorem withS_at {l : List Ln} {p q : Int} {i : Nat} {x : Ln} (hx : l[i]? = some x) : withS (l.take (i + 1)) p q = withS (l.take i) p q ++ (if x.is p q = true then [] else [x]) := by
  unfold withS
  rw [List.take_add_one, hx, List.filter_append]
  by_cases h : x.is p q = true
  · rw [if_pos h]; simp [h]
  · rw [if_neg h]; simp [h]
theorem withS_len (l : List Ln) (p q : Int) : (withS l p q).length ≤ l.length := List.length_filter_le _ _
theorem outS_at {m : List Ln} {r f : Int} {i : Nat} {z : Ln} (hz : m[i]? = some z) : outS m r f (i + 1) = outS m r f i ++ [if loseB m r f i z = true then clrS z else z] := by
  have hi := (List.getElem?_eq_some_iff.1 hz).1
  unfold outS
  rw [List.take_add_one, hz, Option.toList_some, List.mapIdx_concat]
  rw [List.length_take, Nat.min_eq_left (by omega)]
theorem outS_len (m : List Ln) (r f : Int) (i : Nat) : (outS m r f i).length = min i m.length := by unfold outS; rw [List.length_mapIdx, List.length_take]
theorem tell_cases (l : List Ln) (r f : Int) (p : Nat) : (((p : Int) == r) = true ∧ tellB l r f p = !tabL l p) ∨ (((p : Int) == r) = false ∧ ((p : Int) == f) = true ∧ tellB l r f p = !tabL l p) ∨ (((p : Int) == r) = false ∧ ((p : Int) == f) = false ∧ tellB l r f p = false) := by
  unfold tellB
  cases (p : Int) == r <;> cases (p : Int) == f <;> simp
theorem lose_cases (m : List Ln) (r f : Int) (i : Nat) (z : Ln) : ((z.ep == r) = true ∧ loseB m r f i z = true) ∨ ((z.ep == r) = false ∧ (z.ep == f) = true ∧ loseB m r f i z = true) ∨ ((z.ep == r) = false ∧ (z.ep == f) = false ∧ i + 1 = m.length ∧ loseB m r f i z = tabL m z.ep) ∨ ((z.ep == r) = false ∧ (z.ep == f) = false ∧ ¬ i + 1 = m.length ∧ loseB m r f i z = false) := by
  unfold loseB
  by_cases h : i + 1 = m.length
  · cases z.ep == r <;> cases z.ep == f <;> simp [h]
  · cases z.ep == r <;> cases z.ep == f <;> simp [h]
theorem info_int19 : (Tryz.prog.info? 3).map (fun i => (i.zero, i.size, i.bytes)) = some (some (.int .i64 0), 1, 8) := by kernel_rfl
section
variable {w W W' : World} {B : Nat} {u v u' v' : Value} {ts ts' : List (List Int)} {s s' : List Ln}
end
section
variable {d n cap : Nat} {a : Option Addr} {l : List Ln}
end
end Go.Proofs.YteaincdeoajkeaaGreatDoor.Sw
end
