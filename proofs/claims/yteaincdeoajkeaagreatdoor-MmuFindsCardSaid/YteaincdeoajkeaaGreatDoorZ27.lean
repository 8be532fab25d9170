/- Several texts in one: Yv In -/
import Derived.Test.YteaincdeoajkeaaGreatDoorZ02
import Derived.Test.YteaincdeoajkeaaGreatDoorZ15
import Derived.Test.YteaincdeoajkeaaGreatDoorZ26
import Derived.Test.YteaincdeoajkeaaGreatDoorZ25
import Derived.OpenShut
section
/- A slice of structs, a slice of bytes, that came in as an argument: what it reads as. Serves all packages. -/
namespace Go.Proofs.YteaincdeoajkeaaGreatDoor.Ut
open Go.ChangeShapes Go.WideShapes Go.Deep Go.RowKit
section
variable {H : Type} {enc : TypeId × Value → H} {P : Program} {w : World} {base : Nat} {held : Bool}
/-- a slice of structs, each field of one cell, whatever its type -/
theorem open_structs {t e : TypeId} {fs : Array Field} {fuel : Nat} {c : Value} {x : DataW H × List MemPlace} (ht : P.underlying t = some (.slice e)) (he : P.underlying e = some (.struct fs)) (hone : oneCellFields P fs = true) (hC : P.cellsOf e = fs.size)
  (h : DataW.trod enc P w base (fun _ => true) held fuel t [c] = some x) :
  ∃ (a : Option Addr) (n cap : Nat), c = .slice a n cap ∧ n ≤ cap ∧ ((cap = 0) ∨ ∃ el sp, x.1 = .slice el sp ∧ el.length + sp.length = cap) ∧
   ∀ i, i < n → ∃ y, a = some y ∧ ∀ (j : Nat) (f : Field), fs[j]? = some f → ∃ (v : Value) (q : DataW H × List MemPlace) (m : Nat), w.cell? (y.add (i * fs.size + j)) = some v ∧ DataW.trod enc P w base (fun _ => true) held m f.type [v] = some q := by
 rcases Go.Deep.open_slice ht h with ⟨hc, _⟩ | ⟨a, n, cap, m, q, D, Pl, hc, hb, hl, hm, hmm, hx, hi⟩
 ·simp only [List.cons.injEq, and_true] at hc
  exact ⟨none, 0, 0, hc, Nat.le_refl _, .inl rfl, fun i hi => absurd hi (by omega)⟩
 ·simp only [List.cons.injEq, and_true] at hc
  simp only [if_true] at hmm
  subst hmm
  refine ⟨some a, n, m, hc, hl, .inr ⟨_, _, by rw [hx], by simp; omega⟩, fun i hin => ⟨a, rfl, fun j f hj => ?_⟩⟩
  obtain ⟨cs', hcs, ht'⟩ := hi i (by omega)
  rw [hC] at hcs
  obtain ⟨ys, n', _, _, _, hyl, hf⟩ := DataW.trod_struct he ht'
  obtain ⟨_, hcl, hat⟩ := World.cells?_some hcs
  have hjl : j < fs.size := (Array.getElem?_eq_some_iff.1 hj).1
  obtain ⟨o1, k1⟩ := hone_of hone j _ hj
  have h2 := hf j _ hj
  rw [o1, k1] at h2
  have hd1 : (cs'.drop j).take 1 = [cs'[j]'(by omega)] := by
   rw [List.drop_eq_getElem_cons (by omega)]
   rfl
  rw [hd1] at h2
  have hy : ys[j]? = some (ys[j]'(by omega)) := List.getElem?_eq_getElem (by omega)
  rw [hy] at h2
  exact ⟨_, _, _, by rw [← add_of_add, hat j hjl, List.getElem?_eq_getElem (by omega)], h2⟩
end
end Go.Proofs.YteaincdeoajkeaaGreatDoor.Ut
end
section
/- hermitagelaw20: an act, a slice of acts, a slice of words with their places, as arguments. -/
namespace Go.Proofs.YteaincdeoajkeaaGreatDoor.Mm
open Go.ChangeShapes Go.WideShapes Go.Deep Go.RowKit Ut Wa
set_option linter.unusedVariables false
set_option maxRecDepth 100000

/-- an act: its kind, a mode, an address, a width, an access' kind, a number -/
structure Am where
 kd : Int
 on : Bool
 rt : Int
 us : Bool
 va : Int
 wd : Int
 kn : Int
 x : Int
instance : Inhabited Am := ⟨⟨0, false, 0, false, 0, 0, 0, 0⟩⟩
abbrev Am.v (x : Am) : Value := .agg #[.int .i64 x.kd, .bool x.on, .int .i64 x.rt, .bool x.us, .int .u32 x.va, .int .i64 x.wd, .int .i64 x.kn, .int .u32 x.x]
structure AmW (x : Am) : Prop where
 l0 : -9223372036854775808 ≤ x.kd
 u0 : x.kd < 9223372036854775808
 l2 : -9223372036854775808 ≤ x.rt
 u2 : x.rt < 9223372036854775808
 l4 : 0 ≤ x.va
 u4 : x.va < 4294967296
 l5 : -9223372036854775808 ≤ x.wd
 u5 : x.wd < 9223372036854775808
 l6 : -9223372036854775808 ≤ x.kn
 u6 : x.kn < 9223372036854775808
 l7 : 0 ≤ x.x
 u7 : x.x < 4294967296
/-- acts lie at a, below block B -/
def AmRow (w : World) (B : Nat) (a : Option Addr) (n : Nat) (Z : Nat → Am) : Prop := ∀ i, i < n → ∃ y, a = some y ∧ y.block < B ∧ AmW (Z i) ∧ w.cell? (y.add (i * 8)) = some (.int .i64 (Z i).kd) ∧ w.cell? (y.add (i * 8 + 1)) = some (.bool (Z i).on) ∧ w.cell? (y.add (i * 8 + 2)) = some (.int .i64 (Z i).rt) ∧ w.cell? (y.add (i * 8 + 3)) = some (.bool (Z i).us) ∧ w.cell? (y.add (i * 8 + 4)) = some (.int .u32 (Z i).va) ∧ w.cell? (y.add (i * 8 + 5)) = some (.int .i64 (Z i).wd) ∧ w.cell? (y.add (i * 8 + 6)) = some (.int .i64 (Z i).kn) ∧ w.cell? (y.add (i * 8 + 7)) = some (.int .u32 (Z i).x)
theorem AmRow.more {w w' : World} {B : Nat} {a : Option Addr} {n : Nat} {Z : Nat → Am} (h : AmRow w B a n Z) (hb : Below B w w') : AmRow w' B a n Z := fun i hi => by
 obtain ⟨y, e, hy, hw, c0, c1, c2, c3, c4, c5, c6, c7⟩ := h i hi
 have g : ∀ j, w'.cell? (y.add j) = w.cell? (y.add j) := fun j => hb.cell (p := y.add j) (by rw [block_of_add]; exact hy)
 exact ⟨y, e, hy, hw, (g _).trans c0, (g _).trans c1, (g _).trans c2, (g _).trans c3, (g _).trans c4, (g _).trans c5, (g _).trans c6, (g _).trans c7⟩
theorem cells_am : Tryz.prog.cellsOf 33 = 8 := by kernel_rfl
section
variable {H : Type} {enc : TypeId × Value → H} {W : World}
theorem am_acts_arg {a : Option Addr} {len cap : Nat} {d : DataW H} {p : List MemPlace} {ts : List TypeId} {ds : List (DataW H)} {j : Nat} (h : DataW.Trod enc Tryz.prog W 0 (fun _ => true) true 23 (.slice a len cap) d p)
  (hsz : (DataW.weightsEach Tryz.prog ts ds).all (· ≤ reachBytes) = true) (ht : ts[j]? = some 23) (hd : ds[j]? = some d) : ∃ Z : Nat → Am, AmRow W W.heap.size a len Z ∧ len ≤ 9223372036854775807 := by
 obtain ⟨fuel, hf⟩ := h
 have hf2 : DataW.trod enc Tryz.prog W 0 (fun _ => true) true fuel 23 [.slice a len cap] = some (d, p) := hf
 obtain ⟨aa, n, c, hc, hle, hcap, hcell⟩ := open_flats 4 Tryz.underlying23 hf2
 injection hc with e1 e2 e3
 subst e1 e2 e3
 rw [cells_am] at hcell
 have key : ∀ i, i < len → ∃ Z : Am, ∃ y, a = some y ∧ y.block < W.heap.size ∧ AmW Z ∧ W.cell? (y.add (i * 8)) = some (.int .i64 Z.kd) ∧ W.cell? (y.add (i * 8 + 1)) = some (.bool Z.on) ∧ W.cell? (y.add (i * 8 + 2)) = some (.int .i64 Z.rt) ∧ W.cell? (y.add (i * 8 + 3)) = some (.bool Z.us) ∧ W.cell? (y.add (i * 8 + 4)) = some (.int .u32 Z.va) ∧ W.cell? (y.add (i * 8 + 5)) = some (.int .i64 Z.wd) ∧ W.cell? (y.add (i * 8 + 6)) = some (.int .i64 Z.kn) ∧ W.cell? (y.add (i * 8 + 7)) = some (.int .u32 Z.x) := fun i hi => by
  obtain ⟨y, e, hy⟩ := hcell i hi
  obtain ⟨v0, m0, q0, c0, t0⟩ := hy 0 3 (by decide) (by kernel_rfl)
  obtain ⟨v1, m1, q1, c1, t1⟩ := hy 1 4 (by decide) (by kernel_rfl)
  obtain ⟨v2, m2, q2, c2, t2⟩ := hy 2 3 (by decide) (by kernel_rfl)
  obtain ⟨v3, m3, q3, c3, t3⟩ := hy 3 4 (by decide) (by kernel_rfl)
  obtain ⟨v4, m4, q4, c4, t4⟩ := hy 4 31 (by decide) (by kernel_rfl)
  obtain ⟨v5, m5, q5, c5, t5⟩ := hy 5 3 (by decide) (by kernel_rfl)
  obtain ⟨v6, m6, q6, c6, t6⟩ := hy 6 3 (by decide) (by kernel_rfl)
  obtain ⟨v7, m7, q7, c7, t7⟩ := hy 7 31 (by decide) (by kernel_rfl)
  obtain ⟨z0, g0, _, k0⟩ := DataW.trod_int Tryz.underlying3 t0
  obtain ⟨z1, g1, _⟩ := DataW.trod_bool Tryz.underlying4 t1
  obtain ⟨z2, g2, _, k2⟩ := DataW.trod_int Tryz.underlying3 t2
  obtain ⟨z3, g3, _⟩ := DataW.trod_bool Tryz.underlying4 t3
  obtain ⟨z4, g4, _, k4⟩ := DataW.trod_int Tryz.underlying31 t4
  obtain ⟨z5, g5, _, k5⟩ := DataW.trod_int Tryz.underlying3 t5
  obtain ⟨z6, g6, _, k6⟩ := DataW.trod_int Tryz.underlying3 t6
  obtain ⟨z7, g7, _, k7⟩ := DataW.trod_int Tryz.underlying31 t7
  simp only [List.cons.injEq, and_true] at g0 g1 g2 g3 g4 g5 g6 g7
  subst g0 g1 g2 g3 g4 g5 g6 g7
  refine ⟨⟨z0, z1, z2, z3, z4, z5, z6, z7⟩, y, e, ?_, ⟨(Ut.wf_i64 k0).1, (Ut.wf_i64 k0).2, (Ut.wf_i64 k2).1, (Ut.wf_i64 k2).2, (wf_u32 k4).1, (wf_u32 k4).2, (Ut.wf_i64 k5).1, (Ut.wf_i64 k5).2, (Ut.wf_i64 k6).1, (Ut.wf_i64 k6).2, (wf_u32 k7).1, (wf_u32 k7).2⟩, c0, c1, c2, c3, c4, c5, c6, c7⟩
  have := cell_lt c0
  rwa [block_of_add] at this
 obtain ⟨Z, hZ⟩ := choose_lt (α := Am) key
 refine ⟨Z, fun i hi => hZ i hi, ?_⟩
 rcases hcap with h0 | ⟨el, sp, he, hl⟩
 ·omega
 ·have he2 : d = .slice el sp := he
  rw [he2] at hd
  have h1 := sized_slice hsz ht hd Tryz.underlying23
  rw [show Tryz.prog.bytesOf 33 = 64 by kernel_rfl] at h1
  unfold reachBytes at h1
  omega
theorem am_puts_arg {a : Option Addr} {len cap : Nat} {d : DataW H} {p : List MemPlace} {ts : List TypeId} {ds : List (DataW H)} {j : Nat} (h : DataW.Trod enc Tryz.prog W 0 (fun _ => true) true 22 (.slice a len cap) d p)
  (hsz : (DataW.weightsEach Tryz.prog ts ds).all (· ≤ reachBytes) = true) (ht : ts[j]? = some 22) (hd : ds[j]? = some d) : ∃ Z : Nat → Int × Int, PutRow W W.heap.size a len Z ∧ len ≤ 9223372036854775807 := by
 obtain ⟨fuel, hf⟩ := h
 have hf2 : DataW.trod enc Tryz.prog W 0 (fun _ => true) true fuel 22 [.slice a len cap] = some (d, p) := hf
 obtain ⟨aa, n, c, hc, hle, hcap, hcell⟩ := open_structs Tryz.underlying22 Tryz.underlying101 (by kernel_rfl) (by kernel_rfl) hf2
 injection hc with e1 e2 e3
 subst e1 e2 e3
 have key : ∀ i, i < len → ∃ Z : Int × Int, ∃ y, a = some y ∧ y.block < W.heap.size ∧ W.cell? (y.add (i * 2)) = some (.int .u32 Z.1) ∧ W.cell? (y.add (i * 2 + 1)) = some (.int .u32 Z.2) ∧ 0 ≤ Z.1 ∧ Z.1 < 4294967296 ∧ 0 ≤ Z.2 ∧ Z.2 < 4294967296 := fun i hi => by
  obtain ⟨y, e, hy⟩ := hcell i hi
  obtain ⟨v0, q0, m0, c0, t0⟩ := hy 0 _ rfl
  obtain ⟨v1, q1, m1, c1, t1⟩ := hy 1 _ rfl
  obtain ⟨z0, g0, _, k0⟩ := DataW.trod_int Tryz.underlying31 t0
  obtain ⟨z1, g1, _, k1⟩ := DataW.trod_int Tryz.underlying31 t1
  simp only [List.cons.injEq, and_true] at g0 g1
  subst g0 g1
  refine ⟨(z0, z1), y, e, ?_, c0, c1, (wf_u32 k0).1, (wf_u32 k0).2, (wf_u32 k1).1, (wf_u32 k1).2⟩
  have := cell_lt c0
  rwa [block_of_add] at this
 obtain ⟨Z, hZ⟩ := choose_lt (α := Int × Int) key
 refine ⟨Z, fun i hi => hZ i hi, ?_⟩
 rcases hcap with h0 | ⟨el, sp, he, hl⟩
 ·omega
 ·have he2 : d = .slice el sp := he
  rw [he2] at hd
  have h1 := sized_slice hsz ht hd Tryz.underlying22
  rw [show Tryz.prog.bytesOf 101 = 8 by kernel_rfl] at h1
  unfold reachBytes at h1
  omega
end
end Go.Proofs.YteaincdeoajkeaaGreatDoor.Mm
end
