/- Configurations: rows of records in memory; a configuration as a value; which are right, plainly. -/
import Derived.Test.YtmekoanobicddaaLi
import Derived.Test.YtmekoanobicddaaPu
namespace Go.Proofs.Ytmekoanobicddaa.Cf
open Go.RowKit Ut
set_option linter.unusedVariables false

/-- what lay there reads as before -/
theorem old_cells {W V : World} (h : Below W.heap.size W V) (b o : Nat) (hb : b < W.heap.size) : V.cell? ⟨b, o, none⟩ = W.cell? ⟨b, o, none⟩ := h.cell (p := ⟨b, o, none⟩) hb
theorem add_plus (x : Addr) (m j : Nat) : (x.add m).add j = x.add (m + j) := add_of_add x m j

/-- the slice at a of n records of k integers each reads as Z, and lies below block B -/
def RowT (k : Nat) (w : World) (B : Nat) (a : Option Addr) (n : Nat) (Z : Nat → Nat → Int) : Prop :=
  ∀ i, i < n → ∃ x, a = some x ∧ x.block < B ∧ ∀ j, j < k → w.cell? (x.add (i * k + j)) = some (.int .i64 (Z i j)) ∧ -9223372036854775808 ≤ Z i j ∧ Z i j < 9223372036854775808
theorem RowT.below {k n B : Nat} {w w' : World} {a : Option Addr} {Z : Nat → Nat → Int} (h : RowT k w B a n Z) (hb : Below B w w') : RowT k w' B a n Z := fun i hi => by
  obtain ⟨x, e, hx, hc⟩ := h i hi
  exact ⟨x, e, hx, fun j hj => ⟨(hb.cell (p := x.add _) (by rw [block_of_add]; exact hx)).trans (hc j hj).1, (hc j hj).2⟩⟩
theorem RowT.more {k n B B' : Nat} {w : World} {a : Option Addr} {Z : Nat → Nat → Int} (h : RowT k w B a n Z) (hB : B ≤ B') : RowT k w B' a n Z := fun i hi => by
  obtain ⟨x, e, hx, hc⟩ := h i hi
  exact ⟨x, e, by omega, hc⟩
theorem RowT.take {k n m B : Nat} {w : World} {a : Option Addr} {Z : Nat → Nat → Int} (h : RowT k w B a n Z) (hm : m ≤ n) : RowT k w B a m Z := fun i hi => h i (by omega)
theorem add_some (x : Addr) (m j : Nat) (hj : j ≠ 0) : x.add (m + j) = ⟨(x.add m).block, (x.add m).off + j, none⟩ := by
  rw [← add_of_add]
  generalize x.add m = y
  unfold Addr.add
  rw [if_neg hj]
/-- record number i of three -/
theorem RowT.at3 {n B : Nat} {w : World} {a : Option Addr} {Z : Nat → Nat → Int} (h : RowT 3 w B a n Z) (i : Nat) (hi : i < n) :
    ∃ x, a = some x ∧ x.block < B ∧ w.cell? (x.add (i * 3)) = some (.int .i64 (Z i 0)) ∧ w.cell? ⟨(x.add (i * 3)).block, (x.add (i * 3)).off + 1, none⟩ = some (.int .i64 (Z i 1)) ∧ w.cell? ⟨(x.add (i * 3)).block, (x.add (i * 3)).off + 2, none⟩ = some (.int .i64 (Z i 2)) := by
  obtain ⟨x, e, hx, hc⟩ := h i hi
  refine ⟨x, e, hx, (hc 0 (by omega)).1, ?_, ?_⟩
  · rw [← add_some x _ 1 (by omega)]; exact (hc 1 (by omega)).1
  · rw [← add_some x _ 2 (by omega)]; exact (hc 2 (by omega)).1
theorem RowT.at2 {n B : Nat} {w : World} {a : Option Addr} {Z : Nat → Nat → Int} (h : RowT 2 w B a n Z) (i : Nat) (hi : i < n) :
    ∃ x, a = some x ∧ x.block < B ∧ w.cell? (x.add (i * 2)) = some (.int .i64 (Z i 0)) ∧ w.cell? ⟨(x.add (i * 2)).block, (x.add (i * 2)).off + 1, none⟩ = some (.int .i64 (Z i 1)) := by
  obtain ⟨x, e, hx, hc⟩ := h i hi
  refine ⟨x, e, hx, (hc 0 (by omega)).1, ?_⟩
  rw [← add_some x _ 1 (by omega)]; exact (hc 1 (by omega)).1
theorem RowT.bd {k n B : Nat} {w : World} {a : Option Addr} {Z : Nat → Nat → Int} (h : RowT k w B a n Z) (i j : Nat) (hi : i < n) (hj : j < k) : -9223372036854775808 ≤ Z i j ∧ Z i j < 9223372036854775808 := by
  obtain ⟨x, e, hx, hc⟩ := h i hi
  exact (hc j hj).2

/-- a configuration: as it lies in memory, and what its records read as -/
structure Cfg where
  cats : Int
  ga : Option Addr
  gn : Nat
  gc : Nat
  ra : Option Addr
  rn : Nat
  rc : Nat
  pa : Option Addr
  pn : Nat
  pc : Nat
  na : Option Addr
  nn : Nat
  nc : Nat
  sa : Option Addr
  sn : Nat
  sc : Nat
  gate : Int
  quota : Int
  G : Nat → Nat → Int
  R : Nat → Nat → Int
  P : Nat → Nat → Int
  N : Nat → Nat → Int
  S : Nat → Nat → Int
abbrev Cfg.cs (c : Cfg) : Array Value := #[.int .i64 c.cats, .slice c.ga c.gn c.gc, .slice c.ra c.rn c.rc, .slice c.pa c.pn c.pc, .slice c.na c.nn c.nc, .slice c.sa c.sn c.sc, .int .i64 c.gate, .int .i64 c.quota]
abbrev Cfg.v (c : Cfg) : Value := .agg c.cs
structure Cfg.At (c : Cfg) (w : World) (B : Nat) : Prop where
  g : RowT 3 w B c.ga c.gn c.G
  r : RowT 3 w B c.ra c.rn c.R
  p : RowT 2 w B c.pa c.pn c.P
  n : RowT 2 w B c.na c.nn c.N
  s : RowT 2 w B c.sa c.sn c.S
  lg : c.gn ≤ c.gc ∧ c.gn ≤ 140737488355328
  lr : c.rn ≤ c.rc ∧ c.rn ≤ 140737488355328
  lp : c.pn ≤ c.pc ∧ c.pn ≤ 140737488355328
  ln : c.nn ≤ c.nc ∧ c.nn ≤ 140737488355328
  ls : c.sn ≤ c.sc ∧ c.sn ≤ 140737488355328
  i1 : -9223372036854775808 ≤ c.cats ∧ c.cats < 9223372036854775808
  i2 : -9223372036854775808 ≤ c.gate ∧ c.gate < 9223372036854775808
  i3 : -9223372036854775808 ≤ c.quota ∧ c.quota < 9223372036854775808
theorem Cfg.At.below {c : Cfg} {w w' : World} {B : Nat} (h : c.At w B) (hb : Below B w w') : c.At w' B :=
  ⟨h.g.below hb, h.r.below hb, h.p.below hb, h.n.below hb, h.s.below hb, h.lg, h.lr, h.lp, h.ln, h.ls, h.i1, h.i2, h.i3⟩

theorem Cfg.At.more_at {c : Cfg} {w : World} {B B' : Nat} (h : c.At w B) (hB : B ≤ B') : c.At w B' :=
  ⟨h.g.more hB, h.r.more hB, h.p.more hB, h.n.more hB, h.s.more hB, h.lg, h.lr, h.lp, h.ln, h.ls, h.i1, h.i2, h.i3⟩

/-- how many frames the first k guests have -/
def sumG (G : Nat → Nat → Int) : Nat → Int
  | 0 => 0
  | k + 1 => sumG G k + (G k 1 + G k 2)
/-- each of the first n guests has a page, and at most 8 with what it may take -/
def Small (G : Nat → Nat → Int) (n : Nat) : Prop := ∀ i, i < n → 1 ≤ G i 1 ∧ G i 1 ≤ 8 ∧ 0 ≤ G i 2 ∧ G i 1 + G i 2 ≤ 8
theorem sumG_bd {G : Nat → Nat → Int} {n : Nat} (h : Small G n) : ∀ k, k ≤ n → (k : Int) ≤ sumG G k ∧ sumG G k ≤ 8 * k
  | 0, _ => by simp [sumG]
  | k + 1, hk => by
    have := sumG_bd h k (by omega)
    have := h k (by omega)
    simp only [sumG]
    omega

/-! ### which are right -/
def inB (n a b : Int) : Bool := decide (a ≤ n) && decide (n ≤ b)
def isG (c : Cfg) (i : Int) : Bool := decide (0 ≤ i) && decide (i < c.gn)
def wrongG (c : Cfg) (i : Nat) : Bool := !La.validB (c.G i 0) c.cats || !inB (c.G i 1) 1 8 || !inB (c.G i 2) 0 (8 - c.G i 1)
/-- whose the sectors are behind the first k ranges -/
def secs (c : Cfg) : Nat → List Int
  | 0 => List.replicate 32 (-1)
  | k + 1 => Pt.giveL (secs c k) (c.R k 1) (c.R k 2) k
def wrongR (c : Cfg) (i : Nat) : Bool := !La.validB (c.R i 0) c.cats || !decide (Pt.giveE (secs c i) (c.R i 1) (c.R i 2) i = 0)
/-- the first of n for which it is so -/
def firstI (n : Nat) (p : Nat → Bool) : Option Nat := (List.range n).find? p
def portB (c : Cfg) (i : Nat) (g : Int) : Bool := (firstI i fun k => decide (c.P k 1 = g)).isSome
def wrongP (c : Cfg) (i : Nat) : Bool :=
  if c.P i 1 = -1 then !La.validB (c.P i 0) c.cats else !isG c (c.P i 1) || !decide (c.P i 0 = c.G (c.P i 1).toNat 0) || portB c i (c.P i 1)
def wrongN (c : Cfg) (i : Nat) : Bool := !isG c (c.N i 0) || !isG c (c.N i 1) || decide (c.N i 0 = c.N i 1) || !La.flowsZ (c.G (c.N i 0).toNat 0) (c.G (c.N i 1).toNat 0)
def wrongS (c : Cfg) (i : Nat) : Bool := !isG c (c.S i 0) || !inB (c.S i 1) 1 32
def wrongGate (c : Cfg) : Bool := if c.gate = -1 then !decide (c.quota = 0) else !isG c c.gate || !inB c.quota 0 64
def need (c : Cfg) : Int := sumG c.G c.gn + c.nn
end Go.Proofs.Ytmekoanobicddaa.Cf
