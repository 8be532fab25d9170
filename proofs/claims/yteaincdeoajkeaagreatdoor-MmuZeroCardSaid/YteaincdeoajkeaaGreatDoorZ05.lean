/- Several texts in one: Ta Xa Xb Xc -/
import Derived.Test.YteaincdeoajkeaaGreatDoorZ02
import Derived.Great.BuildSlice
import Derived.Deep.Cut
import Derived.Deep.DeepCutAuto
import Derived.Deep.CutBlock
import Derived.Great.Ranges
import Derived.Great.Walk
import Derived.Deep.OwnRows
import Derived.Test.YteaincdeoajkeaaGreatDoorZ03
section
/- A block told whole by its list of cells: read, written, made, kept; arrays of integers compared. Serves all packages. -/
namespace Go.Proofs.YteaincdeoajkeaaGreatDoor.Ut
open Go.RowKit
set_option linter.unusedVariables false

/-- block b has the cells cs, of type t -/
def Blk (w : World) (b : Nat) (t : TypeId) (cs : List Value) : Prop := w.heap[b]? = some (.cells cs.toArray t (0, 0))

section
variable {w w' : World} {b : Nat} {t : TypeId} {cs : List Value}
theorem Blk.lt (h : Blk w b t cs) : b < w.heap.size := (Array.getElem?_eq_some_iff.1 h).1
theorem Blk.of_block (h : Blk w b t cs) (e : w'.heap[b]? = w.heap[b]?) : Blk w' b t cs := e.trans h
theorem Blk.below {B : Nat} (h : Blk w b t cs) (hb : Below B w w') (hB : b < B) : Blk w' b t cs := h.of_block (hb.block b hB)
theorem Blk.kept {row : Option Nat} (h : Blk w b t cs) (hg : w.grownBy w' row) (hr : some b ≠ row) : Blk w' b t cs := h.of_block (hg.block b h.lt hr)
theorem Blk.cell (h : Blk w b t cs) {j : Nat} {v : Value} (hj : cs[j]? = some v) : w.cell? ⟨b, j, none⟩ = some v := by
  have h' : w.heap[b]? = some (.cells cs.toArray t (0, 0)) := h
  simp [World.cell?, h', hj]
theorem Blk.frozen (h : Blk w b t cs) (j : Nat) : w.frozen? ⟨b, j, none⟩ = false := by
  have h' : w.heap[b]? = some (.cells cs.toArray t (0, 0)) := h
  simp [World.frozen?, h']
theorem Blk.cells (h : Blk w b t cs) (o : Nat) (vs : List Value) (hv : ∀ j v, vs[j]? = some v → cs[o + j]? = some v) : ∀ j v, vs[j]? = some v → w.cell? ((⟨b, o, none⟩ : Addr).add j) = some v := fun j v hj => by
  have e : (⟨b, o, none⟩ : Addr).add j = ⟨b, o + j, none⟩ := by unfold Addr.add; split <;> simp_all
  rw [e]
  exact h.cell (hv j v hj)
theorem Blk.set (h : Blk w b t cs) (j : Nat) (v : Value) : Blk (w.setCell ⟨b, j, none⟩ v) b t (cs.set j v) := by
  unfold Blk
  rw [heap_setCell_same w b j cs.toArray t v h]
  simp
theorem Blk.row (h : Blk w b t cs) (ds : List Value) : Blk (w.setRow b ds.toArray) b t ds := setRow_heap w b _ _ _ _ h
theorem Blk.new (w : World) (t : TypeId) (cs : List Value) : Blk (w.alloc (.cells cs.toArray t)) w.heap.size t cs := heap_alloc_new w _
theorem grown_setCell (w : World) (b j : Nat) (v : Value) : w.grownBy (w.setCell ⟨b, j, none⟩ v) (some b) :=
  ⟨rfl, rfl, rfl, by simp [World.setCell], fun q _ hne => Below.heap_setCell _ _ _ _ fun e => hne (by rw [e])⟩
/-- block b is written whole, behind calls that left it -/
theorem grown_row {w1 : World} (hb : Below w.heap.size w w1) (b : Nat) (ds : Array Value) : w.grownBy (w1.setRow b ds) (some b) :=
  ⟨hb.os, hb.tape, hb.output, by rw [size_setRow]; exact hb.size, fun k hk hne => by
    rw [setRow_other _ _ _ _ (fun e => hne (by rw [e]))]
    exact hb.block k hk⟩
theorem grown_below {row : Option Nat} (hb : Below w.heap.size w w') : w.grownBy w' row := ⟨hb.os, hb.tape, hb.output, hb.size, fun q hq _ => hb.block q hq⟩
theorem grown_trans {w'' : World} {row : Option Nat} (h : w.grownBy w' row) (k : w'.grownBy w'' row) : w.grownBy w'' row :=
  ⟨k.os.trans h.os, k.tape.trans h.tape, k.output.trans h.output, Nat.le_trans h.size k.size, fun q hq hne => (k.block q (Nat.lt_of_lt_of_le hq h.size) hne).trans (h.block q hq hne)⟩
theorem below_of_grown {B b : Nat} {w0 : World} (h : Below B w0 w) (hg : w.grownBy w' (some b)) (hB : B ≤ w.heap.size) (hr : B ≤ b) : Below B w0 w' := h.grown hg hB (fun k hk => by injection hk with e; omega)
end

section
variable {P : Program}
theorem run_loadVar_blk {w : World} {b : Nat} {t : TypeId} {cs : List Value} (h : Blk w b t cs) (o : Nat) (ty : TypeId) (vs : List Value) (hv : ∀ j v, vs[j]? = some v → cs[o + j]? = some v) (d : TypeDesc)
    (hu : P.underlying ty = some d) (hd : (match d with | .struct _ | .array _ _ => true | _ => false) = true) (hi : (P.info? ty).map (·.size) = some vs.length) :
    (loadVar ty ⟨b, o, none⟩).run P w = .ok (.agg vs.toArray) w := run_loadVar_cells w ⟨b, o, none⟩ ty vs d (h.cells o vs hv) hu hd hi
theorem exec_load_blk {ρ : Operand → Value} {oo : Oper} {w : World} {b : Nat} {t : TypeId} {cs : List Value} (h : Blk w b t cs) (o : Nat) (ty : TypeId) (x : Operand) (ho : oo.op = .load ty x) (hx : ρ x = .pointer (some ⟨b, o, none⟩)) (vs : List Value)
    (hv : ∀ j v, vs[j]? = some v → cs[o + j]? = some v) (d : TypeDesc) (hu : P.underlying ty = some d) (hd : (match d with | .struct _ | .array _ _ => true | _ => false) = true) (hi : (P.info? ty).map (·.size) = some vs.length) :
    (execOp ρ oo).run P w = .ok (.value (.agg vs.toArray)) w := exec_load_cells ty x ho ⟨b, o, none⟩ hx vs d (h.cells o vs hv) hu hd hi
/-- an operation of a drawn region whose run is known (it leaves the world) -/
theorem step_val {w : World} {ops : Array Oper} {o : Oper} {a : Act} {K : Act → World → Prop} {Q : Exit → Act → World → Prop} {E : Prop} (hw : Region.wanted o (yielded ops a.tmps) = true) (v : Value) (hrun : (execOp a.eval o).run P w = .ok (.value v) w)
    (h : K (a.put o.dst v) w) : if Region.wanted o (yielded ops a.tmps) = true then Oper.wp P o a w K Q else E := by
  rw [if_pos hw]
  unfold Oper.wp
  rw [hrun, Oper.upon_value]
  exact h
/-- an operation of a drawn region that stores a struct or an array whole into a block -/
theorem step_store_blk {w : World} {ops : Array Oper} {o : Oper} {a : Act} {K : Act → World → Prop} {Q : Exit → Act → World → Prop} {E : Prop} (hw : Region.wanted o (yielded ops a.tmps) = true) (ty : TypeId) (x y : Operand) (ho : o.op = .store ty x y)
    (g off : Nat) (t : TypeId) (cur cs : List Value) (hx : a.eval x = .pointer (some ⟨g, off, none⟩)) (hy : a.eval y = .agg cs.toArray) (hg : Blk w g t cur) (hi : (P.info? ty).map (·.size) = some cs.length) (hfit : off + cs.length ≤ cur.length) (h1 : ∀ v ∈ cs, v.oneCell' = true)
    (h : K (a.put o.dst undef) (w.setRow g (splice cur off cs).toArray)) : if Region.wanted o (yielded ops a.tmps) = true then Oper.wp P o a w K Q else E := by
  rw [if_pos hw]
  unfold Oper.wp execOp
  simp only [ho, hx, hy, Instr.storeAt, Instr.sureAddr, Sem.run_bind, Sem.run_pure, Result.andThen_ok, run_storeVar_cells w g off t ty cur cs hg hi hfit h1]
  exact h
/-- two arrays of integers, compared -/
theorem run_eql_ints (w : World) (t e : TypeId) (n : Nat) (k : IntKind) (ht : P.underlying t = some (.array n e)) (he : P.underlying e = some (.int k)) (hsz : ∀ w, (sizeOf e).run P w = .ok 1 w)
    (xs ys : List Int) (hx : xs.length = n) (hy : ys.length = n) :
    (binOp .eql t (.agg (xs.map (Value.int k)).toArray) (.agg (ys.map (Value.int k)).toArray)).run P w = .ok (.bool (xs == ys)) w := by
  simp only [run_eql_struct, run_equalIn_ints w 9998 t e n k ht he hsz xs ys hx hy, Result.andThen_ok]
end
end Go.Proofs.YteaincdeoajkeaaGreatDoor.Ut
end
section
/- Package gmap: a map's block told by its places; find, fits, New; the document's map. -/
namespace Go.Proofs.YteaincdeoajkeaaGreatDoor.Gm
open Go.RowKit Ut
set_option maxRecDepth 100000
set_option linter.unusedVariables false

/-- a place: its frame, its rights -/
abbrev Pl := Int × Int
def plV (p : Pl) : Value := .agg #[.int .i64 p.1, .int .i64 p.2]
def plC (p : Pl) : List Value := [.int .i64 p.1, .int .i64 p.2]
/-- one that was set; one that can be -/
def thB (p : Pl) : Bool := !(p.1 == 0 && p.2 == 0)
def okB (p : Pl) : Bool := decide (0 ≤ p.1) && decide (p.1 < 32) && decide (0 < p.2) && decide (p.2 ≤ 3)
def flatP : List Pl → List Value
  | [] => []
  | p :: l => .int .i64 p.1 :: .int .i64 p.2 :: flatP l
def Okay (L : List Pl) : Prop := L.length = 12 ∧ ∀ p ∈ L, p = (0, 0) ∨ okB p = true
def noP : List Pl := List.replicate 12 (0, 0)
theorem noP_ok : Okay noP := ⟨rfl, fun p hp => .inl (List.eq_of_mem_replicate hp)⟩
/-- page n's place; of one that can't be: none -/
def plN (L : List Pl) (k : Nat) : Pl := L.getD k (0, 0)
def atP (L : List Pl) (n : Int) : Pl := if 0 ≤ n ∧ n < 12 then plN L n.toNat else (0, 0)
def setE (L : List Pl) (n : Int) (p : Pl) : Int := if 0 ≤ n ∧ n < 12 then (if okB p = true then (if thB (plN L n.toNat) = true then 5 else 0) else 1) else 1
def setL (L : List Pl) (n : Int) (p : Pl) : List Pl := if setE L n p = 0 then L.set n.toNat p else L
def drE (L : List Pl) (n : Int) : Int := if 0 ≤ n ∧ n < 12 then (if thB (plN L n.toNat) = true then 0 else 3) else 1
def drL (L : List Pl) (n : Int) : List Pl := if drE L n = 0 then L.set n.toNat (0, 0) else L
def mayB (p : Pl) (n k : Int) : Bool := if k = 0 then decide (n < 8) else if k = 1 then decide (p.2 % 2 = 1) else if k = 2 then decide (2 ≤ p.2) else false
def alwF (p : Pl) (n k : Int) : Int := if thB p = true then (if mayB p n k = true then 0 else 6) else 7
def upto (L : List Pl) (k : Nat) : List Int := ((List.range k).filter fun i => thB (plN L i)).map fun i : Nat => (i : Int)

theorem length_flatP (L : List Pl) : (flatP L).length = 2 * L.length := by
  induction L with
  | nil => rfl
  | cons p l ih => simp [flatP, ih]; omega
theorem flatP_one (L : List Pl) : ∀ v ∈ flatP L, v.oneCell' = true := by
  induction L with
  | nil => intro v hv; cases hv
  | cons p l ih =>
    intro v hv
    unfold flatP at hv
    rcases List.mem_cons.1 hv with rfl | hv
    · rfl
    · rcases List.mem_cons.1 hv with rfl | hv
      · rfl
      · exact ih v hv
theorem flatP_get (L : List Pl) : ∀ k, k < L.length → (flatP L)[2 * k]? = some (.int .i64 (plN L k).1) ∧ (flatP L)[2 * k + 1]? = some (.int .i64 (plN L k).2) := by
  induction L with
  | nil => intro k hk; simp at hk
  | cons p l ih =>
    intro k hk
    cases k with
    | zero => exact ⟨rfl, rfl⟩
    | succ k =>
      have h := ih k (by simpa using hk)
      rw [show 2 * (k + 1) = 2 * k + 1 + 1 by omega]
      simpa [flatP, plN] using h
theorem flatP_set (L : List Pl) : ∀ k (p : Pl), k < L.length → flatP (L.set k p) = ((flatP L).set (2 * k) (.int .i64 p.1)).set (2 * k + 1) (.int .i64 p.2) := by
  induction L with
  | nil => intro k p hk; simp at hk
  | cons q l ih =>
    intro k p hk
    cases k with
    | zero => rfl
    | succ k =>
      have h := ih k p (by simpa using hk)
      rw [show 2 * (k + 1) = 2 * k + 1 + 1 by omega]
      simp only [List.set_cons_succ, flatP, h]

/-- a map's cells: made, its places -/
def mCells (L : List Pl) : List Value := .bool true :: flatP L
def MAt (w : World) (b : Nat) (L : List Pl) : Prop := Blk w b 141 (mCells L) ∧ Okay L
/-- the document's map: which are there, its places -/
def rCells (L : List Pl) : List Value := L.map (fun p => Value.bool (thB p)) ++ flatP L
def RAt (w : World) (b : Nat) (L : List Pl) : Prop := Blk w b 93 (rCells L) ∧ Okay L

theorem add_nil (b o : Nat) (j : Nat) : (⟨b, o, none⟩ : Addr).add j = ⟨b, o + j, none⟩ := by unfold Addr.add; split <;> simp_all

section
variable {w w' : World} {b : Nat} {L : List Pl}
theorem MAt.lt (h : MAt w b L) : b < w.heap.size := h.1.lt
theorem MAt.below {B : Nat} (h : MAt w b L) (hb : Below B w w') (hB : b < B) : MAt w' b L := ⟨h.1.below hb hB, h.2⟩
theorem MAt.more (h : MAt w b L) (hb : Below w.heap.size w w') : MAt w' b L := h.below hb h.lt
theorem MAt.kept {row : Option Nat} (h : MAt w b L) (hg : w.grownBy w' row) (hr : some b ≠ row) : MAt w' b L := ⟨h.1.kept hg hr, h.2⟩
theorem MAt.made (h : MAt w b L) : w.cell? ⟨b, 0, none⟩ = some (.bool true) := h.1.cell rfl
theorem MAt.cells (h : MAt w b L) (k : Nat) (hk : k < 12) : w.cell? ⟨b, 1 + 2 * k, none⟩ = some (.int .i64 (plN L k).1) ∧ w.cell? ⟨b, 1 + 2 * k + 1, none⟩ = some (.int .i64 (plN L k).2) := by
  have hf := flatP_get L k (by rw [h.2.1]; exact hk)
  refine ⟨h.1.cell ?_, h.1.cell ?_⟩
  · rw [show 1 + 2 * k = 2 * k + 1 by omega]; simpa [mCells] using hf.1
  · rw [show 1 + 2 * k + 1 = 2 * k + 1 + 1 by omega]; simpa [mCells] using hf.2
theorem Okay.set (h : Okay L) (k : Nat) (p : Pl) (hp : p = (0, 0) ∨ okB p = true) : Okay (L.set k p) :=
  ⟨by rw [List.length_set]; exact h.1, fun q hq => by
    rcases List.mem_or_eq_of_mem_set hq with h1 | rfl
    · exact h.2 q h1
    · exact hp⟩
theorem Okay.pl (h : Okay L) (k : Nat) : plN L k = (0, 0) ∨ okB (plN L k) = true := by
  unfold plN
  by_cases hk : k < L.length
  · rw [List.getD_eq_getElem?_getD, List.getElem?_eq_getElem hk]
    exact h.2 _ (List.getElem_mem hk)
  · rw [List.getD_eq_getElem?_getD, List.getElem?_eq_none (by omega)]
    exact .inl rfl
theorem mCells_set (h : Okay L) (k : Nat) (hk : k < 12) (p : Pl) : ((mCells L).set (1 + 2 * k) (.int .i64 p.1)).set (1 + 2 * k + 1) (.int .i64 p.2) = mCells (L.set k p) := by
  unfold mCells
  rw [flatP_set L k p (by rw [h.1]; exact hk), show 1 + 2 * k = 2 * k + 1 by omega]
  rfl
theorem length_mCells (h : Okay L) : (mCells L).length = 25 := by simp [mCells, length_flatP, h.1]
theorem MAt.set (h : MAt w b L) (k : Nat) (hk : k < 12) (p : Pl) (hp : p = (0, 0) ∨ okB p = true) : MAt ((w.setCell ⟨b, 1 + 2 * k, none⟩ (.int .i64 p.1)).setCell ⟨b, 1 + 2 * k + 1, none⟩ (.int .i64 p.2)) b (L.set k p) := by
  refine ⟨?_, h.2.set k p hp⟩
  rw [← mCells_set h.2 k hk p]
  exact (h.1.set (1 + 2 * k) (.int .i64 p.1)).set (1 + 2 * k + 1) (.int .i64 p.2)
theorem RAt.lt (h : RAt w b L) : b < w.heap.size := h.1.lt
theorem RAt.below {B : Nat} (h : RAt w b L) (hb : Below B w w') (hB : b < B) : RAt w' b L := ⟨h.1.below hb hB, h.2⟩
theorem RAt.more (h : RAt w b L) (hb : Below w.heap.size w w') : RAt w' b L := h.below hb h.lt
theorem RAt.kept {row : Option Nat} (h : RAt w b L) (hg : w.grownBy w' row) (hr : some b ≠ row) : RAt w' b L := ⟨h.1.kept hg hr, h.2⟩
theorem RAt.there (h : RAt w b L) (k : Nat) (hk : k < 12) : w.cell? ⟨b, k, none⟩ = some (.bool (thB (plN L k))) := h.1.cell (by
  have hl := h.2.1
  simp [rCells, plN, List.getD, hl, hk, List.getElem?_append])
theorem RAt.cells (h : RAt w b L) (k : Nat) (hk : k < 12) : w.cell? ⟨b, 12 + 2 * k, none⟩ = some (.int .i64 (plN L k).1) ∧ w.cell? ⟨b, 12 + 2 * k + 1, none⟩ = some (.int .i64 (plN L k).2) := by
  have hf := flatP_get L k (by rw [h.2.1]; exact hk)
  have hl : (L.map (fun p => Value.bool (thB p))).length = 12 := by simp [h.2.1]
  refine ⟨h.1.cell ?_, h.1.cell ?_⟩
  · unfold rCells; rw [List.getElem?_append_right (by omega), hl, show 12 + 2 * k - 12 = 2 * k by omega]; exact hf.1
  · unfold rCells; rw [List.getElem?_append_right (by omega), hl, show 12 + 2 * k + 1 - 12 = 2 * k + 1 by omega]; exact hf.2
theorem rCells_set (h : Okay L) (k : Nat) (hk : k < 12) (p : Pl) : (((rCells L).set k (.bool (thB p))).set (12 + 2 * k) (.int .i64 p.1)).set (12 + 2 * k + 1) (.int .i64 p.2) = rCells (L.set k p) := by
  have hl : ((L.set k p).map (fun p => Value.bool (thB p))).length = 12 := by simp [h.1]
  have e : (rCells L).set k (.bool (thB p)) = (L.set k p).map (fun p => Value.bool (thB p)) ++ flatP L := by
    unfold rCells
    rw [List.set_append_left _ _ (by simp [h.1, hk]), List.map_set]
  rw [e, List.set_append_right _ _ (by omega), List.set_append_right _ _ (by omega), hl, show 12 + 2 * k - 12 = 2 * k by omega, show 12 + 2 * k + 1 - 12 = 2 * k + 1 by omega, ← flatP_set L k p (by rw [h.1]; exact hk)]
  rfl
theorem length_rCells (h : Okay L) : (rCells L).length = 36 := by simp [rCells, length_flatP, h.1]
theorem RAt.set (h : RAt w b L) (k : Nat) (hk : k < 12) (p : Pl) (hp : p = (0, 0) ∨ okB p = true) : RAt (((w.setCell ⟨b, k, none⟩ (.bool (thB p))).setCell ⟨b, 12 + 2 * k, none⟩ (.int .i64 p.1)).setCell ⟨b, 12 + 2 * k + 1, none⟩ (.int .i64 p.2)) b (L.set k p) := by
  refine ⟨?_, h.2.set k p hp⟩
  rw [← rCells_set h.2 k hk p]
  exact ((h.1.set k (.bool (thB p))).set (12 + 2 * k) (.int .i64 p.1)).set (12 + 2 * k + 1) (.int .i64 p.2)
end

/-- facts on places -/
theorem th_none : thB (0, 0) = false := rfl
theorem th_ok {p : Pl} (h : okB p = true) : thB p = true := by
  unfold okB at h; unfold thB
  simp at h ⊢; omega
theorem ok_in {p : Pl} (h : okB p = true) : 0 ≤ p.1 ∧ p.1 < 32 ∧ 0 < p.2 ∧ p.2 ≤ 3 := by
  unfold okB at h
  simp at h; omega
theorem pl_cases {L : List Pl} (h : Okay L) (k : Nat) : (plN L k = (0, 0)) ∨ ∃ f r : Nat, plN L k = ((f : Int), (r : Int)) ∧ f < 32 ∧ 0 < r ∧ r ≤ 3 ∧ thB ((f : Int), (r : Int)) = true := by
  rcases h.pl k with h | h
  · exact .inl h
  · have h2 := ok_in h
    refine .inr ⟨(plN L k).1.toNat, (plN L k).2.toNat, ?_, by omega, by omega, by omega, ?_⟩
    · refine Prod.ext ?_ ?_
      · simp; omega
      · simp; omega
    · rw [show ((((plN L k).1.toNat : Nat) : Int), (((plN L k).2.toNat : Nat) : Int)) = plN L k from Prod.ext (by simp; omega) (by simp; omega)]
      exact th_ok h
theorem page_cases (n : Int) : (n < 0 ∨ 12 ≤ n) ∨ ∃ k : Nat, n = k ∧ k < 12 := by
  by_cases h : n < 0 ∨ 12 ≤ n
  · exact .inl h
  · exact .inr ⟨n.toNat, by omega, by omega⟩
theorem atP_no {L : List Pl} {n : Int} (h : n < 0 ∨ 12 ≤ n) : atP L n = (0, 0) := if_neg (by omega)
theorem atP_is {L : List Pl} {k : Nat} (h : k < 12) : atP L k = plN L k := if_pos (by omega)
theorem setE_no {L : List Pl} {n : Int} {p : Pl} (h : n < 0 ∨ 12 ≤ n) : setE L n p = 1 := if_neg (by omega)
theorem setE_is {L : List Pl} {k : Nat} {p : Pl} (h : k < 12) : setE L k p = if okB p = true then (if thB (plN L k) = true then 5 else 0) else 1 := if_pos (by omega)
theorem drE_no {L : List Pl} {n : Int} (h : n < 0 ∨ 12 ≤ n) : drE L n = 1 := if_neg (by omega)
theorem drE_is {L : List Pl} {k : Nat} (h : k < 12) : drE L k = if thB (plN L k) = true then 0 else 3 := if_pos (by omega)
theorem upto_zero (L : List Pl) : upto L 0 = [] := rfl
theorem upto_succ (L : List Pl) (k : Nat) : upto L (k + 1) = upto L k ++ if thB (plN L k) = true then [(k : Int)] else [] := by
  unfold upto
  rw [List.range_succ, List.filter_append, List.map_append]
  by_cases h : thB (plN L k) = true
  · simp [h]
  · simp [h]
theorem upto_len (L : List Pl) (k : Nat) : (upto L k).length ≤ k := by
  unfold upto
  rw [List.length_map]
  exact Nat.le_trans (List.length_filter_le _ _) (by simp)
end Go.Proofs.YteaincdeoajkeaaGreatDoor.Gm
end
section
/- Package gmap: New, find, fits, Get, of the program. -/
namespace Go.Proofs.YteaincdeoajkeaaGreatDoor.Gm
open Go.RowKit Ut
set_option maxRecDepth 100000
set_option linter.unusedVariables false
set_option maxHeartbeats 4000000

theorem new_any (w : World) : Calls Tryz.prog 26 #[] w fun e w' => e = .returned (.pointer (some ⟨w.heap.size, 0, none⟩)) ∧ MAt w' w.heap.size noP ∧ Below w.heap.size w w' := by
  have hF : MAt (w.alloc (.cells (mCells noP).toArray 141)) w.heap.size noP := ⟨Blk.new w _ _, noP_ok⟩
  have HF := Lib.hid hF
  have HB := (Below.refl w.heap.size w).alloc (Nat.le_refl _) (.cells (mCells noP).toArray 141)
  clear hF
  go_enter Tryz.func26, Tryz.ntmps26
  go_upto_region 1 with fail
  refine wp_region_lit ?_
  refine wpList_buildTo rfl 141 _ rfl _ rfl (mCells noP).toArray (by kernel_rfl) ?_
  refine Great.wpList_boxTo rfl 141 _ rfl _ rfl w.heap.size rfl (mCells noP).toArray rfl ?_
  obtain ⟨W, hW⟩ : ∃ W, W = w.alloc (.cells (mCells noP).toArray 141) := ⟨_, rfl⟩
  rw [← hW] at HF HB ⊢
  clear hW
  go_wp2
  go_ret
  exact ⟨rfl, HF.out, HB⟩

theorem find_nil (n : Int) (w : World) : Calls Tryz.prog 51 #[.pointer none, .int .i64 n] w fun e w' => e = .returned (.tuple #[.pointer none, .int .i64 7]) ∧ w = w' := by
  go_enter Tryz.func51, Tryz.ntmps51
  go_wp2
  go_ret2
  exact ⟨rfl, rfl⟩
theorem find_unmade (b : Nat) (n : Int) (w : World) (h0 : w.cell? ⟨b, 0, none⟩ = some (.bool false)) : Calls Tryz.prog 51 #[.pointer (some ⟨b, 0, none⟩), .int .i64 n] w fun e w' => e = .returned (.tuple #[.pointer none, .int .i64 7]) ∧ w = w' := by
  go_enter Tryz.func51, Tryz.ntmps51
  go_wp2
  go_ret2
  exact ⟨rfl, rfl⟩
theorem find_out (b : Nat) (n : Int) (L : List Pl) (w : World) (h : MAt w b L) (hn : n < 0 ∨ 12 ≤ n) : Calls Tryz.prog 51 #[.pointer (some ⟨b, 0, none⟩), .int .i64 n] w fun e w' => e = .returned (.tuple #[.pointer none, .int .i64 1]) ∧ w = w' := by
  have h0 := h.made
  clear h
  rcases Int.lt_or_le n 0 with f0 | f0
  · have f1 : decide (n < 0) = true := by simpa using f0
    go_enter Tryz.func51, Tryz.ntmps51
    go_wp2
    go_ret2
    exact ⟨rfl, rfl⟩
  · have f1 : decide (n < 0) = false := by simpa using f0
    have f2 : decide (12 ≤ n) = true := by simp; omega
    go_enter Tryz.func51, Tryz.ntmps51
    go_wp2
    go_ret2
    exact ⟨rfl, rfl⟩
theorem find_in (b k : Nat) (L : List Pl) (w : World) (h : MAt w b L) (hk : k < 12) : Calls Tryz.prog 51 #[.pointer (some ⟨b, 0, none⟩), .int .i64 k] w fun e w' => e = .returned (.tuple #[.pointer (some ⟨b, 1 + 2 * k, none⟩), .int .i64 0]) ∧ w = w' := by
  have h0 := h.made
  have f0 : decide ((k : Int) < 0) = false := by simp
  have f1 : decide ((12 : Int) ≤ (k : Int)) = false := by simp; omega
  have f2 : (0 : Int) ≤ (k : Int) ∧ (k : Int) < 12 := by omega
  clear h
  go_enter Tryz.func51, Tryz.ntmps51
  go_wp2
  go_ret2
  refine ⟨?_, rfl⟩
  rw [Nat.mul_comm 2 k]
  rfl

theorem fits_any (p : Pl) (t : Bool) (ht : okB p = t) (w : World) : Calls Tryz.prog 62 #[plV p] w fun e w' => e = .returned (.bool t) ∧ Below w.heap.size w w' := by
  obtain ⟨f, r⟩ := p
  have hb := Lib.hid ((Below.refl w.heap.size w).alloc (Nat.le_refl _) (.cells #[.int .i64 f, .int .i64 r] 54))
  have H : Hid (t = (decide (0 ≤ f) && decide (f < 32) && decide (0 < r) && decide (r ≤ 3))) := Lib.hid (by rw [← ht]; rfl)
  clear ht
  show Calls _ _ #[.agg #[.int .i64 f, .int .i64 r]] _ _
  by_cases h1 : 0 ≤ f
  · by_cases h2 : f < 32
    · by_cases h3 : 0 < r
      · by_cases h4 : r ≤ 3
        all_goals
          go_enter Tryz.func62, Tryz.ntmps62
          go_wp2
          go_ret
          exact ⟨by rw [H.out]; simp [*], hb.out⟩
      · go_enter Tryz.func62, Tryz.ntmps62
        go_wp2
        go_ret
        exact ⟨by rw [H.out]; simp; omega, hb.out⟩
    · go_enter Tryz.func62, Tryz.ntmps62
      go_wp2
      go_ret
      exact ⟨by rw [H.out]; simp; omega, hb.out⟩
  · go_enter Tryz.func62, Tryz.ntmps62
    go_wp2
    go_ret
    exact ⟨by rw [H.out]; simp; omega, hb.out⟩
end Go.Proofs.YteaincdeoajkeaaGreatDoor.Gm
end
section
/- Package gmap: Get of the program. -/
namespace Go.Proofs.YteaincdeoajkeaaGreatDoor.Gm
open Go.RowKit Ut
set_option maxRecDepth 100000
set_option linter.unusedVariables false
set_option maxHeartbeats 4000000

theorem box_below (w : World) (x y : Int) : Below w.heap.size w (w.alloc (.cells #[.int .i64 x, .int .i64 y] 54)) := (Below.refl w.heap.size w).alloc (Nat.le_refl _) _
theorem set_keep {w W : World} (j : Nat) (v : Value) (h : Below w.heap.size w W) : Below w.heap.size w (W.setCell ⟨w.heap.size, j, none⟩ v) := h.setCell (p := ⟨w.heap.size, j, none⟩) (by simp) _
/-- where find says no -/
theorem get_no (a : Option Addr) (n z : Int) (hz : z = 1 ∨ z = 7) (w : World) (hF : ∀ W, Below w.heap.size w W → Calls Tryz.prog 51 #[.pointer a, .int .i64 n] W fun e w' => e = .returned (.tuple #[.pointer none, .int .i64 z]) ∧ W = w') :
    Calls Tryz.prog 16 #[.pointer a, .int .i64 n] w fun e w' => e = .returned (.tuple #[plV (0, 0), .bool false]) ∧ Below w.heap.size w w' := by
  have hz0 : (z == 0) = false := by rcases hz with rfl | rfl <;> rfl
  have HB := Lib.hid (box_below w 0 0)
  have HF := Lib.hid (hF _ HB.out)
  clear hF hz
  go_enter Tryz.func16, Tryz.ntmps16
  go_wp2_with fail
  refine HF.out.mono ?_
  rintro e w1 ⟨rfl, rfl⟩
  go_wp2
  exact bodyPost_ret (v := .tuple #[plV (0, 0), .bool false]) (by simp [results, Tryz.results16, go_sem, plV]) rfl ⟨rfl, by first | exact HB.out | exact (box_below w _ _).drew | exact set_keep _ _ (set_keep _ _ HB.out)⟩
theorem get_none (b k : Nat) (L : List Pl) (hk : k < 12) (hp : plN L k = (0, 0)) (w : World) (h : MAt w b L) :
    Calls Tryz.prog 16 #[.pointer (some ⟨b, 0, none⟩), .int .i64 k] w fun e w' => e = .returned (.tuple #[plV (0, 0), .bool false]) ∧ Below w.heap.size w w' := by
  have HB := Lib.hid (box_below w 0 0)
  have HF := Lib.hid (find_in b k L _ (h.more HB.out) hk)
  have hc := h.cells k hk
  rw [hp] at hc
  obtain ⟨c0, c1⟩ := hc
  have hlt := h.lt
  clear h hk hp
  go_enter Tryz.func16, Tryz.ntmps16
  go_wp2_with fail
  refine HF.out.mono ?_
  rintro e w1 ⟨rfl, rfl⟩
  generalize 1 + 2 * k = o at c0 c1 ⊢
  go_upto_region 4 with fail
  go_region
  go_wp2
  exact bodyPost_ret (v := .tuple #[plV (0, 0), .bool false]) (by simp [results, Tryz.results16, go_sem, plV]) rfl ⟨rfl, by first | exact HB.out | exact (box_below w _ _).drew | exact set_keep _ _ (set_keep _ _ HB.out)⟩
theorem get_is (b k f r : Nat) (L : List Pl) (hk : k < 12) (hp : plN L k = ((f : Int), (r : Int))) (hr : 0 < r) (w : World) (h : MAt w b L) :
    Calls Tryz.prog 16 #[.pointer (some ⟨b, 0, none⟩), .int .i64 k] w fun e w' => e = .returned (.tuple #[plV ((f : Int), (r : Int)), .bool true]) ∧ Below w.heap.size w w' := by
  have HB := Lib.hid (box_below w 0 0)
  have HF := Lib.hid (find_in b k L _ (h.more HB.out) hk)
  have hc := h.cells k hk
  rw [hp] at hc
  obtain ⟨c0, c1⟩ := hc
  have hlt := h.lt
  have hr0 : ((r : Int) == 0) = false := by simp; omega
  clear h hk hp
  go_enter Tryz.func16, Tryz.ntmps16
  go_wp2_with fail
  refine HF.out.mono ?_
  rintro e w1 ⟨rfl, rfl⟩
  generalize 1 + 2 * k = o at c0 c1 ⊢
  go_upto_region 4 with fail
  go_region
  go_wp2
  exact bodyPost_ret (v := .tuple #[plV ((f : Int), (r : Int)), .bool true]) (by simp [results, Tryz.results16, go_sem, plV]) rfl ⟨rfl, by first | exact HB.out | exact (box_below w _ _).drew | exact set_keep _ _ (set_keep _ _ HB.out)⟩
theorem get_any (b : Nat) (L : List Pl) (n : Int) (p : Pl) (t : Bool) (hp : atP L n = p) (ht : thB p = t) (w : World) (h : MAt w b L) :
    Calls Tryz.prog 16 #[.pointer (some ⟨b, 0, none⟩), .int .i64 n] w fun e w' => e = .returned (.tuple #[plV p, .bool t]) ∧ Below w.heap.size w w' := by
  subst ht hp
  rcases page_cases n with hn | ⟨k, rfl, hk⟩
  · rw [atP_no hn]
    exact get_no _ n 1 (.inl rfl) w fun W hW => find_out b n L W (h.more hW) hn
  · rw [atP_is hk]
    rcases pl_cases h.2 k with hp | ⟨f, r, hp, _, hr, _, ht⟩
    · rw [hp]
      exact get_none b k L hk hp w h
    · rw [hp, ht]
      exact get_is b k f r L hk hp hr w h
theorem get_zero (a : Option Addr) (n : Int) (w : World) (hF : ∀ W, Below w.heap.size w W → Calls Tryz.prog 51 #[.pointer a, .int .i64 n] W fun e w' => e = .returned (.tuple #[.pointer none, .int .i64 7]) ∧ W = w') :
    Calls Tryz.prog 16 #[.pointer a, .int .i64 n] w fun e w' => e = .returned (.tuple #[plV (0, 0), .bool false]) ∧ Below w.heap.size w w' := get_no a n 7 (.inr rfl) w hF
end Go.Proofs.YteaincdeoajkeaaGreatDoor.Gm
end
