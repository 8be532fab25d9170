/- Several texts in one: Ta Ua -/
import Derived.Test.YtniaclhmfmkikaaGreatDoorZ01
import Derived.Great.BuildSlice
import Derived.Deep.Cut
import Derived.Deep.DeepCutAuto
import Derived.Deep.CutBlock
import Derived.Great.Ranges
import Derived.Great.Walk
import Derived.Deep.OwnRows
import Derived.Laws.BitsAllLaws
section
/- A block told whole by its list of cells: read, written, made, kept; arrays of integers compared. Serves all packages. -/
namespace Go.Proofs.YtniaclhmfmkikaaGreatDoor.Ut
open Go.RowKit
set_option linter.unusedVariables false

/-- block b has the cells cs, of type t -/
def Blk (w : World) (b : Nat) (t : TypeId) (cs : List Value) : Prop := w.heap[b]? = some (.cells cs.toArray t (0, 0))

section
variable {w w' : World} {b : Nat} {t : TypeId} {cs : List Value}
theorem Blk.lt (h : Blk w b t cs) : b < w.heap.size := (Array.getElem?_eq_some_iff.1 h).1
theorem Blk.of_block (h : Blk w b t cs) (e : w'.heap[b]? = w.heap[b]?) : Blk w' b t cs := e.trans h
theorem Blk.below {B : Nat} (h : Blk w b t cs) (hb : Below B w w') (hB : b < B) : Blk w' b t cs := h.of_block (hb.block b hB)
theorem Blk.kept {row : Option Nat} (h : Blk w b t cs) (hg : w.grownBy w' row) (hr : some b ≠ row) : Blk w' b t cs := h.of_block (hg.block b h.lt hr)
theorem Blk.cell (h : Blk w b t cs) {j : Nat} {v : Value} (hj : cs[j]? = some v) : w.cell? ⟨b, j, none⟩ = some v := by
  have h' : w.heap[b]? = some (.cells cs.toArray t (0, 0)) := h
  simp [World.cell?, h', hj]
theorem Blk.frozen (h : Blk w b t cs) (j : Nat) : w.frozen? ⟨b, j, none⟩ = false := by
  have h' : w.heap[b]? = some (.cells cs.toArray t (0, 0)) := h
  simp [World.frozen?, h']
theorem Blk.cells (h : Blk w b t cs) (o : Nat) (vs : List Value) (hv : ∀ j v, vs[j]? = some v → cs[o + j]? = some v) : ∀ j v, vs[j]? = some v → w.cell? ((⟨b, o, none⟩ : Addr).add j) = some v := fun j v hj => by
  have e : (⟨b, o, none⟩ : Addr).add j = ⟨b, o + j, none⟩ := by unfold Addr.add; split <;> simp_all
  rw [e]
  exact h.cell (hv j v hj)
theorem Blk.set (h : Blk w b t cs) (j : Nat) (v : Value) : Blk (w.setCell ⟨b, j, none⟩ v) b t (cs.set j v) := by
  unfold Blk
  rw [heap_setCell_same w b j cs.toArray t v h]
  simp
theorem Blk.row (h : Blk w b t cs) (ds : List Value) : Blk (w.setRow b ds.toArray) b t ds := setRow_heap w b _ _ _ _ h
theorem Blk.new (w : World) (t : TypeId) (cs : List Value) : Blk (w.alloc (.cells cs.toArray t)) w.heap.size t cs := heap_alloc_new w _
theorem grown_setCell (w : World) (b j : Nat) (v : Value) : w.grownBy (w.setCell ⟨b, j, none⟩ v) (some b) :=
  ⟨rfl, rfl, rfl, by simp [World.setCell], fun q _ hne => Below.heap_setCell _ _ _ _ fun e => hne (by rw [e])⟩
/-- block b is written whole, behind calls that left it -/
theorem grown_row {w1 : World} (hb : Below w.heap.size w w1) (b : Nat) (ds : Array Value) : w.grownBy (w1.setRow b ds) (some b) :=
  ⟨hb.os, hb.tape, hb.output, by rw [size_setRow]; exact hb.size, fun k hk hne => by
    rw [setRow_other _ _ _ _ (fun e => hne (by rw [e]))]
    exact hb.block k hk⟩
theorem grown_below {row : Option Nat} (hb : Below w.heap.size w w') : w.grownBy w' row := ⟨hb.os, hb.tape, hb.output, hb.size, fun q hq _ => hb.block q hq⟩
theorem grown_trans {w'' : World} {row : Option Nat} (h : w.grownBy w' row) (k : w'.grownBy w'' row) : w.grownBy w'' row :=
  ⟨k.os.trans h.os, k.tape.trans h.tape, k.output.trans h.output, Nat.le_trans h.size k.size, fun q hq hne => (k.block q (Nat.lt_of_lt_of_le hq h.size) hne).trans (h.block q hq hne)⟩
theorem below_of_grown {B b : Nat} {w0 : World} (h : Below B w0 w) (hg : w.grownBy w' (some b)) (hB : B ≤ w.heap.size) (hr : B ≤ b) : Below B w0 w' := h.grown hg hB (fun k hk => by injection hk with e; omega)
end

section
variable {P : Program}
theorem run_loadVar_blk {w : World} {b : Nat} {t : TypeId} {cs : List Value} (h : Blk w b t cs) (o : Nat) (ty : TypeId) (vs : List Value) (hv : ∀ j v, vs[j]? = some v → cs[o + j]? = some v) (d : TypeDesc)
    (hu : P.underlying ty = some d) (hd : (match d with | .struct _ | .array _ _ => true | _ => false) = true) (hi : (P.info? ty).map (·.size) = some vs.length) :
    (loadVar ty ⟨b, o, none⟩).run P w = .ok (.agg vs.toArray) w := run_loadVar_cells w ⟨b, o, none⟩ ty vs d (h.cells o vs hv) hu hd hi
theorem exec_load_blk {ρ : Operand → Value} {oo : Oper} {w : World} {b : Nat} {t : TypeId} {cs : List Value} (h : Blk w b t cs) (o : Nat) (ty : TypeId) (x : Operand) (ho : oo.op = .load ty x) (hx : ρ x = .pointer (some ⟨b, o, none⟩)) (vs : List Value)
    (hv : ∀ j v, vs[j]? = some v → cs[o + j]? = some v) (d : TypeDesc) (hu : P.underlying ty = some d) (hd : (match d with | .struct _ | .array _ _ => true | _ => false) = true) (hi : (P.info? ty).map (·.size) = some vs.length) :
    (execOp ρ oo).run P w = .ok (.value (.agg vs.toArray)) w := exec_load_cells ty x ho ⟨b, o, none⟩ hx vs d (h.cells o vs hv) hu hd hi
/-- an operation of a drawn region whose run is known (it leaves the world) -/
theorem step_val {w : World} {ops : Array Oper} {o : Oper} {a : Act} {K : Act → World → Prop} {Q : Exit → Act → World → Prop} {E : Prop} (hw : Region.wanted o (yielded ops a.tmps) = true) (v : Value) (hrun : (execOp a.eval o).run P w = .ok (.value v) w)
    (h : K (a.put o.dst v) w) : if Region.wanted o (yielded ops a.tmps) = true then Oper.wp P o a w K Q else E := by
  rw [if_pos hw]
  unfold Oper.wp
  rw [hrun, Oper.upon_value]
  exact h
/-- an operation of a drawn region that stores a struct or an array whole into a block -/
theorem step_store_blk {w : World} {ops : Array Oper} {o : Oper} {a : Act} {K : Act → World → Prop} {Q : Exit → Act → World → Prop} {E : Prop} (hw : Region.wanted o (yielded ops a.tmps) = true) (ty : TypeId) (x y : Operand) (ho : o.op = .store ty x y)
    (g off : Nat) (t : TypeId) (cur cs : List Value) (hx : a.eval x = .pointer (some ⟨g, off, none⟩)) (hy : a.eval y = .agg cs.toArray) (hg : Blk w g t cur) (hi : (P.info? ty).map (·.size) = some cs.length) (hfit : off + cs.length ≤ cur.length) (h1 : ∀ v ∈ cs, v.oneCell' = true)
    (h : K (a.put o.dst undef) (w.setRow g (splice cur off cs).toArray)) : if Region.wanted o (yielded ops a.tmps) = true then Oper.wp P o a w K Q else E := by
  rw [if_pos hw]
  unfold Oper.wp execOp
  simp only [ho, hx, hy, Instr.storeAt, Instr.sureAddr, Sem.run_bind, Sem.run_pure, Result.andThen_ok, run_storeVar_cells w g off t ty cur cs hg hi hfit h1]
  exact h
/-- two arrays of integers, compared -/
theorem run_eql_ints (w : World) (t e : TypeId) (n : Nat) (k : IntKind) (ht : P.underlying t = some (.array n e)) (he : P.underlying e = some (.int k)) (hsz : ∀ w, (sizeOf e).run P w = .ok 1 w)
    (xs ys : List Int) (hx : xs.length = n) (hy : ys.length = n) :
    (binOp .eql t (.agg (xs.map (Value.int k)).toArray) (.agg (ys.map (Value.int k)).toArray)).run P w = .ok (.bool (xs == ys)) w := by
  simp only [run_eql_struct, run_equalIn_ints w 9998 t e n k ht he hsz xs ys hx hy, Result.andThen_ok]
end
end Go.Proofs.YtniaclhmfmkikaaGreatDoor.Ut
end
section
/- Package csr: plain facts on the status' bits and on how addresses are meant. -/
namespace Go.Proofs.YtniaclhmfmkikaaGreatDoor.Cs
open Go.RowKit Ut
set_option maxRecDepth 100000
set_option linter.unusedVariables false

/-- has the status that bit? -/
def hasB (s k : Nat) : Bool := s &&& k != 0
/-- a bit of the status turned on or off -/
def putS (s k : Nat) (on : Bool) : Nat := if on then (s &&& (4294967295 - k)) ||| k else s &&& (4294967295 - k)
/-- the status behind a trap, and behind the way back -/
def enterS (s : Nat) : Nat := 4 ||| (if hasB s 1 then 2 else 0) ||| (if hasB s 4 then 8 else 0)
def leaveS (s : Nat) : Nat := (s &&& 10) ||| (if hasB s 2 then 1 else 0) ||| (if hasB s 8 then 4 else 0)
/-- what a register may have of what is written -/
def maskN (n : Nat) : Nat := if n = 0 then 7937 else if n = 5 then 15 else 4294967295

theorem putS_lt {s k : Nat} {on : Bool} (hs : s < 16) (hk : k < 16) : putS s k on < 16 := by
  have h : s &&& (4294967295 - k) < 2 ^ 4 := Nat.lt_of_le_of_lt Nat.and_le_left hs
  unfold putS
  split
  · exact Nat.or_lt_two_pow (n := 4) h hk
  · exact h
theorem enter_fin : ((List.range 16).all fun s => putS (putS (putS (putS s 2 (hasB s 1)) 8 (hasB (putS s 2 (hasB s 1)) 4)) 1 false) 4 true == enterS s) = true := by decide +kernel
theorem enter_is {s : Nat} (hs : s < 16) : putS (putS (putS (putS s 2 (hasB s 1)) 8 (hasB (putS s 2 (hasB s 1)) 4)) 1 false) 4 true = enterS s := by
  have := List.all_eq_true.1 enter_fin s (by simpa using hs)
  simpa using this
theorem leave_fin : ((List.range 16).all fun s => putS (putS s 1 (hasB s 2)) 4 (hasB (putS s 1 (hasB s 2)) 8) == leaveS s) = true := by decide +kernel
theorem leave_is {s : Nat} (hs : s < 16) : putS (putS s 1 (hasB s 2)) 4 (hasB (putS s 1 (hasB s 2)) 8) = leaveS s := by
  have := List.all_eq_true.1 leave_fin s (by simpa using hs)
  simpa using this
theorem enterS_fin : ((List.range 16).all fun s => decide (enterS s < 16) && decide (leaveS s < 16)) = true := by decide +kernel
theorem enterS_lt {s : Nat} (hs : s < 16) : enterS s < 16 := by
  have := List.all_eq_true.1 enterS_fin s (by simpa using hs)
  simp at this
  exact this.1
theorem leaveS_lt {s : Nat} (hs : s < 16) : leaveS s < 16 := by
  have := List.all_eq_true.1 enterS_fin s (by simpa using hs)
  simp at this
  exact this.2
theorem back_fin : ((List.range 16).all fun s => hasB (leaveS (enterS s)) 1 == hasB s 1 && (hasB (leaveS (enterS s)) 4 == hasB s 4) && (hasB (enterS s) 4 && !hasB (enterS s) 1)) = true := by decide +kernel
theorem back_is {s : Nat} (hs : s < 16) : hasB (leaveS (enterS s)) 1 = hasB s 1 ∧ hasB (leaveS (enterS s)) 4 = hasB s 4 ∧ hasB (enterS s) 4 = true ∧ hasB (enterS s) 1 = false := by
  have := List.all_eq_true.1 back_fin s (by simpa using hs)
  simp at this
  exact ⟨this.1.1, this.1.2, this.2.1, this.2.2⟩

/-- the document's way to ask for a bit -/
theorem has_fin : ((List.range 16).all fun s => ([1, 2, 4, 8].all fun k => ((s &&& k == k) == hasB s k))) = true := by decide +kernel
theorem has_is {s : Nat} (hs : s < 16) {k : Nat} (hk : k = 1 ∨ k = 2 ∨ k = 4 ∨ k = 8) : (s &&& k == k) = hasB s k := by
  have := List.all_eq_true.1 has_fin s (by simpa using hs)
  have := List.all_eq_true.1 this k (by rcases hk with rfl | rfl | rfl | rfl <;> simp)
  simpa using this

/-- of the root's page -/
def rootN (a : Nat) : Nat := a / 256 % 32
theorem root_is (a : Nat) : (a &&& 7936) / 256 = rootN a := by
  have h1 : (a &&& 7936) / 256 = (a &&& 7936) >>> 8 := by rw [Nat.shiftRight_eq_div_pow]
  have h2 : a / 256 = a >>> 8 := by rw [Nat.shiftRight_eq_div_pow]
  unfold rootN
  rw [h1, h2, Nat.shiftRight_and_distrib, show 7936 >>> 8 = 2 ^ 5 - 1 from rfl, Nat.and_two_pow_sub_one_eq_mod]
theorem on_is (a : Nat) : (a % 2 == 1) = hasB a 1 := by
  unfold hasB
  rw [show (1 : Nat) = 2 ^ 1 - 1 from rfl, Nat.and_two_pow_sub_one_eq_mod]
  have : a % 2 < 2 := Nat.mod_lt _ (by decide)
  simp only [Nat.pow_one, Nat.add_one_sub_one]
  rcases Nat.mod_two_eq_zero_or_one a with h | h <;> rw [h] <;> rfl
theorem mask_lt (n v : Nat) (hv : v < 4294967296) : v &&& maskN n < 4294967296 := Nat.lt_of_le_of_lt Nat.and_le_left hv
theorem mask_five (v : Nat) : v &&& maskN 5 < 16 := Nat.and_lt_two_pow (n := 4) v (by decide)
theorem mask_all {n v : Nat} (h0 : n ≠ 0) (h5 : n ≠ 5) (hv : v < 4294967296) : v &&& maskN n = v := by
  unfold maskN
  rw [if_neg h0, if_neg h5, show (4294967295 : Nat) = 2 ^ 32 - 1 from rfl, Nat.and_two_pow_sub_one_eq_mod]
  exact Nat.mod_eq_of_lt hv
theorem maskN_lt (n : Nat) : maskN n < 4294967296 := by
  unfold maskN
  split
  · decide
  · split <;> decide
end Go.Proofs.YtniaclhmfmkikaaGreatDoor.Cs
end
