/- Several texts in one: Su Kq -/
import Derived.Test.YteaincdeoajkeaaGreatDoorV05
import Derived.Test.YteaincdeoajkeaaGreatDoorV11
import Derived.Test.YteaincdeoajkeaaGreatDoorV48
import Derived.Test.YteaincdeoajkeaaGreatDoorV43
section
/- Drawn regions whose invariant looks at which operations are done and at what they yielded: blocks made in them, whose numbers hang on the order drawn, calls that write, stores in the middle. Serves all packages. -/
namespace Go.Proofs.YteaincdeoajkeaaGreatDoor.Ut
open Go.RowKit
set_option linter.unusedVariables false

section
variable {P : Program} {ops : Array Oper} {Q : Exit → Act → World → Prop} {T : (Nat → Value) → Array Value} {d : List Deferred} {R : Nat → Value → Prop} {WI : (Nat → Bool) → (Nat → Value) → World → Prop}
/-- what is asked of operation o, number i -/
def StepX (P : Program) (ops : Array Oper) (Q : Exit → Act → World → Prop) (T : (Nat → Value) → Array Value) (d : List Deferred) (R : Nat → Value → Prop) (WI : (Nat → Bool) → (Nat → Value) → World → Prop) (i : Nat) (o : Oper) : Prop :=
 ∀ (L : Nat → Bool) (x : Nat → Value) (w : World), L i = false → Closed ops L → WI L x w → (∀ j ∈ depsOf o, L j = true ∧ R j (x j)) → ∀ K : Act → World → Prop, (∀ v w' tm, tm = T (upd x i v) → R i v → WI (fun j => if j = i then true else L j) (upd x i v) w' → K { tmps := tm, defers := d } w') →
  if Region.wanted o (yielded ops (T x)) = true then Oper.wp P o { tmps := T x, defers := d } w K Q else K (Act.put { tmps := T x, defers := d } o.dst undef) w
/-- .. of the last one -/
def LastX (P : Program) (ops : Array Oper) (Q : Exit → Act → World → Prop) (T : (Nat → Value) → Array Value) (d : List Deferred) (R : Nat → Value → Prop) (WI : (Nat → Bool) → (Nat → Value) → World → Prop) (i : Nat) (o : Oper) : Prop :=
 ∀ (L : Nat → Bool) (x : Nat → Value) (w : World), L i = false → (∀ j, j < i → L j = true) → WI L x w → (∀ j, j < i → R j (x j)) → ∀ K : Act → World → Prop, (∀ a' w', Q .normal a' w' → K a' w') →
  if Region.wanted o (yielded ops (T x)) = true then Oper.wp P o { tmps := T x, defers := d } w K Q else K (Act.put { tmps := T x, defers := d } o.dst undef) w
/-- the operations from number k on -/
def StepsX (P : Program) (ops : Array Oper) (Q : Exit → Act → World → Prop) (T : (Nat → Value) → Array Value) (d : List Deferred) (R : Nat → Value → Prop) (WI : (Nat → Bool) → (Nat → Value) → World → Prop) (k : Nat) (l : List Oper) : Prop :=
 ∀ j o, l[j]? = some o → if j + 1 = l.length then LastX P ops Q T d R WI (k + j) o else StepX P ops Q T d R WI (k + j) o
/-- all that comes ahead lies ahead -/
def aheadAll (ops : Array Oper) : Bool := (List.range ops.size).all fun i => ((ops[i]?).map fun o => (depsOf o).all fun j => decide (j < i)).getD true
/-- what each operation yields, but those of ns, of which the invariant alone speaks -/
def XR (ns : List Nat) (vals : List Value) (j : Nat) (v : Value) : Prop := ns.contains j = true ∨ v = nth vals j
variable {ns : List Nat} {vals : List Value}
/-- .. where an operation may be left behind the last one: each is asked alike, and what follows when all are done -/
def StepsXA (P : Program) (ops : Array Oper) (Q : Exit → Act → World → Prop) (T : (Nat → Value) → Array Value) (d : List Deferred) (R : Nat → Value → Prop) (WI : (Nat → Bool) → (Nat → Value) → World → Prop) (k : Nat) (l : List Oper) : Prop :=
 ∀ j o, l[j]? = some o → StepX P ops Q T d R WI (k + j) o
/-- operation a makes a block, operation s stores c1 there -/
def NewB (n0 a s : Nat) (t : TypeId) (c0 c1 : List Value) (L : Nat → Bool) (x : Nat → Value) (w : World) : Prop :=
 L a = true → ∃ p, x a = .pointer (some ⟨p, 0, none⟩) ∧ n0 ≤ p ∧ Blk w p t (cond (L s) c1 c0)
section
variable {n0 a s : Nat} {t : TypeId} {c0 c1 : List Value} {L L' : Nat → Bool} {x x' : Nat → Value} {w w' : World}
theorem NewB.no (h : L a = false) : NewB n0 a s t c0 c1 L x w := fun e => by rw [h] at e; cases e
theorem NewB.kq {S : List Nat} (h : NewB n0 a s t c0 c1 L x w) (k : Kq S w w') (hS : ∀ q ∈ S, q < n0) (h1 : L' a = L a) (h2 : L' s = L s) (h3 : x' a = x a) : NewB n0 a s t c0 c1 L' x' w' := fun e => by
 rw [h1] at e
 obtain ⟨p, q1, q2, q3⟩ := h e
 refine ⟨p, h3.trans q1, q2, ?_⟩
 rw [h2]
 exact q3.kq k (fun hm => by have := hS p hm; omega)
theorem NewB.made (hs : L' s = false) (hx : x' a = .pointer (some ⟨w.heap.size, 0, none⟩)) (hn : n0 ≤ w.heap.size) (hw : w' = w.alloc (.cells c0.toArray t)) : NewB n0 a s t c0 c1 L' x' w' := fun _ => by
 refine ⟨_, hx, hn, ?_⟩
 rw [hs, hw]
 exact Blk.new w t c0
theorem NewB.put {p : Nat} (hs : L' s = true) (hx : x' a = .pointer (some ⟨p, 0, none⟩)) (hn : n0 ≤ p) (hb : Blk w' p t c1) : NewB n0 a s t c0 c1 L' x' w' := fun _ => by
 refine ⟨_, hx, hn, ?_⟩
 rw [hs]
 exact hb
end
end
end Go.Proofs.YteaincdeoajkeaaGreatDoor.Ut
end
section
/- Package mmu: its memory (ST); what kinds of accesses ask for, as it lies in its variable; made, isWidth, key, place, fast. -/
namespace Go.Proofs.YteaincdeoajkeaaGreatDoor.Mm
open Go.RowKit Go.Shelf Ut Oc Vw Wa
open Sw (Ln tabL ownP fillS)
open Sb (Rc findL withoutL)
set_option linter.unusedVariables false
set_option maxRecDepth 100000
set_option maxHeartbeats 4000000

/-- the rights that kinds ask for, as they lie in their variable -/
def HasN (w : World) : Prop := ∃ t fr, w.heap[0]? = some (.cells #[.int .i64 4, .int .i64 1, .int .i64 2] t fr)
theorem HasN.lt {w : World} (h : HasN w) : 0 < w.heap.size := by
 obtain ⟨t, fr, h⟩ := h
 exact (Array.getElem?_eq_some_iff.1 h).1
theorem HasN.below {w w' : World} {B : Nat} (h : HasN w) (hb : Below B w w') (hB : 0 < B) : HasN w' := by
 obtain ⟨t, fr, h⟩ := h
 exact ⟨t, fr, (hb.block _ hB).trans h⟩
theorem HasN.kq {w w' : World} {T : List Nat} (h : HasN w) (k : Kq T w w') (hT : 0 ∉ T) : HasN w' := by
 have hl := h.lt
 obtain ⟨t, fr, h⟩ := h
 exact ⟨t, fr, (k.block _ hl hT).trans h⟩
theorem HasN.at {w : World} (h : HasN w) : w.cell? ⟨0, 0, none⟩ = some (.int .i64 4) ∧ w.cell? ⟨0, 1, none⟩ = some (.int .i64 1) ∧ w.cell? ⟨0, 2, none⟩ = some (.int .i64 2) := by
 obtain ⟨t, fr, h⟩ := h
 refine ⟨?_, ?_, ?_⟩ <;> simp [World.cell?, h]

/-- an Mmu's cells -/
def uCells (b t g : Nat) (Y : List Gm.Pl) : List Value := .pointer (some ⟨b, 0, none⟩) :: .pointer (some ⟨t, 0, none⟩) :: .pointer (some ⟨g, 0, none⟩) :: Gm.flatP Y
/-- the Mmu at u, its Tlb at t, its shadow at g, over the view at b: the shadow has l, the Tlb q; Y is where the pages lay when it was asked last -/
structure ST (W : World) (u t g b s m : Nat) (S : List Int) (L : List Gm.Pl) (D : List Bool) (l : List Ln) (q : List Rc) (Y : List Gm.Pl) : Prop where
 pv : PV W b s m 12 S L D
 lay : Lay L
 blk : Blk W u 80 (uCells b t g Y)
 y : Y.length = 12
 sh : Sw.LS19 W g true l
 tl : Sb.QT W t q
 nd : HasN W
 ns : 0 < s
 bt : b < t
 bg : b < g
 bu : b < u
 tg : t ≠ g
 tu : t ≠ u
 gu : g ≠ u
section
variable {W W' : World} {u t g b s m : Nat} {S S' : List Int} {L L' : List Gm.Pl} {D D' : List Bool} {l l' : List Ln} {q q' : List Rc} {Y Y' : List Gm.Pl}
theorem ST.kq {T : List Nat} (h : ST W u t g b s m S L D l q Y) (k : Kq T W W') (hT : ∀ x ∈ [u, t, g, b, s, m, 0], x ∉ T) : ST W' u t g b s m S L D l q Y :=
 ⟨h.pv.kq k (hT _ (by simp)) (hT _ (by simp)) (hT _ (by simp)), h.lay, h.blk.kq k (hT _ (by simp)), h.y, h.sh.kq k (hT _ (by simp)), h.tl.kq k (hT _ (by simp)), h.nd.kq k (hT _ (by simp)), h.ns, h.bt, h.bg, h.bu, h.tg, h.tu, h.gu⟩
theorem ST.more (h : ST W u t g b s m S L D l q Y) (hb : Below W.heap.size W W') : ST W' u t g b s m S L D l q Y := h.kq (T := []) (Kq.of_below hb) (fun _ _ => by simp)
theorem ST.view {T : List Nat} (h : ST W u t g b s m S L D l q Y) (k : Kq T W W') (hT : ∀ x ∈ T, x = b ∨ x = s ∨ x = m) (hp : PV W' b s m 12 S' L' D') (hL : Lay L') : ST W' u t g b s m S' L' D' l q Y := by
 have h1 := h.pv.sm
 have h2 := h.pv.mb
 have h3 := h.bt
 have h4 := h.ns
 have h5 := h.bg
 have h6 := h.bu
 have hn : ∀ x, x ≠ b → x ≠ s → x ≠ m → x ∉ T := fun x a1 a2 a3 hm => by rcases hT x hm with e | e | e <;> contradiction
 exact ⟨hp, hL, h.blk.kq k (hn _ (by omega) (by omega) (by omega)), h.y, h.sh.kq k (hn _ (by omega) (by omega) (by omega)), h.tl.kq k (hn _ (by omega) (by omega) (by omega)), h.nd.kq k (hn _ (by omega) (by omega) (by omega)), h.ns, h.bt, h.bg, h.bu, h.tg, h.tu, h.gu⟩
theorem ST.cell0 (h : ST W u t g b s m S L D l q Y) : W.cell? ⟨u, 0, none⟩ = some (.pointer (some ⟨b, 0, none⟩)) := h.blk.cell rfl
theorem ST.lt (h : ST W u t g b s m S L D l q Y) : u < W.heap.size := h.blk.lt
theorem made_nil20 (W : World) : Calls Tryz.prog 36 #[.pointer none] W fun e w' => e = .returned (.bool false) ∧ W = w' := by
 go_enter Tryz.func36, Tryz.ntmps36
 go_wp2
 go_ret
 exact ⟨rfl, rfl⟩
theorem made_no20 (W : World) (u : Nat) (c : W.cell? ⟨u, 0, none⟩ = some (.pointer none)) (hl : u < W.heap.size) : Calls Tryz.prog 36 #[.pointer (some ⟨u, 0, none⟩)] W fun e w' => e = .returned (.bool false) ∧ W = w' := by
 go_enter Tryz.func36, Tryz.ntmps36
 go_wp2
 go_ret
 exact ⟨rfl, rfl⟩
abbrev accV (on : Bool) (rt : Int) (us : Bool) (z k : Int) : Value := .agg #[.bool on, .int .i64 rt, .bool us, .int .u32 z, .int .i64 k]
abbrev accC (on : Bool) (rt : Int) (us : Bool) (z k : Int) : List Value := [.bool on, .int .i64 rt, .bool us, .int .u32 z, .int .i64 k]
end

/-- where a page lies, or lay -/
def plF (L Y : List Gm.Pl) (p : Int) : Gm.Pl := if Gm.thB (Gm.atP L p) = true then Gm.atP L p else Gm.plN Y p.toNat
section
variable {W : World} {u t g b s m : Nat} {S : List Int} {L : List Gm.Pl} {D : List Bool} {l : List Ln} {q : List Rc} {Y : List Gm.Pl}
end
end Go.Proofs.YteaincdeoajkeaaGreatDoor.Mm
end
