/- Several texts in one: Xa Xb Xc -/
import Derived.Test.YteaincdeoajkeaaGreatDoorV09
import Derived.Test.YteaincdeoajkeaaGreatDoorV05
section
/- Package gmap: a map's block told by its places; find, fits, New; the document's map. -/
namespace Go.Proofs.YteaincdeoajkeaaGreatDoor.Gm
open Go.RowKit Ut
set_option maxRecDepth 100000
set_option linter.unusedVariables false

/-- a place: its frame, its rights -/
abbrev Pl := Int × Int
def plV (p : Pl) : Value := .agg #[.int .i64 p.1, .int .i64 p.2]
def plC (p : Pl) : List Value := [.int .i64 p.1, .int .i64 p.2]
/-- one that was set; one that can be -/
def thB (p : Pl) : Bool := !(p.1 == 0 && p.2 == 0)
def okB (p : Pl) : Bool := decide (0 ≤ p.1) && decide (p.1 < 32) && decide (0 < p.2) && decide (p.2 ≤ 3)
def flatP : List Pl → List Value
 | [] => []
 | p :: l => .int .i64 p.1 :: .int .i64 p.2 :: flatP l
def Okay (L : List Pl) : Prop := L.length = 12 ∧ ∀ p ∈ L, p = (0, 0) ∨ okB p = true
def noP : List Pl := List.replicate 12 (0, 0)
/-- page n's place; of one that can't be: none -/
def plN (L : List Pl) (k : Nat) : Pl := L.getD k (0, 0)
def atP (L : List Pl) (n : Int) : Pl := if 0 ≤ n ∧ n < 12 then plN L n.toNat else (0, 0)
def setE (L : List Pl) (n : Int) (p : Pl) : Int := if 0 ≤ n ∧ n < 12 then (if okB p = true then (if thB (plN L n.toNat) = true then 5 else 0) else 1) else 1
def setL (L : List Pl) (n : Int) (p : Pl) : List Pl := if setE L n p = 0 then L.set n.toNat p else L
def drE (L : List Pl) (n : Int) : Int := if 0 ≤ n ∧ n < 12 then (if thB (plN L n.toNat) = true then 0 else 3) else 1
def drL (L : List Pl) (n : Int) : List Pl := if drE L n = 0 then L.set n.toNat (0, 0) else L
def mayB (p : Pl) (n k : Int) : Bool := if k = 0 then decide (n < 8) else if k = 1 then decide (p.2 % 2 = 1) else if k = 2 then decide (2 ≤ p.2) else false
def alwF (p : Pl) (n k : Int) : Int := if thB p = true then (if mayB p n k = true then 0 else 6) else 7
def upto (L : List Pl) (k : Nat) : List Int := ((List.range k).filter fun i => thB (plN L i)).map fun i : Nat => (i : Int)

theorem flatP_get (L : List Pl) : ∀ k, k < L.length → (flatP L)[2 * k]? = some (.int .i64 (plN L k).1) ∧ (flatP L)[2 * k + 1]? = some (.int .i64 (plN L k).2) := by
 induction L with
 | nil => intro k hk; simp at hk
 | cons p l ih =>
  intro k hk
  cases k with
  | zero => exact ⟨rfl, rfl⟩
  | succ k =>
   have h := ih k (by simpa using hk)
   rw [show 2 * (k + 1) = 2 * k + 1 + 1 by omega]
   simpa [flatP, plN] using h
theorem flatP_set (L : List Pl) : ∀ k (p : Pl), k < L.length → flatP (L.set k p) = ((flatP L).set (2 * k) (.int .i64 p.1)).set (2 * k + 1) (.int .i64 p.2) := by
 induction L with
 | nil => intro k p hk; simp at hk
 | cons q l ih =>
  intro k p hk
  cases k with
  | zero => rfl
  | succ k =>
   have h := ih k p (by simpa using hk)
   rw [show 2 * (k + 1) = 2 * k + 1 + 1 by omega]
   simp only [List.set_cons_succ, flatP, h]

/-- a map's cells: made, its places -/
def mCells (L : List Pl) : List Value := .bool true :: flatP L
def MAt (w : World) (b : Nat) (L : List Pl) : Prop := Blk w b 141 (mCells L) ∧ Okay L
/-- the document's map: which are there, its places -/
def rCells (L : List Pl) : List Value := L.map (fun p => Value.bool (thB p)) ++ flatP L
def RAt (w : World) (b : Nat) (L : List Pl) : Prop := Blk w b 93 (rCells L) ∧ Okay L

section
variable {w w' : World} {b : Nat} {L : List Pl}
theorem MAt.lt (h : MAt w b L) : b < w.heap.size := h.1.lt
theorem MAt.below {B : Nat} (h : MAt w b L) (hb : Below B w w') (hB : b < B) : MAt w' b L := ⟨h.1.below hb hB, h.2⟩
theorem MAt.more (h : MAt w b L) (hb : Below w.heap.size w w') : MAt w' b L := h.below hb h.lt
theorem MAt.kept {row : Option Nat} (h : MAt w b L) (hg : w.grownBy w' row) (hr : some b ≠ row) : MAt w' b L := ⟨h.1.kept hg hr, h.2⟩
theorem MAt.made (h : MAt w b L) : w.cell? ⟨b, 0, none⟩ = some (.bool true) := h.1.cell rfl
theorem MAt.cells (h : MAt w b L) (k : Nat) (hk : k < 12) : w.cell? ⟨b, 1 + 2 * k, none⟩ = some (.int .i64 (plN L k).1) ∧ w.cell? ⟨b, 1 + 2 * k + 1, none⟩ = some (.int .i64 (plN L k).2) := by
 have hf := flatP_get L k (by rw [h.2.1]; exact hk)
 refine ⟨h.1.cell ?_, h.1.cell ?_⟩
 ·rw [show 1 + 2 * k = 2 * k + 1 by omega]; simpa [mCells] using hf.1
 ·rw [show 1 + 2 * k + 1 = 2 * k + 1 + 1 by omega]; simpa [mCells] using hf.2
theorem Okay.set (h : Okay L) (k : Nat) (p : Pl) (hp : p = (0, 0) ∨ okB p = true) : Okay (L.set k p) :=
 ⟨by rw [List.length_set]; exact h.1, fun q hq => by
  rcases List.mem_or_eq_of_mem_set hq with h1 | rfl
  ·exact h.2 q h1
  ·exact hp⟩
theorem Okay.pl (h : Okay L) (k : Nat) : plN L k = (0, 0) ∨ okB (plN L k) = true := by
 unfold plN
 by_cases hk : k < L.length
 ·rw [List.getD_eq_getElem?_getD, List.getElem?_eq_getElem hk]
  exact h.2 _ (List.getElem_mem hk)
 ·rw [List.getD_eq_getElem?_getD, List.getElem?_eq_none (by omega)]
  exact .inl rfl
theorem mCells_set (h : Okay L) (k : Nat) (hk : k < 12) (p : Pl) : ((mCells L).set (1 + 2 * k) (.int .i64 p.1)).set (1 + 2 * k + 1) (.int .i64 p.2) = mCells (L.set k p) := by
 unfold mCells
 rw [flatP_set L k p (by rw [h.1]; exact hk), show 1 + 2 * k = 2 * k + 1 by omega]
 rfl
theorem MAt.set (h : MAt w b L) (k : Nat) (hk : k < 12) (p : Pl) (hp : p = (0, 0) ∨ okB p = true) : MAt ((w.setCell ⟨b, 1 + 2 * k, none⟩ (.int .i64 p.1)).setCell ⟨b, 1 + 2 * k + 1, none⟩ (.int .i64 p.2)) b (L.set k p) := by
 refine ⟨?_, h.2.set k p hp⟩
 rw [← mCells_set h.2 k hk p]
 exact (h.1.set (1 + 2 * k) (.int .i64 p.1)).set (1 + 2 * k + 1) (.int .i64 p.2)
theorem RAt.lt (h : RAt w b L) : b < w.heap.size := h.1.lt
theorem RAt.below {B : Nat} (h : RAt w b L) (hb : Below B w w') (hB : b < B) : RAt w' b L := ⟨h.1.below hb hB, h.2⟩
theorem RAt.more (h : RAt w b L) (hb : Below w.heap.size w w') : RAt w' b L := h.below hb h.lt
theorem RAt.kept {row : Option Nat} (h : RAt w b L) (hg : w.grownBy w' row) (hr : some b ≠ row) : RAt w' b L := ⟨h.1.kept hg hr, h.2⟩
theorem RAt.there (h : RAt w b L) (k : Nat) (hk : k < 12) : w.cell? ⟨b, k, none⟩ = some (.bool (thB (plN L k))) := h.1.cell (by
 have hl := h.2.1
 simp [rCells, plN, List.getD, hl, hk, List.getElem?_append])
theorem RAt.cells (h : RAt w b L) (k : Nat) (hk : k < 12) : w.cell? ⟨b, 12 + 2 * k, none⟩ = some (.int .i64 (plN L k).1) ∧ w.cell? ⟨b, 12 + 2 * k + 1, none⟩ = some (.int .i64 (plN L k).2) := by
 have hf := flatP_get L k (by rw [h.2.1]; exact hk)
 have hl : (L.map (fun p => Value.bool (thB p))).length = 12 := by simp [h.2.1]
 refine ⟨h.1.cell ?_, h.1.cell ?_⟩
 ·unfold rCells; rw [List.getElem?_append_right (by omega), hl, show 12 + 2 * k - 12 = 2 * k by omega]; exact hf.1
 ·unfold rCells; rw [List.getElem?_append_right (by omega), hl, show 12 + 2 * k + 1 - 12 = 2 * k + 1 by omega]; exact hf.2
theorem rCells_set (h : Okay L) (k : Nat) (hk : k < 12) (p : Pl) : (((rCells L).set k (.bool (thB p))).set (12 + 2 * k) (.int .i64 p.1)).set (12 + 2 * k + 1) (.int .i64 p.2) = rCells (L.set k p) := by
 have hl : ((L.set k p).map (fun p => Value.bool (thB p))).length = 12 := by simp [h.1]
 have e : (rCells L).set k (.bool (thB p)) = (L.set k p).map (fun p => Value.bool (thB p)) ++ flatP L := by
  unfold rCells
  rw [List.set_append_left _ _ (by simp [h.1, hk]), List.map_set]
 rw [e, List.set_append_right _ _ (by omega), List.set_append_right _ _ (by omega), hl, show 12 + 2 * k - 12 = 2 * k by omega, show 12 + 2 * k + 1 - 12 = 2 * k + 1 by omega, ← flatP_set L k p (by rw [h.1]; exact hk)]
 rfl
theorem RAt.set (h : RAt w b L) (k : Nat) (hk : k < 12) (p : Pl) (hp : p = (0, 0) ∨ okB p = true) : RAt (((w.setCell ⟨b, k, none⟩ (.bool (thB p))).setCell ⟨b, 12 + 2 * k, none⟩ (.int .i64 p.1)).setCell ⟨b, 12 + 2 * k + 1, none⟩ (.int .i64 p.2)) b (L.set k p) := by
 refine ⟨?_, h.2.set k p hp⟩
 rw [← rCells_set h.2 k hk p]
 exact ((h.1.set k (.bool (thB p))).set (12 + 2 * k) (.int .i64 p.1)).set (12 + 2 * k + 1) (.int .i64 p.2)
end

theorem th_ok {p : Pl} (h : okB p = true) : thB p = true := by
 unfold okB at h; unfold thB
 simp at h ⊢; omega
theorem ok_in {p : Pl} (h : okB p = true) : 0 ≤ p.1 ∧ p.1 < 32 ∧ 0 < p.2 ∧ p.2 ≤ 3 := by
 unfold okB at h
 simp at h; omega
theorem pl_cases {L : List Pl} (h : Okay L) (k : Nat) : (plN L k = (0, 0)) ∨ ∃ f r : Nat, plN L k = ((f : Int), (r : Int)) ∧ f < 32 ∧ 0 < r ∧ r ≤ 3 ∧ thB ((f : Int), (r : Int)) = true := by
 rcases h.pl k with h | h
 ·exact .inl h
 ·have h2 := ok_in h
  refine .inr ⟨(plN L k).1.toNat, (plN L k).2.toNat, ?_, by omega, by omega, by omega, ?_⟩
  ·refine Prod.ext ?_ ?_
   ·simp; omega
   ·simp; omega
  ·rw [show ((((plN L k).1.toNat : Nat) : Int), (((plN L k).2.toNat : Nat) : Int)) = plN L k from Prod.ext (by simp; omega) (by simp; omega)]
   exact th_ok h
theorem atP_no {L : List Pl} {n : Int} (h : n < 0 ∨ 12 ≤ n) : atP L n = (0, 0) := if_neg (by omega)
theorem atP_is {L : List Pl} {k : Nat} (h : k < 12) : atP L k = plN L k := if_pos (by omega)
end Go.Proofs.YteaincdeoajkeaaGreatDoor.Gm
end
section
/- Package gmap: New, find, fits, Get, of the program. -/
namespace Go.Proofs.YteaincdeoajkeaaGreatDoor.Gm
open Go.RowKit Ut
set_option maxRecDepth 100000
set_option linter.unusedVariables false
set_option maxHeartbeats 4000000

end Go.Proofs.YteaincdeoajkeaaGreatDoor.Gm
end
section
/- Package gmap: Get of the program. -/
namespace Go.Proofs.YteaincdeoajkeaaGreatDoor.Gm
open Go.RowKit Ut
set_option maxRecDepth 100000
set_option linter.unusedVariables false
set_option maxHeartbeats 4000000

theorem box_below (w : World) (x y : Int) : Below w.heap.size w (w.alloc (.cells #[.int .i64 x, .int .i64 y] 54)) := (Below.refl w.heap.size w).alloc (Nat.le_refl _) _
theorem set_keep {w W : World} (j : Nat) (v : Value) (h : Below w.heap.size w W) : Below w.heap.size w (W.setCell ⟨w.heap.size, j, none⟩ v) := h.setCell (p := ⟨w.heap.size, j, none⟩) (by simp) _
/-- where find says no -/
theorem get_no (a : Option Addr) (n z : Int) (hz : z = 1 ∨ z = 7) (w : World) (hF : ∀ W, Below w.heap.size w W → Calls Tryz.prog 51 #[.pointer a, .int .i64 n] W fun e w' => e = .returned (.tuple #[.pointer none, .int .i64 z]) ∧ W = w') :
  Calls Tryz.prog 16 #[.pointer a, .int .i64 n] w fun e w' => e = .returned (.tuple #[plV (0, 0), .bool false]) ∧ Below w.heap.size w w' := by
 have hz0 : (z == 0) = false := by rcases hz with rfl | rfl <;> rfl
 have HB := Lib.hid (box_below w 0 0)
 have HF := Lib.hid (hF _ HB.out)
 clear hF hz
 go_enter Tryz.func16, Tryz.ntmps16
 go_wp2_with fail
 refine HF.out.mono ?_
 rintro e w1 ⟨rfl, rfl⟩
 go_wp2
 exact bodyPost_ret (v := .tuple #[plV (0, 0), .bool false]) (by simp [results, Tryz.results16, go_sem, plV]) rfl ⟨rfl, by first | exact HB.out | exact (box_below w _ _).drew | exact set_keep _ _ (set_keep _ _ HB.out)⟩
theorem get_zero (a : Option Addr) (n : Int) (w : World) (hF : ∀ W, Below w.heap.size w W → Calls Tryz.prog 51 #[.pointer a, .int .i64 n] W fun e w' => e = .returned (.tuple #[.pointer none, .int .i64 7]) ∧ W = w') :
  Calls Tryz.prog 16 #[.pointer a, .int .i64 n] w fun e w' => e = .returned (.tuple #[plV (0, 0), .bool false]) ∧ Below w.heap.size w w' := get_no a n 7 (.inr rfl) w hF
end Go.Proofs.YteaincdeoajkeaaGreatDoor.Gm
end
