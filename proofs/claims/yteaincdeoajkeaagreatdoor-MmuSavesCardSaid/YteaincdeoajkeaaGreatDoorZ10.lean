/- Several texts in one: Xa Xb Xc Xd Xg Xi -/
import Derived.Test.YteaincdeoajkeaaGreatDoorZ08
import Derived.Test.YteaincdeoajkeaaGreatDoorZ05
section
/- Package gmap: a map's block told by its places; find, fits, New; the document's map. -/
namespace Go.Proofs.YteaincdeoajkeaaGreatDoor.Gm
open Go.RowKit Ut
set_option maxRecDepth 100000
set_option linter.unusedVariables false

/-- a place: its frame, its rights -/
abbrev Pl := Int × Int
def plV (p : Pl) : Value := .agg #[.int .i64 p.1, .int .i64 p.2]
def plC (p : Pl) : List Value := [.int .i64 p.1, .int .i64 p.2]
/-- one that was set; one that can be -/
def thB (p : Pl) : Bool := !(p.1 == 0 && p.2 == 0)
def okB (p : Pl) : Bool := decide (0 ≤ p.1) && decide (p.1 < 32) && decide (0 < p.2) && decide (p.2 ≤ 3)
def flatP : List Pl → List Value
 | [] => []
 | p :: l => .int .i64 p.1 :: .int .i64 p.2 :: flatP l
def Okay (L : List Pl) : Prop := L.length = 12 ∧ ∀ p ∈ L, p = (0, 0) ∨ okB p = true
def noP : List Pl := List.replicate 12 (0, 0)
theorem noP_ok : Okay noP := ⟨rfl, fun p hp => .inl (List.eq_of_mem_replicate hp)⟩
/-- page n's place; of one that can't be: none -/
def plN (L : List Pl) (k : Nat) : Pl := L.getD k (0, 0)
def atP (L : List Pl) (n : Int) : Pl := if 0 ≤ n ∧ n < 12 then plN L n.toNat else (0, 0)
def setE (L : List Pl) (n : Int) (p : Pl) : Int := if 0 ≤ n ∧ n < 12 then (if okB p = true then (if thB (plN L n.toNat) = true then 5 else 0) else 1) else 1
def setL (L : List Pl) (n : Int) (p : Pl) : List Pl := if setE L n p = 0 then L.set n.toNat p else L
def drE (L : List Pl) (n : Int) : Int := if 0 ≤ n ∧ n < 12 then (if thB (plN L n.toNat) = true then 0 else 3) else 1
def drL (L : List Pl) (n : Int) : List Pl := if drE L n = 0 then L.set n.toNat (0, 0) else L
def mayB (p : Pl) (n k : Int) : Bool := if k = 0 then decide (n < 8) else if k = 1 then decide (p.2 % 2 = 1) else if k = 2 then decide (2 ≤ p.2) else false
def alwF (p : Pl) (n k : Int) : Int := if thB p = true then (if mayB p n k = true then 0 else 6) else 7
def upto (L : List Pl) (k : Nat) : List Int := ((List.range k).filter fun i => thB (plN L i)).map fun i : Nat => (i : Int)

theorem flatP_get (L : List Pl) : ∀ k, k < L.length → (flatP L)[2 * k]? = some (.int .i64 (plN L k).1) ∧ (flatP L)[2 * k + 1]? = some (.int .i64 (plN L k).2) := by
 induction L with
 | nil => intro k hk; simp at hk
 | cons p l ih =>
  intro k hk
  cases k with
  | zero => exact ⟨rfl, rfl⟩
  | succ k =>
   have h := ih k (by simpa using hk)
   rw [show 2 * (k + 1) = 2 * k + 1 + 1 by omega]
   simpa [flatP, plN] using h
theorem flatP_set (L : List Pl) : ∀ k (p : Pl), k < L.length → flatP (L.set k p) = ((flatP L).set (2 * k) (.int .i64 p.1)).set (2 * k + 1) (.int .i64 p.2) := by
 induction L with
 | nil => intro k p hk; simp at hk
 | cons q l ih =>
  intro k p hk
  cases k with
  | zero => rfl
  | succ k =>
   have h := ih k p (by simpa using hk)
   rw [show 2 * (k + 1) = 2 * k + 1 + 1 by omega]
   simp only [List.set_cons_succ, flatP, h]

/-- a map's cells: made, its places -/
def mCells (L : List Pl) : List Value := .bool true :: flatP L
def MAt (w : World) (b : Nat) (L : List Pl) : Prop := Blk w b 141 (mCells L) ∧ Okay L
/-- the document's map: which are there, its places -/
def rCells (L : List Pl) : List Value := L.map (fun p => Value.bool (thB p)) ++ flatP L
def RAt (w : World) (b : Nat) (L : List Pl) : Prop := Blk w b 93 (rCells L) ∧ Okay L

section
variable {w w' : World} {b : Nat} {L : List Pl}
theorem MAt.lt (h : MAt w b L) : b < w.heap.size := h.1.lt
theorem MAt.below {B : Nat} (h : MAt w b L) (hb : Below B w w') (hB : b < B) : MAt w' b L := ⟨h.1.below hb hB, h.2⟩
theorem MAt.more (h : MAt w b L) (hb : Below w.heap.size w w') : MAt w' b L := h.below hb h.lt
theorem MAt.kept {row : Option Nat} (h : MAt w b L) (hg : w.grownBy w' row) (hr : some b ≠ row) : MAt w' b L := ⟨h.1.kept hg hr, h.2⟩
theorem MAt.made (h : MAt w b L) : w.cell? ⟨b, 0, none⟩ = some (.bool true) := h.1.cell rfl
theorem MAt.cells (h : MAt w b L) (k : Nat) (hk : k < 12) : w.cell? ⟨b, 1 + 2 * k, none⟩ = some (.int .i64 (plN L k).1) ∧ w.cell? ⟨b, 1 + 2 * k + 1, none⟩ = some (.int .i64 (plN L k).2) := by
 have hf := flatP_get L k (by rw [h.2.1]; exact hk)
 refine ⟨h.1.cell ?_, h.1.cell ?_⟩
 ·rw [show 1 + 2 * k = 2 * k + 1 by omega]; simpa [mCells] using hf.1
 ·rw [show 1 + 2 * k + 1 = 2 * k + 1 + 1 by omega]; simpa [mCells] using hf.2
theorem Okay.set (h : Okay L) (k : Nat) (p : Pl) (hp : p = (0, 0) ∨ okB p = true) : Okay (L.set k p) :=
 ⟨by rw [List.length_set]; exact h.1, fun q hq => by
  rcases List.mem_or_eq_of_mem_set hq with h1 | rfl
  ·exact h.2 q h1
  ·exact hp⟩
theorem Okay.pl (h : Okay L) (k : Nat) : plN L k = (0, 0) ∨ okB (plN L k) = true := by
 unfold plN
 by_cases hk : k < L.length
 ·rw [List.getD_eq_getElem?_getD, List.getElem?_eq_getElem hk]
  exact h.2 _ (List.getElem_mem hk)
 ·rw [List.getD_eq_getElem?_getD, List.getElem?_eq_none (by omega)]
  exact .inl rfl
theorem mCells_set (h : Okay L) (k : Nat) (hk : k < 12) (p : Pl) : ((mCells L).set (1 + 2 * k) (.int .i64 p.1)).set (1 + 2 * k + 1) (.int .i64 p.2) = mCells (L.set k p) := by
 unfold mCells
 rw [flatP_set L k p (by rw [h.1]; exact hk), show 1 + 2 * k = 2 * k + 1 by omega]
 rfl
theorem MAt.set (h : MAt w b L) (k : Nat) (hk : k < 12) (p : Pl) (hp : p = (0, 0) ∨ okB p = true) : MAt ((w.setCell ⟨b, 1 + 2 * k, none⟩ (.int .i64 p.1)).setCell ⟨b, 1 + 2 * k + 1, none⟩ (.int .i64 p.2)) b (L.set k p) := by
 refine ⟨?_, h.2.set k p hp⟩
 rw [← mCells_set h.2 k hk p]
 exact (h.1.set (1 + 2 * k) (.int .i64 p.1)).set (1 + 2 * k + 1) (.int .i64 p.2)
theorem RAt.lt (h : RAt w b L) : b < w.heap.size := h.1.lt
theorem RAt.below {B : Nat} (h : RAt w b L) (hb : Below B w w') (hB : b < B) : RAt w' b L := ⟨h.1.below hb hB, h.2⟩
theorem RAt.more (h : RAt w b L) (hb : Below w.heap.size w w') : RAt w' b L := h.below hb h.lt
theorem RAt.kept {row : Option Nat} (h : RAt w b L) (hg : w.grownBy w' row) (hr : some b ≠ row) : RAt w' b L := ⟨h.1.kept hg hr, h.2⟩
theorem RAt.there (h : RAt w b L) (k : Nat) (hk : k < 12) : w.cell? ⟨b, k, none⟩ = some (.bool (thB (plN L k))) := h.1.cell (by
 have hl := h.2.1
 simp [rCells, plN, List.getD, hl, hk, List.getElem?_append])
theorem RAt.cells (h : RAt w b L) (k : Nat) (hk : k < 12) : w.cell? ⟨b, 12 + 2 * k, none⟩ = some (.int .i64 (plN L k).1) ∧ w.cell? ⟨b, 12 + 2 * k + 1, none⟩ = some (.int .i64 (plN L k).2) := by
 have hf := flatP_get L k (by rw [h.2.1]; exact hk)
 have hl : (L.map (fun p => Value.bool (thB p))).length = 12 := by simp [h.2.1]
 refine ⟨h.1.cell ?_, h.1.cell ?_⟩
 ·unfold rCells; rw [List.getElem?_append_right (by omega), hl, show 12 + 2 * k - 12 = 2 * k by omega]; exact hf.1
 ·unfold rCells; rw [List.getElem?_append_right (by omega), hl, show 12 + 2 * k + 1 - 12 = 2 * k + 1 by omega]; exact hf.2
theorem rCells_set (h : Okay L) (k : Nat) (hk : k < 12) (p : Pl) : (((rCells L).set k (.bool (thB p))).set (12 + 2 * k) (.int .i64 p.1)).set (12 + 2 * k + 1) (.int .i64 p.2) = rCells (L.set k p) := by
 have hl : ((L.set k p).map (fun p => Value.bool (thB p))).length = 12 := by simp [h.1]
 have e : (rCells L).set k (.bool (thB p)) = (L.set k p).map (fun p => Value.bool (thB p)) ++ flatP L := by
  unfold rCells
  rw [List.set_append_left _ _ (by simp [h.1, hk]), List.map_set]
 rw [e, List.set_append_right _ _ (by omega), List.set_append_right _ _ (by omega), hl, show 12 + 2 * k - 12 = 2 * k by omega, show 12 + 2 * k + 1 - 12 = 2 * k + 1 by omega, ← flatP_set L k p (by rw [h.1]; exact hk)]
 rfl
theorem RAt.set (h : RAt w b L) (k : Nat) (hk : k < 12) (p : Pl) (hp : p = (0, 0) ∨ okB p = true) : RAt (((w.setCell ⟨b, k, none⟩ (.bool (thB p))).setCell ⟨b, 12 + 2 * k, none⟩ (.int .i64 p.1)).setCell ⟨b, 12 + 2 * k + 1, none⟩ (.int .i64 p.2)) b (L.set k p) := by
 refine ⟨?_, h.2.set k p hp⟩
 rw [← rCells_set h.2 k hk p]
 exact ((h.1.set k (.bool (thB p))).set (12 + 2 * k) (.int .i64 p.1)).set (12 + 2 * k + 1) (.int .i64 p.2)
end

theorem th_ok {p : Pl} (h : okB p = true) : thB p = true := by
 unfold okB at h; unfold thB
 simp at h ⊢; omega
theorem ok_in {p : Pl} (h : okB p = true) : 0 ≤ p.1 ∧ p.1 < 32 ∧ 0 < p.2 ∧ p.2 ≤ 3 := by
 unfold okB at h
 simp at h; omega
theorem pl_cases {L : List Pl} (h : Okay L) (k : Nat) : (plN L k = (0, 0)) ∨ ∃ f r : Nat, plN L k = ((f : Int), (r : Int)) ∧ f < 32 ∧ 0 < r ∧ r ≤ 3 ∧ thB ((f : Int), (r : Int)) = true := by
 rcases h.pl k with h | h
 ·exact .inl h
 ·have h2 := ok_in h
  refine .inr ⟨(plN L k).1.toNat, (plN L k).2.toNat, ?_, by omega, by omega, by omega, ?_⟩
  ·refine Prod.ext ?_ ?_
   ·simp; omega
   ·simp; omega
  ·rw [show ((((plN L k).1.toNat : Nat) : Int), (((plN L k).2.toNat : Nat) : Int)) = plN L k from Prod.ext (by simp; omega) (by simp; omega)]
   exact th_ok h
theorem page_cases (n : Int) : (n < 0 ∨ 12 ≤ n) ∨ ∃ k : Nat, n = k ∧ k < 12 := by
 by_cases h : n < 0 ∨ 12 ≤ n
 ·exact .inl h
 ·exact .inr ⟨n.toNat, by omega, by omega⟩
theorem atP_no {L : List Pl} {n : Int} (h : n < 0 ∨ 12 ≤ n) : atP L n = (0, 0) := if_neg (by omega)
theorem atP_is {L : List Pl} {k : Nat} (h : k < 12) : atP L k = plN L k := if_pos (by omega)
theorem setE_no {L : List Pl} {n : Int} {p : Pl} (h : n < 0 ∨ 12 ≤ n) : setE L n p = 1 := if_neg (by omega)
theorem setE_is {L : List Pl} {k : Nat} {p : Pl} (h : k < 12) : setE L k p = if okB p = true then (if thB (plN L k) = true then 5 else 0) else 1 := if_pos (by omega)
theorem drE_no {L : List Pl} {n : Int} (h : n < 0 ∨ 12 ≤ n) : drE L n = 1 := if_neg (by omega)
theorem drE_is {L : List Pl} {k : Nat} (h : k < 12) : drE L k = if thB (plN L k) = true then 0 else 3 := if_pos (by omega)
end Go.Proofs.YteaincdeoajkeaaGreatDoor.Gm
end
section
/- Package gmap: New, find, fits, Get, of the program. -/
namespace Go.Proofs.YteaincdeoajkeaaGreatDoor.Gm
open Go.RowKit Ut
set_option maxRecDepth 100000
set_option linter.unusedVariables false
set_option maxHeartbeats 4000000

theorem new_any (w : World) : Calls Tryz.prog 26 #[] w fun e w' => e = .returned (.pointer (some ⟨w.heap.size, 0, none⟩)) ∧ MAt w' w.heap.size noP ∧ Below w.heap.size w w' := by
 have hF : MAt (w.alloc (.cells (mCells noP).toArray 141)) w.heap.size noP := ⟨Blk.new w _ _, noP_ok⟩
 have HF := Lib.hid hF
 have HB := (Below.refl w.heap.size w).alloc (Nat.le_refl _) (.cells (mCells noP).toArray 141)
 clear hF
 go_enter Tryz.func26, Tryz.ntmps26
 go_upto_region 1 with fail
 refine wp_region_lit ?_
 refine wpList_buildTo rfl 141 _ rfl _ rfl (mCells noP).toArray (by kernel_rfl) ?_
 refine Great.wpList_boxTo rfl 141 _ rfl _ rfl w.heap.size rfl (mCells noP).toArray rfl ?_
 obtain ⟨W, hW⟩ : ∃ W, W = w.alloc (.cells (mCells noP).toArray 141) := ⟨_, rfl⟩
 rw [← hW] at HF HB ⊢
 clear hW
 go_wp2
 go_ret
 exact ⟨rfl, HF.out, HB⟩

theorem find_out (b : Nat) (n : Int) (L : List Pl) (w : World) (h : MAt w b L) (hn : n < 0 ∨ 12 ≤ n) : Calls Tryz.prog 51 #[.pointer (some ⟨b, 0, none⟩), .int .i64 n] w fun e w' => e = .returned (.tuple #[.pointer none, .int .i64 1]) ∧ w = w' := by
 have h0 := h.made
 clear h
 rcases Int.lt_or_le n 0 with f0 | f0
 ·have f1 : decide (n < 0) = true := by simpa using f0
  go_enter Tryz.func51, Tryz.ntmps51
  go_wp2
  go_ret2
  exact ⟨rfl, rfl⟩
 ·have f1 : decide (n < 0) = false := by simpa using f0
  have f2 : decide (12 ≤ n) = true := by simp; omega
  go_enter Tryz.func51, Tryz.ntmps51
  go_wp2
  go_ret2
  exact ⟨rfl, rfl⟩
theorem find_in (b k : Nat) (L : List Pl) (w : World) (h : MAt w b L) (hk : k < 12) : Calls Tryz.prog 51 #[.pointer (some ⟨b, 0, none⟩), .int .i64 k] w fun e w' => e = .returned (.tuple #[.pointer (some ⟨b, 1 + 2 * k, none⟩), .int .i64 0]) ∧ w = w' := by
 have h0 := h.made
 have f0 : decide ((k : Int) < 0) = false := by simp
 have f1 : decide ((12 : Int) ≤ (k : Int)) = false := by simp; omega
 have f2 : (0 : Int) ≤ (k : Int) ∧ (k : Int) < 12 := by omega
 clear h
 go_enter Tryz.func51, Tryz.ntmps51
 go_wp2
 go_ret2
 refine ⟨?_, rfl⟩
 rw [Nat.mul_comm 2 k]
 rfl

theorem fits_any (p : Pl) (t : Bool) (ht : okB p = t) (w : World) : Calls Tryz.prog 62 #[plV p] w fun e w' => e = .returned (.bool t) ∧ Below w.heap.size w w' := by
 obtain ⟨f, r⟩ := p
 have hb := Lib.hid ((Below.refl w.heap.size w).alloc (Nat.le_refl _) (.cells #[.int .i64 f, .int .i64 r] 54))
 have H : Hid (t = (decide (0 ≤ f) && decide (f < 32) && decide (0 < r) && decide (r ≤ 3))) := Lib.hid (by rw [← ht]; rfl)
 clear ht
 show Calls _ _ #[.agg #[.int .i64 f, .int .i64 r]] _ _
 by_cases h1 : 0 ≤ f
 ·by_cases h2 : f < 32
  ·by_cases h3 : 0 < r
   ·by_cases h4 : r ≤ 3
    all_goals
     go_enter Tryz.func62, Tryz.ntmps62
     go_wp2
     go_ret
     exact ⟨by rw [H.out]; simp [*], hb.out⟩
   ·go_enter Tryz.func62, Tryz.ntmps62
    go_wp2
    go_ret
    exact ⟨by rw [H.out]; simp; omega, hb.out⟩
  ·go_enter Tryz.func62, Tryz.ntmps62
   go_wp2
   go_ret
   exact ⟨by rw [H.out]; simp; omega, hb.out⟩
 ·go_enter Tryz.func62, Tryz.ntmps62
  go_wp2
  go_ret
  exact ⟨by rw [H.out]; simp; omega, hb.out⟩
end Go.Proofs.YteaincdeoajkeaaGreatDoor.Gm
end
section
/- Package gmap: Get of the program. -/
namespace Go.Proofs.YteaincdeoajkeaaGreatDoor.Gm
open Go.RowKit Ut
set_option maxRecDepth 100000
set_option linter.unusedVariables false
set_option maxHeartbeats 4000000

theorem box_below (w : World) (x y : Int) : Below w.heap.size w (w.alloc (.cells #[.int .i64 x, .int .i64 y] 54)) := (Below.refl w.heap.size w).alloc (Nat.le_refl _) _
theorem set_keep {w W : World} (j : Nat) (v : Value) (h : Below w.heap.size w W) : Below w.heap.size w (W.setCell ⟨w.heap.size, j, none⟩ v) := h.setCell (p := ⟨w.heap.size, j, none⟩) (by simp) _
/-- where find says no -/
theorem get_no (a : Option Addr) (n z : Int) (hz : z = 1 ∨ z = 7) (w : World) (hF : ∀ W, Below w.heap.size w W → Calls Tryz.prog 51 #[.pointer a, .int .i64 n] W fun e w' => e = .returned (.tuple #[.pointer none, .int .i64 z]) ∧ W = w') :
  Calls Tryz.prog 16 #[.pointer a, .int .i64 n] w fun e w' => e = .returned (.tuple #[plV (0, 0), .bool false]) ∧ Below w.heap.size w w' := by
 have hz0 : (z == 0) = false := by rcases hz with rfl | rfl <;> rfl
 have HB := Lib.hid (box_below w 0 0)
 have HF := Lib.hid (hF _ HB.out)
 clear hF hz
 go_enter Tryz.func16, Tryz.ntmps16
 go_wp2_with fail
 refine HF.out.mono ?_
 rintro e w1 ⟨rfl, rfl⟩
 go_wp2
 exact bodyPost_ret (v := .tuple #[plV (0, 0), .bool false]) (by simp [results, Tryz.results16, go_sem, plV]) rfl ⟨rfl, by first | exact HB.out | exact (box_below w _ _).drew | exact set_keep _ _ (set_keep _ _ HB.out)⟩
theorem get_none (b k : Nat) (L : List Pl) (hk : k < 12) (hp : plN L k = (0, 0)) (w : World) (h : MAt w b L) :
  Calls Tryz.prog 16 #[.pointer (some ⟨b, 0, none⟩), .int .i64 k] w fun e w' => e = .returned (.tuple #[plV (0, 0), .bool false]) ∧ Below w.heap.size w w' := by
 have HB := Lib.hid (box_below w 0 0)
 have HF := Lib.hid (find_in b k L _ (h.more HB.out) hk)
 have hc := h.cells k hk
 rw [hp] at hc
 obtain ⟨c0, c1⟩ := hc
 have hlt := h.lt
 clear h hk hp
 go_enter Tryz.func16, Tryz.ntmps16
 go_wp2_with fail
 refine HF.out.mono ?_
 rintro e w1 ⟨rfl, rfl⟩
 generalize 1 + 2 * k = o at c0 c1 ⊢
 go_upto_region 4 with fail
 go_region
 go_wp2
 exact bodyPost_ret (v := .tuple #[plV (0, 0), .bool false]) (by simp [results, Tryz.results16, go_sem, plV]) rfl ⟨rfl, by first | exact HB.out | exact (box_below w _ _).drew | exact set_keep _ _ (set_keep _ _ HB.out)⟩
theorem get_is (b k f r : Nat) (L : List Pl) (hk : k < 12) (hp : plN L k = ((f : Int), (r : Int))) (hr : 0 < r) (w : World) (h : MAt w b L) :
  Calls Tryz.prog 16 #[.pointer (some ⟨b, 0, none⟩), .int .i64 k] w fun e w' => e = .returned (.tuple #[plV ((f : Int), (r : Int)), .bool true]) ∧ Below w.heap.size w w' := by
 have HB := Lib.hid (box_below w 0 0)
 have HF := Lib.hid (find_in b k L _ (h.more HB.out) hk)
 have hc := h.cells k hk
 rw [hp] at hc
 obtain ⟨c0, c1⟩ := hc
 have hlt := h.lt
 have hr0 : ((r : Int) == 0) = false := by simp; omega
 clear h hk hp
 go_enter Tryz.func16, Tryz.ntmps16
 go_wp2_with fail
 refine HF.out.mono ?_
 rintro e w1 ⟨rfl, rfl⟩
 generalize 1 + 2 * k = o at c0 c1 ⊢
 go_upto_region 4 with fail
 go_region
 go_wp2
 exact bodyPost_ret (v := .tuple #[plV ((f : Int), (r : Int)), .bool true]) (by simp [results, Tryz.results16, go_sem, plV]) rfl ⟨rfl, by first | exact HB.out | exact (box_below w _ _).drew | exact set_keep _ _ (set_keep _ _ HB.out)⟩
theorem get_any (b : Nat) (L : List Pl) (n : Int) (p : Pl) (t : Bool) (hp : atP L n = p) (ht : thB p = t) (w : World) (h : MAt w b L) :
  Calls Tryz.prog 16 #[.pointer (some ⟨b, 0, none⟩), .int .i64 n] w fun e w' => e = .returned (.tuple #[plV p, .bool t]) ∧ Below w.heap.size w w' := by
 subst ht hp
 rcases page_cases n with hn | ⟨k, rfl, hk⟩
 ·rw [atP_no hn]
  exact get_no _ n 1 (.inl rfl) w fun W hW => find_out b n L W (h.more hW) hn
 ·rw [atP_is hk]
  rcases pl_cases h.2 k with hp | ⟨f, r, hp, _, hr, _, ht⟩
  ·rw [hp]
   exact get_none b k L hk hp w h
  ·rw [hp, ht]
   exact get_is b k f r L hk hp hr w h
theorem get_zero (a : Option Addr) (n : Int) (w : World) (hF : ∀ W, Below w.heap.size w W → Calls Tryz.prog 51 #[.pointer a, .int .i64 n] W fun e w' => e = .returned (.tuple #[.pointer none, .int .i64 7]) ∧ W = w') :
  Calls Tryz.prog 16 #[.pointer a, .int .i64 n] w fun e w' => e = .returned (.tuple #[plV (0, 0), .bool false]) ∧ Below w.heap.size w w' := get_no a n 7 (.inr rfl) w hF
end Go.Proofs.YteaincdeoajkeaaGreatDoor.Gm
end
section
/- Package gmap: Set and Drop of the program. -/
namespace Go.Proofs.YteaincdeoajkeaaGreatDoor.Gm
open Go.RowKit Ut
set_option maxRecDepth 100000
set_option linter.unusedVariables false
set_option maxHeartbeats 4000000

/-- both cells of a place turned -/
theorem grown_two {w w1 : World} (hb : Below w.heap.size w w1) (b i j : Nat) (x y : Value) : w.grownBy ((w1.setCell ⟨b, i, none⟩ x).setCell ⟨b, j, none⟩ y) (some b) :=
 grown_trans (grown_trans (grown_below hb) (grown_setCell w1 b i x)) (grown_setCell _ b j y)

theorem set_no (a : Option Addr) (n z : Int) (p : Pl) (hz : z = 1 ∨ z = 7) (w : World) (hF : ∀ W, Below w.heap.size w W → Calls Tryz.prog 51 #[.pointer a, .int .i64 n] W fun e w' => e = .returned (.tuple #[.pointer none, .int .i64 z]) ∧ W = w') :
  Calls Tryz.prog 28 #[.pointer a, .int .i64 n, plV p] w fun e w' => e = .returned (.int .i64 z) ∧ Below w.heap.size w w' := by
 obtain ⟨f, r⟩ := p
 have hz0 : (z == 0) = false := by rcases hz with rfl | rfl <;> rfl
 have HB := Lib.hid (box_below w f r)
 have HF := Lib.hid (hF _ HB.out)
 clear hF hz
 show Calls _ _ #[_, _, .agg #[.int .i64 f, .int .i64 r]] _ _
 go_enter Tryz.func28, Tryz.ntmps28
 go_wp2_with fail
 refine HF.out.mono ?_
 rintro e w1 ⟨rfl, rfl⟩
 go_wp2
 go_ret
 exact ⟨rfl, HB.out⟩
theorem set_unfit (b k : Nat) (L : List Pl) (p : Pl) (hk : k < 12) (hp : okB p = false) (w : World) (h : MAt w b L) :
  Calls Tryz.prog 28 #[.pointer (some ⟨b, 0, none⟩), .int .i64 k, plV p] w fun e w' => e = .returned (.int .i64 1) ∧ Below w.heap.size w w' := by
 have HT := Lib.hid (fits_any p false hp)
 obtain ⟨f, r⟩ := p
 have HB := Lib.hid (box_below w f r)
 have HF := Lib.hid (find_in b k L _ (h.more HB.out) hk)
 clear h hk hp
 show Calls _ _ #[_, _, .agg #[.int .i64 f, .int .i64 r]] _ _
 go_enter Tryz.func28, Tryz.ntmps28
 go_wp2_with fail
 refine HF.out.mono ?_
 rintro e w1 ⟨rfl, rfl⟩
 generalize 1 + 2 * k = o
 go_wp2_with fail
 refine (HT.out _).mono ?_
 rintro e w1 ⟨rfl, hb1⟩
 have HB1 := Lib.hid (HB.out.trans (hb1.mono HB.out.size))
 clear hb1
 go_wp2
 go_ret
 exact ⟨rfl, HB1.out⟩
theorem set_used (b k : Nat) (L : List Pl) (p : Pl) (hk : k < 12) (hp : okB p = true) (g s : Nat) (hq : plN L k = ((g : Int), (s : Int))) (hs : 0 < s) (w : World) (h : MAt w b L) :
  Calls Tryz.prog 28 #[.pointer (some ⟨b, 0, none⟩), .int .i64 k, plV p] w fun e w' => e = .returned (.int .i64 5) ∧ Below w.heap.size w w' := by
 have HT := Lib.hid (fits_any p true hp)
 obtain ⟨f, r⟩ := p
 have HB := Lib.hid (box_below w f r)
 have HM := Lib.hid (h.more HB.out)
 have HF := Lib.hid (find_in b k L _ (h.more HB.out) hk)
 have HC := Lib.hid hk
 have HQ := Lib.hid hq
 have hs0 : ((s : Int) == 0) = false := by simp; omega
 clear h hk hp hq
 show Calls _ _ #[_, _, .agg #[.int .i64 f, .int .i64 r]] _ _
 go_enter Tryz.func28, Tryz.ntmps28
 go_wp2_with fail
 refine HF.out.mono ?_
 rintro e w1 ⟨rfl, rfl⟩
 obtain ⟨o, ho⟩ : ∃ o, o = 1 + 2 * k := ⟨_, rfl⟩
 rw [← ho]
 have HO := Lib.hid ho
 clear ho
 go_wp2_with fail
 refine (HT.out _).mono ?_
 rintro e w1 ⟨rfl, hb1⟩
 have HB1 := Lib.hid (HB.out.trans (hb1.mono HB.out.size))
 have hc := (HM.out.more hb1).cells k HC.out
 rw [HQ.out, ← HO.out] at hc
 obtain ⟨c0, c1⟩ := hc
 clear hb1 HF
 go_wp2
 go_ret
 exact ⟨rfl, HB1.out⟩
theorem set_ok (b k : Nat) (L : List Pl) (p : Pl) (hk : k < 12) (hp : okB p = true) (hq : plN L k = (0, 0)) (w : World) (h : MAt w b L) :
  Calls Tryz.prog 28 #[.pointer (some ⟨b, 0, none⟩), .int .i64 k, plV p] w fun e w' => e = .returned (.int .i64 0) ∧ MAt w' b (L.set k p) ∧ w.grownBy w' (some b) := by
 have HT := Lib.hid (fits_any p true hp)
 have HP := Lib.hid (show p = (0, 0) ∨ okB p = true from .inr hp)
 obtain ⟨f, r⟩ := p
 have HB := Lib.hid (box_below w f r)
 have HM := Lib.hid (h.more HB.out)
 have HF := Lib.hid (find_in b k L _ (h.more HB.out) hk)
 have HC := Lib.hid hk
 have HQ := Lib.hid hq
 clear h hk hp hq
 show Calls _ _ #[_, _, .agg #[.int .i64 f, .int .i64 r]] _ _
 have HN : Hid (Blk (w.alloc (.cells #[.int .i64 f, .int .i64 r] 54)) w.heap.size 54 [.int .i64 f, .int .i64 r]) := Blk.new w _ _
 go_enter Tryz.func28, Tryz.ntmps28
 go_wp2_with fail
 refine HF.out.mono ?_
 rintro e w1 ⟨rfl, rfl⟩
 obtain ⟨o, ho⟩ : ∃ o, o = 1 + 2 * k := ⟨_, rfl⟩
 rw [← ho]
 have HO := Lib.hid ho
 clear ho
 go_wp2_with fail
 refine (HT.out _).mono ?_
 rintro e w1 ⟨rfl, hb1⟩
 have HB1 := Lib.hid (HB.out.trans (hb1.mono HB.out.size))
 have hc := (HM.out.more hb1).cells k HC.out
 rw [HQ.out, ← HO.out] at hc
 obtain ⟨c0, c1⟩ := hc
 have hn := HN.out.below hb1 HN.out.lt
 have n0 : w1.cell? ⟨w.heap.size, 0, none⟩ = some (.int .i64 f) := hn.cell rfl
 have n1 : w1.cell? ⟨w.heap.size, 1, none⟩ = some (.int .i64 r) := hn.cell rfl
 have f0 := (HM.out.more hb1).1.frozen o
 have f1 := (HM.out.more hb1).1.frozen (o + 1)
 have HS := Lib.hid ((HM.out.more hb1).set k HC.out (f, r) HP.out)
 have HG := Lib.hid (grown_two HB1.out b o (o + 1) (.int .i64 f) (.int .i64 r))
 rw [← HO.out] at HS
 clear hb1 HF hn
 go_wp2
 go_ret
 exact ⟨rfl, HS.out, HG.out⟩
end Go.Proofs.YteaincdeoajkeaaGreatDoor.Gm
end
section
/- The document's map (hermitageref15): Is, Get, Set, Drop. -/
namespace Go.Proofs.YteaincdeoajkeaaGreatDoor.Gm
open Go.RowKit Ut
set_option maxRecDepth 100000
set_option linter.unusedVariables false
set_option maxHeartbeats 4000000

theorem is_no (n : Int) (h : n < 0 ∨ 12 ≤ n) (w : World) : Calls Tryz.prog 63 #[.int .i64 n] w fun e w' => e = .returned (.bool false) ∧ w = w' := by
 rcases Int.lt_or_le n 0 with h0 | h0
 ·have h1 : decide ((0 : Int) ≤ n) = false := by simp; omega
  go_enter Tryz.func63, Tryz.ntmps63
  go_wp2
  go_ret
  exact ⟨rfl, rfl⟩
 ·have h1 : decide ((0 : Int) ≤ n) = true := by simpa using h0
  have h2 : decide (n < 12) = false := by simp; omega
  go_enter Tryz.func63, Tryz.ntmps63
  go_wp2
  go_ret
  exact ⟨rfl, rfl⟩
theorem is_yes (k : Nat) (h : k < 12) (w : World) : Calls Tryz.prog 63 #[.int .i64 k] w fun e w' => e = .returned (.bool true) ∧ w = w' := by
 have h1 : decide ((0 : Int) ≤ (k : Int)) = true := by simp
 have h2 : decide ((k : Int) < 12) = true := by simp; omega
 go_enter Tryz.func63, Tryz.ntmps63
 go_wp2
 go_ret
 exact ⟨rfl, rfl⟩

theorem RAt.cells' {w : World} {b : Nat} {L : List Pl} (h : RAt w b L) (k : Nat) (hk : k < 12) : w.cell? ⟨b, 12 + k * 2, none⟩ = some (.int .i64 (plN L k).1) ∧ w.cell? ⟨b, 12 + k * 2 + 1, none⟩ = some (.int .i64 (plN L k).2) := by
 rw [Nat.mul_comm k 2]; exact h.cells k hk

theorem refGet_no (b : Nat) (n : Int) (L : List Pl) (hn : n < 0 ∨ 12 ≤ n) (w : World) (h : RAt w b L) :
  Calls Tryz.prog 79 #[.pointer (some ⟨b, 0, none⟩), .int .i64 n] w fun e w' => e = .returned (.tuple #[plV (0, 0), .bool false]) ∧ Below w.heap.size w w' := by
 have HB := Lib.hid (box_below w 0 0)
 have HI := Lib.hid (is_no n hn)
 clear h hn
 go_enter Tryz.func79, Tryz.ntmps79
 go_wp2_with fail
 refine (HI.out _).mono ?_
 rintro e w1 ⟨rfl, rfl⟩
 go_wp2
 exact bodyPost_ret (v := .tuple #[plV (0, 0), .bool false]) (by simp [results, Tryz.results79, go_sem, plV]) rfl ⟨rfl, by first | exact HB.out | exact (box_below w _ _).drew | exact set_keep _ _ (set_keep _ _ HB.out)⟩
theorem refGet_is (b k : Nat) (L : List Pl) (hk : k < 12) (w : World) (h : RAt w b L) :
  Calls Tryz.prog 79 #[.pointer (some ⟨b, 0, none⟩), .int .i64 k] w fun e w' => e = .returned (.tuple #[plV (plN L k), .bool (thB (plN L k))]) ∧ Below w.heap.size w w' := by
 have HI := Lib.hid (is_yes k hk)
 have HB := Lib.hid (box_below w 0 0)
 obtain ⟨c0, c1⟩ := h.cells' k hk
 have ct := h.there k hk
 have hlt := h.lt
 have f2 : (0 : Int) ≤ (k : Int) ∧ (k : Int) < 12 := by omega
 obtain ⟨t, ht⟩ : ∃ t, thB (plN L k) = t := ⟨_, rfl⟩
 rw [ht] at ct ⊢
 clear ht
 generalize plN L k = p at c0 c1 ⊢
 obtain ⟨f, r⟩ := p
 dsimp only at c0 c1
 clear h hk
 go_enter Tryz.func79, Tryz.ntmps79
 go_wp2_with fail
 refine (HI.out _).mono ?_
 rintro e w1 ⟨rfl, rfl⟩
 go_upto_region 3 with fail
 go_region
 go_wp2
 exact bodyPost_ret (v := .tuple #[plV (f, r), .bool t]) (by simp [results, Tryz.results79, go_sem, plV]) rfl ⟨rfl, by first | exact HB.out | exact (box_below w _ _).drew | exact set_keep _ _ (set_keep _ _ HB.out)⟩
theorem refGet_any (b : Nat) (L : List Pl) (n : Int) (p : Pl) (t : Bool) (hp : atP L n = p) (ht : thB p = t) (w : World) (h : RAt w b L) :
  Calls Tryz.prog 79 #[.pointer (some ⟨b, 0, none⟩), .int .i64 n] w fun e w' => e = .returned (.tuple #[plV p, .bool t]) ∧ Below w.heap.size w w' := by
 subst ht hp
 rcases page_cases n with hn | ⟨k, rfl, hk⟩
 ·rw [atP_no hn]; exact refGet_no b n L hn w h
 ·rw [atP_is hk]; exact refGet_is b k L hk w h

theorem refDrop_no (b : Nat) (n : Int) (hn : n < 0 ∨ 12 ≤ n) (w : World) :
  Calls Tryz.prog 35 #[.pointer (some ⟨b, 0, none⟩), .int .i64 n] w fun e w' => e = .returned (.int .i64 1) ∧ w = w' := by
 have HI := Lib.hid (is_no n hn)
 clear hn
 go_enter Tryz.func35, Tryz.ntmps35
 go_wp2_with fail
 refine (HI.out _).mono ?_
 rintro e w1 ⟨rfl, rfl⟩
 go_wp2
 go_ret
 exact ⟨rfl, rfl⟩
theorem refDrop_none (b k : Nat) (L : List Pl) (hk : k < 12) (ht : thB (plN L k) = false) (w : World) (h : RAt w b L) :
  Calls Tryz.prog 35 #[.pointer (some ⟨b, 0, none⟩), .int .i64 k] w fun e w' => e = .returned (.int .i64 3) ∧ w = w' := by
 have HI := Lib.hid (is_yes k hk)
 have ct := h.there k hk
 rw [ht] at ct
 have f2 : (0 : Int) ≤ (k : Int) ∧ (k : Int) < 12 := by omega
 clear h hk ht
 go_enter Tryz.func35, Tryz.ntmps35
 go_wp2_with fail
 refine (HI.out _).mono ?_
 rintro e w1 ⟨rfl, rfl⟩
 go_wp2
 go_ret
 exact ⟨rfl, rfl⟩
theorem grown_three {w w1 : World} (hb : Below w.heap.size w w1) (b i j l : Nat) (x y z : Value) : w.grownBy (((w1.setCell ⟨b, i, none⟩ x).setCell ⟨b, j, none⟩ y).setCell ⟨b, l, none⟩ z) (some b) :=
 grown_trans (grown_two hb b i j x y) (grown_setCell _ b l z)
theorem RAt.set' {w : World} {b : Nat} {L : List Pl} (h : RAt w b L) (k : Nat) (hk : k < 12) (p : Pl) (t : Bool) (ht : thB p = t) (hp : p = (0, 0) ∨ okB p = true) : RAt (((w.setCell ⟨b, k, none⟩ (.bool t)).setCell ⟨b, 12 + k * 2, none⟩ (.int .i64 p.1)).setCell ⟨b, 12 + k * 2 + 1, none⟩ (.int .i64 p.2)) b (L.set k p) := by
 rw [Nat.mul_comm k 2]; exact ht ▸ h.set k hk p hp
theorem refDrop_ok (b k : Nat) (L : List Pl) (hk : k < 12) (ht : thB (plN L k) = true) (w : World) (h : RAt w b L) :
  Calls Tryz.prog 35 #[.pointer (some ⟨b, 0, none⟩), .int .i64 k] w fun e w' => e = .returned (.int .i64 0) ∧ RAt w' b (L.set k (0, 0)) ∧ w.grownBy w' (some b) := by
 have HI := Lib.hid (is_yes k hk)
 have HS := Lib.hid (h.set' k hk (0, 0) false rfl (.inl rfl))
 have HG := Lib.hid (grown_three (Below.refl w.heap.size w) b k (12 + k * 2) (12 + k * 2 + 1) (.bool false) (.int .i64 0) (.int .i64 0))
 have ct := h.there k hk
 rw [ht] at ct
 obtain ⟨c0, c1⟩ := h.cells' k hk
 have f0 := h.1.frozen k
 have f1 := h.1.frozen (12 + k * 2)
 have f3 := h.1.frozen (12 + k * 2 + 1)
 have f2 : (0 : Int) ≤ (k : Int) ∧ (k : Int) < 12 := by omega
 clear h hk ht
 go_enter Tryz.func35, Tryz.ntmps35
 go_wp2_with fail
 refine (HI.out _).mono ?_
 rintro e w1 ⟨rfl, rfl⟩
 go_wp2
 go_ret
 exact ⟨rfl, HS.out, HG.out⟩
theorem refDrop_any (b : Nat) (L L' : List Pl) (n c : Int) (hc : drE L n = c) (hl : drL L n = L') (w : World) (h : RAt w b L) :
  Calls Tryz.prog 35 #[.pointer (some ⟨b, 0, none⟩), .int .i64 n] w fun e w' => e = .returned (.int .i64 c) ∧ RAt w' b L' ∧ w.grownBy w' (some b) := by
 have K : ∀ {z : Int}, drE L n = z → z ≠ 0 → Calls Tryz.prog 35 #[.pointer (some ⟨b, 0, none⟩), .int .i64 n] w (fun e w' => e = .returned (.int .i64 z) ∧ w = w') → Calls Tryz.prog 35 #[.pointer (some ⟨b, 0, none⟩), .int .i64 n] w fun e w' => e = .returned (.int .i64 c) ∧ RAt w' b L' ∧ w.grownBy w' (some b) := fun {z} hz h0 H => by
  rw [hz] at hc
  subst hc
  unfold drL at hl
  rw [hz, if_neg h0] at hl
  subst hl
  exact H.mono fun e w' ⟨he, hb⟩ => ⟨he, hb ▸ h, hb ▸ World.grownBy.refl _ _⟩
 rcases page_cases n with hn | ⟨k, rfl, hk⟩
 ·exact K (drE_no hn) (by omega) (refDrop_no _ n hn w)
 ·have e := drE_is (L := L) hk
  by_cases ht : thB (plN L k) = true
  ·rw [if_pos ht] at e
   rw [e] at hc
   subst hc
   unfold drL at hl
   rw [e, if_pos rfl] at hl
   subst hl
   exact refDrop_ok b k L hk ht w h
  ·rw [if_neg ht] at e
   exact K e (by omega) (refDrop_none b k L hk (by simpa using ht) w h)
end Go.Proofs.YteaincdeoajkeaaGreatDoor.Gm
end
section
/- The document's map (hermitageref15): Pages, Allows. -/
namespace Go.Proofs.YteaincdeoajkeaaGreatDoor.Gm
open Go.RowKit Ut
set_option maxRecDepth 100000
set_option linter.unusedVariables false
set_option maxHeartbeats 4000000

/-- Allows by what Get says -/
theorem refAllows_no (a : Option Addr) (n k : Int) (w : World) (H : Calls Tryz.prog 79 #[.pointer a, .int .i64 n] w fun e w' => e = .returned (.tuple #[plV (0, 0), .bool false]) ∧ Below w.heap.size w w') :
  Calls Tryz.prog 78 #[.pointer a, .int .i64 n, .int .i64 k] w fun e w' => e = .returned (.int .i64 7) ∧ Below w.heap.size w w' := by
 have HG := Lib.hid H
 clear H
 go_enter Tryz.func78, Tryz.ntmps78
 go_wp2_with fail
 refine HG.out.mono ?_
 rintro e w1 ⟨rfl, hb1⟩
 have HB1 := Lib.hid (hb1.trans ((box_below w1 0 0).mono hb1.size))
 clear hb1
 unfold plV
 go_wp2
 go_ret
 exact ⟨rfl, HB1.out⟩
theorem refAllows_yes (a : Option Addr) (n f r : Nat) (k : Int) (c : Int) (hn : n < 12) (h0 : 0 < r) (h3 : r ≤ 3) (hc : alwF ((f : Int), (r : Int)) n k = c) (w : World) (H : Calls Tryz.prog 79 #[.pointer a, .int .i64 n] w fun e w' => e = .returned (.tuple #[plV ((f : Int), (r : Int)), .bool true]) ∧ Below w.heap.size w w') :
  Calls Tryz.prog 78 #[.pointer a, .int .i64 n, .int .i64 k] w fun e w' => e = .returned (.int .i64 c) ∧ Below w.heap.size w w' := by
 have HG := Lib.hid H
 have HBX : Hid (∀ (W : World) (x y : Int), Below w.heap.size w W → Below w.heap.size w (W.alloc (.cells #[.int .i64 x, .int .i64 y] 54))) := Lib.hid fun W x y h => h.alloc h.size _
 clear H
 have ht : thB ((f : Int), (r : Int)) = true := by unfold thB; simp; omega
 unfold alwF at hc
 rw [if_pos ht] at hc
 unfold mayB at hc
 clear ht
 by_cases k0 : k = 0
 ·subst k0
  rw [if_pos rfl] at hc
  by_cases h8 : (n : Int) < 8
  ·have f8 : decide ((n : Int) < 8) = true := by simpa using h8
   simp only [h8, decide_true, if_true] at hc
   have HC := Lib.hid hc
   clear hc h8
   go_enter Tryz.func78, Tryz.ntmps78
   go_wp2_with fail
   refine HG.out.mono ?_
   rintro e w1 ⟨rfl, hb1⟩
   have HB1 := Lib.hid hb1
   clear hb1
   unfold plV
   go_wp2
   go_ret
   exact ⟨by rw [← HC.out]; rfl, HBX.out _ _ _ HB1.out⟩
  ·have f8 : decide ((n : Int) < 8) = false := by simpa using h8
   simp only [h8, decide_false, Bool.false_eq_true, if_false] at hc
   have HC := Lib.hid hc
   clear hc h8
   go_enter Tryz.func78, Tryz.ntmps78
   go_wp2_with fail
   refine HG.out.mono ?_
   rintro e w1 ⟨rfl, hb1⟩
   have HB1 := Lib.hid hb1
   clear hb1
   unfold plV
   go_wp2
   go_ret
   exact ⟨by rw [← HC.out]; rfl, HBX.out _ _ _ HB1.out⟩
 rw [if_neg k0] at hc
 have e0 : (k == 0) = false := by simpa using k0
 by_cases k1 : k = 1
 ·subst k1
  rw [if_pos rfl] at hc
  obtain rfl | rfl | rfl : r = 1 ∨ r = 2 ∨ r = 3 := by omega
  all_goals
   have HC := Lib.hid hc
   clear hc
   go_enter Tryz.func78, Tryz.ntmps78
   go_wp2_with fail
   refine HG.out.mono ?_
   rintro e w1 ⟨rfl, hb1⟩
   have HB1 := Lib.hid hb1
   clear hb1
   unfold plV
   go_wp2
   go_ret
   exact ⟨by rw [← HC.out]; rfl, HBX.out _ _ _ HB1.out⟩
 rw [if_neg k1] at hc
 have e1 : (k == 1) = false := by simpa using k1
 by_cases k2 : k = 2
 ·subst k2
  rw [if_pos rfl] at hc
  obtain rfl | rfl | rfl : r = 1 ∨ r = 2 ∨ r = 3 := by omega
  all_goals
   have HC := Lib.hid hc
   clear hc
   go_enter Tryz.func78, Tryz.ntmps78
   go_wp2_with fail
   refine HG.out.mono ?_
   rintro e w1 ⟨rfl, hb1⟩
   have HB1 := Lib.hid hb1
   clear hb1
   unfold plV
   go_wp2
   go_ret
   exact ⟨by rw [← HC.out]; rfl, HBX.out _ _ _ HB1.out⟩
 rw [if_neg k2] at hc
 have e2 : (k == 2) = false := by simpa using k2
 have HC := Lib.hid hc
 clear hc
 go_enter Tryz.func78, Tryz.ntmps78
 go_wp2_with fail
 refine HG.out.mono ?_
 rintro e w1 ⟨rfl, hb1⟩
 have HB1 := Lib.hid hb1
 clear hb1
 unfold plV
 go_wp2
 go_ret
 exact ⟨by rw [← HC.out]; rfl, HBX.out _ _ _ HB1.out⟩
theorem refAllows_any (b : Nat) (L : List Pl) (n k c : Int) (hc : alwF (atP L n) n k = c) (w : World) (h : RAt w b L) :
  Calls Tryz.prog 78 #[.pointer (some ⟨b, 0, none⟩), .int .i64 n, .int .i64 k] w fun e w' => e = .returned (.int .i64 c) ∧ Below w.heap.size w w' := by
 have G := refGet_any b L n _ _ rfl rfl w h
 rcases page_cases n with hn | ⟨j, rfl, hj⟩
 ·rw [atP_no hn] at hc G
  obtain rfl : 7 = c := hc
  exact refAllows_no _ n k w G
 ·rw [atP_is hj] at hc G
  rcases pl_cases h.2 j with hq | ⟨f, r, hq, _, hr, hr3, ht⟩
  ·rw [hq] at hc G
   obtain rfl : 7 = c := hc
   exact refAllows_no _ j k w G
  ·rw [hq] at hc G
   rw [ht] at G
   exact refAllows_yes _ j f r k c hj hr hr3 hc w G
end Go.Proofs.YteaincdeoajkeaaGreatDoor.Gm
end
