/- Several texts in one: Ba Bb Bc Be -/
import Derived.Test.YteaincdeoajkeaaGreatDoorV02
import Derived.Laws.BitsAllLaws
import Derived.Laws.ShiftsVarLaws
section
/- Package pte: an entry as a block of three cells; what its calls answer, plainly; facts on bits. -/
namespace Go.Proofs.YteaincdeoajkeaaGreatDoor.Pe
open Go.RowKit Ut
set_option linter.unusedVariables false
set_option maxRecDepth 100000
set_option maxHeartbeats 4000000

/-- an entry -/
abbrev pteV (o : Bool) (r g : Int) : Value := .agg #[.bool o, .int .i64 r, .int .i64 g]
abbrev pteW (o : Bool) (r g : Int) (w : World) : World := w.alloc (.cells #[.bool o, .int .i64 r, .int .i64 g] 112)
/-- an entry's block -/
def PteAt (w : World) (p : Nat) (o : Bool) (r g : Int) : Prop := w.heap[p]? = some (.cells #[.bool o, .int .i64 r, .int .i64 g] 112 (0, 0))
section
variable {w w' : World} {p B : Nat} {o : Bool} {r g : Int}
theorem PteAt.lt (h : PteAt w p o r g) : p < w.heap.size := (Array.getElem?_eq_some_iff.1 h).1
theorem PteAt.below (h : PteAt w p o r g) (hb : Below B w w') (hB : p < B) : PteAt w' p o r g := (hb.block _ hB).trans h
theorem PteAt.more (h : PteAt w p o r g) (hb : Below w.heap.size w w') : PteAt w' p o r g := h.below hb h.lt
theorem PteAt.cells (h : PteAt w p o r g) : w.cell? ⟨p, 0, none⟩ = some (.bool o) ∧ w.cell? ⟨p, 1, none⟩ = some (.int .i64 r) ∧ w.cell? ⟨p, 2, none⟩ = some (.int .i64 g) := by
 unfold PteAt at h
 refine ⟨?_, ?_, ?_⟩ <;> simp [World.cell?, h]
theorem PteAt.frozen (h : PteAt w p o r g) (j : Nat) : w.frozen? ⟨p, j, none⟩ = false := by
 unfold PteAt at h
 simp [World.frozen?, h]
end
/-- what has a word -/
def fitsB (o : Bool) (r g : Int) : Bool := if o then decide (0 ≤ r) && decide (r ≤ 15) && decide (0 ≤ g) && decide (g ≤ 31) else decide (r = 0) && decide (g = 0)
def wordN (r g : Int) : Nat := 1 + 2 * r.toNat + 256 * g.toNat
def putZ (o : Bool) (r g : Int) : Nat := if fitsB o r g && o then wordN r g else 0
def putE (o : Bool) (r g : Int) : Int := if fitsB o r g then 0 else 6
/-- what a word is -/
def rOf (x : Nat) : Nat := x / 2 % 16
def gOf (x : Nat) : Nat := x / 256 % 32
def getF (x : Nat) : Int := if x % 2 = 0 then 4 else if 1 + 2 * rOf x + 256 * gOf x = x then 0 else 5
def tabF (x : Nat) : Int := if getF x = 0 then (if rOf x = 0 then 0 else 5) else getF x
def leafF (x : Nat) : Int := if getF x = 0 then (if rOf x % 8 = 0 then 5 else 0) else getF x
/-- an entry, or none, by a fault -/
def oF (f : Int) : Bool := decide (f = 0)
def rF (f : Int) (x : Nat) : Int := if f = 0 then rOf x else 0
def gF (f : Int) (x : Nat) : Int := if f = 0 then gOf x else 0
/-- the right of a kind of access, as rights have it -/
def kindN (k : Int) : Nat := if k = 0 then 4 else if k = 1 then 1 else if k = 2 then 2 else 0
def bitB (r : Int) (z : Nat) : Bool := decide ((r % 16).toNat &&& z ≠ 0)
def alwB (o : Bool) (r k : Int) (u : Bool) : Bool := o && bitB r (kindN k) && (!u || bitB r 8)

theorem and_low (x z n : Nat) (hz : z < 2 ^ n) : x &&& z = (x % 2 ^ n) &&& z := by
 have h1 : x &&& z < 2 ^ n := Nat.and_lt_two_pow _ hz
 have h2 := Nat.and_mod_two_pow (a := x) (b := z) (n := n)
 rw [Nat.mod_eq_of_lt h1, Nat.mod_eq_of_lt hz] at h2
 exact h2
theorem i64_and_low (n : Int) (c : Nat) (hc : c < 16) : bits .and .i64 n (c : Int) = (((n % 16).toNat &&& c : Nat) : Int) := by
 have h1 : (BitVec.ofInt 64 (c : Int)).toNat = c := by rw [BitVec.ofInt_natCast, BitVec.toNat_ofNat]; exact Nat.mod_eq_of_lt (by omega)
 have hl := and_low (n % ((2 ^ 64 : Nat) : Int)).toNat c 4 (by omega)
 have e : (n % ((2 ^ 64 : Nat) : Int)).toNat % 2 ^ 4 = (n % 16).toNat := by omega
 rw [e] at hl
 have hlt : (n % 16).toNat &&& c < 2 ^ 4 := Nat.and_lt_two_pow _ (by omega)
 show IntKind.i64.wrap ((BitVec.ofInt 64 n &&& BitVec.ofInt 64 (c : Int)).toNat : Nat) = _
 rw [BitVec.toNat_and, BitVec.toNat_ofInt, h1, hl, IntKind.wrap_i64]
 omega
end Go.Proofs.YteaincdeoajkeaaGreatDoor.Pe
end
section
/- Package pte: fits, needed, Put of both. -/
namespace Go.Proofs.YteaincdeoajkeaaGreatDoor.Pe
open Go.RowKit Ut
set_option linter.unusedVariables false
set_option maxRecDepth 100000
set_option maxHeartbeats 4000000

end Go.Proofs.YteaincdeoajkeaaGreatDoor.Pe
end
section
/- Package pte: the document's Put. -/
namespace Go.Proofs.YteaincdeoajkeaaGreatDoor.Pe
open Go.RowKit Ut
set_option linter.unusedVariables false
set_option maxRecDepth 100000
set_option maxHeartbeats 4000000

end Go.Proofs.YteaincdeoajkeaaGreatDoor.Pe
end
section
/- Package pte: Get of both. -/
namespace Go.Proofs.YteaincdeoajkeaaGreatDoor.Pe
open Go.RowKit Ut
set_option linter.unusedVariables false
set_option maxRecDepth 100000
set_option maxHeartbeats 4000000

theorem set_keep {w W : World} (j : Nat) (v : Value) (h : Below w.heap.size w W) : Below w.heap.size w (W.setCell ⟨w.heap.size, j, none⟩ v) := h.setCell (p := ⟨w.heap.size, j, none⟩) (by simp) _
end Go.Proofs.YteaincdeoajkeaaGreatDoor.Pe
end
