/- Several texts in one: Ye Yh Ym Yn Za -/
import Derived.Test.YteaincdeoajkeaaGreatDoorV14
import Derived.Deep.CutBlock
import Derived.Test.YteaincdeoajkeaaGreatDoorV15
import Derived.Test.YteaincdeoajkeaaGreatDoorV16
import Derived.Test.YteaincdeoajkeaaGreatDoorV17
import Derived.StillTailTactics
import Derived.Test.YteaincdeoajkeaaGreatDoorV19
import Derived.Test.YteaincdeoajkeaaGreatDoorV04
import Derived.Test.YteaincdeoajkeaaGreatDoorV06
section
/- Package view: Dirty, Map, Store, of the program; the document's Dirty. -/
namespace Go.Proofs.YteaincdeoajkeaaGreatDoor.Vw
open Go.RowKit Ut Oc
set_option maxRecDepth 100000
set_option linter.unusedVariables false
set_option maxHeartbeats 4000000

/-- the pages below k that were written, rising -/
def dirtL (D : List Bool) (k : Nat) : List Int := ((List.range k).filter fun i => D.getD i false).map fun i : Nat => (i : Int)
section
variable {b s m n : Nat} {S : List Int} {L : List Gm.Pl} {D : List Bool}
theorem Kq.setRow {T : List Nat} {w w' : World} (h : Kq T w w') (b : Nat) (cs : Array Value) (hb : b ∈ T) : Kq T w (w'.setRow b cs) :=
 ⟨h.os, h.tape, h.output, by rw [size_setRow]; exact h.size, fun q hq hn => (setRow_other _ _ _ _ (fun e => hn (by rw [e]; exact hb))).trans (h.block q hq hn)⟩
theorem map_un (a : Option Addr) (w : World) (hM : Calls Tryz.prog 50 #[.pointer a] w fun e w' => e = .returned (.bool false) ∧ w = w') : Calls Tryz.prog 15 #[.pointer a] w fun e w' => e = .returned (.pointer none) ∧ w = w' := by
 have HM := Lib.hid hM
 clear hM
 go_enter Tryz.func15, Tryz.ntmps15
 go_wp2_with fail
 refine HM.out.mono ?_
 rintro e w1 ⟨rfl, rfl⟩
 go_wp2
 go_ret
 exact ⟨rfl, rfl⟩
end
end Go.Proofs.YteaincdeoajkeaaGreatDoor.Vw
end
section
/- The document's view (hermitageref16): place, Own, Read, Write, Dirty. -/
namespace Go.Proofs.YteaincdeoajkeaaGreatDoor.Vw
open Go.RowKit Ut Oc
set_option maxRecDepth 100000
set_option linter.unusedVariables false
set_option maxHeartbeats 4000000

section
variable {g bt B q n gv cap : Nat} {S : List Int} {L : List Gm.Pl} {D : List Bool}
end
end Go.Proofs.YteaincdeoajkeaaGreatDoor.Vw
end
section
/- Package view: Write of the program. -/
namespace Go.Proofs.YteaincdeoajkeaaGreatDoor.Vw
open Go.RowKit Go.Shelf Ut Oc
set_option maxRecDepth 100000
set_option linter.unusedVariables false
set_option maxHeartbeats 4000000

section
variable {b s m n : Nat} {S : List Int} {L : List Gm.Pl} {D : List Bool}
/-- between two parts: their bytes are laid, their pages marked -/
def WrI (b s m n : Nat) (S : List Int) (L : List Gm.Pl) (D : List Bool) (zs : List Int) (Bv Bs : Nat) (sv : Value) {a K : Nat} (pre : List (BP a K)) (W : World) : Prop :=
 PV W b s m n (foldS L zs S pre) L (foldD D pre) ∧ Boxed W Bv 25 (.pointer (some ⟨b, 0, none⟩)) ∧ Boxed W Bs 70 sv
/-- what both sides write, whatever they are asked -/
def wrtS (n : Nat) (S : List Int) (L : List Gm.Pl) (z : Int) (zs : List Int) : List Int := if ownB n L z zs.length = true then wS L S z.toNat zs zs.length else S
def wrtD (n : Nat) (L : List Gm.Pl) (D : List Bool) (z : Int) (k : Nat) : List Bool := if ownB n L z k = true then wD D z.toNat k else D
/-- .. read -/
def rdL (n : Nat) (S : List Int) (L : List Gm.Pl) (z k : Int) : List Int := if ownB n L z k = true then rB L S z.toNat k.toNat else []
end
end Go.Proofs.YteaincdeoajkeaaGreatDoor.Vw
end
section
/- hermitagelaw16: made; the document's Read and Write whatever they are asked. -/
namespace Go.Proofs.YteaincdeoajkeaaGreatDoor.Vw
open Go.RowKit Go.Shelf Ut Oc
set_option maxRecDepth 100000
set_option linter.unusedVariables false
set_option maxHeartbeats 4000000

section
variable {g bt B q n gv cap : Nat} {S : List Int} {L : List Gm.Pl} {D : List Bool}
end

/-- the map behind the first k pages -/
def mkL (xs : List Int) (Z : Nat → Gm.Pl) : Nat → List Gm.Pl
 | 0 => Gm.noP
 | k + 1 => Gm.setL (mkL xs Z k) (xs.getD k 0) (Z k)
def cnt (li lp : Nat) : Nat := min (min li lp) 30

/-- what made makes -/
structure Mk (w0 w : World) (b s m n g bt B q gv cap : Nat) (L : List Gm.Pl) : Prop where
 pv : PV w b s m n Fr.zeros L noD
 dv : DV w g bt B q n gv cap Fr.zeros L noD
 ws : w0.heap.size ≤ s
 mB : m < B
 qb : q < b
 bg : b < g
 blw : Below w0.heap.size w0 w

end Go.Proofs.YteaincdeoajkeaaGreatDoor.Vw
end
section
/- Package walk: a word of a table, plainly; entry; the document's Word, table. -/
namespace Go.Proofs.YteaincdeoajkeaaGreatDoor.Wa
open Go.RowKit Go.Shelf Ut Oc Vw
set_option maxRecDepth 100000
set_option linter.unusedVariables false
set_option maxHeartbeats 4000000

/-- is there a table at page p; its word at place i -/
def hasT (n : Nat) (L : List Gm.Pl) (p : Int) : Bool := decide (0 ≤ p) && decide (p < 8) && okP n (Gm.plN L p.toNat)
def wordT (n : Nat) (S : List Int) (L : List Gm.Pl) (p : Int) (i : Nat) : Nat := if hasT n L p = true then (num (rB L S (64 * p.toNat + 4 * i) 4)).toNat else 0

theorem hasT_in (n : Nat) (L : List Gm.Pl) {p : Nat} (hp : p < 8) : hasT n L (p : Int) = okP n (Gm.plN L p) := by
 unfold hasT
 rw [Int.toNat_natCast]
 simp [show (p : Int) < 8 by omega]
theorem hasT_bd {n : Nat} {L : List Gm.Pl} {p : Int} (h : hasT n L p = true) : 0 ≤ p ∧ p < 8 := by
 unfold hasT at h
 simp at h
 exact h.1

section
variable {b s m n : Nat} {S : List Int} {L : List Gm.Pl} {D : List Bool}
end

section
variable {g bt B q n gv cap : Nat} {S : List Int} {L : List Gm.Pl} {D : List Bool}
end
end Go.Proofs.YteaincdeoajkeaaGreatDoor.Wa
end
