/- Several texts in one: Zj -/
import Derived.Test.YteaincdeoajkeaaGreatDoorV20
import Derived.Test.YteaincdeoajkeaaGreatDoorV19
section
/- hermitagelaw17: made: a guest's memory of both sides, and the words that stand in it. -/
namespace Go.Proofs.YteaincdeoajkeaaGreatDoor.Wa
open Go.RowKit Go.Shelf Ut Oc Vw
set_option maxRecDepth 100000
set_option linter.unusedVariables false
set_option maxHeartbeats 4000000

/-- is page k there -/
def hereB (x k : Nat) : Bool := bits .and .u16 ((x : Int) / 2 ^ k) 1 == 0
def zk (k : Nat) : Gm.Pl := (11 - (k : Int), 3 - 2 * ((k : Int) / 9))
/-- the map behind the first k pages -/
def mkG (T : Nat → Bool) : Nat → List Gm.Pl
 | 0 => Gm.noP
 | k + 1 => if T k = true then Gm.setL (mkG T k) k (zk k) else mkG T k
abbrev mapG (x : Nat) : List Gm.Pl := mkG (hereB x) 10
/-- words that stand somewhere -/
def PutRow (w : World) (B : Nat) (a : Option Addr) (n : Nat) (Z : Nat → Int × Int) : Prop := ∀ i, i < n → ∃ x, a = some x ∧ x.block < B ∧ w.cell? (x.add (i * 2)) = some (.int .u32 (Z i).1) ∧ w.cell? (x.add (i * 2 + 1)) = some (.int .u32 (Z i).2) ∧ 0 ≤ (Z i).1 ∧ (Z i).1 < 4294967296 ∧ 0 ≤ (Z i).2 ∧ (Z i).2 < 4294967296
def putS (L : List Gm.Pl) (Z : Nat → Int × Int) : Nat → List Int
 | 0 => Fr.zeros
 | i + 1 => saveS 12 (putS L Z i) L (Z i).1 4 (Z i).2
def putD (L : List Gm.Pl) (Z : Nat → Int × Int) : Nat → List Bool
 | 0 => noD
 | i + 1 => saveD 12 L (putD L Z i) (Z i).1 4
def cnt2 (n : Nat) : Nat := min n 200
/-- what made makes -/
structure Md (w0 w : World) (b s m g bt B q gv cap : Nat) (S : List Int) (L : List Gm.Pl) (D : List Bool) : Prop where
 pv : PV w b s m 12 S L D
 dv : DV w g bt B q 12 gv cap S L D
 ws : w0.heap.size ≤ s
 mB : m < B
 qb : q < b
 bg : b < g
 blw : Below w0.heap.size w0 w
section
variable {w0 w w' : World} {b s m g bt B q gv cap : Nat} {S S' : List Int} {L : List Gm.Pl} {D D' : List Bool}
theorem Md.more (h : Md w0 w b s m g bt B q gv cap S L D) (hb : Below w.heap.size w w') : Md w0 w' b s m g bt B q gv cap S L D :=
 ⟨h.pv.more hb, h.dv.more hb, h.ws, h.mB, h.qb, h.bg, h.blw.trans (hb.mono h.blw.size)⟩
/-- both sides wrote -/
theorem Md.both {w1 : World} (h : Md w0 w b s m g bt B q gv cap S L D) (hP : PV w1 b s m 12 S' L D') (hk : Kq [s, b] w w1) : DV w1 g bt B q 12 gv cap S L D ∧ Below w0.heap.size w0 w1 := by
 have h1 := h.pv.sm
 have h2 := h.pv.mb
 have h3 := h.mB
 have h4 := h.dv.bq
 have h5 := h.dv.qg
 have h6 := h.qb
 have h7 := h.bg
 have h8 := h.ws
 refine ⟨h.dv.kq hk (by simp; omega) (by simp; omega) (fun x hx => ?_), h.blw.trans (hk.under (fun y hy => ?_) h.blw.size)⟩
 ·rcases List.mem_cons.1 hx with rfl | hx
  ·exact .inl (by omega)
  ·have e : x = b := by simpa using hx
   rw [e]
   exact .inr (.inl ⟨_, h.pv.cell0⟩)
 ·rcases List.mem_cons.1 hy with rfl | hy
  ·omega
  ·have e : y = b := by simpa using hy
   omega
end

end Go.Proofs.YteaincdeoajkeaaGreatDoor.Wa
end
