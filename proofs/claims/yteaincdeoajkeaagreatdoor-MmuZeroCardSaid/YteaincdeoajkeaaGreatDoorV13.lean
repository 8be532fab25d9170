/- Several texts in one: Xe Xf Xh Xj -/
import Derived.Test.YteaincdeoajkeaaGreatDoorV12
import Derived.Test.YteaincdeoajkeaaGreatDoorV10
import Derived.Deep.CutBlock
section
/- Package gmap: Set, Drop and Allows of the program, for any arguments. -/
namespace Go.Proofs.YteaincdeoajkeaaGreatDoor.Gm
open Go.RowKit Ut
set_option maxRecDepth 100000
set_option linter.unusedVariables false
set_option maxHeartbeats 4000000

theorem set_zero (a : Option Addr) (n : Int) (p : Pl) (w : World) (hF : ∀ W, Below w.heap.size w W → Calls Tryz.prog 51 #[.pointer a, .int .i64 n] W fun e w' => e = .returned (.tuple #[.pointer none, .int .i64 7]) ∧ W = w') :
  Calls Tryz.prog 28 #[.pointer a, .int .i64 n, plV p] w fun e w' => e = .returned (.int .i64 7) ∧ Below w.heap.size w w' := set_no a n 7 p (.inr rfl) w hF

theorem drop_no (a : Option Addr) (n z : Int) (hz : z = 1 ∨ z = 7) (w : World) (hF : Calls Tryz.prog 51 #[.pointer a, .int .i64 n] w fun e w' => e = .returned (.tuple #[.pointer none, .int .i64 z]) ∧ w = w') :
  Calls Tryz.prog 34 #[.pointer a, .int .i64 n] w fun e w' => e = .returned (.int .i64 z) ∧ w = w' := by
 have hz0 : (z == 0) = false := by rcases hz with rfl | rfl <;> rfl
 have HF := Lib.hid hF
 clear hF hz
 go_enter Tryz.func34, Tryz.ntmps34
 go_wp2_with fail
 refine HF.out.mono ?_
 rintro e w1 ⟨rfl, rfl⟩
 go_wp2
 go_ret
 exact ⟨rfl, rfl⟩
end Go.Proofs.YteaincdeoajkeaaGreatDoor.Gm
end
section
/- Package gmap: Pages of the program. -/
namespace Go.Proofs.YteaincdeoajkeaaGreatDoor.Gm
open Go.RowKit Ut
set_option maxRecDepth 100000
set_option linter.unusedVariables false
set_option maxHeartbeats 4000000

end Go.Proofs.YteaincdeoajkeaaGreatDoor.Gm
end
section
/- The document's map (hermitageref15): Set. -/
namespace Go.Proofs.YteaincdeoajkeaaGreatDoor.Gm
open Go.RowKit Ut
set_option maxRecDepth 100000
set_option linter.unusedVariables false
set_option maxHeartbeats 4000000

end Go.Proofs.YteaincdeoajkeaaGreatDoor.Gm
end
section
/- hermitagelaw15: ints, awake; what no call made; both maps side by side. -/
namespace Go.Proofs.YteaincdeoajkeaaGreatDoor.Gm
open Go.RowKit Ut
set_option maxRecDepth 100000
set_option linter.unusedVariables false
set_option maxHeartbeats 4000000

theorem keep {f : Nat} {args : Array Value} {v : Value} {w0 w : World} (hb : Below w0.heap.size w0 w) (h : Calls Tryz.prog f args w fun e w' => e = .returned v ∧ Below w.heap.size w w') : Calls Tryz.prog f args w fun e w' => e = .returned v ∧ Below w0.heap.size w0 w' :=
 h.mono fun e w' ⟨he, hb'⟩ => ⟨he, hb.trans (hb'.mono hb.size)⟩

def L8 : List Pl := setL noP 8 (3, 1)
/-- of what no call made: each method by find's no -/
def NotMade (a : Option Addr) (w : World) : Prop := ∀ n, Calls Tryz.prog 51 #[.pointer a, .int .i64 n] w fun e w' => e = .returned (.tuple #[.pointer none, .int .i64 7]) ∧ w = w'
/-- .. in all worlds above w -/
def Unmade (w : World) (a : Option Addr) : Prop := ∀ W, Below w.heap.size w W → NotMade a W
section
variable {w : World} {a : Option Addr}
theorem Unmade.up (h : Unmade w a) {W : World} (hW : Below w.heap.size w W) : ∀ V, Below W.heap.size W V → NotMade a V := fun V hV => h V (hW.trans (hV.mono hW.size))
theorem Unmade.get (h : Unmade w a) (n : Int) (W : World) (hW : Below w.heap.size w W) : Calls Tryz.prog 16 #[.pointer a, .int .i64 n] W fun e w' => e = .returned (.tuple #[plV (0, 0), .bool false]) ∧ Below w.heap.size w w' :=
 keep hW (get_zero a n W fun V hV => h.up hW V hV n)
theorem Unmade.set (h : Unmade w a) (n : Int) (p : Pl) (W : World) (hW : Below w.heap.size w W) : Calls Tryz.prog 28 #[.pointer a, .int .i64 n, plV p] W fun e w' => e = .returned (.int .i64 7) ∧ Below w.heap.size w w' :=
 keep hW (set_zero a n p W fun V hV => h.up hW V hV n)
theorem Unmade.drop (h : Unmade w a) (n : Int) (W : World) (hW : Below w.heap.size w W) : Calls Tryz.prog 34 #[.pointer a, .int .i64 n] W fun e w' => e = .returned (.int .i64 7) ∧ Below w.heap.size w w' :=
 (drop_no a n 7 (.inr rfl) W (h W hW n)).mono fun e w' ⟨he, hw⟩ => ⟨he, hw ▸ hW⟩
end
/-- the cells of a map that no call made -/
def unCells : List Value := .bool false :: flatP noP
end Go.Proofs.YteaincdeoajkeaaGreatDoor.Gm
end
