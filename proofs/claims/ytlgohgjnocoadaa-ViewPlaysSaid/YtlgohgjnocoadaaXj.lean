/- hermitagelaw15: ints, awake; what no call made; both maps side by side. -/
import Derived.Test.YtlgohgjnocoadaaXe
import Derived.Test.YtlgohgjnocoadaaXf
import Derived.Test.YtlgohgjnocoadaaXh
import Derived.Test.YtlgohgjnocoadaaXi
namespace Go.Proofs.Ytlgohgjnocoadaa.Gm
open Go.RowKit Ut
set_option maxRecDepth 100000
set_option linter.unusedVariables false
set_option maxHeartbeats 4000000

theorem keep {f : Nat} {args : Array Value} {v : Value} {w0 w : World} (hb : Below w0.heap.size w0 w) (h : Calls Try.prog f args w fun e w' => e = .returned v ∧ Below w.heap.size w w') : Calls Try.prog f args w fun e w' => e = .returned v ∧ Below w0.heap.size w0 w' :=
  h.mono fun e w' ⟨he, hb'⟩ => ⟨he, hb.trans (hb'.mono hb.size)⟩

def L8 : List Pl := setL noP 8 (3, 1)
/-- of what no call made: each method by find's no -/
def NotMade (a : Option Addr) (w : World) : Prop := ∀ n, Calls Try.prog 54 #[.pointer a, .int .i64 n] w fun e w' => e = .returned (.tuple #[.pointer none, .int .i64 7]) ∧ w = w'
/-- .. in all worlds above w -/
def Unmade (w : World) (a : Option Addr) : Prop := ∀ W, Below w.heap.size w W → NotMade a W
section
variable {w : World} {a : Option Addr}
theorem Unmade.up (h : Unmade w a) {W : World} (hW : Below w.heap.size w W) : ∀ V, Below W.heap.size W V → NotMade a V := fun V hV => h V (hW.trans (hV.mono hW.size))
theorem Unmade.get (h : Unmade w a) (n : Int) (W : World) (hW : Below w.heap.size w W) : Calls Try.prog 51 #[.pointer a, .int .i64 n] W fun e w' => e = .returned (.tuple #[plV (0, 0), .bool false]) ∧ Below w.heap.size w w' :=
  keep hW (get_zero a n W fun V hV => h.up hW V hV n)
theorem Unmade.set (h : Unmade w a) (n : Int) (p : Pl) (W : World) (hW : Below w.heap.size w W) : Calls Try.prog 32 #[.pointer a, .int .i64 n, plV p] W fun e w' => e = .returned (.int .i64 7) ∧ Below w.heap.size w w' :=
  keep hW (set_zero a n p W fun V hV => h.up hW V hV n)
theorem Unmade.drop (h : Unmade w a) (n : Int) (W : World) (hW : Below w.heap.size w W) : Calls Try.prog 65 #[.pointer a, .int .i64 n] W fun e w' => e = .returned (.int .i64 7) ∧ Below w.heap.size w w' :=
  (drop_no a n 7 (.inr rfl) W (h W hW n)).mono fun e w' ⟨he, hw⟩ => ⟨he, hw ▸ hW⟩
theorem Unmade.allows (h : Unmade w a) (n k : Int) (W : World) (hW : Below w.heap.size w W) : Calls Try.prog 27 #[.pointer a, .int .i64 n, .int .i64 k] W fun e w' => e = .returned (.int .i64 7) ∧ Below w.heap.size w w' :=
  keep hW (allows_no a n k W (get_zero a n W fun V hV => h.up hW V hV n))
end
theorem unmade_nil (w : World) : Unmade w none := fun W _ n => find_nil n W
/-- the cells of a map that no call made -/
def unCells : List Value := .bool false :: flatP noP
theorem unmade_blk {w : World} {b : Nat} (h : Blk w b 69 unCells) : Unmade w (some ⟨b, 0, none⟩) := fun W hW n => find_unmade b n W ((h.below hW h.lt).cell rfl)
theorem run_un (ρ : Operand → Value) (o : Oper) (ho : o.op = .alloc 69) (w : World) : (execOp ρ o).run Try.prog w = .ok (.value (.pointer (some ⟨w.heap.size, 0, none⟩))) (w.alloc (.cells unCells.toArray 69)) := by
  unfold execOp
  rw [ho]
  kernel_rfl
end Go.Proofs.Ytlgohgjnocoadaa.Gm
