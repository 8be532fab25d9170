/- Package alu: the law's do, carried on from the world in which the walk began; awake. -/
import Derived.Test.YtniaclhmfmkikaaDoorMf
namespace Go.Proofs.YtniaclhmfmkikaaDoor.Al
open Go.RowKit Ut
set_option linter.unusedVariables false
set_option maxRecDepth 100000
set_option maxHeartbeats 4000000

/-- Do, carried on -/
theorem do_keep (i : Int) (a b r : Nat) (z : Int) (ha : a < 4294967296) (hb : b < 4294967296) (hr : reckN i a b = r) (hz : reckE i = z) {w0 w : World} (h : Below w0.heap.size w0 w) :
    Calls Tryd.prog 44 #[.int .i64 i, .int .u32 a, .int .u32 b] w fun e w' => e = .returned (.tuple #[.int .u32 r, .int .i64 z]) ∧ Below w0.heap.size w0 w' := by
  subst hr hz
  exact (do_any i a b ha hb w).mono fun _ _ ⟨he, hb⟩ => ⟨he, h.trans (hb.mono h.size)⟩
theorem taken_keep (i : Int) (a b : Nat) (r : Bool) (z : Int) (ha : a < 4294967296) (hb : b < 4294967296) (hr : takeN i a b = r) (hz : takeE i = z) {w0 w : World} (h : Below w0.heap.size w0 w) :
    Calls Tryd.prog 50 #[.int .i64 i, .int .u32 a, .int .u32 b] w fun e w' => e = .returned (.tuple #[.bool r, .int .i64 z]) ∧ Below w0.heap.size w0 w' := by
  subst hr hz
  exact (taken_any i a b ha hb w).mono fun _ _ ⟨he, hb⟩ => ⟨he, h.trans (hb.mono h.size)⟩
theorem sar_told : reckN 8 2147483648 33 = 3221225472 := by decide +kernel
end Go.Proofs.YtniaclhmfmkikaaDoor.Al
