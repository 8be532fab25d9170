/- Package alu: the law's do, carried on from the world in which the walk began; awake. -/
import Derived.Test.YtjfhfoknngbloaaMf
namespace Go.Proofs.Ytjfhfoknngbloaa.Al
open Go.RowKit Ut
set_option linter.unusedVariables false
set_option maxRecDepth 100000
set_option maxHeartbeats 4000000

/-- Do, carried on -/
theorem do_keep (i : Int) (a b r : Nat) (z : Int) (ha : a < 4294967296) (hb : b < 4294967296) (hr : reckN i a b = r) (hz : reckE i = z) {w0 w : World} (h : Below w0.heap.size w0 w) :
    Calls Try.prog 7 #[.int .i64 i, .int .u32 a, .int .u32 b] w fun e w' => e = .returned (.tuple #[.int .u32 r, .int .i64 z]) ∧ Below w0.heap.size w0 w' := by
  subst hr hz
  exact (do_any i a b ha hb w).mono fun _ _ ⟨he, hb⟩ => ⟨he, h.trans (hb.mono h.size)⟩
theorem taken_keep (i : Int) (a b : Nat) (r : Bool) (z : Int) (ha : a < 4294967296) (hb : b < 4294967296) (hr : takeN i a b = r) (hz : takeE i = z) {w0 w : World} (h : Below w0.heap.size w0 w) :
    Calls Try.prog 9 #[.int .i64 i, .int .u32 a, .int .u32 b] w fun e w' => e = .returned (.tuple #[.bool r, .int .i64 z]) ∧ Below w0.heap.size w0 w' := by
  subst hr hz
  exact (taken_any i a b ha hb w).mono fun _ _ ⟨he, hb⟩ => ⟨he, h.trans (hb.mono h.size)⟩
/-- the law's do -/
theorem law_do (i : Int) (a b r : Nat) (ha : a < 4294967296) (hb : b < 4294967296) (hr : reckN i a b = r) {w0 w : World} (h : Below w0.heap.size w0 w) :
    Calls Try.prog 16 #[.int .i64 i, .int .u32 a, .int .u32 b] w fun e w' => e = .returned (.int .u32 r) ∧ Below w0.heap.size w0 w' := by
  obtain ⟨z, hz⟩ : ∃ z, reckE i = z := ⟨_, rfl⟩
  have HB := Lib.hid h
  have HR := Lib.hid hr
  have HZ := Lib.hid hz
  clear h hr hz
  go_enter Try.func16, Try.ntmps16
  go_wp2_with fail
  refine (do_keep i a b r z ha hb HR.out HZ.out HB.out).mono ?_
  rintro e w1 ⟨rfl, hb1⟩
  have HB1 := Lib.hid hb1
  clear hb1
  go_wp2
  go_ret
  exact ⟨rfl, HB1.out⟩

theorem sar_told : reckN 8 2147483648 33 = 3221225472 := by decide +kernel
theorem awake_any {w0 w : World} (h : Below w0.heap.size w0 w) :
    Calls Try.prog 15 #[] w fun e w' => e = .returned (.bool true) ∧ Below w0.heap.size w0 w' := by
  have HB := Lib.hid h
  clear h
  go_enter Try.func15, Try.ntmps15
  go_wp2_with fail
  refine (do_keep 12 7 0 4294967295 0 (by omega) (by omega) (by decide +kernel) rfl HB.out).mono ?_
  rintro e w1 ⟨rfl, hb1⟩
  have HB1 := Lib.hid hb1
  clear hb1
  go_wp2_with fail
  refine (do_keep 8 2147483648 33 3221225472 0 (by omega) (by omega) sar_told rfl HB1.out).mono ?_
  rintro e w2 ⟨rfl, hb2⟩
  have HB2 := Lib.hid hb2
  clear hb2
  go_wp2
  go_ret
  exact ⟨rfl, HB2.out⟩
end Go.Proofs.Ytjfhfoknngbloaa.Al
