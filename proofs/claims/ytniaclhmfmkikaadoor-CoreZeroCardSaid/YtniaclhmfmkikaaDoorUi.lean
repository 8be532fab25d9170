/- The document's registers of the kernel's mode (hermitageref12): Mode; comparing modes and arrays of registers. -/
import Derived.Test.YtniaclhmfmkikaaDoorUg
namespace Go.Proofs.YtniaclhmfmkikaaDoor.Cs
open Go.RowKit Ut
set_option maxRecDepth 100000
set_option linter.unusedVariables false

/-- two arrays of registers compared inside a walk -/
def intsOf (R : List Nat) : List Int := R.map (fun (x : Nat) => (x : Int))
theorem arrV_ints (R : List Nat) : arrV R = .agg ((intsOf R).map (Value.int .u32)).toArray := by
  unfold arrV wordsV intsOf
  rw [List.map_map]
  rfl
theorem intsOf_len (R : List Nat) : (intsOf R).length = R.length := by simp [intsOf]
theorem guard_words (op : BinOp) (x y : Operand) (R Q : List Nat) (w : World) : (eqGuard op 35 x y (arrV R) (arrV Q)).run Tryd.prog w = .ok () w := run_eqGuard_agg w op 35 x y _ _ (by kernel_rfl)
theorem bin_eql (R : List Nat) (hR : R.length = 7) (w : World) : (binOp .eql 35 (arrV R) (arrV R)).run Tryd.prog w = .ok (.bool true) w := by
  rw [arrV_ints, run_eql_ints w 35 30 7 .u32 Tryd.underlying35 Tryd.underlying30 (fun W => by kernel_rfl) (intsOf R) (intsOf R) (by rw [intsOf_len, hR]) (by rw [intsOf_len, hR])]
  simp
theorem bin_neq (R : List Nat) (hR : R.length = 7) (w : World) : (binOp .neq 35 (arrV R) (arrV R)).run Tryd.prog w = .ok (.bool false) w := by
  have h := run_equalIn_ints w 9998 35 30 7 .u32 Tryd.underlying35 Tryd.underlying30 (fun W => by kernel_rfl) (intsOf R) (intsOf R) (by rw [intsOf_len, hR]) (by rw [intsOf_len, hR])
  rw [arrV_ints, run_neq_struct, h]
  simp
theorem guard_mode (op : BinOp) (x y : Operand) (on on' : Bool) (root root' : Nat) (u u' : Bool) (w : World) : (eqGuard op 64 x y (mV on root u) (mV on' root' u')).run Tryd.prog w = .ok () w := run_eqGuard_agg w op 64 x y _ _ (by kernel_rfl)
theorem bin_eql_mode (on : Bool) (root : Nat) (u : Bool) (w : World) : (binOp .eql 64 (mV on root u) (mV on root u)).run Tryd.prog w = .ok (.bool true) w := by
  unfold mV modeL
  go_simp
theorem bin_neq_mode (on : Bool) (root : Nat) (u : Bool) (w : World) : (binOp .neq 64 (mV on root u) (mV on root u)).run Tryd.prog w = .ok (.bool false) w := by
  unfold mV modeL
  go_simp
end Go.Proofs.YtniaclhmfmkikaaDoor.Cs
