/- Package isa: cut, of both kinds. -/
import Derived.Test.YtfdekfobcohcjaaDoorNa
namespace Go.Proofs.YtfdekfobcohcjaaDoor.Is
open Go.RowKit Ut
set_option linter.unusedVariables false
set_option maxRecDepth 100000
set_option maxHeartbeats 4000000

/-- a word's number, with its sign -/
def immZ (x : Nat) : Int := if x / 262144 < 8192 then ((x / 262144 : Nat) : Int) else ((x / 262144 : Nat) : Int) - 16384
theorem cut_op (x : Nat) (hx : x < 4294967296) (w : World) :
    Calls Tryd.prog 65 #[.int .u32 x, .int .i64 0, .int .i64 6] w fun e w' => e = .returned (.int .u32 (x % 64 : Nat)) ∧ w = w' := by
  have H : Hid ((x : Int) * 67108864 % 4294967296 / 67108864 = (x % 64 : Nat)) := Lib.hid (by omega)
  go_enter Tryd.func65, Tryd.ntmps65
  go_wp2
  go_ret
  exact ⟨by rw [H.out]; rfl, rfl⟩
theorem cut_d (x : Nat) (hx : x < 4294967296) (w : World) :
    Calls Tryd.prog 65 #[.int .u32 x, .int .i64 6, .int .i64 4] w fun e w' => e = .returned (.int .u32 (x / 64 % 16 : Nat)) ∧ w = w' := by
  have H : Hid ((x : Int) * 4194304 % 4294967296 / 268435456 = (x / 64 % 16 : Nat)) := Lib.hid (by omega)
  go_enter Tryd.func65, Tryd.ntmps65
  go_wp2
  go_ret
  exact ⟨by rw [H.out]; rfl, rfl⟩
theorem cut_a (x : Nat) (hx : x < 4294967296) (w : World) :
    Calls Tryd.prog 65 #[.int .u32 x, .int .i64 10, .int .i64 4] w fun e w' => e = .returned (.int .u32 (x / 1024 % 16 : Nat)) ∧ w = w' := by
  have H : Hid ((x : Int) * 262144 % 4294967296 / 268435456 = (x / 1024 % 16 : Nat)) := Lib.hid (by omega)
  go_enter Tryd.func65, Tryd.ntmps65
  go_wp2
  go_ret
  exact ⟨by rw [H.out]; rfl, rfl⟩
theorem cut_b (x : Nat) (hx : x < 4294967296) (w : World) :
    Calls Tryd.prog 65 #[.int .u32 x, .int .i64 14, .int .i64 4] w fun e w' => e = .returned (.int .u32 (x / 16384 % 16 : Nat)) ∧ w = w' := by
  have H : Hid ((x : Int) * 16384 % 4294967296 / 268435456 = (x / 16384 % 16 : Nat)) := Lib.hid (by omega)
  go_enter Tryd.func65, Tryd.ntmps65
  go_wp2
  go_ret
  exact ⟨by rw [H.out]; rfl, rfl⟩
theorem cut_imm (x : Nat) (hx : x < 4294967296) (w : World) :
    Calls Tryd.prog 66 #[.int .u32 x, .int .i64 18, .int .i64 14] w fun e w' => e = .returned (.int .i32 (immZ x)) ∧ w = w' := by
  have H : Hid (wrap32 (wrap32 (x : Int)) / 262144 = immZ x) := Lib.hid (by unfold wrap32 immZ; split <;> omega)
  go_enter Tryd.func66, Tryd.ntmps66
  go_wp2
  go_ret
  exact ⟨by rw [← H.out]; rfl, rfl⟩
end Go.Proofs.YtfdekfobcohcjaaDoor.Is
