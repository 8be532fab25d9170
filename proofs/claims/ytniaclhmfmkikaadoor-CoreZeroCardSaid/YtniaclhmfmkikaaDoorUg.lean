/- The document's registers of the kernel's mode (hermitageref12): Enter, Leave, Mode. -/
import Derived.Test.YtniaclhmfmkikaaDoorUf
namespace Go.Proofs.YtniaclhmfmkikaaDoor.Cs
open Go.RowKit Ut
set_option maxRecDepth 100000
set_option linter.unusedVariables false

theorem or3_u32 (x y z : Nat) (hx : x < 4294967296) (hy : y < 4294967296) (hz : z < 4294967296) : bits .or .u32 (bits .or .u32 (x : Int) (y : Int)) (z : Int) = ((x ||| y ||| z : Nat) : Int) := by
  rw [u32_or_nat x y hx hy, u32_or_nat (x ||| y) z (Nat.or_lt_two_pow (n := 32) hx hy) hz]
theorem ite_cast (q : Bool) (x : Nat) : (if q then ((x : Nat) : Int) else 0) = (((if q then x else 0 : Nat)) : Int) := by cases q <;> rfl

end Go.Proofs.YtniaclhmfmkikaaDoor.Cs
