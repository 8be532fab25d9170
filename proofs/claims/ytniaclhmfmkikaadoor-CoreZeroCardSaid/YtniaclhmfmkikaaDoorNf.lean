/- Package isa: Decode of both. -/
import Derived.Test.YtniaclhmfmkikaaDoorNe
import Derived.Test.YtniaclhmfmkikaaDoorNc
namespace Go.Proofs.YtniaclhmfmkikaaDoor.Is
open Go.RowKit Ut
set_option linter.unusedVariables false
set_option maxRecDepth 100000
set_option maxHeartbeats 4000000

/-- the parts of a word -/
def wO (x : Nat) : Nat := x % 64
def wD (x : Nat) : Nat := x / 64 % 16
def wA (x : Nat) : Nat := x / 1024 % 16
def wB (x : Nat) : Nat := x / 16384 % 16
end Go.Proofs.YtniaclhmfmkikaaDoor.Is
