/- Package isa: cut, of both kinds. -/
import Derived.Test.YtniaclhmfmkikaaDoorNa
namespace Go.Proofs.YtniaclhmfmkikaaDoor.Is
open Go.RowKit Ut
set_option linter.unusedVariables false
set_option maxRecDepth 100000
set_option maxHeartbeats 4000000

/-- a word's number, with its sign -/
def immZ (x : Nat) : Int := if x / 262144 < 8192 then ((x / 262144 : Nat) : Int) else ((x / 262144 : Nat) : Int) - 16384
end Go.Proofs.YtniaclhmfmkikaaDoor.Is
