/- Package gmap: Pages of the program. -/
import Derived.Test.YtlgohgjnocoadaaXc
import Derived.Deep.CutBlock
namespace Go.Proofs.Ytlgohgjnocoadaa.Gm
open Go.RowKit Ut
set_option maxRecDepth 100000
set_option linter.unusedVariables false
set_option maxHeartbeats 4000000

end Go.Proofs.Ytlgohgjnocoadaa.Gm
