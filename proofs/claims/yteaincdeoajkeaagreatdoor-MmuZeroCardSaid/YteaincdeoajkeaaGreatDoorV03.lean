/- Several texts in one: Wa -/
import Derived.Test.YteaincdeoajkeaaGreatDoorV02
import Derived.Laws.StructEq
import Derived.Great.Walk
import Derived.BigFrame
section
/- Arrays in memory: loaded, stored and compared whole, wherever they lie in a block. Serves all packages. -/
namespace Go.Proofs.YteaincdeoajkeaaGreatDoor.Ut
open Go.RowKit
section
variable {P : Program}

end
end Go.Proofs.YteaincdeoajkeaaGreatDoor.Ut
end
