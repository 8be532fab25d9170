/- Package regs: All and Clear; the document's Get, Set; awake. -/
import Derived.Test.YtniaclhmfmkikaaDoorTc
namespace Go.Proofs.YtniaclhmfmkikaaDoor.Rg
open Go.RowKit Ut
set_option maxRecDepth 100000
set_option linter.unusedVariables false

theorem run_new_words (w : World) (ρ : Operand → Value) (o : Oper) (ho : o.op = .alloc 31) : (execOp ρ o).run Tryd.prog w = .ok (.value (.pointer (some ⟨w.heap.size, 0, none⟩))) (w.alloc (.cells (wordsV zer).toArray 31)) := by
  unfold execOp
  rw [ho]
  kernel_rfl
theorem run_zero_words (w : World) : (Instr.build 31 #[]).run Tryd.prog w = .ok (arrV zer) w := by kernel_rfl

end Go.Proofs.YtniaclhmfmkikaaDoor.Rg
