/- What a new block holds. No program. -/
import Derived.Test.YtdmoigompmeacaaDoorGrow
namespace Go.Proofs.YtdmoigompmeacaaDoor.Ints
set_option linter.unusedVariables false

theorem heap_new2 (w : World) (o : Obj) : (w.alloc o).heap[w.heap.size]? = some o := by
  show (w.heap.push o)[w.heap.size]? = _
  simp
end Go.Proofs.YtdmoigompmeacaaDoor.Ints
