/- A quadruple in new memory. No program. -/
import Derived.Test.YtbajkbkfinineaaDoorPairC
import Derived.Test.YtbajkbkfinineaaDoorSlices
namespace Go.Proofs.YtbajkbkfinineaaDoor.Pair
open Go.RowKit Ints Lists Vals Arr
set_option linter.unusedVariables false

theorem four_info : (Tryd.prog.info? 46).map (fun i => (i.zero, i.size, i.bytes)) = some (some (.agg #[.int .i64 0, .int .i64 0, .int .i64 0, .int .i64 0]), 4, 32) := by kernel_rfl
theorem four_new (w : World) (q : Quad) : ∀ j, j < 4 → (w.alloc (.cells #[.int .i64 q.a, .int .i64 q.x, .int .i64 q.b, .int .i64 q.y] 46)).cell? ⟨w.heap.size, 0 + j, none⟩ = (four q)[j]? := fun j hj => by
  rw [Lib.cell_of_heap (heap_new2 w _)]
  obtain rfl | rfl | rfl | rfl : j = 0 ∨ j = 1 ∨ j = 2 ∨ j = 3 := by omega
  all_goals rfl
theorem belf (w : World) (o : Obj) : Below w.heap.size w (w.alloc o) := (Below.refl _ _).alloc (Nat.le_refl _) _
end Go.Proofs.YtbajkbkfinineaaDoor.Pair
