/- Decisions: bools that a call makes; the fact that the statements ask first (decided). Conditions: none. -/
import Derived.Test.YtdmoigompmeacaaDoorCond
import Derived.Test.YtdmoigompmeacaaDoorCondS
namespace Go.Proofs.YtdmoigompmeacaaDoor.Cnd
open Go.RowKit Ints Vals Bools
set_option linter.unusedVariables false

theorem bools_new (w : World) (z : List Bool) : AtB (w.alloc (.cells (z.map Value.bool).toArray 4)) (w.alloc (.cells (z.map Value.bool).toArray 4)).heap.size (some ⟨w.heap.size, 0, none⟩) z := fun hp =>
  ⟨w.heap.size, 0, rfl, by simp, fun j hj => by
    rw [Lib.cell_of_heap (new_box w _)]
    simp [List.getD, hj]⟩
theorem bel_box (w : World) (o : Obj) : Below w.heap.size w (w.alloc o) := (Below.refl _ _).alloc (Nat.le_refl _) _
theorem below_on {B : Nat} {w0 w w' : World} (h1 : Below B w0 w) (hB : B ≤ w.heap.size) (h2 : Below w.heap.size w w') : Below B w0 w' := h1.trans (h2.mono hB)

set_option maxHeartbeats 1000000 in
set_option maxRecDepth 100000 in
theorem decided_prog (w : World) : Calls Tryd.prog 6 #[] w fun e w' => e = .returned (.bool true) ∧ Below w.heap.size w w' := by
  have PR := Lib.hid (pair_prog 2 0 (some ⟨w.heap.size, 0, none⟩) 4 [false, false, false, true] (w.alloc (.cells #[.bool false, .bool false, .bool false, .bool true] 4)) (by decide) (bools_new w [false, false, false, true]))
  unfold PrPost at PR
  rw [pair_fact.1, pair_fact.2.1, pair_fact.2.2, errOf_ok] at PR
  have BX := Lib.hid (bel_box w (.cells #[.bool false, .bool false, .bool false, .bool true] 4))
  go_enter Tryd.func6, Tryd.ntmps6
  go_wp2_with fail
  refine PR.out.mono ?_
  rintro e w1 ⟨rfl, hb1⟩
  have B1 := Lib.hid (below_on BX.out BX.out.size hb1)
  clear hb1 PR BX
  go_wp2_with fail
  go_ret
  exact ⟨rfl, B1.out⟩
end Go.Proofs.YtdmoigompmeacaaDoor.Cnd
