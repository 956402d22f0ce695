/- RoseTells, part 46 of the proof: What the document's own ReplayOf comes to (its walk: XRefReplayW). -/
import Derived.Test.YtfpbegagblekiaaDoorRoseTellsZ35
/- What the document's own ReplayOf comes to (its walk: XRefReplayW). -/
namespace Go.Proofs.YtfpbegagblekiaaDoor.Gens
open Go.RowKit Lists Ints Vals
set_option linter.unusedVariables false

theorem three_cells (w : World) (b : Nat) (o : Obj) (x0 x1 x2 : Value) {y0 y1 y2 : Value} (hb : b < w.heap.size) (c0 : w.cell? ⟨b, 0, none⟩ = some y0) (c1 : w.cell? ⟨b, 1, none⟩ = some y1) (c2 : w.cell? ⟨b, 2, none⟩ = some y2) (W : World)
    (hW : W = (((w.setCell ⟨b, 0, none⟩ x0).setCell ⟨b, 1, none⟩ x1).setCell ⟨b, 2, none⟩ x2).alloc o) :
    W.cell? ⟨b, 0, none⟩ = some x0 ∧ W.cell? ⟨b, 1, none⟩ = some x1 ∧ W.cell? ⟨b, 2, none⟩ = some x2 := by
  have far : ∀ (u : World) (i j : Nat) (v : Value), i ≠ j → (u.setCell ⟨b, i, none⟩ v).cell? ⟨b, j, none⟩ = u.cell? ⟨b, j, none⟩ :=
    fun u i j v h => World.cell?_setCell_other _ _ _ _ (fun e => h (by injection e))
  have al : ∀ j, W.cell? ⟨b, j, none⟩ = (((w.setCell ⟨b, 0, none⟩ x0).setCell ⟨b, 1, none⟩ x1).setCell ⟨b, 2, none⟩ x2).cell? ⟨b, j, none⟩ := by
    intro j
    rw [hW]
    exact World.cell?_alloc_lt _ o ⟨b, j, none⟩ (by show b < _; simp; exact hb)
  refine ⟨?_, ?_, ?_⟩
  · rw [al, far _ 2 0 _ (by decide), far _ 1 0 _ (by decide)]
    exact World.cell?_setCell_same _ _ _ c0
  · rw [al, far _ 2 1 _ (by decide)]
    exact World.cell?_setCell_same _ _ _ ((far _ 0 1 _ (by decide)).trans c1)
  · rw [al]
    exact World.cell?_setCell_same _ _ _ ((far _ 1 2 _ (by decide)).trans ((far _ 0 2 _ (by decide)).trans c2))
def RpPost (w : World) (r : Except Int Tr) (e : Ending) (w' : World) : Prop :=
  Below w.heap.size w w' ∧ match r with
    | .ok v => ∃ (VA : Option Addr) (vc n : Nat), e = .returned (.tuple #[.agg #[.bool v.list, .int .i64 v.num, .slice VA v.items.length vc], .int .i64 0]) ∧ TAt w' (fun b => w.heap.size ≤ b ∧ b < w'.heap.size) n (.agg #[.bool v.list, .int .i64 v.num, .slice VA v.items.length vc]) v
    | .error er => er ≠ 0 ∧ e = .returned (.tuple #[.agg #[.bool false, .int .i64 0, .slice none 0 0], .int .i64 er])
end Go.Proofs.YtfpbegagblekiaaDoor.Gens
