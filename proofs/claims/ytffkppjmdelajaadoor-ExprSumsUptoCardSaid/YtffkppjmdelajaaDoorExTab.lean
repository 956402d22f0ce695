/- What a row's list gives of the program's table subsByKind. -/
import Derived.Test.YtffkppjmdelajaaDoorBase
import Derived.Test.YtffkppjmdelajaaDoorExL
import Derived.Test.YtffkppjmdelajaaDoorRows
import Derived.Lib.LaidTab
import Derived.Stop.LaidErr
import Derived.Shelf.Vars
import Derived.Lib.SmallJoins
namespace Go.Proofs.YtffkppjmdelajaaDoor.Exprs
open Go.RowKit
set_option linter.unusedVariables false
theorem gSub : Tryd.prog.globalNamed "assayer/expr.subsByKind" = some 0 := by kernel_rfl
def subTab : List Int := [0, 0, 0, 0, 0, 2, 2, 2, 2, 1, 2, 2]
/-- The program's table. -/
def Subs (w : World) : Prop := Lib.TabIs Tryd.prog w "assayer/expr.subsByKind" .i64 subTab
theorem Subs.block {w : World} (h : Subs w) : 0 < w.heap.size := by
  have h := h
  unfold Subs Lib.TabIs World.var? at h
  rw [gSub] at h
  simp only [Option.bind_some] at h
  rcases Nat.lt_or_ge 0 w.heap.size with h1 | h1
  · exact h1
  · rw [Array.getElem?_eq_none h1] at h; cases h
theorem Subs.below {w w' : World} (h : Subs w) (hb : Below w.heap.size w w') : Subs w' := by
  have hl := h.block
  unfold Subs Lib.TabIs World.var? at h ⊢
  rw [gSub] at h ⊢
  simp only [Option.bind_some] at h ⊢
  rw [hb.block _ hl]
  exact h
theorem gSubType : (Tryd.prog.globals[0]?).map (·.type) = some 119 := by kernel_rfl
theorem subs_of_laid {W : World} {r : List (String × DataW Unit)} (h : laidMet Tryd.prog (("assayer/expr.subsByKind", Rows.laid_assayer_expr_subsByKind) :: r) W) : Subs W :=
  Lib.tabIs_of_head (k := .i64) (zs := subTab) (rest := r) gSub gSubType Tryd.underlying119 Tryd.underlying3 (by kernel_rfl) (by kernel_rfl) h
theorem Subs.at_ {w : World} (h : Subs w) (k : Int) (h1 : 1 ≤ k) (h2 : k ≤ 11) : w.cell? ⟨0, k.toNat, none⟩ = some (.int .i64 (subsE k)) := by
  have := h.cell gSub k.toNat (by show k.toNat < 12; omega)
  rw [this]
  rcases (show k = 1 ∨ k = 2 ∨ k = 3 ∨ k = 4 ∨ k = 5 ∨ k = 6 ∨ k = 7 ∨ k = 8 ∨ k = 9 ∨ k = 10 ∨ k = 11 by omega) with rfl | rfl | rfl | rfl | rfl | rfl | rfl | rfl | rfl | rfl | rfl <;> rfl
end Go.Proofs.YtffkppjmdelajaaDoor.Exprs
