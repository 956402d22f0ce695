/- The statements' own Error of an error and its own number. Conditions: the library's variable that errors.As reads. -/
import Derived.Test.YtdmoigompmeacaaDoorHandle
import Derived.Test.YtdmoigompmeacaaDoorErr
namespace Go.Proofs.YtdmoigompmeacaaDoor.Owns
open Go.RowKit Vals
set_option linter.unusedVariables false
theorem err_ok (f : Int) (w : World) (h : Told.Handle w) : Calls Tryd.prog 8 #[errOf f, .int .i64 f] w fun e w' => e = .returned (.bool true) ∧ Below w.heap.size w w' := by
  by_cases hf : f = 0
  · subst hf
    refine (Told.error_nil 0 w).mono ?_
    rintro e w' ⟨rfl, hb⟩
    exact ⟨by simp, hb⟩
  · rw [errOf_no hf]
    refine (Told.error_errno f f w h).mono ?_
    rintro e w' ⟨rfl, hb⟩
    exact ⟨by simp, hb⟩
end Go.Proofs.YtdmoigompmeacaaDoor.Owns
