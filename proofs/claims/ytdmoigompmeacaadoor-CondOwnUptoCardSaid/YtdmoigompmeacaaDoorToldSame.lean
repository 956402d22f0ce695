/- The statements' Told of two errors that are alike. Conditions: the library's variable that errors.As reads. -/
import Derived.Test.YtdmoigompmeacaaDoorHandle
import Derived.Test.YtdmoigompmeacaaDoorErr
namespace Go.Proofs.YtdmoigompmeacaaDoor.Owns
open Go.RowKit Ints Vals
set_option linter.unusedVariables false

theorem told_any (p : Int) (w : World) (hg : Told.Handle w) : Calls Tryd.prog 20 #[errOf p] w fun e w' => e = .returned (.int .i64 p) ∧ Below w.heap.size w w' := by
  by_cases h : p = 0
  · subst h; rw [errOf_ok]; exact Told.told_nil w
  · rw [errOf_no h]; exact Told.told_errno p w hg
set_option maxHeartbeats 1000000 in
theorem told_same (p : Int) (w : World) (hg : Told.Handle w) : Calls Tryd.prog 16 #[errOf p, errOf p] w fun e w' => e = .returned (.bool true) ∧ Below w.heap.size w w' := by
  have T1 := Lib.hid (fun (W : World) (hb : Below w.heap.size w W) => told_any p W (hg.below hb))
  clear hg
  generalize errOf p = v at *
  go_enter Tryd.func16, Tryd.ntmps16
  go_wp2_with fail
  ((with_reducible refine (T1.out _ (Below.refl _ _)).mono ?_))
  rintro e w1 ⟨rfl, hb1⟩
  have B1 := Lib.hid hb1
  clear hb1
  go_wp2_with fail
  ((with_reducible refine (T1.out _ B1.out).mono ?_))
  rintro e w2 ⟨rfl, hb2⟩
  have B2 := Lib.hid (below_trans B1.out hb2)
  clear hb2
  go_wp2_with fail
  go_ret
  exact ⟨ret_b (by simp), B2.out⟩
end Go.Proofs.YtdmoigompmeacaaDoor.Owns
