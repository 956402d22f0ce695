/- The statements' own 'just', 'coin' and 'made'. -/
import Derived.Test.YtplladlodgfloaaGCount
namespace Go.Proofs.Ytplladlodgfloaa.Gens
open Go.RowKit Lists Ints Vals
set_option linter.unusedVariables false
theorem gat_leaf {w : World} {B : Nat} {k a b : Int} (hk : Wf k) (ha : Wf a) (hb : Wf b) : GAt w (GBel B) 1 (.agg #[.int .i64 k, .int .i64 a, .int .i64 b, .slice none 0 0]) (.node k a b []) :=
  ⟨⟨hk, ha, hb⟩, none, 0, rfl, Nat.le_refl _, fun hp => by simp [Gn.subs] at hp⟩
set_option maxHeartbeats 1000000 in
set_option maxRecDepth 100000 in
theorem just_ok (w : World) : Calls Try.prog 11 #[] w fun e w' => e = .returned (.bool true) ∧ Below w.heap.size w w' := by
  have C := gcount (n := 1) (t := .node 1 0 0 []) (B := w.heap.size) w (gat_leaf (by decide) (by decide) (by decide)) (Nat.le_refl _) (by decide)
  rw [show countN (.node 1 0 0 []) = 1 by decide, show countE (.node 1 0 0 []) = 0 by decide, errOf_ok] at C
  have C := Lib.hid C
  go_enter Try.func11, Try.ntmps11
  go_wp2_with fail
  refine C.out.mono ?_
  rintro e w1 ⟨rfl, hb⟩
  have HB := Lib.hid hb
  clear hb C
  go_wp2_with fail
  go_ret
  exact ⟨rfl, HB.out⟩
end Go.Proofs.Ytplladlodgfloaa.Gens
