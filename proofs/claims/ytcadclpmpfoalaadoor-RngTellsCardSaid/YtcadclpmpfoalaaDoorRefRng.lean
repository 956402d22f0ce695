/- The document's own answers on random numbers, as the statements write them: Mix, Step, SplitOf, BelowOf. Conditions: none. -/
import Derived.Test.YtcadclpmpfoalaaDoorMem
import Derived.Deep.RegionHeld3
import Derived.StillTailTactics
namespace Go.Proofs.YtcadclpmpfoalaaDoor.Rng
open Go.RowKit

theorem mixR_any (x : Int) (w : World) :
    Calls Tryd.prog 12 #[.int .u64 x] w fun e w' => e = .returned (.int .u64 (mixI x)) ∧ w = w' := by
  go_enter Tryd.func12, Tryd.ntmps12
  go_wp2
  go_ret
  exact ⟨rfl, rfl⟩

theorem mixR_same (x : Int) (w : World) :
    Calls Tryd.prog 12 #[.int .u64 x] w fun e w' => e = .returned (.int .u64 (mixI x)) ∧ w' = w :=
  (mixR_any x w).mono fun _ _ ⟨h1, h2⟩ => ⟨h1, h2.symm⟩

def stepW (a g : Int) (w : World) : World := (w.alloc (.cells #[.int .u64 a, .int .u64 g] 24)).alloc (.cells #[.int .u64 (plus a g), .int .u64 g] 24)
theorem step_exact (a g : Int) (w : World) :
    Calls Tryd.prog 9 #[.agg #[.int .u64 a, .int .u64 g]] w fun e w' => e = .returned (.agg #[.int .u64 (plus a g), .int .u64 g]) ∧ stepW a g w = w' := by
  go_enter Tryd.func9, Tryd.ntmps9
  go_wp2
  exact bodyPost_ret (v := .agg #[.int .u64 (plus a g), .int .u64 g]) (by simp [results, Tryd.results9, go_sem, plus]) rfl ⟨rfl, rfl⟩
theorem step_any (a g : Int) (w : World) :
    Calls Tryd.prog 9 #[.agg #[.int .u64 a, .int .u64 g]] w fun e w' => e = .returned (.agg #[.int .u64 (plus a g), .int .u64 g]) ∧ Below w.heap.size w w' :=
  (step_exact a g w).mono fun _ _ ⟨h1, h2⟩ => ⟨h1, h2 ▸ ((Below.refl _ _).alloc (Nat.le_refl _) _).alloc (by simp) _⟩

set_option maxHeartbeats 4000000 in
theorem splitR_any (a g : Int) (w : World) :
    Calls Tryd.prog 7 #[.agg #[.int .u64 a, .int .u64 g]] w fun e w' => e = .returned (.tuple #[.agg #[.int .u64 (plus (plus a g) g), .int .u64 g], .agg #[.int .u64 (mixI (plus a g)), .int .u64 (odd (mixI (plus (plus a g) g)))]]) ∧ Below w.heap.size w w' := by
  go_enter Tryd.func7, Tryd.ntmps7
  go_wp2_with fail
  refine (step_exact _ _ _).mono ?_
  rintro e w1 ⟨rfl, rfl⟩
  unfold stepW
  go_wp2_with fail
  refine (step_exact _ _ _).mono ?_
  rintro e w2 ⟨rfl, rfl⟩
  unfold stepW
  go_wp2_with fail
  go_region_with (go_at_call 12; refine (mixR_any _ _).mono ?_; rintro e w' ⟨rfl, rfl⟩)
  all_goals go_wp2
  all_goals exact bodyPost_ret (v := .tuple #[.agg #[.int .u64 (plus (plus a g) g), .int .u64 g], .agg #[.int .u64 (mixI (plus a g)), .int .u64 (odd (mixI (plus (plus a g) g)))]]) (by simp [results, Tryd.results7, go_sem, odd]) rfl ⟨rfl, by repeat (first | exact Below.refl _ _ | refine Below.drew ?_ | refine Below.alloc ?_ (by simp <;> omega) _)⟩

theorem field0 (x y : Int) (w : World) : (Instr.field 24 (.agg #[.int .u64 x, .int .u64 y]) 0).run Tryd.prog w = .ok (.int .u64 x) w := by kernel_rfl
theorem seedEq (x y : Int) (w : World) : (binOp .eql 24 (.agg #[.int .u64 x, .int .u64 y]) (.agg #[.int .u64 x, .int .u64 y])).run Tryd.prog w = .ok (.bool true) w := by simp [go_sem]
theorem belowR_any (a g n : Int) (h1 : 1 ≤ n) (h2 : n ≤ 2147483647) (w : World) :
    Calls Tryd.prog 8 #[.agg #[.int .u64 a, .int .u64 g], .int .i64 n] w fun e w' => e = .returned (.int .i64 (belowK a g n)) ∧ Below w.heap.size w w' := by
  have hf0 := field0
  go_enter Tryd.func8, Tryd.ntmps8
  go_wp2_with fail
  refine (step_any _ _ _).mono ?_
  rintro e w1 ⟨rfl, hb⟩
  go_wp2_with fail
  refine (mixR_any _ _).mono ?_
  rintro e w2 ⟨rfl, rfl⟩
  go_wp2
  go_ret
  exact ⟨rfl, after hb⟩
end Go.Proofs.YtcadclpmpfoalaaDoor.Rng
