/- ShrinkTells, part 24 of the proof: The program's deferred closure in replay: a panic with an error's number is caught; else nothing. -/
import Derived.Test.YtfpbegagblekiaaGreatDoorShrinkTellsZ23
import Derived.Tactics
import Derived.Tactics2
import Derived.Defers
import Derived.Recover
import Derived.Laws.Pointers
/- The program's deferred closure in replay: a panic with an error's number is caught; else nothing. -/
namespace Go.Proofs.YtfpbegagblekiaaGreatDoor.Gens
open Go.RowKit Go.ChangeShapes Go.WideShapes Lists Ints Vals
set_option linter.unusedVariables false

theorem assert_errno (er : Int) (w : World) : (Instr.typeAssert (.iface 30 (.int .i64 er)) 20 30 true).run Tryz.prog w = .ok (.tuple #[.int .i64 er, .bool true]) w := by
  unfold Instr.typeAssert
  simp [run_underlying Tryz.underlying30]
theorem slots17 (p v : Value) : #[p] ++ ((Array.replicate 16 undef).setIfInBounds 3 v).setIfInBounds 0 v = #[p, v, undef, undef, v, undef, undef, undef, undef, undef, undef, undef, undef, undef, undef, undef, undef] := rfl
set_option maxHeartbeats 1000000 in
theorem catch_panic (p : Addr) (x : Value) (older : List PanicEntry) (w : World) (hc : w.cell? p = some x) (hz : w.frozen? p = false) (er : Int) :
    CallsD Tryz.prog 46 #[.pointer (some p)] (.panicking ({ v := .iface 30 (.int .i64 er), recovered := false } :: older)) w fun e u' w' =>
      e = .returned (.tuple #[]) ∧ u' = .panicking ({ v := .iface 30 (.int .i64 er), recovered := true } :: older) ∧ w' = w.setCell p (.iface 30 (.int .i64 er)) := by
  have ha := assert_errno er w
  refine callsD_of_wpS Tryz.func46 rfl fun c₀ cs hu => ?_
  apply wpS_seq
  apply wpS_region
  simp [wpOpsS, go_sem, recoverD, hu, Tryz.ntmps46, Exit.thenS]
  rw [slots17]
  refine wpS_of_wp ?_
  have HU := Lib.hid hu
  clear hu
  go_wp2_with fail
  simp [bodyPostS, results, Tryz.results46]
set_option maxHeartbeats 1000000 in
theorem catch_idle (p : Addr) (w : World) :
    CallsD Tryz.prog 46 #[.pointer (some p)] .returning w fun e u' w' => e = .returned (.tuple #[]) ∧ u' = .returning ∧ w' = w := by
  refine callsD_of_wpS Tryz.func46 rfl fun c₀ cs hu => ?_
  apply wpS_seq
  apply wpS_region
  simp [wpOpsS, go_sem, recoverD, hu, Tryz.ntmps46, Exit.thenS]
  rw [slots17]
  refine wpS_of_wp ?_
  have HU := Lib.hid hu
  clear hu
  go_wp2_with fail
  cases c₀
  have HU := HU.out
  simp_all [bodyPostS, results, Tryz.results46]
end Go.Proofs.YtfpbegagblekiaaGreatDoor.Gens
