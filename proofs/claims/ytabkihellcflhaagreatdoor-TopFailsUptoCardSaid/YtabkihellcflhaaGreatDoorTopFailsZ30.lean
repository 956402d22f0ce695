/- TopFails, part 30 of the proof: The program's Replay: its closure as a source of choices, that may panic. Conditions: the size of the list. · The program's deferred closure in replay: a panic with an error's number is caught; else nothing. -/
import Derived.Test.YtabkihellcflhaaGreatDoorTopFailsZ16
import Derived.WalkSmall
import Derived.Tactics
import Derived.Tactics2
import Derived.Defers
import Derived.Recover
import Derived.Laws.Pointers
/- The program's Replay: its closure as a source of choices, that may panic. Conditions: the size of the list. -/
namespace Go.Proofs.YtabkihellcflhaaGreatDoor.Gens
open Go.RowKit Lists Ints Vals
set_option linter.unusedVariables false

set_option maxHeartbeats 1000000 in
set_option maxRecDepth 100000 in
theorem src_read (B p : Nat) : Src readC 67 #[.pointer (some ⟨p, 0, none⟩)] B (IL B p) := by
  refine ⟨fun s X w w' h hk hs => h.keep hk hs, fun s X w h => h.lt, read_bounded, fun args w => ?_, fun s X w m h0 h1 hI _ => ?_⟩
  · rfl
  · have HI := Lib.hid hI
    obtain ⟨hX, hBp, hsl, hBw, A, c, hbox, hat, hcap⟩ := hI
    have f0 := hbox.cell
    have f1 := hbox.free
    have HX := Lib.hid hX
    have HAT := Lib.hid hat
    have HBX := Lib.hid hbox
    have hp := hbox.lt
    clear hat hbox hX
    show Calls Tryz.prog 67 #[.int .i64 m, .pointer (some ⟨p, 0, none⟩)] w _
    cases s with
    | nil =>
      simp only [List.length_nil] at f0 hcap hsl
      go_enter Tryz.func67, Tryz.ntmps67
      go_wp2_with fail
      exact ⟨rfl, rfl, X, Mv.refl X w⟩
    | cons x r =>
      obtain ⟨b, off, rfl, hb, hc⟩ := HAT.out (by simp)
      have c0 : w.cell? ⟨b, off, none⟩ = some (.int .i64 x) := hc 0 (by simp)
      clear hc
      have g0 : (((r.length : Int) + 1) == 0) = false := by rw [beq_eq_false_iff_ne]; omega
      simp only [List.length_cons] at f0 hcap hsl
      by_cases hx0 : x < 0
      · have HR := Lib.hid (show readC (x :: r) m = .error 1 by unfold readC; simp only []; rw [if_neg (by omega)])
        have g1 : decide (x < 0) = true := by rw [decide_eq_true_eq]; exact hx0
        go_enter Tryz.func67, Tryz.ntmps67
        go_wp2_with fail
        refine ⟨rfl, ?_⟩
        show SPost _ (readC (x :: r) m) _ _ _ _
        rw [HR.out]
        exact ⟨rfl, X, Mv.refl X w⟩
      · have g1 : decide (x < 0) = false := by rw [decide_eq_false_iff_not]; exact hx0
        by_cases hxm : m < x
        · have HR := Lib.hid (show readC (x :: r) m = .error 1 by unfold readC; simp only []; rw [if_neg (by omega)])
          have g2 : decide (m < x) = true := by rw [decide_eq_true_eq]; exact hxm
          go_enter Tryz.func67, Tryz.ntmps67
          go_wp2_with fail
          refine ⟨rfl, ?_⟩
          show SPost _ (readC (x :: r) m) _ _ _ _
          rw [HR.out]
          exact ⟨rfl, X, Mv.refl X w⟩
        · have g2 : decide (m < x) = false := by rw [decide_eq_false_iff_not]; exact hxm
          have HR := Lib.hid (show readC (x :: r) m = .ok (x, r) by unfold readC; simp only []; rw [if_pos (by omega)])
          by_cases hc1 : c = 1
          · obtain rfl : r = [] := List.eq_nil_of_length_eq_zero (by omega)
            have ST := Lib.hid (IL.step (A' := some ⟨b, off, none⟩) (c' := 0) HX.out hBp hsl hBw HBX.out (r := []) At.nil (by simp))
            subst hc1
            simp only [List.length_nil] at f0
            go_enter Tryz.func67, Tryz.ntmps67
            go_wp2_with fail
            go_ret
            show SPost _ (readC [x] m) _ _ _ _
            rw [HR.out]
            exact ⟨rfl, X, ST.out.1, ST.out.2⟩
          · have ST := Lib.hid (IL.step (A' := some ⟨b, off + 1, none⟩) (c' := c - 1) HX.out hBp hsl hBw HBX.out (r := r) (At.tail HAT.out) (by omega))
            go_enter Tryz.func67, Tryz.ntmps67
            go_wp2_with fail
            go_ret
            show SPost _ (readC (x :: r) m) _ _ _ _
            rw [HR.out]
            exact ⟨rfl, X, ST.out.1, ST.out.2⟩
end Go.Proofs.YtabkihellcflhaaGreatDoor.Gens

/- The program's deferred closure in replay: a panic with an error's number is caught; else nothing. -/
namespace Go.Proofs.YtabkihellcflhaaGreatDoor.Gens
open Go.RowKit Go.ChangeShapes Go.WideShapes Lists Ints Vals
set_option linter.unusedVariables false

theorem assert_errno (er : Int) (w : World) : (Instr.typeAssert (.iface 29 (.int .i64 er)) 20 29 true).run Tryz.prog w = .ok (.tuple #[.int .i64 er, .bool true]) w := by
  unfold Instr.typeAssert
  simp [run_underlying Tryz.underlying29]
theorem slots17 (p v : Value) : #[p] ++ ((Array.replicate 16 undef).setIfInBounds 3 v).setIfInBounds 0 v = #[p, v, undef, undef, v, undef, undef, undef, undef, undef, undef, undef, undef, undef, undef, undef, undef] := rfl
set_option maxHeartbeats 1000000 in
theorem catch_panic (p : Addr) (x : Value) (older : List PanicEntry) (w : World) (hc : w.cell? p = some x) (hz : w.frozen? p = false) (er : Int) :
    CallsD Tryz.prog 66 #[.pointer (some p)] (.panicking ({ v := .iface 29 (.int .i64 er), recovered := false } :: older)) w fun e u' w' =>
      e = .returned (.tuple #[]) ∧ u' = .panicking ({ v := .iface 29 (.int .i64 er), recovered := true } :: older) ∧ w' = w.setCell p (.iface 29 (.int .i64 er)) := by
  have ha := assert_errno er w
  refine callsD_of_wpS Tryz.func66 rfl fun c₀ cs hu => ?_
  apply wpS_seq
  apply wpS_region
  simp [wpOpsS, go_sem, recoverD, hu, Tryz.ntmps66, Exit.thenS]
  rw [slots17]
  refine wpS_of_wp ?_
  have HU := Lib.hid hu
  clear hu
  go_wp2_with fail
  simp [bodyPostS, results, Tryz.results66]
set_option maxHeartbeats 1000000 in
theorem catch_idle (p : Addr) (w : World) :
    CallsD Tryz.prog 66 #[.pointer (some p)] .returning w fun e u' w' => e = .returned (.tuple #[]) ∧ u' = .returning ∧ w' = w := by
  refine callsD_of_wpS Tryz.func66 rfl fun c₀ cs hu => ?_
  apply wpS_seq
  apply wpS_region
  simp [wpOpsS, go_sem, recoverD, hu, Tryz.ntmps66, Exit.thenS]
  rw [slots17]
  refine wpS_of_wp ?_
  have HU := Lib.hid hu
  clear hu
  go_wp2_with fail
  cases c₀
  have HU := HU.out
  simp_all [bodyPostS, results, Tryz.results66]
end Go.Proofs.YtabkihellcflhaaGreatDoor.Gens
