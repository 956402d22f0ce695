/- Parse of "(5)"; the statements' own 'five'. Conditions: the library's variables. -/
import Derived.Test.YtgeljcfokeiaeaaDoorParseV
namespace Go.Proofs.YtgeljcfokeiaeaaDoor.Vals
open Go.RowKit Lists Ints Build Ref
open Go.Lib (itoa)
set_option linter.unusedVariables false

theorem itoa5 : itoa 5 = [53] := by decide +kernel
theorem text5 : textV (.node true 0 [.node false 5 []]) = [40, 53, 41] := by
  simp [textV, textVs, textTail, itoa5]
theorem good5 : Good 6 (.node true 0 [.node false 5 []]) :=
  good_list fun x hx => by
    have : x = .node false 5 [] := by simpa using hx
    subst this
    exact good_num (by unfold I64; omega)
def Five (w : World) (e : Ending) (w' : World) : Prop := ∃ (b off c : Nat), e = .returned (.tuple #[.agg #[.bool true, .int .i64 0, .slice (some ⟨b, off, none⟩) 1 c], .nilIface]) ∧ w'.cell? ⟨b, off + 1, none⟩ = some (.int .i64 5) ∧ b < w'.heap.size ∧ Below w.heap.size w w'
theorem parse5 (w : World) (ht : Tab w) (he : Errs w) : Calls Tryd.prog 13 #[.string ⟨#[40, 53, 41]⟩] w (Five w) := by
  refine (parse_prog ⟨#[40, 53, 41]⟩ (by decide) w ht he).mono ?_
  rintro e w' (⟨t, A, c, hg, htx, rfl, hta, hb⟩ | ⟨hno, _, _⟩)
  · have e1 : t = .node true 0 [.node false 5 []] := text_inj hg.1 good5.1 (by rw [text5, ← htx])
    subst e1
    obtain ⟨m, D, d, _, _, ev, hit⟩ := hta.open_
    simp only [Tr.items, Value.agg.injEq, Array.mk.injEq, List.cons.injEq, and_true, Value.slice.injEq, true_and] at ev
    obtain ⟨b, off, e2, hS, hc⟩ := hit (by simp [Tr.items])
    obtain ⟨x0, x1, x2, c0, c1, c2, hti⟩ := hc 0 (by simp [Tr.items])
    obtain ⟨_, _, _, _, _, ev2, _⟩ := hti.open_
    simp only [Tr.items, List.getElem_cons_zero, Tr.num, Tr.list, Value.agg.injEq, Array.mk.injEq, List.cons.injEq, and_true] at ev2
    refine ⟨b, off, c, ?_, ?_, hS.2, hb⟩
    · rw [show A = some ⟨b, off, none⟩ from by rw [← e2]; first | exact ev.1 | exact ev.symm.1 | exact ev]
      rfl
    · rw [← ev2.2.1]
      simpa using c1
  · exact absurd text5.symm (hno _ good5)

set_option maxRecDepth 100000 in
theorem five_any (w : World) (ht : Tab w) (he : Errs w) : Calls Tryd.prog 8 #[] w fun e w' => e = .returned (.bool true) ∧ Below w.heap.size w w' := by
  have P5 := Lib.hid (parse5 w ht he)
  clear ht he
  go_enter Tryd.func8, Tryd.ntmps8
  go_wp2_with fail
  refine P5.out.mono ?_
  rintro e w1 ⟨b, off, c, rfl, hc, hb, hbel⟩
  have HB := Lib.hid hbel
  clear hbel
  go_wp2_with fail
  go_ret
  exact ⟨rfl, HB.out.alloc HB.out.size _⟩
end Go.Proofs.YtgeljcfokeiaeaaDoor.Vals
