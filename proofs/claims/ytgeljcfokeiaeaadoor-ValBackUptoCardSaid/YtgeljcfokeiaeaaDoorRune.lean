/- Contract of strings.IndexRune where "( )" is looked through for a letter beyond ASCII: none. No condition. -/
import Derived.Test.YtgeljcfokeiaeaaDoorBase
import Derived.Test.YtgeljcfokeiaeaaDoorShelf
import Derived.Laws.Runes
import Derived.Laws.RangeAny
import Derived.Laws.Strings3
import Derived.Deep.LoopGhost
import Derived.WalkMore
namespace Go.Proofs.YtgeljcfokeiaeaaDoor.Build
open Go.RowKit
set_option linter.unusedVariables false

abbrev dels : ByteArray := ⟨#[40, 32, 41]⟩
theorem encode_cases (r : Int) (hv : Lib.validRune r = true) (h : 128 ≤ r) :
    (∃ a b : UInt8, Utf8.encode r = ⟨#[a, b]⟩ ∧ 128 ≤ b.toNat) ∨ (∃ a b c : UInt8, Utf8.encode r = ⟨#[a, b, c]⟩ ∧ 128 ≤ c.toNat) ∨ (∃ a b c d : UInt8, Utf8.encode r = ⟨#[a, b, c, d]⟩ ∧ 128 ≤ d.toNat) := by
  rw [show Lib.validRune r = validRune r from rfl, ← validRune_eq] at hv
  have hc : ¬ r.toNat < 128 := by omega
  unfold Utf8.encode
  simp only [hv, if_true, hc, if_false]
  split
  · refine .inl ⟨_, _, rfl, ?_⟩
    simp; omega
  · split
    · refine .inr (.inl ⟨_, _, _, rfl, ?_⟩)
      simp; omega
    · refine .inr (.inr ⟨_, _, _, _, rfl, ?_⟩)
      simp; omega

set_option maxHeartbeats 1000000 in
set_option maxRecDepth 100000 in
theorem rune_bad (w : World) : Calls Tryd.prog 52 #[.string dels, .int .i32 65533] w fun e w' => e = .returned (.int .i64 (-1)) ∧ Below w.heap.size w w' := by
  have h0 : ∀ ty, (Instr.next (.pointer (some ⟨w.heap.size, 0, none⟩)) true ty).run Tryd.prog (w.iter dels 0) = .ok (.tuple #[.bool true, .int .i64 0, .int .i32 40]) (w.iter dels 1) := fun ty => run_next_ascii w dels 0 ty (by decide) (by decide)
  have h1 : ∀ ty, (Instr.next (.pointer (some ⟨w.heap.size, 0, none⟩)) true ty).run Tryd.prog (w.iter dels 1) = .ok (.tuple #[.bool true, .int .i64 1, .int .i32 32]) (w.iter dels 2) := fun ty => run_next_ascii w dels 1 ty (by decide) (by decide)
  have h2 : ∀ ty, (Instr.next (.pointer (some ⟨w.heap.size, 0, none⟩)) true ty).run Tryd.prog (w.iter dels 2) = .ok (.tuple #[.bool true, .int .i64 2, .int .i32 41]) (w.iter dels 3) := fun ty => run_next_ascii w dels 2 ty (by decide) (by decide)
  have h3 : ∀ ty, (Instr.next (.pointer (some ⟨w.heap.size, 0, none⟩)) true ty).run Tryd.prog (w.iter dels 3) = .ok (.tuple #[.bool false]) (w.iter dels 3) := fun ty => run_next_end w dels 3 ty (by decide)
  go_enter Tryd.func52, Tryd.ntmps52
  go_wp2_with fail
  refine wp_loop_rounds 4 ?_
  rw [rounds_succ]
  go_wp2_with fail
  rw [rounds_succ]
  go_wp2_with fail
  rw [rounds_succ]
  go_wp2_with fail
  rw [rounds_succ]
  go_wp2_with fail
  go_ret
  exact ⟨rfl, (Below.refl _ _).alloc (Nat.le_refl _) _⟩

set_option maxHeartbeats 1000000 in
set_option maxRecDepth 100000 in
theorem rune_no (r : Int) (h1 : 128 ≤ r) (hv : Lib.validRune r = false) (w : World) : Calls Tryd.prog 52 #[.string dels, .int .i32 r] w fun e w' => e = .returned (.int .i64 (-1)) ∧ Below w.heap.size w w' := by
  have hb : (r == 65533) = false := by rw [beq_eq_false_iff_ne]; intro e; subst e; revert hv; decide
  have VR := Tryd.utf8_ValidRune r
  rw [hv] at VR
  have HV := Lib.hid VR
  have g1 : ¬ r < 128 := by omega
  clear hv VR
  go_enter Tryd.func52, Tryd.ntmps52
  go_wp2_with fail
  refine (HV.out _).mono ?_
  rintro e w' ⟨rfl, rfl⟩
  go_wp2_with fail
  go_ret
  exact ⟨rfl, Below.refl _ _⟩

set_option maxHeartbeats 4000000 in
set_option maxRecDepth 100000 in
theorem rune_valid (r : Int) (h1 : 128 ≤ r) (hr : r ≠ 65533) (hv : Lib.validRune r = true) (w : World) : Calls Tryd.prog 52 #[.string dels, .int .i32 r] w fun e w' => e = .returned (.int .i64 (-1)) ∧ Below w.heap.size w w' := by
  have hb : (r == 65533) = false := by rw [beq_eq_false_iff_ne]; exact hr
  have EC := encode_cases r hv h1
  have VR := Tryd.utf8_ValidRune r
  rw [hv] at VR
  have HV := Lib.hid VR
  have g1 : ¬ r < 128 := by omega
  clear hv VR hr
  rcases EC with ⟨a, b, he, hb1⟩ | ⟨a, b, c, he, hb1⟩ | ⟨a, b, c, d, he, hb1⟩
  · have n1 : (((dels[1]'(by decide)).toNat : Int) != (((⟨#[a, b]⟩ : ByteArray)[1]'(by show 1 < 2; omega)).toNat : Int)) = true := by rw [bne_iff_ne]; show (32 : Int) ≠ (b.toNat : Int); omega
    have IB := fun w => (Tryd.strings_IndexByte ⟨#[41]⟩ (b.toNat : Int) w)
    have e1 : Lib.indexByte (⟨#[41]⟩ : ByteArray).data.toList ((b.toNat : Int)).toNat.toUInt8 = -1 := by
      have : ((41 : UInt8) == ((b.toNat : Int)).toNat.toUInt8) = false := by
        rw [beq_eq_false_iff_ne]; intro h; have := congrArg UInt8.toNat h; simp at this; omega
      show (if ((41 : UInt8) == ((b.toNat : Int)).toNat.toUInt8) = true then _ else _) = _
      rw [this]; rfl
    rw [e1] at IB
    have HIB := Lib.hid IB
    clear IB e1
    go_enter Tryd.func52, Tryd.ntmps52
    go_wp2_with fail
    refine (HV.out _).mono ?_
    rintro e w' ⟨rfl, rfl⟩
    go_wp2_with fail
    go_step3
    go_wp2_with fail
    refine wp_loop_rounds 1 ?_
    rw [rounds_succ]
    go_wp2_with fail
    go_step3
    go_wp2_with fail
    go_quiet (fail)
    have hb0 := Ints.below_drewN w' nq
    have HB0 := Lib.hid hb0
    clear hb0
    generalize w'.drewN nq = W at HB0 ⊢
    go_wp2_with fail
    clear n1
    go_quiet ((go_at_call 65; exact Calls.quiet_of_same (HIB.out _)))
    have HB1 := Lib.hid (Ints.on HB0.out (Ints.below_drewN W nq))
    go_wp2_with fail
    rw [Exit.noGoto_ret]
    go_wp2_with fail
    rw [Exit.noGoto_ret]
    go_ret
    exact ⟨rfl, HB1.out⟩
  · have n1 : (((dels[2]'(by decide)).toNat : Int) != (((⟨#[a, b, c]⟩ : ByteArray)[2]'(by show 2 < 3; omega)).toNat : Int)) = true := by rw [bne_iff_ne]; show (41 : Int) ≠ (c.toNat : Int); omega
    have IB := fun w => (Tryd.strings_IndexByte ⟨#[]⟩ (c.toNat : Int) w)
    have e1 : Lib.indexByte (⟨#[]⟩ : ByteArray).data.toList ((c.toNat : Int)).toNat.toUInt8 = -1 := rfl
    rw [e1] at IB
    have HIB := Lib.hid IB
    clear IB e1
    go_enter Tryd.func52, Tryd.ntmps52
    go_wp2_with fail
    refine (HV.out _).mono ?_
    rintro e w' ⟨rfl, rfl⟩
    go_wp2_with fail
    go_step3
    go_wp2_with fail
    refine wp_loop_rounds 1 ?_
    rw [rounds_succ]
    go_wp2_with fail
    go_step3
    go_wp2_with fail
    go_quiet (fail)
    have hb0 := Ints.below_drewN w' nq
    have HB0 := Lib.hid hb0
    clear hb0
    generalize w'.drewN nq = W at HB0 ⊢
    go_wp2_with fail
    clear n1
    go_quiet ((go_at_call 65; exact Calls.quiet_of_same (HIB.out _)))
    have HB1 := Lib.hid (Ints.on HB0.out (Ints.below_drewN W nq))
    go_wp2_with fail
    rw [Exit.noGoto_ret]
    go_wp2_with fail
    rw [Exit.noGoto_ret]
    go_ret
    exact ⟨rfl, HB1.out⟩
  · go_enter Tryd.func52, Tryd.ntmps52
    go_wp2_with fail
    refine (HV.out _).mono ?_
    rintro e w' ⟨rfl, rfl⟩
    go_wp2_with fail
    go_step3
    go_wp2_with fail
    refine wp_loop_rounds 1 ?_
    rw [rounds_succ]
    go_wp2_with fail
    rw [Exit.noGoto_ret]
    go_ret
    exact ⟨rfl, Below.refl _ _⟩

/-- of any letter beyond ASCII there is none in "( )" -/
theorem rune_high (r : Int) (h1 : 128 ≤ r) (w : World) : Calls Tryd.prog 52 #[.string dels, .int .i32 r] w fun e w' => e = .returned (.int .i64 (-1)) ∧ Below w.heap.size w w' := by
  by_cases hr : r = 65533
  · subst hr; exact rune_bad w
  · cases hv : Lib.validRune r
    · exact rune_no r h1 hv w
    · exact rune_valid r h1 hr hv w
end Go.Proofs.YtgeljcfokeiaeaaDoor.Build
