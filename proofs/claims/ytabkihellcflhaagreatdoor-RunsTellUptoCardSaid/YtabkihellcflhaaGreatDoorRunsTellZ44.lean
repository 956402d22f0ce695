/- RunsTell, part 44 of the proof: Contract of the document's own Shorter. Conditions: the sizes. -/
import Derived.Test.YtabkihellcflhaaGreatDoorRunsTellZ2
import Derived.Test.YtabkihellcflhaaGreatDoorRunsTellZ9
import Derived.Deep.QuietTactic
import Derived.BigQuiet
/- Contract of the document's own Shorter. Conditions: the sizes. -/
namespace Go.Proofs.YtabkihellcflhaaGreatDoor.Ref
open Go.RowKit Lists Ints
set_option linter.unusedVariables false

/-! Shorter: it draws its order -/
set_option maxHeartbeats 1000000 in
theorem shorter_any (l m : List Int) (A B : Option Addr) (c d N : Nat) (hl : l.length ≤ maxLen) (hm : m.length ≤ maxLen) (w : World) (ha : At w N A l) (hb : At w N B m) :
    Calls Tryz.prog 88 #[.slice A l.length c, .slice B m.length d] w fun e w' => e = .returned (.bool (lessL l m)) ∧ ∃ n, w' = w.drewN n := by
  unfold maxLen at hl hm
  have HA := Lib.hid ha
  have HB := Lib.hid hb
  clear ha hb
  by_cases e : l.length = m.length
  · have ht : (((l.length : Nat) : Int) != ((m.length : Nat) : Int)) = false := by rw [bne_eq_false_iff_eq]; omega
    have hlm : l.length ≤ m.length := by omega
    have hml : m.length ≤ l.length := by omega
    have hv0 := Lib.hid (show lessL l m = decide (cmpL l m < 0) by unfold lessL; rw [if_pos e])
    clear e
    go_enter Tryz.func88, Tryz.ntmps88
    go_wp2
    go_loopw [5] (fun i wr => ∃ k n : Nat, k ≤ l.length ∧ i = .int .i64 k ∧ wr = w.drewN n ∧ Hid (cmpL (l.drop k) (m.drop k) = cmpL l m)) (fun i _ => l.length - (intOf i).toNat)
    case atStart => exact ⟨0, 0, Nat.zero_le _, rfl, rfl, rfl⟩
    case round =>
      obtain ⟨k, n, hk, rfl, rfl, hc⟩ := hrel
      by_cases h1 : k < l.length
      · have h2 : k < m.length := by omega
        obtain ⟨b, off, rfl, _, hcell⟩ := HA.out (by omega)
        have c1 := hcell k h1
        clear hcell
        obtain ⟨b2, off2, rfl, _, hcell2⟩ := HB.out (by omega)
        have c2 := hcell2 k h2
        clear hcell2
        have hs := Lib.hid (cmpL_step l m k h1 h2)
        generalize l.getD k 0 = x at c1 hs
        generalize m.getD k 0 = y at c2 hs
        have h1' : (k : Int) < l.length := by omega
        have h2' : (k : Int) < m.length := by omega
        rcases Int.lt_trichotomy x y with h | h | h
        · have hv := Lib.hid (show lessL l m = true by rw [hv0.out, ← hc.out, hs.out, if_pos h]; rfl)
          have ht3 : (x != y) = true := by rw [bne_iff_ne]; omega
          go_wp2
          go_quiet (fail)
          go_wp2
          go_quiet (fail)
          go_wp2
          go_ret
          refine ⟨ret_b hv.out.symm, ?_⟩
          simp only [World.drewN_drewN]
          exact ⟨_, rfl⟩
        · subst h
          have hv := Lib.hid (show cmpL (l.drop (k + 1)) (m.drop (k + 1)) = cmpL l m by rw [← hc.out, hs.out, if_neg (by omega), if_neg (by omega)])
          go_wp2
          go_quiet (fail)
          go_wp2
          go_roundw
          case rel => exact ⟨k + 1, _, by omega, by go_num, rfl, hv.out⟩
          case measure => simp [intOf]; omega
        · have hv := Lib.hid (show lessL l m = false by rw [hv0.out, ← hc.out, hs.out, if_neg (by omega), if_pos h]; rfl)
          have ht3 : (x != y) = true := by rw [bne_iff_ne]; omega
          have ht4 : ¬ x < y := by omega
          go_wp2
          go_quiet (fail)
          go_wp2
          go_quiet (fail)
          go_wp2
          go_ret
          refine ⟨by first | exact ret_b hv.out.symm | exact ret_b (by rw [hv.out]; simp; omega), ?_⟩
          simp only [World.drewN_drewN]
          exact ⟨_, rfl⟩
      · have hv := Lib.hid (show lessL l m = false by rw [hv0.out, ← hc.out, cmpL_done l m k (by omega) (by omega)]; rfl)
        go_wp2
        go_ret
        exact ⟨ret_b hv.out.symm, _, rfl⟩
  · have ht : (((l.length : Nat) : Int) != ((m.length : Nat) : Int)) = true := by rw [bne_iff_ne]; omega
    by_cases h : l.length < m.length
    · have hv := Lib.hid (show lessL l m = true by unfold lessL; rw [if_neg e, decide_eq_true h])
      clear e
      go_enter Tryz.func88, Tryz.ntmps88
      go_wp2
      go_ret
      exact ⟨ret_b hv.out.symm, 0, rfl⟩
    · have hv := Lib.hid (show lessL l m = false by unfold lessL; rw [if_neg e, decide_eq_false h])
      clear e
      go_enter Tryz.func88, Tryz.ntmps88
      go_wp2
      go_ret
      exact ⟨ret_b hv.out.symm, 0, rfl⟩

theorem shorter_below (l m : List Int) (A B : Option Addr) (c d N : Nat) (hl : l.length ≤ maxLen) (hm : m.length ≤ maxLen) (w : World) (ha : At w N A l) (hb : At w N B m) :
    Calls Tryz.prog 88 #[.slice A l.length c, .slice B m.length d] w fun e w' => e = .returned (.bool (lessL l m)) ∧ Below w.heap.size w w' := by
  refine (shorter_any l m A B c d N hl hm w ha hb).mono ?_
  rintro e w' ⟨rfl, n, rfl⟩
  refine ⟨rfl, ?_⟩
  induction n with
  | zero => exact Below.refl _ _
  | succ n ih => exact ⟨ih.os, ih.tape, ih.output, ih.size, ih.block⟩
end Go.Proofs.YtabkihellcflhaaGreatDoor.Ref
