/- tape.Check of numbers that are right. Conditions: the size. -/
import Derived.Test.YtppahcjpffbkbaaInts
import Derived.Test.YtppahcjpffbkbaaErr
namespace Go.Proofs.Ytppahcjpffbkbaa.Ints
open Go.RowKit Vals
set_option linter.unusedVariables false

set_option maxHeartbeats 1000000 in
theorem tcheck_ok (l : List Int) (A : Option Addr) (c N : Nat) (hln : l.length ≤ 4294967296) (hr : ∀ x ∈ l, 0 ≤ x ∧ x ≤ 1000) (w : World) (ha : At w N A l) :
    Calls Try.prog 13 #[.slice A l.length c] w fun e w' => e = .returned .nilIface ∧ w = w' := by
  have HA := Lib.hid ha
  have HR := Lib.hid hr
  clear ha hr
  go_enter Try.func13, Try.ntmps13
  go_wp2
  go_loop [7] (fun i => ∃ k : Nat, k ≤ l.length ∧ i = .int .i64 k) (fun i => l.length - (intOf i).toNat)
  case atStart => exact ⟨0, Nat.zero_le _, rfl⟩
  case round =>
    obtain ⟨k, hk, rfl⟩ := hrel
    by_cases h1 : k < l.length
    · obtain ⟨b, off, rfl, _, hcell⟩ := HA.out (by omega)
      have c1 := hcell k h1
      have hx : 0 ≤ l.getD k 0 ∧ l.getD k 0 ≤ 1000 := by
        rw [List.getD_eq_getElem?_getD, List.getElem?_eq_getElem h1]
        exact HR.out _ (List.getElem_mem h1)
      clear hcell
      generalize l.getD k 0 = x at c1 hx
      obtain ⟨x0, x1⟩ := hx
      have g1 : decide (x < 0) = false := by rw [decide_eq_false_iff_not]; omega
      have g2 : decide (1000 < x) = false := by rw [decide_eq_false_iff_not]; omega
      go_wp2
      go_round
      case rel => exact ⟨k + 1, by omega, by go_num⟩
      case measure => simp [intOf]; omega
    · go_wp2
      go_ret
      exact ⟨rfl, rfl⟩
end Go.Proofs.Ytppahcjpffbkbaa.Ints
