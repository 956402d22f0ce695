/- Is a list some of another one, in its order? (chapter 10's statement) Conditions: the sizes. -/
import Derived.Test.YtcenekjkdnfhkaaDoorDdL
import Derived.Test.YtcenekjkdnfhkaaDoorSame
namespace Go.Proofs.YtcenekjkdnfhkaaDoor.Dd
open Go.RowKit Lists Ints
set_option linter.unusedVariables false

set_option maxHeartbeats 1000000 in
theorem pieced_any (a b : List Int) (A B : Option Addr) (c d N : Nat) (ha : a.length ≤ maxLen) (hb : b.length ≤ maxLen) (w : World) (hA : At w N A a) (hB : At w N B b) (hs : a.Sublist b) :
    Calls Tryd.prog 10 #[.slice A a.length c, .slice B b.length d] w fun e w' => e = .returned (.bool true) ∧ ∃ n, w' = w.drewN n := by
  unfold maxLen at ha hb
  have HA := Lib.hid hA
  have HB := Lib.hid hB
  have HS := Lib.hid hs
  clear hA hB hs
  go_enter Tryd.func10, Tryd.ntmps10
  go_wp2_with fail
  go_loopw [5, 6] (fun kv iv wr => ∃ k i n : Nat, k ≤ a.length ∧ i ≤ b.length ∧ kv = .int .i64 k ∧ iv = .int .i64 i ∧ wr = w.drewN n ∧ Hid ((a.drop k).Sublist (b.drop i))) (fun _ iv _ => b.length - (intOf iv).toNat)
  case atStart => exact ⟨0, 0, 0, Nat.zero_le _, Nat.zero_le _, rfl, rfl, rfl, HS.out⟩
  case round =>
    obtain ⟨k, i, n, hk, hi, rfl, rfl, rfl, hd⟩ := hrel
    by_cases h1 : i < b.length
    · by_cases h2 : k < a.length
      · obtain ⟨b1, off, rfl, _, hcell⟩ := HA.out (by omega)
        have c1 := hcell k h2
        clear hcell
        obtain ⟨b2, off2, rfl, _, hcell2⟩ := HB.out (by omega)
        have c2 := hcell2 i h1
        clear hcell2
        have PS := Lib.hid (piece_step hd.out h2 h1)
        generalize a.getD k 0 = x at *
        generalize b.getD i 0 = y at *
        have h1' : (i : Int) < b.length := by omega
        have h2' : (k : Int) < a.length := by omega
        by_cases h : y = x
        · subst h
          rw [if_pos rfl] at PS
          go_wp2
          go_quiet (fail)
          go_wp2
          go_roundw
          case rel => exact ⟨k + 1, i + 1, _, by omega, by omega, by go_num, by go_num, rfl, PS.out⟩
          case measure => simp [intOf]; omega
        · rw [if_neg h] at PS
          have hne : (y == x) = false := by rw [beq_eq_false_iff_ne]; exact h
          clear h
          go_wp2
          go_quiet (fail)
          go_wp2
          go_roundw
          case rel => exact ⟨k, i + 1, _, by omega, by omega, rfl, by go_num, rfl, PS.out⟩
          case measure => simp [intOf]; omega
      · obtain rfl : k = a.length := by omega
        go_wp2
        go_ret
        exact ⟨ret_b (by simp), _, rfl⟩
    · obtain rfl : k = a.length := piece_end hd.out hk h1
      go_wp2
      go_ret
      exact ⟨ret_b (by simp), _, rfl⟩
theorem pieced_below (a b : List Int) (A B : Option Addr) (c d N : Nat) (ha : a.length ≤ maxLen) (hb : b.length ≤ maxLen) (w : World) (hA : At w N A a) (hB : At w N B b) (hs : a.Sublist b) :
    Calls Tryd.prog 10 #[.slice A a.length c, .slice B b.length d] w fun e w' => e = .returned (.bool true) ∧ Below w.heap.size w w' :=
  (pieced_any a b A B c d N ha hb w hA hB hs).mono fun _ _ ⟨h, n, h'⟩ => ⟨h, h' ▸ ⟨rfl, rfl, rfl, Nat.le_refl _, fun _ _ => rfl⟩⟩
end Go.Proofs.YtcenekjkdnfhkaaDoor.Dd
