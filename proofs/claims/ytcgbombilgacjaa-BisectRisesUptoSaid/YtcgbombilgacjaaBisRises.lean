/- BisectRises: the walk. Conditions: none. -/
import Derived.Test.YtcgbombilgacjaaBisects
namespace Go.Proofs.Ytcgbombilgacjaa.BisRisesLaw
open Go.RowKit Vals Ints Bis
set_option linter.unusedVariables false

theorem one_ok (p : Nat) (s : Int) (w : World) (x : Int) (h : IB p s w) : Calls Try.prog 9 #[.int .i64 x, .pointer (some ⟨p, 0, none⟩)] w fun e w' => e = .returned (.bool (decide (s ≤ x))) ∧ w' = w := by
  have p0 := h.cell
  clear h
  go_enter Try.func9, Try.ntmps9
  go_wp2_with fail
  go_ret
  exact ⟨ret_b (by simp), rfl⟩
theorem two_ok (p : Nat) (s : Int) (w : World) (x : Int) (h : IB p s w) : Calls Try.prog 10 #[.int .i64 x, .pointer (some ⟨p, 0, none⟩)] w fun e w' => e = .returned (.bool (decide (s ≤ x))) ∧ w' = w := by
  have p0 := h.cell
  clear h
  go_enter Try.func10, Try.ntmps10
  go_wp2_with fail
  go_ret
  exact ⟨ret_b (by simp), rfl⟩
theorem four_ok (w : World) (x : Int) : Calls Try.prog 11 #[.int .i64 x] w fun e w' => e = .returned (.bool (decide (4 ≤ x))) ∧ w' = w := by
  go_enter Try.func11, Try.ntmps11
  go_wp2_with fail
  go_ret
  exact ⟨ret_b (by simp), rfl⟩

set_option maxHeartbeats 2000000 in
set_option maxRecDepth 100000 in
theorem walk (n a b : Int) (hbulk : 0 + 0 ≤ 1048576) (w : World) (wn : (Lit.int .i64 n).wf = true) (wa : (Lit.int .i64 a).wf = true) (wb : (Lit.int .i64 b).wf = true) :
    Calls Try.prog 4 #[.int .i64 n, .int .i64 a, .int .i64 b] w fun e w' => e = .returned (.bool true) ∧ Below w.heap.size w w' := by
  have z1 : (w.alloc (.cells #[.int .i64 a] 3)).heap.size = w.heap.size + 1 := by simp
  have n1 : IB w.heap.size a (w.alloc (.cells #[.int .i64 a] 3)) := bis_new w _
  have b1 := belv w (.cells #[.int .i64 a] 3)
  have n2 : IB (w.alloc (.cells #[.int .i64 a] 3)).heap.size b ((w.alloc (.cells #[.int .i64 a] 3)).alloc (.cells #[.int .i64 b] 3)) := bis_new _ _
  have b2 := belv (w.alloc (.cells #[.int .i64 a] 3)) (.cells #[.int .i64 b] 3)
  rw [z1] at n2
  have IA := Lib.hid (n1.later b2)
  have IBB := Lib.hid n2
  have B0 := Lib.hid (below_trans b1 b2)
  clear n1 n2 b1 b2 z1 hbulk wn wa wb
  go_enter Try.func4, Try.ntmps4
  go_wp2_with fail
  generalize (w.alloc (.cells #[.int .i64 a] 3)).alloc (.cells #[.int .i64 b] 3) = W0 at *
  have C1 := since_told (k := 9) (cap := #[.pointer (some ⟨w.heap.size, 0, none⟩)]) (B := w.heap.size + 2) (n := n) (s := a) (J := IB w.heap.size a) W0 (by have := IBB.out.lt; omega) (fun args w => rfl) (fun _ _ h hb => h.below (by omega) hb) (fun w' x h => one_ok _ a w' x h) IA.out
  have C1 := Lib.hid C1
  ((with_reducible refine C1.out.mono ?_))
  rintro e w1 ⟨v1, q1, rfl, hr1, hs1, hb1⟩
  have F1 := Lib.hid (And.intro hr1 hs1)
  have I1 := Lib.hid (IA.out.later hb1)
  have J1 := Lib.hid (IBB.out.later hb1)
  have B1 := Lib.hid (below_trans B0.out hb1)
  clear hr1 hs1 hb1 C1 IA IBB B0
  have C2 := Lib.hid (since_told (k := 10) (cap := #[.pointer (some ⟨w.heap.size + 1, 0, none⟩)]) (B := w.heap.size + 2) (n := n) (s := b) (J := IB (w.heap.size + 1) b) w1 (by have := J1.out.lt; omega) (fun args w => rfl) (fun _ _ h hb => h.below (by omega) hb) (fun w' x h => two_ok _ b w' x h) J1.out)
  go_wp2_with fail
  ((with_reducible refine C2.out.mono ?_))
  rintro e w2 ⟨v2, q2, rfl, hr2, hs2, hb2⟩
  have F2 := Lib.hid (And.intro hr2 hs2)
  have I2 := Lib.hid (I1.out.later hb2)
  have J2 := Lib.hid (J1.out.later hb2)
  have B2 := Lib.hid (below_trans B1.out hb2)
  clear hr2 hs2 hb2 C2 I1 J1 B1
  have C3 := Lib.hid (four_told 11 w2 (fun args w => rfl) four_ok)
  go_wp2_with fail
  ((with_reducible refine C3.out.mono ?_))
  rintro e w3 ⟨rfl, hb3⟩
  have p1 := (I2.out.later hb3).cell
  have p2 := (J2.out.later hb3).cell
  have B3 := Lib.hid (below_trans B2.out hb3)
  clear hb3 C3 I2 J2 B2
  by_cases hab : b < a
  · go_wp2_with fail
    go_ret
    exact ⟨ret_b (by simp), B3.out⟩
  · by_cases hq2 : q2 = 0
    · subst hq2
      have HV := Lib.hid (show q1 = 0 ∧ v1 ≤ v2 by
        have hr : 0 ≤ n ∧ n ≤ 1073741824 := by
          apply Classical.byContradiction
          intro hc
          have := (F2.out.1 hc).2
          omega
        have h2 := F2.out.2 hr.1 hr.2
        have h1 := F1.out.2 hr.1 hr.2
        have hb : ¬ (n ≤ b ∨ n = 0) := fun hc => by have := (h2.1 hc).1; omega
        have e2 := h2.2 (by omega) (by omega)
        have e1 := h1.2 (by omega) (by omega)
        exact ⟨e1.1, by omega⟩)
      obtain ⟨rfl, hv⟩ := HV.out
      rw [errOf_ok]
      clear F1 F2
      go_wp2_with fail
      go_ret
      exact ⟨ret_b (by simp), B3.out⟩
    · rw [errOf_no hq2]
      generalize errOf q1 = e1 at *
      clear F1 F2
      go_wp2_with fail
      go_ret
      exact ⟨ret_b (by simp), B3.out⟩
end Go.Proofs.Ytcgbombilgacjaa.BisRisesLaw
