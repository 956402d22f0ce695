/- DdCounts: the walk. Conditions: the sizes. -/
import Derived.Test.YtcenekjkdnfhkaaDdFails
namespace Go.Proofs.Ytcenekjkdnfhkaa.DdCountsLaw
open Go.RowKit Rng Ints Lists Vals Dd
set_option linter.unusedVariables false

theorem two_ok (w : World) (A : Option Addr) (c : Nat) (l : List Int) (hl : At w w.heap.size A l) (hm : l.length ≤ maxLen) : Calls Try.prog 9 #[.slice A l.length c] w fun e w' => e = .returned (.bool (l.contains 2)) ∧ w' = w := by
  have IN := Lib.hid (in_any l A c w.heap.size 2 hm w hl)
  clear hl hm
  go_enter Try.func9, Try.ntmps9
  go_wp2_with fail
  ((with_reducible refine IN.out.mono ?_))
  rintro e w1 ⟨rfl, rfl⟩
  go_wp2_with fail
  go_ret
  exact ⟨ret_b (by simp), rfl⟩
theorem many_ok (p : Nat) (n : Int) (w : World) (A : Option Addr) (c : Nat) (l : List Int) (h : IB p n w) : Calls Try.prog 10 #[.slice A l.length c, .pointer (some ⟨p, 0, none⟩)] w fun e w' => e = .returned (.bool (decide (n ≤ l.length))) ∧ w' = w := by
  have p0 := h.cell
  clear h
  go_enter Try.func10, Try.ntmps10
  go_wp2_with fail
  go_ret
  exact ⟨ret_b (by simp), rfl⟩
theorem many_fail (p B : Nat) (n : Int) (hp : p < B) : FailF 10 #[.pointer (some ⟨p, 0, none⟩)] B (fun l => decide (n ≤ l.length)) (IB p n) := by
  refine ⟨fun args w => rfl, fun w w' h hb => h.below hp hb, fun w A c l hI hB ho hl => ?_⟩
  refine (many_ok p n w A c l hI).mono ?_
  rintro e w' ⟨rfl, rfl⟩
  exact ⟨rfl, World.grownBy.refl _ _⟩

set_option maxHeartbeats 4000000 in
set_option maxRecDepth 100000 in
theorem walk (l : List Int) (L : Option Addr) (lc : Nat) (n : Int) (hbulk : l.length ≤ 1048576) (w : World) (hl : At w w.heap.size L l) (hcap : l.length ≤ lc) (wn : (Lit.int .i64 n).wf = true) :
    Calls Try.prog 4 #[.slice L l.length lc, .int .i64 n] w fun e w' => e = .returned (.bool true) ∧ Below w.heap.size w w' := by
  have B0 := Lib.hid (belw w (.cells #[.int .i64 n] 3))
  have N0 := Lib.hid (show IB w.heap.size n (w.alloc (.cells #[.int .i64 n] 3)) from heap_new2 w _)
  have S0 := Lib.hid (show w.heap.size < (w.alloc (.cells #[.int .i64 n] 3)).heap.size by simp)
  have HL := Lib.hid (fun (W : World) (hb : Below w.heap.size w W) => show At W W.heap.size L l from (hl.below hb).more hb.size)
  have LN := Lib.hid (show l.length ≤ 4294967296 ∧ l.length ≤ 1048576 by omega)
  have CP := Lib.hid hcap
  have TT := Lib.hid (fun (W : World) (b : Nat) (h : W.heap.size = b) => two_told_at 9 (fun args w => rfl) two_ok W b h)
  have Z0 := Lib.hid (show (w.alloc (.cells #[.int .i64 n] 3)).heap.size = w.heap.size + 1 by simp)
  have MC := Lib.hid (fun (h : minE (fun l => decide (n ≤ l.length)) l = 0) => And.intro (count_told (min_ok h)) (min_ok h).sub.length_le)
  have ME := Lib.hid (fun (h : ¬ minE (fun l => decide (n ≤ l.length)) l = 0) => show 12 < l.length ∨ (l.length : Int) < n by
    apply Classical.byContradiction
    intro hc
    exact h (minE_is (by omega) (by rw [decide_eq_true_eq]; omega)))
  clear hl hcap wn hbulk
  go_enter Try.func4, Try.ntmps4
  go_wp2_with fail
  generalize w.alloc (.cells #[.int .i64 n] 3) = W0 at *
  ((with_reducible refine (TT.out W0 _ Z0.out).mono ?_))
  rintro e w1 ⟨g, c1, rfl, hg, hb1⟩
  have B1 := Lib.hid (below_trans B0.out hb1)
  have I1 := Lib.hid (N0.out.below S0.out hb1)
  have Q1 := Lib.hid (Nat.lt_of_lt_of_le S0.out hb1.size)
  have M1 := min_prog w1 (many_fail w.heap.size w1.heap.size n Q1.out) I1.out (HL.out w1 B1.out) CP.out LN.out.1
  unfold MnPost at M1
  have M1 := Lib.hid M1
  clear hb1 TT N0 S0 B0
  go_wp2_with fail
  ((with_reducible refine M1.out.mono ?_))
  rintro e w2 ⟨A2, c2, rfl, ho2, hb2⟩
  have B2 := Lib.hid (below_trans B1.out hb2)
  have p2 := (I1.out.below Q1.out hb2).cell
  clear ho2 hb2 M1 I1
  generalize minV (fun l : List Int => decide (n ≤ l.length)) l = z at *
  by_cases h0 : minE (fun l : List Int => decide (n ≤ l.length)) l = 0
  · have MZ := Lib.hid (MC.out h0)
    rw [h0, errOf_ok]
    have mz := MZ.out.1
    by_cases hn0 : n ≤ 0
    · obtain rfl : z = [] := List.eq_nil_of_length_eq_zero (by omega)
      go_wp2_with fail
      all_goals go_ret
      all_goals exact ⟨ret_b (by first | rfl | exact beq_iff_eq.2 (by omega)), B2.out⟩
    · have zn : (z.length : Int) = n := by omega
      go_wp2_with fail
      all_goals go_ret
      all_goals exact ⟨ret_b (beq_iff_eq.2 (by omega)), B2.out⟩
  · have MZ := Lib.hid (ME.out h0)
    rw [errOf_no h0]
    clear MC ME h0
    generalize minE (fun l : List Int => decide (n ≤ l.length)) l = q at *
    by_cases h12 : (12 : Int) < l.length
    · go_wp2_with fail
      go_ret
      exact ⟨ret_b (by simp), B2.out⟩
    · have hlt : (l.length : Int) < n := by rcases MZ.out with h | h <;> omega
      go_wp2_with fail
      go_ret
      exact ⟨ret_b (by simp), B2.out⟩
end Go.Proofs.Ytcenekjkdnfhkaa.DdCountsLaw
