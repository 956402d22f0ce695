/- PairsTwo: the walk. Conditions: none. -/
import Derived.Test.YtbajkbkfinineaaPair
import Derived.Test.YtbajkbkfinineaaSlices
namespace Go.Proofs.Ytbajkbkfinineaa.PairsTwoLaw
open Go.RowKit Ints Lists Vals Pair
set_option linter.unusedVariables false

theorem belz (w : World) (o : Obj) : Below w.heap.size w (w.alloc o) := (Below.refl _ _).alloc (Nat.le_refl _) _
theorem two_at (w : World) (a b : Int) : At (w.alloc (.cells #[.int .i64 a, .int .i64 b] 3)) (w.alloc (.cells #[.int .i64 a, .int .i64 b] 3)).heap.size (some ⟨w.heap.size, 0, none⟩) [a, b] := fun _ =>
  ⟨w.heap.size, 0, rfl, by simp, fun j hj => by
    have hj : j < 2 := hj
    obtain rfl | rfl : j = 0 ∨ j = 1 := by omega
    all_goals rw [Lib.cell_of_heap (heap_new2 w _)]; rfl⟩
theorem three_at (w : World) (a b c : Int) : At (w.alloc (.cells #[.int .i64 a, .int .i64 b, .int .i64 c] 3)) (w.alloc (.cells #[.int .i64 a, .int .i64 b, .int .i64 c] 3)).heap.size (some ⟨w.heap.size, 0, none⟩) [a, b, c] := fun _ =>
  ⟨w.heap.size, 0, rfl, by simp, fun j hj => by
    have hj : j < 3 := hj
    obtain rfl | rfl | rfl : j = 0 ∨ j = 1 ∨ j = 2 := by omega
    all_goals rw [Lib.cell_of_heap (heap_new2 w _)]; rfl⟩
/-- Rows of two levels, of three -/
theorem rows_two (a b : Int) (w : World) : Calls Try.prog 6 #[.slice (some ⟨w.heap.size, 0, none⟩) 2 2] (w.alloc (.cells #[.int .i64 a, .int .i64 b] 3)) fun e w' => ∃ (A : Option Addr) (c : Nat), e = .returned (.tuple #[.slice A (rowsV [a, b]).length c, errOf (levE [a, b])]) ∧ Below w.heap.size w w' := by
  refine (rows_prog (levels := [a, b]) (lc := 2) _ (two_at w a b) (by simp) (by simp)).mono ?_
  rintro e w' ⟨A, c, rfl, _, hb⟩
  exact ⟨A, c, rfl, below_trans (belz w _) hb⟩
theorem rows_three (a b d : Int) (w : World) : Calls Try.prog 6 #[.slice (some ⟨w.heap.size, 0, none⟩) 3 3] (w.alloc (.cells #[.int .i64 a, .int .i64 b, .int .i64 d] 3)) fun e w' => ∃ (A : Option Addr) (c : Nat), e = .returned (.tuple #[.slice A (rowsV [a, b, d]).length c, errOf (levE [a, b, d])]) ∧ Below w.heap.size w w' := by
  refine (rows_prog (levels := [a, b, d]) (lc := 3) _ (three_at w a b d) (by simp) (by simp)).mono ?_
  rintro e w' ⟨A, c, rfl, _, hb⟩
  exact ⟨A, c, rfl, below_trans (belz w _) hb⟩
theorem lev_two (a b : Int) : levE [a, b] = if 1 ≤ a ∧ a ≤ 5 ∧ 1 ≤ b ∧ b ≤ 5 then 0 else 1 := by
  by_cases h : 1 ≤ a ∧ a ≤ 5 ∧ 1 ≤ b ∧ b ≤ 5
  · rw [if_pos h]; exact lev_is (by simp) (by intro x hx; simp at hx; omega)
  · rw [if_neg h]; exact lev_no (by simp) (fun hc => h ⟨(hc a (by simp)).1, (hc a (by simp)).2, (hc b (by simp)).1, (hc b (by simp)).2⟩)
theorem lev_three (a b : Int) : levE [a, b, 1] = if 1 ≤ a ∧ a ≤ 5 ∧ 1 ≤ b ∧ b ≤ 5 then 0 else 1 := by
  by_cases h : 1 ≤ a ∧ a ≤ 5 ∧ 1 ≤ b ∧ b ≤ 5
  · rw [if_pos h]; exact lev_is (by simp) (by intro x hx; simp at hx; omega)
  · rw [if_neg h]; exact lev_no (by simp) (fun hc => h ⟨(hc a (by simp)).1, (hc a (by simp)).2, (hc b (by simp)).1, (hc b (by simp)).2⟩)
theorem len_two {a b : Int} (h : levE [a, b] = 0) (ha : 0 ≤ a) (hb : 0 ≤ b) : ((rowsV [a, b]).length : Int) = a * b := by
  have h1 := rows_least (rows_ok h) (a := 0) (b := 1) (by omega) (by simp)
  have h2 := two_most (rows_ok h) (.inl (by simp))
  have e : (rowsV [a, b]).length = a.toNat * b.toNat := Nat.le_antisymm h2 h1
  rw [e, Int.natCast_mul, Int.toNat_of_nonneg ha, Int.toNat_of_nonneg hb]
theorem len_three {a b : Int} (h : levE [a, b, 1] = 0) (ha : 0 ≤ a) (hb : 0 ≤ b) : ((rowsV [a, b, 1]).length : Int) = a * b := by
  have h1 := rows_least (rows_ok h) (a := 0) (b := 1) (by omega) (by simp)
  have h2 := two_most (rows_ok h) (.inr ⟨by simp, by simp⟩)
  have e : (rowsV [a, b, 1]).length = a.toNat * b.toNat := Nat.le_antisymm h2 h1
  rw [e, Int.natCast_mul, Int.toNat_of_nonneg ha, Int.toNat_of_nonneg hb]
/-- the fact: of 2 and 2 there are four -/
theorem rows_fact (w : World) : Calls Try.prog 6 #[.slice (some ⟨w.heap.size, 0, none⟩) 2 2] (w.alloc (.cells #[.int .i64 2, .int .i64 2] 3)) fun e w' => ∃ (A : Option Addr) (c : Nat), e = .returned (.tuple #[.slice A 4 c, .nilIface]) ∧ Below w.heap.size w w' := by
  refine (rows_two 2 2 w).mono ?_
  rintro e w' ⟨A, c, rfl, hb⟩
  have h0 : levE [2, 2] = 0 := by decide
  have h4 := len_two h0 (by omega) (by omega)
  have h5 : (rowsV [2, 2]).length = 4 := by omega
  rw [h0, h5, errOf_ok]
  exact ⟨A, c, rfl, hb⟩

set_option maxHeartbeats 4000000 in
set_option maxRecDepth 100000 in
theorem walk (a b : Int) (hbulk : 0 + 0 ≤ 1048576) (w : World) (wa : (Lit.int .i64 a).wf = true) (wb : (Lit.int .i64 b).wf = true) :
    Calls Try.prog 5 #[.int .i64 a, .int .i64 b] w fun e w' => e = .returned (.bool true) ∧ Below w.heap.size w w' := by
  have R1 := Lib.hid (rows_two a b w)
  have R2 := Lib.hid (fun (W : World) => rows_three a b 1 W)
  have R3 := Lib.hid (fun (W : World) => rows_fact W)
  have L2 := Lib.hid (lev_two a b)
  have L3 := Lib.hid (lev_three a b)
  have N2 := Lib.hid (len_two (a := a) (b := b))
  have N3 := Lib.hid (len_three (a := a) (b := b))
  clear wa wb hbulk
  generalize (rowsV [a, b]).length = n2 at *
  generalize (rowsV [a, b, 1]).length = n3 at *
  generalize levE [a, b] = e2 at *
  generalize levE [a, b, 1] = e3 at *
  go_enter Try.func5, Try.ntmps5
  go_wp2_with fail
  ((with_reducible refine R1.out.mono ?_))
  rintro e w1 ⟨A1, c1, rfl, hb1⟩
  have B1 := Lib.hid hb1
  have C2 := Lib.hid (R2.out w1)
  clear hb1 R1 R2
  go_wp2_with fail
  ((with_reducible refine C2.out.mono ?_))
  rintro e w2 ⟨A2, c2, rfl, hb2⟩
  have B2 := Lib.hid (below_trans B1.out hb2)
  have C3 := Lib.hid (R3.out w2)
  clear hb2 C2 R3 B1
  go_wp2_with fail
  ((with_reducible refine C3.out.mono ?_))
  rintro e w3 ⟨A3, c3, rfl, hb3⟩
  have B3 := Lib.hid (below_trans B2.out hb3)
  clear hb3 C3 B2
  by_cases h : 1 ≤ a ∧ a ≤ 5 ∧ 1 ≤ b ∧ b ≤ 5
  · have l2 := L2.out
    have l3 := L3.out
    rw [if_pos h] at l2 l3
    clear L2 L3
    subst l2 l3
    have m2 := N2.out rfl (by omega) (by omega)
    have m3 := N3.out rfl (by omega) (by omega)
    have hab : a * b ≤ 25 ∧ 0 ≤ a * b := by
      obtain ⟨h1, h2, h3, h4⟩ := h
      have := Int.mul_le_mul h2 h4 (by omega) (by omega)
      have := Int.mul_nonneg (show 0 ≤ a by omega) (show 0 ≤ b by omega)
      omega
    have v1 : IntKind.i64.wrap (a * b) = a * b := IntWalk.i64_in _ (by omega)
    rw [errOf_ok]
    go_wp2_with fail
    go_ret
    exact ⟨ret_b (by simp), B3.out⟩
  · have l2 := L2.out
    have l3 := L3.out
    rw [if_neg h] at l2 l3
    clear L2 L3
    subst l2 l3
    rw [errOf_no (show ¬ (1 : Int) = 0 by decide)]
    by_cases h1 : a < 1
    · go_wp2_with fail
      go_ret
      exact ⟨ret_b (by simp), B3.out⟩
    · by_cases h2 : b < 1
      · go_wp2_with fail
        go_ret
        exact ⟨ret_b (by simp), B3.out⟩
      · by_cases h3 : 5 < a
        · go_wp2_with fail
          go_ret
          exact ⟨ret_b (by simp), B3.out⟩
        · have h4 : 5 < b := by omega
          go_wp2_with fail
          go_ret
          exact ⟨ret_b (by simp), B3.out⟩
end Go.Proofs.Ytbajkbkfinineaa.PairsTwoLaw
