/- BoundPieces: the walk. Conditions: none. -/
import Derived.Test.YteaicmjihckbjaaBound
import Derived.Test.YteaicmjihckbjaaPartsF
import Derived.Test.YteaicmjihckbjaaPairEq
import Derived.BigQuiet
namespace Go.Proofs.Yteaicmjihckbjaa.BndPiecesLaw
open Go.RowKit Ints Lists Vals Bnd Arr
set_option linter.unusedVariables false

theorem pair_same (a b : Int) (w : World) : (binOp .neq 32 (.agg #[.int .i64 a, .int .i64 b]) (.agg #[.int .i64 a, .int .i64 b])).run Try.prog w = .ok (.bool false) w := by
  rw [pair_neq]
  simp

set_option maxHeartbeats 8000000 in
set_option maxRecDepth 100000 in
theorem walk (low high : Int) (hbulk : 0 + 0 ≤ 1048576) (w : World) (wl : (Lit.int .i64 low).wf = true) (wh : (Lit.int .i64 high).wf = true) :
    Calls Try.prog 5 #[.int .i64 low, .int .i64 high] w fun e w' => e = .returned (.bool true) ∧ Below w.heap.size w w' := by
  have EF := Lib.hid (show Calls Try.prog 8 #[.int .i64 1, .int .i64 9, .int .i64 2] w fun e w' => ∃ (A : Option Addr) (c : Nat), e = .returned (.tuple #[.slice A 2 c, .nilIface]) ∧ Below w.heap.size w w' by
    refine (parts_prog 1 9 2 w).mono ?_
    rintro e w' ⟨A, c, rfl, _, hb⟩
    rw [pa_fact.1, pa_fact.2, errOf_ok]
    exact ⟨A, c, rfl, hb⟩)
  have PR := Lib.hid (fun (n : Int) (W : World) => show Calls Try.prog 8 #[.int .i64 low, .int .i64 high, .int .i64 n] W fun e w' => ∃ (A : Option Addr) (c : Nat), e = .returned (.tuple #[.slice A (paV low high n).length c, errOf (paE low high n)]) ∧ AtE 2 two w' (fun b => W.heap.size ≤ b ∧ b < w'.heap.size) A (paV low high n) ∧ Below W.heap.size W w' from parts_prog low high n W)
  clear wl wh hbulk
  go_enter Try.func5, Try.ntmps5
  go_wp2_with fail
  ((with_reducible refine EF.out.mono ?_))
  rintro e w1 ⟨A1, c1, rfl, hb1⟩
  have B1 := Lib.hid hb1
  clear hb1 EF
  have C1 := Lib.hid (PR.out 1 w1)
  go_wp2_with fail
  ((with_reducible refine C1.out.mono ?_))
  rintro e w2 ⟨A2, c2, rfl, ho2, hb2⟩
  have O2 := Lib.hid ho2
  have B2 := Lib.hid (below_trans B1.out hb2)
  clear ho2 hb2 C1 B1
  have C2 := Lib.hid (PR.out 2 w2)
  go_wp2_with fail
  ((with_reducible refine C2.out.mono ?_))
  rintro e w3 ⟨A3, c3, rfl, ho3, hb3⟩
  have O2' := Lib.hid (O2.out.below (fun b hb => hb.2) hb3)
  have O3 := Lib.hid ho3
  have B3 := Lib.hid (below_trans B2.out hb3)
  clear ho3 hb3 C2 B2 O2
  by_cases hr : RightB low high
  · have hr1 : -1073741824 ≤ low ∧ low ≤ high ∧ high ≤ 1073741824 := ⟨hr.2.1, hr.1, hr.2.2⟩
    obtain ⟨m, hm⟩ : ∃ m : Nat, (m : Int) = high - low + 1 := ⟨(high - low + 1).toNat, by omega⟩
    have E1 : paE low high 1 = 0 := by unfold paE; rw [if_pos ⟨hr, by omega, by omega, by omega⟩]
    have V1 : paV low high 1 = pcL low m 1 := by
      unfold paV
      rw [if_pos ⟨hr, by omega, by omega, by omega⟩]
      congr 1
      omega
    rw [E1, V1, pc_len, errOf_ok]
    rw [V1] at O2'
    obtain ⟨b, off, rfl, hbS, hcell⟩ := pieces_cells O2'.out (by omega)
    obtain ⟨p0, p1⟩ := hcell 0 (by omega)
    rw [Nat.zero_mul, Nat.add_zero, (one_piece low m).1] at p0
    rw [Nat.zero_mul, Nat.add_zero, (one_piece low m).2, show low + (m : Int) - 1 = high by omega] at p1
    have PS := fun W => pair_same low high W
    clear hcell O2' E1 V1
    by_cases h2 : low = high
    · subst h2
      have E2 : ¬ paE low low 2 = 0 := by unfold paE; rw [if_neg (fun h => by have := h.2.2.1; omega)]; decide
      rw [errOf_no E2]
      clear E2
      generalize paE low low 2 = q at *
      generalize paV low low 2 = z2 at *
      go_wp2_with fail
      go_ret
      exact ⟨ret_b (by simp), B3.out⟩
    · have E2 : paE low high 2 = 0 := by unfold paE; rw [if_pos ⟨hr, by omega, by omega, by omega⟩]
      have V2 : paV low high 2 = pcL low m 2 := by
        unfold paV
        rw [if_pos ⟨hr, by omega, by omega, by omega⟩]
        congr 1
        omega
      rw [E2, V2, pc_len, errOf_ok]
      rw [V2] at O3
      obtain ⟨b3, off3, rfl, hbS3, hcell3⟩ := pieces_cells O3.out (by omega)
      obtain ⟨s0, s1⟩ := hcell3 0 (by omega)
      obtain ⟨s2, s3⟩ := hcell3 1 (by omega)
      rw [Nat.zero_mul, Nat.add_zero] at s0 s1
      rw [Nat.one_mul] at s2 s3
      have PZ0 := piece_size low m 2 0
      have PZ1 := piece_size low m 2 1
      have SZ := size_falls m 2 0
      have SZ2 := size_near m 2 1
      have SP0 := size_pos (m := m) (n := 2) (by omega) (by omega) 0
      have SP1 := size_pos (m := m) (n := 2) (by omega) (by omega) 1
      have FB : low ≤ fromI low m 2 0 ∧ toI low m 2 0 ≤ high ∧ low ≤ fromI low m 2 1 ∧ toI low m 2 1 ≤ high := by
        have a0 : startN m 2 0 = 0 := start_zero m 2
        have a1 : startN m 2 1 ≤ startN m 2 2 := start_mono m 2 (by omega)
        have a2 : startN m 2 2 = m := start_end (by omega)
        exact ⟨by show low ≤ low + (startN m 2 0 : Int); omega, by show low + (startN m 2 1 : Int) - 1 ≤ high; omega, by show low ≤ low + (startN m 2 1 : Int); omega, by show low + (startN m 2 2 : Int) - 1 ≤ high; omega⟩
      have r1 : decide (toI low m 2 0 - fromI low m 2 0 < toI low m 2 1 - fromI low m 2 1) = false := decide_eq_false (by simp only [Nat.zero_add] at SZ; omega)
      have r2 : decide (toI low m 2 1 - fromI low m 2 1 + 1 < toI low m 2 0 - fromI low m 2 0) = false := decide_eq_false (by omega)
      have r3 : fromI low m 2 0 ≤ toI low m 2 0 ∧ fromI low m 2 1 ≤ toI low m 2 1 := by omega
      clear PZ0 PZ1 SZ SZ2 SP0 SP1 hcell3 O3 V2 E2
      generalize fromI low m 2 0 = f0 at *
      generalize toI low m 2 0 = t0 at *
      generalize fromI low m 2 1 = f1 at *
      generalize toI low m 2 1 = t1 at *
      have v1 : IntKind.i64.wrap (t0 - f0) = t0 - f0 := IntWalk.i64_in _ (by omega)
      have v2 : IntKind.i64.wrap (t1 - f1) = t1 - f1 := IntWalk.i64_in _ (by omega)
      have v3 : IntKind.i64.wrap (t1 - f1 + 1) = t1 - f1 + 1 := IntWalk.i64_in _ (by omega)
      go_wp2_with fail
      go_quiet (fail)
      have C4 := Lib.hid (PR.out (high - low + 1) (w3.drewN nq))
      go_wp2_with fail
      ((with_reducible refine C4.out.mono ?_))
      rintro e w4 ⟨A4, c4, rfl, ho4, hb4⟩
      have O4 := Lib.hid ho4
      have B4 := Lib.hid (below_trans B3.out ((below_drewN w3 nq).trans (hb4.mono (Nat.le_refl _))))
      clear ho4 hb4 C4 s0 s1 s2 s3 r1 r2 r3 v1 v2 v3 p0 p1
      by_cases hn : high - low + 1 ≤ 1000
      · have E4 : paE low high (high - low + 1) = 0 := by unfold paE; rw [if_pos ⟨hr, by omega, by omega, hn⟩]
        have V4 : paV low high (high - low + 1) = pcL low m m := by
          unfold paV
          rw [if_pos ⟨hr, by omega, by omega, hn⟩, show (high - low + 1).toNat = m by omega]
        rw [E4, V4, pc_len, errOf_ok]
        rw [V4] at O4
        obtain ⟨b4, off4, rfl, _, hcell4⟩ := pieces_cells O4.out (by omega)
        have HC := Lib.hid hcell4
        clear hcell4 O4 E4 V4
        have hm1 : (m : Int) ≤ 1000 := by omega
        go_wp2_with fail
        go_loopw [14] (fun iv wr => ∃ k : Nat, k ≤ m ∧ iv = .int .i64 k ∧ wr = w4) (fun iv _ => m - (intOf iv).toNat)
        case atStart => exact ⟨0, Nat.zero_le _, rfl, rfl⟩
        case round =>
          obtain ⟨k, hk, rfl, rfl⟩ := hrel
          by_cases hlt : k < m
          · obtain ⟨q0, q1⟩ := HC.out k hlt
            obtain ⟨o1, o2⟩ := one_each (low := low) hlt
            rw [o1] at q0
            rw [o2] at q1
            have h1' : (k : Int) < m := by omega
            have v4 : IntKind.i64.wrap (low + (k : Int)) = low + (k : Int) := IntWalk.i64_in _ (by omega)
            have PK := fun W => pair_same (low + (k : Int)) (low + (k : Int)) W
            clear o1 o2 PS
            go_wp2_with fail
            go_roundw
            case rel => exact ⟨k + 1, by omega, by go_num, trivial⟩
            case measure => simp [intOf]; omega
          · obtain rfl : k = m := by omega
            clear PS
            go_wp2_with fail
            go_ret
            exact ⟨ret_b (by first | rfl | simp), B4.out⟩
      · have E4 : ¬ paE low high (high - low + 1) = 0 := by unfold paE; rw [if_neg (fun h => hn h.2.2.2)]; decide
        rw [errOf_no E4]
        clear E4
        generalize paE low high (high - low + 1) = q4 at *
        generalize paV low high (high - low + 1) = z4 at *
        have hn1 : (1000 : Int) < high - low + 1 := by omega
        go_wp2_with fail
        go_ret
        exact ⟨ret_b (by simp), B4.out⟩
  · have E1 : ¬ paE low high 1 = 0 := by unfold paE; rw [if_neg (fun h => hr h.1)]; decide
    have E2 : ¬ paE low high 2 = 0 := by unfold paE; rw [if_neg (fun h => hr h.1)]; decide
    rw [errOf_no E1, errOf_no E2]
    clear E1 E2
    generalize paE low high 1 = q1 at *
    generalize paE low high 2 = q2 at *
    generalize paV low high 1 = z1 at *
    generalize paV low high 2 = z2 at *
    by_cases h1 : high < low
    · go_wp2_with fail
      go_ret
      exact ⟨ret_b (by simp), B3.out⟩
    · by_cases h2 : low < -1073741824
      · go_wp2_with fail
        go_ret
        exact ⟨ret_b (by simp), B3.out⟩
      · have h3 : 1073741824 < high := by
          apply Classical.byContradiction
          intro hc
          exact hr ⟨by omega, by omega, by omega⟩
        go_wp2_with fail
        go_ret
        exact ⟨ret_b (by simp), B3.out⟩
end Go.Proofs.Yteaicmjihckbjaa.BndPiecesLaw
