/- BoundParts: the walk. Conditions: none. -/
import Derived.Test.YteaicmjihckbjaaBound
import Derived.Test.YteaicmjihckbjaaPartsF
import Derived.BigQuiet
namespace Go.Proofs.Yteaicmjihckbjaa.BndPartsLaw
open Go.RowKit Ints Lists Vals Bnd Arr
set_option linter.unusedVariables false

set_option maxHeartbeats 8000000 in
set_option maxRecDepth 100000 in
theorem walk (low high n x : Int) (hbulk : 0 + 0 ≤ 1048576) (w : World) (wl : (Lit.int .i64 low).wf = true) (wh : (Lit.int .i64 high).wf = true) (wn : (Lit.int .i64 n).wf = true) (wx : (Lit.int .i64 x).wf = true) :
    Calls Try.prog 4 #[.int .i64 low, .int .i64 high, .int .i64 n, .int .i64 x] w fun e w' => e = .returned (.bool true) ∧ Below w.heap.size w w' := by
  have E1 := parts_prog low high n w
  unfold PaPost at E1
  have E1 := Lib.hid E1
  have EF := Lib.hid (fun (W : World) => show Calls Try.prog 8 #[.int .i64 1, .int .i64 9, .int .i64 2] W fun e w' => ∃ (A : Option Addr) (c : Nat), e = .returned (.tuple #[.slice A 2 c, .nilIface]) ∧ Below W.heap.size W w' by
    refine (parts_prog 1 9 2 W).mono ?_
    rintro e w' ⟨A, c, rfl, _, hb⟩
    rw [pa_fact.1, pa_fact.2, errOf_ok]
    exact ⟨A, c, rfl, hb⟩)
  have OK := Lib.hid (pa_ok (low := low) (high := high) (n := n))
  have NO := Lib.hid (pa_no (low := low) (high := high) (n := n))
  clear wl wh wn wx hbulk
  go_enter Try.func4, Try.ntmps4
  go_wp2_with fail
  ((with_reducible refine E1.out.mono ?_))
  rintro e w1 ⟨A1, c1, rfl, ho1, hb1⟩
  have O1 := Lib.hid ho1
  have B1 := Lib.hid hb1
  clear ho1 hb1 E1
  generalize paV low high n = z at *
  generalize paE low high n = q at *
  have E2 := Lib.hid (EF.out w1)
  go_wp2_with fail
  ((with_reducible refine E2.out.mono ?_))
  rintro e w2 ⟨A2, c2, rfl, hb2⟩
  have O2 := Lib.hid (O1.out.below (fun b hb => hb.2) hb2)
  have B2 := Lib.hid (below_trans B1.out hb2)
  clear hb2 E2 EF O1 B1
  by_cases hq : q = 0
  · subst hq
    obtain ⟨m, N, rfl, hm, hN1, hNm, hN2, hr, rfl⟩ := OK.out rfl
    have hr1 : -1073741824 ≤ low ∧ low ≤ high ∧ high ≤ 1073741824 := ⟨hr.2.1, hr.1, hr.2.2⟩
    obtain ⟨b, off, rfl, _, hc⟩ := pieces_cells O2.out (by omega)
    have HC := Lib.hid hc
    have PL := Lib.hid (pc_len low m N)
    clear OK NO hc O2 hr
    rw [errOf_ok, PL.out]
    have hNi : (N : Int) ≤ 1000 := by omega
    have hNi1 : (1 : Int) ≤ N := by omega
    have f0 := (HC.out 0 (by omega)).1
    rw [from_zero, Nat.zero_mul, Nat.add_zero] at f0
    have l1 := (HC.out (N - 1) (by omega)).2
    rw [to_end low (by omega)] at l1
    have hl : low + (m : Int) - 1 = high := by omega
    rw [hl] at l1
    have i1 : (((N : Int) - 1).toNat) = N - 1 := by omega
    go_wp2_with fail
    clear l1 f0 i1
    go_loopw [13, 14] (fun mv iv wr => ∃ k d : Nat, k ≤ N ∧ iv = .int .i64 k ∧ mv = .int .i64 (inK low x m N k) ∧ wr = w2.drewN d) (fun _ iv _ => N - (intOf iv).toNat)
    case atStart => exact ⟨0, 0, Nat.zero_le _, rfl, by rw [in_zero]; rfl, rfl⟩
    case round =>
      obtain ⟨k, d, hk, rfl, rfl, rfl⟩ := hrel
      have hin1 : inK low x m N k ≤ 1 := by unfold inK; split <;> omega
      by_cases hlt : k < N
      · obtain ⟨c0, c1⟩ := HC.out k hlt
        have PS := Lib.hid (And.intro (piece_size low m N k) (And.intro (size_pos (n := N) (m := m) (by omega) hNm k) (size_near m N k)))
        have IS := Lib.hid (in_step (low := low) (x := x) (m := m) (n := N) (k := k))
        have FB : low ≤ fromI low m N k ∧ toI low m N k ≤ high := by
          have a1 := start_mono m N (show k + 1 ≤ N by omega)
          rw [start_end (by omega)] at a1
          unfold fromI toI
          omega
        have P0 := Lib.hid (piece_size low m N 0)
        obtain ⟨d0, d1⟩ := HC.out 0 (by omega)
        rw [Nat.zero_mul, Nat.add_zero] at d0 d1
        have h1' : (k : Int) < N := by omega
        have IS2 := Lib.hid (show inK low x m N (k + 1) = inK low x m N k + (if fromI low m N k ≤ x ∧ x ≤ toI low m N k then 1 else 0) from IS.out)
        by_cases h0 : k = 0
        · subst h0
          rw [Nat.zero_mul, Nat.add_zero] at c0 c1
          clear d0 d1 HC
          have ft : fromI low m N 0 ≤ toI low m N 0 := by have := PS.out; omega
          generalize fromI low m N 0 = f at *
          generalize toI low m N 0 = t at *
          have e1 : decide (t - f < 0) = false := decide_eq_false (by omega)
          by_cases hx1 : f ≤ x
          · by_cases hx2 : x ≤ t
            · rw [if_pos ⟨hx1, hx2⟩] at IS2
              go_wp2
              go_quiet (fail)
              go_wp2
              go_quiet (fail)
              go_wp2
              go_roundw
              case rel => exact ⟨1, _, by omega, by go_num, by rw [IS2.out]; go_num, rfl⟩
              case measure => simp [intOf]; omega
            · rw [if_neg (fun h => hx2 h.2)] at IS2
              go_wp2
              go_quiet (fail)
              go_wp2
              go_quiet (fail)
              go_wp2
              go_roundw
              case rel => exact ⟨1, _, by omega, by go_num, by rw [IS2.out]; rfl, rfl⟩
              case measure => simp [intOf]; omega
          · rw [if_neg (fun h => hx1 h.1)] at IS2
            go_wp2
            go_quiet (fail)
            go_wp2
            go_quiet (fail)
            go_wp2
            go_roundw
            case rel => exact ⟨1, _, by omega, by go_num, by rw [IS2.out]; rfl, rfl⟩
            case measure => simp [intOf]; omega
        · obtain ⟨q0, q1⟩ := HC.out (k - 1) (by omega)
          have FN := from_next low m N (k - 1)
          rw [show k - 1 + 1 = k by omega] at FN
          have SF := size_falls m N (k - 1)
          rw [show k - 1 + 1 = k by omega] at SF
          have PP := piece_size low m N (k - 1)
          have PS2 := PS.out
          have P02 := P0.out
          have FB2 : low ≤ fromI low m N (k - 1) ∧ toI low m N 0 ≤ high ∧ low ≤ fromI low m N 0 := by
            have a1 := start_mono m N (show 0 + 1 ≤ N by omega)
            rw [start_end (by omega)] at a1
            unfold fromI toI
            omega
          have r1 : fromI low m N k = toI low m N (k - 1) + 1 := FN
          have r2 : decide (toI low m N (k - 1) - fromI low m N (k - 1) < toI low m N k - fromI low m N k) = false := decide_eq_false (by omega)
          have r3 : decide (toI low m N k - fromI low m N k < toI low m N 0 - fromI low m N 0 - 1) = false := decide_eq_false (by omega)
          have r4 : fromI low m N k ≤ toI low m N k ∧ fromI low m N (k - 1) ≤ toI low m N (k - 1) ∧ fromI low m N 0 ≤ toI low m N 0 := by
            have := size_pos (n := N) (m := m) (by omega) hNm (k - 1)
            have := size_pos (n := N) (m := m) (by omega) hNm 0
            omega
          have i1 : IntKind.i64.wrap ((k : Int) - 1) = (k : Int) - 1 := IntWalk.i64_in _ (by omega)
          have i2 : (((k : Int) - 1).toNat) = k - 1 := by omega
          have hk0 : 0 < k := by omega
          have g1 : decide ((0 : Int) < k) = true := decide_eq_true (by omega)
          have g2 : decide (0 < k) = true := decide_eq_true hk0
          have hkm : (k : Int) - 1 = ((k - 1 : Nat) : Int) := by omega
          have hkn : k - 1 < N := by omega
          have i3 : IntKind.i64.wrap ((k - 1 : Nat) : Int) = ((k - 1 : Nat) : Int) := IntWalk.i64_in _ (by omega)
          have hkn2 : ((k - 1 : Nat) : Int) < N := by omega
          clear FN SF PP PS2 P02 PS P0 HC
          generalize fromI low m N (k - 1) = pf at *
          generalize toI low m N (k - 1) = pt at *
          generalize fromI low m N k = f at *
          generalize toI low m N k = t at *
          generalize fromI low m N 0 = zf at *
          generalize toI low m N 0 = zt at *
          have e1 : decide (t - f < 0) = false := decide_eq_false (by omega)
          have e2 : (f == pt + 1) = true := by rw [beq_iff_eq]; exact r1
          have e3 : (f != pt + 1) = false := by rw [bne_eq_false_iff_eq]; exact r1
          have v1 : IntKind.i64.wrap (pt + 1) = pt + 1 := IntWalk.i64_in _ (by omega)
          have v2 : IntKind.i64.wrap (pt - pf) = pt - pf := IntWalk.i64_in _ (by omega)
          have v3 : IntKind.i64.wrap (zt - zf) = zt - zf := IntWalk.i64_in _ (by omega)
          have v4 : IntKind.i64.wrap (zt - zf - 1) = zt - zf - 1 := IntWalk.i64_in _ (by omega)
          have v5 : IntKind.i64.wrap (t - f) = t - f := IntWalk.i64_in _ (by omega)
          have R1 := Lib.hid r1
          clear r1
          by_cases hx1 : f ≤ x
          · by_cases hx2 : x ≤ t
            · rw [if_pos ⟨hx1, hx2⟩] at IS2
              go_wp2
              go_quiet (fail)
              go_wp2
              go_quiet (fail)
              go_wp2
              go_roundw
              case rel => exact ⟨k + 1, _, by omega, by go_num, by rw [IS2.out]; go_num, rfl⟩
              case measure => simp [intOf]; omega
            · rw [if_neg (fun h => hx2 h.2)] at IS2
              go_wp2
              go_quiet (fail)
              go_wp2
              go_quiet (fail)
              go_wp2
              go_roundw
              case rel => exact ⟨k + 1, _, by omega, by go_num, by rw [IS2.out]; rfl, rfl⟩
              case measure => simp [intOf]; omega
          · rw [if_neg (fun h => hx1 h.1)] at IS2
            go_wp2
            go_quiet (fail)
            go_wp2
            go_quiet (fail)
            go_wp2
            go_roundw
            case rel => exact ⟨k + 1, _, by omega, by go_num, by rw [IS2.out]; rfl, rfl⟩
            case measure => simp [intOf]; omega
      · obtain rfl : k = N := by omega
        have IE := Lib.hid (in_end (low := low) (high := high) (x := x) (m := m) (n := k) (by omega) hm)
        by_cases hx1 : low ≤ x
        · by_cases hx2 : x ≤ high
          · rw [if_pos ⟨hx1, hx2⟩] at IE
            rw [IE.out]
            go_wp2
            go_ret
            exact ⟨ret_b (by simp), below_trans B2.out (below_drewN w2 d)⟩
          · rw [if_neg (fun h => hx2 h.2)] at IE
            rw [IE.out]
            go_wp2
            go_ret
            exact ⟨ret_b (by simp), below_trans B2.out (below_drewN w2 d)⟩
        · rw [if_neg (fun h => hx1 h.1)] at IE
          rw [IE.out]
          go_wp2
          go_ret
          exact ⟨ret_b (by simp), below_trans B2.out (below_drewN w2 d)⟩
  · have hz := (NO.out hq).1
    subst hz
    rw [errOf_no hq]
    clear OK NO hq
    go_wp2_with fail
    go_ret
    exact ⟨ret_b (by simp), B2.out⟩
end Go.Proofs.Yteaicmjihckbjaa.BndPartsLaw
