/- BoundEdges: the walk. Conditions: none. -/
import Derived.Test.YteaicmjihckbjaaBound
import Derived.Test.YteaicmjihckbjaaIn
import Derived.BigQuiet
namespace Go.Proofs.Yteaicmjihckbjaa.BndEdgesLaw
open Go.RowKit Ints Lists Vals Bnd Dd
set_option linter.unusedVariables false

theorem ed_fact : edE 1 9 = 0 ∧ edV 1 9 = [1, 2, 5, 8, 9] := by decide
theorem ed_ok {low high : Int} (h : edE low high = 0) : RightB low high ∧ EdgeOk low high (edV low high) := by
  unfold edE at h
  by_cases hr : RightB low high
  · unfold edV
    rw [if_pos hr]
    exact ⟨hr, edges_ok hr.1⟩
  · rw [if_neg hr] at h; cases h
theorem ed_no {low high : Int} (h : ¬ edE low high = 0) : edV low high = [] := by
  unfold edE at h
  unfold edV
  by_cases hr : RightB low high
  · rw [if_pos hr] at h; exact absurd rfl h
  · rw [if_neg hr]

set_option maxHeartbeats 4000000 in
set_option maxRecDepth 100000 in
theorem walk (low high x : Int) (hbulk : 0 + 0 ≤ 1048576) (w : World) (wl : (Lit.int .i64 low).wf = true) (wh : (Lit.int .i64 high).wf = true) (wx : (Lit.int .i64 x).wf = true) :
    Calls Try.prog 3 #[.int .i64 low, .int .i64 high, .int .i64 x] w fun e w' => e = .returned (.bool true) ∧ Below w.heap.size w w' := by
  have E1 := edges_prog low high w
  unfold EdPost at E1
  have E1 := Lib.hid E1
  have EF := Lib.hid (fun (W : World) => show Calls Try.prog 6 #[.int .i64 1, .int .i64 9] W fun e w' => ∃ (A : Option Addr) (c : Nat), e = .returned (.tuple #[.slice A 5 c, .nilIface]) ∧ Below W.heap.size W w' by
    refine (edges_prog 1 9 W).mono ?_
    rintro e w' ⟨A, c, rfl, _, hb⟩
    rw [ed_fact.1, ed_fact.2, errOf_ok]
    exact ⟨A, c, rfl, hb⟩)
  have OK := Lib.hid (ed_ok (low := low) (high := high))
  have NO := Lib.hid (ed_no (low := low) (high := high))
  clear wl wh wx hbulk
  go_enter Try.func3, Try.ntmps3
  go_wp2_with fail
  ((with_reducible refine E1.out.mono ?_))
  rintro e w1 ⟨A1, c1, rfl, ho1, hb1⟩
  have O1 := Lib.hid ho1
  have B1 := Lib.hid hb1
  clear ho1 hb1 E1
  generalize edV low high = z at *
  generalize edE low high = q at *
  have E2 := Lib.hid (EF.out w1)
  go_wp2_with fail
  ((with_reducible refine E2.out.mono ?_))
  rintro e w2 ⟨A2, c2, rfl, hb2⟩
  have O2 := Lib.hid (O1.out.below hb2)
  have B2 := Lib.hid (below_trans B1.out hb2)
  clear hb2 E2 EF O1 B1
  by_cases hq : q = 0
  · subst hq
    obtain ⟨hr, hz⟩ := OK.out rfl
    have HZ := Lib.hid hz
    have hr1 : -1073741824 ≤ low ∧ low ≤ high ∧ high ≤ 1073741824 := ⟨hr.2.1, hr.1, hr.2.2⟩
    clear OK NO hz hr
    rw [errOf_ok]
    have hz5 : (z.length : Int) ≤ 5 := by have := HZ.out.len; omega
    have hz1 : (1 : Int) ≤ z.length := by have := HZ.out.len; omega
    go_wp2_with fail
    go_loopw [11] (fun iv wr => ∃ k n : Nat, k ≤ z.length ∧ iv = .int .i64 k ∧ wr = w2.drewN n) (fun iv _ => z.length - (intOf iv).toNat)
    case atStart => exact ⟨0, 0, Nat.zero_le _, rfl, rfl⟩
    case round =>
      obtain ⟨k, n, hk, rfl, rfl⟩ := hrel
      by_cases hlt : k < z.length
      · obtain ⟨b, off, rfl, _, hcell⟩ := O2.out.at_ (by omega)
        have c1 := hcell k hlt
        have hw := HZ.out.within k hlt
        have h1' : (k : Int) < z.length := by omega
        by_cases h0 : k = 0
        · subst h0
          have c1 : w2.cell? ⟨b, off, none⟩ = some (.int .i64 (z.getD 0 0)) := c1
          clear hcell
          generalize z.getD 0 0 = v at *
          have d1 : decide (v < low) = false := decide_eq_false (by omega)
          have d2 : decide (high < v) = false := decide_eq_false (by omega)
          go_wp2
          go_quiet (fail)
          go_wp2
          go_roundw
          case rel => exact ⟨1, _, by omega, by go_num, rfl⟩
          case measure => simp [intOf]; omega
        · have hrz := HZ.out.rise k (by omega) hlt
          have c0 : w2.cell? ⟨b, off + (k - 1), none⟩ = some (.int .i64 (z.getD (k - 1) 0)) := hcell (k - 1) (by omega)
          have hkm : (k : Int) - 1 = ((k - 1 : Nat) : Int) := by omega
          have hkm2 : (((k : Int) - 1).toNat) = k - 1 := by omega
          clear hcell
          generalize z.getD k 0 = v at *
          generalize z.getD (k - 1) 0 = u at *
          have d1 : decide (v < low) = false := decide_eq_false (by omega)
          have d2 : decide (high < v) = false := decide_eq_false (by omega)
          have d3 : decide (v ≤ u) = false := decide_eq_false (by omega)
          have d4 : decide ((0 : Int) < k) = true := decide_eq_true (by omega)
          have hk0 : 0 < k := by omega
          have d5 : decide (0 < k) = true := decide_eq_true hk0
          have i1 : IntKind.i64.wrap ((k : Int) - 1) = (k : Int) - 1 := IntWalk.i64_in _ (by omega)
          go_wp2
          go_quiet (fail)
          go_wp2
          go_roundw
          case rel => exact ⟨k + 1, _, by omega, by go_num, rfl⟩
          case measure => simp [intOf]; omega
      · obtain ⟨b, off, rfl, _, hcell⟩ := O2.out.at_ (by omega)
        have g0 : w2.cell? ⟨b, off, none⟩ = some (.int .i64 low) := by
          have := hcell 0 (by omega)
          rw [HZ.out.first] at this
          exact this
        have g1 : w2.cell? ⟨b, off + (z.length - 1), none⟩ = some (.int .i64 high) := by
          have := hcell (z.length - 1) (by omega)
          rw [HZ.out.last] at this
          exact this
        have e1 : (((z.length : Int) - 1).toNat) = z.length - 1 := by omega
        clear hcell
        have IN := Lib.hid (in_below z (some ⟨b, off, none⟩) c1 w2.heap.size x (by simp only [maxLen]; omega) (w2.drewN n) (O2.out.at_.drewN n))
        have NE := Lib.hid HZ.out.near
        have BE := Lib.hid (below_trans B2.out (below_drewN w2 n))
        have z0 : (((z.length : Nat) : Int) == 0) = false := by rw [beq_eq_false_iff_ne]; omega
        clear HZ O2
        by_cases hin : low ≤ x ∧ x ≤ high
        · have d1 : decide (x < low) = false := decide_eq_false (by omega)
          have d2 : decide (high < x) = false := decide_eq_false (by omega)
          by_cases ha : x = low + 1
          · have NC := NE.out x (.inl ha) hin.1 hin.2
            rw [NC] at IN
            clear NE
            subst ha
            go_wp2_with fail
            ((with_reducible refine IN.out.mono ?_))
            rintro e w8 ⟨rfl, hb8⟩
            have B8 := Lib.hid (below_trans BE.out hb8)
            clear hb8
            go_wp2_with fail
            go_ret
            exact ⟨ret_b (by simp), B8.out⟩
          · have n1 : (x == low + 1) = false := by rw [beq_eq_false_iff_ne]; exact ha
            by_cases hb : x = high - 1
            · have NC := NE.out x (.inr hb) hin.1 hin.2
              rw [NC] at IN
              clear NE
              subst hb
              go_wp2_with fail
              ((with_reducible refine IN.out.mono ?_))
              rintro e w8 ⟨rfl, hb8⟩
              have B8 := Lib.hid (below_trans BE.out hb8)
              clear hb8
              go_wp2_with fail
              go_ret
              exact ⟨ret_b (by simp), B8.out⟩
            · have n2 : (x == high - 1) = false := by rw [beq_eq_false_iff_ne]; exact hb
              go_wp2_with fail
              go_ret
              exact ⟨ret_b (by simp), BE.out⟩
        · by_cases hlx : x < low
          · by_cases ha : x = low + 1
            · omega
            · have n1 : (x == low + 1) = false := by rw [beq_eq_false_iff_ne]; exact ha
              by_cases hb : x = high - 1
              · have n2 : (x == high - 1) = true := by rw [beq_iff_eq]; exact hb
                go_wp2_with fail
                go_ret
                exact ⟨ret_b (by simp), BE.out⟩
              · have n2 : (x == high - 1) = false := by rw [beq_eq_false_iff_ne]; exact hb
                go_wp2_with fail
                go_ret
                exact ⟨ret_b (by simp), BE.out⟩
          · have hhx : high < x := by omega
            have hb : ¬ x = high - 1 := by omega
            have n2 : (x == high - 1) = false := by rw [beq_eq_false_iff_ne]; exact hb
            by_cases ha : x = low + 1
            · have n1 : (x == low + 1) = true := by rw [beq_iff_eq]; exact ha
              go_wp2_with fail
              go_ret
              exact ⟨ret_b (by simp), BE.out⟩
            · have n1 : (x == low + 1) = false := by rw [beq_eq_false_iff_ne]; exact ha
              go_wp2_with fail
              go_ret
              exact ⟨ret_b (by simp), BE.out⟩
  · have hz := NO.out hq
    subst hz
    rw [errOf_no hq]
    clear OK NO hq
    go_wp2_with fail
    go_ret
    exact ⟨ret_b (by simp), B2.out⟩
end Go.Proofs.Yteaicmjihckbjaa.BndEdgesLaw
