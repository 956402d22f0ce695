/- CondMore: the walk. Conditions: the sizes. -/
import Derived.Test.YtdmoigompmeacaaCondW
namespace Go.Proofs.Ytdmoigompmeacaa.CondMoreLaw
open Go.RowKit Ints Lists Vals Bools Cnd
set_option linter.unusedVariables false

theorem one_at (w : World) (x : Int) : At (w.alloc (.cells #[.int .i64 x] 3)) (w.alloc (.cells #[.int .i64 x] 3)).heap.size (some ⟨w.heap.size, 0, none⟩) [x] := fun _ =>
  ⟨w.heap.size, 0, rfl, by simp, fun j hj => by
    have hj : j < 1 := hj
    obtain rfl : j = 0 := by omega
    rw [Lib.cell_of_heap (new_box w _)]; rfl⟩
theorem cov_e {n : Int} {l : List Bool} {k : Nat} (hk : k = l.length ∨ k = 64) (hk2 : k ≤ l.length) : ¬ covE n l (allN k) = 0 ∨ covE n l (allN k) = 0 ∧ covV n l (allN k) = true := by
  by_cases h : covE n l (allN k) = 0
  · exact .inr ⟨h, all_ok hk hk2 h⟩
  · exact .inl h

set_option maxHeartbeats 4000000 in
set_option maxRecDepth 100000 in
theorem walk (n : Int) (l : List Bool) (A : Option Addr) (c : Nat) (ts : List Int) (A2 : Option Addr) (c2 : Nat) (ms : List Int) (A3 : Option Addr) (c3 : Nat) (hbulk : l.length ≤ 1048576 ∧ ts.length ≤ 1048576 ∧ ms.length ≤ 1048576) (w : World) (wn : (Lit.int .i64 n).wf = true) (hA : AtB w w.heap.size A l) (hB : At w w.heap.size A2 ts) (hC : At w w.heap.size A3 ms) :
    Calls Try.prog 4 #[.int .i64 n, .slice A l.length c, .slice A2 ts.length c2, .slice A3 ms.length c3] w fun e w' => e = .returned (.bool true) ∧ Below w.heap.size w w' := by
  obtain ⟨hl, ht, hm⟩ := hbulk
  have HA := Lib.hid (fun (W : World) (hb : Below w.heap.size w W) => show AtB W W.heap.size A l from (hA.below hb).more hb.size)
  have HB := Lib.hid (fun (W : World) (hb : Below w.heap.size w W) => show At W W.heap.size A2 ts from (hB.below hb).more hb.size)
  have HC := Lib.hid (fun (W : World) (hb : Below w.heap.size w W) => show At W W.heap.size A3 ms from (hC.below hb).more hb.size)
  have DC := Lib.hid decided_prog
  have CV := Lib.hid (fun (ts : List Int) (hts : ts.length ≤ 4294967296) (A2 : Option Addr) (c2 : Nat) (W : World) (hb : Below w.heap.size w W) (h2 : At W W.heap.size A2 ts) => show Calls Try.prog 8 #[.int .i64 n, .slice A l.length c, .slice A2 ts.length c2] W fun e w' => e = .returned (.tuple #[.bool (covV n l ts), errOf (covE n l ts)]) ∧ Below W.heap.size W w' from covers_prog n A c l A2 c2 ts W (by omega) hts (HA.out W hb) h2)
  have MO := Lib.hid (more_ok (n := n) (l := l) (ts := ts) (more := ms))
  have CE := Lib.hid (fun k => cov_e (n := n) (l := l) (k := k))
  clear wn hA hB hC
  have li : (l.length : Int) ≤ 1048576 := by omega
  go_enter Try.func4, Try.ntmps4
  go_wp2_with fail
  refine (DC.out w).mono ?_
  rintro e w1 ⟨rfl, hb1⟩
  have B1 := Lib.hid hb1
  have C1 := Lib.hid (CV.out ts (by omega) A2 c2 w1 hb1 (HB.out w1 hb1))
  clear hb1 DC
  go_wp2_with fail
  ((with_reducible refine C1.out.mono ?_))
  rintro e w2 ⟨rfl, hb2⟩
  have B2 := Lib.hid (below_trans B1.out hb2)
  clear hb2 C1 B1
  have BX := Lib.hid (below_on B2.out B2.out.size (bel_box w2 (.cells #[] 3)))
  have OX := Lib.hid (show Own (w2.alloc (.cells #[] 3)) w2.heap.size (some ⟨w2.heap.size, 0, none⟩) 0 [] from Own.empty (new_box w2 _))
  have SX := Lib.hid (show w2.heap.size ≤ (w2.alloc (.cells #[] 3)).heap.size by simp)
  have S2 := Lib.hid B2.out.size
  go_wp2_with (at_builtin; first
    | (refine wpList_append_ints rfl (.tmp 29) (.tmp 30) rfl w2.heap.size 0 (some ⟨w2.heap.size, 0, none⟩) [] OX.out _ A2 c2 ts (HB.out _ BX.out) rfl rfl (by simp; omega) SX.out ?_
       intro A5 c5 w5 z5 hz5 own5 g5 r5
       have O5 := Lib.hid own5
       have B5 := Lib.hid (BX.out.grown g5 BX.out.size (fun g hg => by simp [rowOf] at hg; have := S2.out; omega))
       have Q5 := Lib.hid (Nat.le_trans SX.out g5.size)
       have L5 := Lib.hid (show z5.length ≤ 1048576 by rw [hz5.out]; simp; omega)
       clear own5 g5 r5)
    | (refine wpList_append_ints rfl (.tmp 31) (.tmp 32) rfl w2.heap.size c5 A5 z5 O5.out _ A3 c3 ms (HC.out _ B5.out) rfl rfl (by have := L5.out; omega) Q5.out ?_
       intro A6 c6 w6 z6 hz6 own6 g6 r6
       have O6 := Lib.hid own6
       have B6 := Lib.hid (B5.out.grown g6 B5.out.size (fun g hg => by have := O5.out.ge g hg; have := S2.out; omega))
       have Z6 := Lib.hid (show z6 = ts ++ ms by rw [hz6.out, hz5.out, List.nil_append])
       have L6 := Lib.hid (show z6.length ≤ 4294967296 by rw [hz6.out, List.length_append]; have := L5.out; omega)
       have C6 := Lib.hid (CV.out z6 L6.out A6 c6 w6 B6.out own6.at_)
       clear own6 g6 r6))
  ((with_reducible refine C6.out.mono ?_))
  rintro e w7 ⟨rfl, hb7⟩
  have B7 := Lib.hid (below_trans B6.out hb7)
  rw [← Z6.out] at MO
  clear hb7 C6 O5 O6 B5 B6 BX OX SX S2 Q5 L5 L6 Z6 hz5 hz6 B2 HB HC
  have M1 := Lib.hid (show ¬ (covE n l ts = 0 ∧ covE n l z6 = 0 ∧ covV n l ts = true ∧ covV n l z6 = false) from fun ⟨h1, h2, h3, h4⟩ => by rw [MO.out h1 h2 h3] at h4; cases h4)
  clear MO
  generalize covE n l ts = e1 at *
  generalize covE n l z6 = e2 at *
  generalize covV n l ts = v1 at *
  generalize covV n l z6 = v2 at *
  have W4 : (¬ e1 = 0) ∨ (e1 = 0 ∧ ¬ e2 = 0) ∨ (e1 = 0 ∧ e2 = 0 ∧ v1 = false) ∨ (e1 = 0 ∧ e2 = 0 ∧ v1 = true ∧ v2 = true) := by
    by_cases h1 : e1 = 0
    · by_cases h2 : e2 = 0
      · cases v1 with
        | false => exact .inr (.inr (.inl ⟨h1, h2, rfl⟩))
        | true =>
          cases v2 with
          | true => exact .inr (.inr (.inr ⟨h1, h2, rfl, rfl⟩))
          | false => exact absurd ⟨h1, h2, rfl, rfl⟩ M1.out
      · exact .inr (.inl ⟨h1, h2⟩)
    · exact .inl h1
  clear M1
  rcases W4 with h | ⟨rfl, h⟩ | ⟨rfl, rfl, rfl⟩ | ⟨rfl, rfl, rfl, rfl⟩
  all_goals (
    (try rw [errOf_no h])
    (try rw [errOf_ok])
    go_wp2_with fail
    go_loopw [14, 15] (fun av iv wr => ∃ (k : Nat) (A8 : Option Addr) (c8 : Nat) (z8 : List Int), k ≤ l.length ∧ k ≤ 64 ∧ iv = .int .i64 k ∧ av = .slice A8 z8.length c8 ∧ Hid (z8 = allN k) ∧ Hid (Own wr w.heap.size A8 c8 z8) ∧ Hid (Below w.heap.size w wr)) (fun _ iv _ => l.length - (intOf iv).toNat)
    case atStart => exact ⟨0, none, 0, [], Nat.zero_le _, by omega, rfl, rfl, rfl, Own.none, B7.out⟩
    case round =>
      clear B7
      obtain ⟨k, A8, c8, z8, hk, hk6, rfl, rfl, hz, ho, hb⟩ := hrel
      have hki6 : (k : Int) ≤ 64 := by omega
      have ZL := Lib.hid (show z8.length = k by rw [hz.out, all_len])
      by_cases hlt : k < l.length ∧ k < 64
      · obtain ⟨q1, q2⟩ := hlt
        have q3 : (k : Int) < l.length := by omega
        have q4 : (k : Int) < 64 := by omega
        have RA := Lib.hid (one_at wr (k : Int))
        have BX := Lib.hid (below_on hb.out hb.out.size (bel_box wr (.cells #[.int .i64 (k : Int)] 3)))
        have OX := Lib.hid (ho.out.below (bel_box wr (.cells #[.int .i64 (k : Int)] 3)))
        have Z9 := Lib.hid (show z8 ++ [(k : Int)] = allN (k + 1) by rw [hz.out, all_step])
        clear hz ho hb
        go_wp2_with (at_builtin; refine wpList_append_ints rfl (.tmp 62) (.tmp 64) rfl w.heap.size c8 A8 z8 OX.out _ (some ⟨wr.heap.size, 0, none⟩) 1 [(k : Int)] RA.out rfl rfl (by have := ZL.out; simp; omega) BX.out.size ?_
                     intro A9 c9 w9 z9 hz9 own9 g9 r9
                     have O9 := Lib.hid own9
                     have B9 := Lib.hid (BX.out.grown g9 BX.out.size (fun g hg => OX.out.ge g hg))
                     have ZE := Lib.hid (show z9 = allN (k + 1) by rw [hz9.out, Z9.out])
                     clear own9 g9 r9 hz9)
        go_roundw
        case rel => exact ⟨k + 1, A9, c9, z9, by omega, by omega, by go_num, rfl, ZE.out, O9.out, B9.out⟩
        case measure => simp [intOf]; omega
      · have CC := CE.out k (by omega) hk
        rw [← hz.out] at CC
        have CC := Lib.hid CC
        have C8 := Lib.hid (CV.out z8 (by have := ZL.out; omega) A8 c8 wr hb.out ho.out.at_)
        clear hz ho ZL CE CV
        generalize covE n l z8 = e8 at *
        generalize covV n l z8 = v8 at *
        by_cases q1 : k < l.length
        · have q2 : k = 64 := by omega
          subst q2
          have q3 : (64 : Int) < l.length := by omega
          rcases CC.out with h8 | ⟨rfl, rfl⟩
          · rw [errOf_no h8] at C8
            go_wp2_with fail
            ((with_reducible refine C8.out.mono ?_))
            rintro e w9 ⟨rfl, hb9⟩
            have B9 := Lib.hid (below_trans hb.out hb9)
            clear hb9 C8
            go_wp2_with fail
            go_ret
            exact ⟨rfl, B9.out⟩
          · rw [errOf_ok] at C8
            go_wp2_with fail
            ((with_reducible refine C8.out.mono ?_))
            rintro e w9 ⟨rfl, hb9⟩
            have B9 := Lib.hid (below_trans hb.out hb9)
            clear hb9 C8
            go_wp2_with fail
            go_ret
            exact ⟨rfl, B9.out⟩
        · have q3 : ¬ (k : Int) < l.length := by omega
          rcases CC.out with h8 | ⟨rfl, rfl⟩
          · rw [errOf_no h8] at C8
            go_wp2_with fail
            ((with_reducible refine C8.out.mono ?_))
            rintro e w9 ⟨rfl, hb9⟩
            have B9 := Lib.hid (below_trans hb.out hb9)
            clear hb9 C8
            go_wp2_with fail
            go_ret
            exact ⟨rfl, B9.out⟩
          · rw [errOf_ok] at C8
            go_wp2_with fail
            ((with_reducible refine C8.out.mono ?_))
            rintro e w9 ⟨rfl, hb9⟩
            have B9 := Lib.hid (below_trans hb.out hb9)
            clear hb9 C8
            go_wp2_with fail
            go_ret
            exact ⟨rfl, B9.out⟩)
end Go.Proofs.Ytdmoigompmeacaa.CondMoreLaw
