/- CondLeast: the walk. Conditions: the sizes. -/
import Derived.Test.YtdmoigompmeacaaCondW
import Derived.Test.YtdmoigompmeacaaIn
namespace Go.Proofs.Ytdmoigompmeacaa.CondLeastLaw
open Go.RowKit Ints Lists Vals Bools Cnd Dd
set_option linter.unusedVariables false

theorem one_at (w : World) (x : Int) : At (w.alloc (.cells #[.int .i64 x] 3)) (w.alloc (.cells #[.int .i64 x] 3)).heap.size (some ⟨w.heap.size, 0, none⟩) [x] := fun _ =>
  ⟨w.heap.size, 0, rfl, by simp, fun j hj => by
    have hj : j < 1 := hj
    obtain rfl : j = 0 := by omega
    rw [Lib.cell_of_heap (new_box w _)]; rfl⟩
theorem cov_no {n : Int} {l : List Bool} {ts : List Int} (h : ¬ condE n l = 0) : ¬ covE n l ts = 0 := fun e => h (covE_err e)
theorem least3 {m : Nat} {l : List Bool} {ts : List Int} (h0 : ¬ manyM m l m = 0) : (¬ covE m l ts = 0) ∨ (covE m l ts = 0 ∧ covV m l ts = false) ∨ (covE m l ts = 0 ∧ covV m l ts = true ∧ manyM m l m < (onceN ts ts.length).length) := by
  by_cases h : covE m l ts = 0
  · cases hv : covV m l ts with
    | false => exact .inr (.inl ⟨h, rfl⟩)
    | true => exact .inr (.inr ⟨h, rfl, least_ok h hv h0⟩)
  · exact .inl h

set_option maxHeartbeats 4000000 in
set_option maxRecDepth 100000 in
theorem walk (n : Int) (l : List Bool) (A : Option Addr) (c : Nat) (ts : List Int) (A2 : Option Addr) (c2 : Nat) (hbulk : l.length ≤ 1048576 ∧ ts.length ≤ 1048576) (w : World) (wn : (Lit.int .i64 n).wf = true) (hA : AtB w w.heap.size A l) (hB : At w w.heap.size A2 ts) :
    Calls Try.prog 5 #[.int .i64 n, .slice A l.length c, .slice A2 ts.length c2] w fun e w' => e = .returned (.bool true) ∧ Below w.heap.size w w' := by
  obtain ⟨hl, ht⟩ := hbulk
  have HA := Lib.hid (fun (W : World) (hb : Below w.heap.size w W) => show AtB W W.heap.size A l from (hA.below hb).more hb.size)
  have HB := Lib.hid (fun (W : World) (hb : Below w.heap.size w W) => show At W W.heap.size A2 ts from (hB.below hb).more hb.size)
  have TS := Lib.hid (fun (W : World) (hb : Below w.heap.size w W) => show Calls Try.prog 7 #[.int .i64 n, .slice A l.length c] W fun e w' => ∃ (A : Option Addr) (c : Nat), e = .returned (.tuple #[.slice A (tesV n l).length c, errOf (condE n l)]) ∧ Own w' W.heap.size A c (tesV n l) ∧ Below W.heap.size W w' from tests_prog n A c l W (by omega) (HA.out W hb))
  have CV := Lib.hid (fun (W : World) (hb : Below w.heap.size w W) => show Calls Try.prog 8 #[.int .i64 n, .slice A l.length c, .slice A2 ts.length c2] W fun e w' => e = .returned (.tuple #[.bool (covV n l ts), errOf (covE n l ts)]) ∧ Below W.heap.size W w' from covers_prog n A c l A2 c2 ts W (by omega) (by omega) (HA.out W hb) (HB.out W hb))
  have MA := Lib.hid (fun (i : Int) (W : World) (hb : Below w.heap.size w W) => show Calls Try.prog 10 #[.int .i64 n, .slice A l.length c, .int .i64 i] W fun e w' => e = .returned (.tuple #[.bool (matV n l i), errOf (matE n l i)]) ∧ Below W.heap.size W w' from matters_prog n i A c l W (by omega) (HA.out W hb))
  have TF : Hid (∀ W : World, Calls Try.prog 7 #[.int .i64 1, .slice (some ⟨W.heap.size, 0, none⟩) 2 2] (W.alloc (.cells #[.bool false, .bool true] 4)) fun e w' => ∃ (A : Option Addr) (c : Nat), e = .returned (.tuple #[.slice A 2 c, .nilIface]) ∧ Below W.heap.size W w') := Lib.hid fun W => by
    have := tests_prog 1 (some ⟨W.heap.size, 0, none⟩) 2 [false, true] (W.alloc (.cells #[.bool false, .bool true] 4)) (by decide) (bools_new W [false, true])
    unfold TePost at this
    rw [tests_fact.1, tests_fact.2, errOf_ok] at this
    refine this.mono ?_
    rintro e w' ⟨A, c, rfl, _, hb⟩
    exact ⟨A, c, rfl, below_on (bel_box W _) (by simp) hb⟩
  have CN := Lib.hid (cov_no (n := n) (l := l) (ts := ts))
  have CK := Lib.hid (cond_ok (n := n) (l := l))
  clear wn hA hB
  have li : (ts.length : Int) ≤ 1048576 := by omega
  go_enter Try.func5, Try.ntmps5
  go_wp2_with fail
  refine (TF.out w).mono ?_
  rintro e w1 ⟨A4, c4, rfl, hb1⟩
  have B1 := Lib.hid hb1
  have C1 := Lib.hid (CV.out w1 hb1)
  clear hb1 TF CV
  go_wp2_with fail
  ((with_reducible refine C1.out.mono ?_))
  rintro e w2 ⟨rfl, hb2⟩
  have B2 := Lib.hid (below_trans B1.out hb2)
  have T2 := Lib.hid (TS.out w2 B2.out)
  clear hb2 C1 B1 TS
  go_wp2_with fail
  ((with_reducible refine T2.out.mono ?_))
  rintro e w3 ⟨A5, c5, rfl, ho3, hb3⟩
  have B3 := Lib.hid (below_trans B2.out hb3)
  clear hb3 ho3 T2 B2
  by_cases hq : condE n l = 0
  · obtain ⟨m, rfl, m1, m6, ml⟩ := CK.out hq
    have ML := Lib.hid (And.intro hq ml)
    have NO := Lib.hid (none_ok (l := l) hq)
    have OL := Lib.hid (own_least (l := l) hq)
    have L3 := Lib.hid (least3 (m := m) (l := l) (ts := ts))
    have MS := Lib.hid (many_step (m : Int) l)
    have MO := Lib.hid (fun i (hi : i < m) => mat_ok (i := i) hq hi)
    rw [hq, errOf_ok]
    clear hq ml CN CK
    obtain ⟨tz, HTZ⟩ : ∃ tz, Hid (tz = (tesV (m : Int) l).length) := ⟨_, Lib.hid rfl⟩
    rw [← HTZ.out]
    generalize covE (m : Int) l ts = ce at *
    generalize covV (m : Int) l ts = cv at *
    have mi : (m : Int) ≤ 6 := by omega
    go_wp2_with fail
    go_loopw [13, 14] (fun mv iv wr => ∃ k : Nat, k ≤ m ∧ iv = .int .i64 k ∧ mv = .int .i64 (manyM m l k) ∧ Hid (Below w.heap.size w wr)) (fun _ iv _ => m - (intOf iv).toNat)
    case atStart => exact ⟨0, Nat.zero_le _, rfl, rfl, B3.out⟩
    case round =>
      clear B3
      obtain ⟨k, hk, rfl, rfl, hb⟩ := hrel
      by_cases hlt : k < m
      · have hki : (k : Int) < m := by omega
        have M1 := MA.out (k : Int) wr hb.out
        rw [MO.out k hlt, errOf_ok] at M1
        have M1 := Lib.hid M1
        have ST := Lib.hid (MS.out k)
        have ML2 := many_le (m : Int) l k
        have mk6 : (manyM (m : Int) l k : Int) ≤ 6 := by omega
        cases hv : matV (m : Int) l (k : Int) with
        | false =>
          rw [hv] at M1 ST
          have S2 := Lib.hid (show manyM (m : Int) l (k + 1) = manyM (m : Int) l k by rw [ST.out]; rfl)
          clear hv ST
          generalize manyM (m : Int) l k = mm at *
          go_wp2_with fail
          ((with_reducible refine M1.out.mono ?_))
          rintro e w4 ⟨rfl, hb4⟩
          have B4 := Lib.hid (below_trans hb.out hb4)
          clear hb4 M1
          go_wp2_with fail
          go_roundw
          case rel => exact ⟨k + 1, by omega, by go_num, by rw [S2.out], B4.out⟩
          case measure => simp [intOf]; omega
        | true =>
          rw [hv] at M1 ST
          have S2 := Lib.hid (show manyM (m : Int) l (k + 1) = manyM (m : Int) l k + 1 by rw [ST.out]; rfl)
          clear hv ST
          generalize manyM (m : Int) l k = mm at *
          go_wp2_with fail
          ((with_reducible refine M1.out.mono ?_))
          rintro e w4 ⟨rfl, hb4⟩
          have B4 := Lib.hid (below_trans hb.out hb4)
          clear hb4 M1
          go_wp2_with fail
          go_roundw
          case rel => exact ⟨k + 1, by omega, by go_num, by rw [S2.out]; go_num, B4.out⟩
          case measure => simp [intOf]; omega
      · obtain rfl : k = m := by omega
        have BK := Lib.hid hb.out
        have MLE := many_le (k : Int) l k
        clear hb MS MO MA
        generalize manyM (k : Int) l k = mm at *
        by_cases h0 : mm = 0
        · subst h0
          have TZ := Lib.hid (show tz = 0 by rw [HTZ.out, NO.out rfl]; rfl)
          obtain rfl := TZ.out
          go_wp2_with fail
          go_ret
          exact ⟨rfl, BK.out⟩
        · have mi2 : (mm : Int) ≤ 6 := by omega
          have m0 : ((mm : Int) == 0) = false := by rw [beq_eq_false_iff_ne]; omega
          have OL2 : (mm : Int) < tz := by have := OL.out h0; rw [← HTZ.out] at this; omega
          have L4 := Lib.hid (L3.out h0)
          clear NO OL L3 h0
          go_wp2_with fail
          go_loopw [17, 18] (fun av iv wq => ∃ (j : Nat) (A8 : Option Addr) (c8 : Nat) (z8 : List Int), j ≤ ts.length ∧ iv = .int .i64 j ∧ av = .slice A8 z8.length c8 ∧ Hid (z8 = onceN ts j) ∧ Hid (Own wq w.heap.size A8 c8 z8) ∧ Hid (Below w.heap.size w wq)) (fun _ iv _ => ts.length - (intOf iv).toNat)
          case atStart => exact ⟨0, none, 0, [], Nat.zero_le _, rfl, rfl, rfl, Own.none, BK.out⟩
          case round =>
            obtain ⟨j, A8, c8, z8, hj, rfl, rfl, hz, ho, hbb⟩ := hrel
            have ZL := Lib.hid (show z8.length ≤ 1048576 by rw [hz.out]; have := once_le ts j; omega)
            by_cases hlt2 : j < ts.length
            · have hji : (j : Int) < ts.length := by omega
              obtain ⟨b2, o2, rfl, _, hc2⟩ := HB.out wr hbb.out (by omega)
              have c1 := hc2 j hlt2
              have IN := in_any z8 A8 c8 wr.heap.size (ts.getD j 0) (by have := ZL.out; simp only [maxLen]; omega) wr ho.out.at_
              have ST := Lib.hid (show onceN ts (j + 1) = if z8.contains (ts.getD j 0) = true then z8 else z8 ++ [ts.getD j 0] by rw [hz.out]; rfl)
              clear hc2
              generalize ts.getD j 0 = x at *
              cases hcc : z8.contains x with
              | true =>
                rw [hcc] at IN ST
                have IN := Lib.hid IN
                have S2 := Lib.hid (show z8 = onceN ts (j + 1) by rw [ST.out]; rfl)
                clear hcc ST
                go_wp2_with fail
                ((with_reducible refine IN.out.mono ?_))
                rintro e w5 ⟨rfl, rfl⟩
                clear IN
                go_wp2_with fail
                go_roundw
                case rel => exact ⟨j + 1, A8, c8, z8, by omega, by go_num, rfl, S2.out, ho.out, hbb.out⟩
                case measure => simp [intOf]; omega
              | false =>
                rw [hcc] at IN ST
                have IN := Lib.hid IN
                have S2 := Lib.hid (show z8 ++ [x] = onceN ts (j + 1) by rw [ST.out]; rfl)
                clear hcc ST
                have RA := Lib.hid (fun (W : World) => one_at W x)
                go_wp2_with fail
                ((with_reducible refine IN.out.mono ?_))
                rintro e w5 ⟨rfl, rfl⟩
                clear IN
                have BX := Lib.hid (below_on hbb.out hbb.out.size (bel_box w5 (.cells #[.int .i64 x] 3)))
                have OX := Lib.hid (ho.out.below (bel_box w5 (.cells #[.int .i64 x] 3)))
                go_wp2_with (at_builtin; refine wpList_append_ints rfl (.tmp 83) (.tmp 88) rfl w.heap.size c8 A8 z8 OX.out _ (some ⟨w5.heap.size, 0, none⟩) 1 [x] (RA.out w5) rfl rfl (by have := ZL.out; simp; omega) BX.out.size ?_
                             intro A9 c9 w9 z9 hz9 own9 g9 r9
                             have O9 := Lib.hid own9
                             have B9 := Lib.hid (BX.out.grown g9 BX.out.size (fun g hg => OX.out.ge g hg))
                             have ZE := Lib.hid (show z9 = onceN ts (j + 1) by rw [hz9.out, S2.out])
                             clear own9 g9 r9 hz9)
                go_roundw
                case rel => exact ⟨j + 1, A9, c9, z9, by omega, by go_num, rfl, ZE.out, O9.out, B9.out⟩
                case measure => simp [intOf]; omega
            · obtain rfl : j = ts.length := by omega
              rw [← hz.out] at L4
              clear hz ho ZL
              rcases L4.out with h1 | ⟨h1, h2⟩ | ⟨h1, h2, h3⟩
              · rw [errOf_no h1]
                go_wp2_with fail
                go_ret
                exact ⟨rfl, hbb.out⟩
              · subst h1
                subst h2
                rw [errOf_ok]
                go_wp2_with fail
                go_ret
                exact ⟨rfl, hbb.out⟩
              · subst h1
                subst h2
                rw [errOf_ok]
                have h4 : (mm : Int) < z8.length := by omega
                go_wp2_with fail
                go_ret
                exact ⟨rfl, hbb.out⟩
  · have C0 := CN.out hq
    rw [errOf_no hq, errOf_no C0]
    clear CN CK
    go_wp2_with fail
    go_ret
    exact ⟨rfl, B3.out⟩
end Go.Proofs.Ytdmoigompmeacaa.CondLeastLaw
