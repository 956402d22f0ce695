/- CondTells: the walk. Conditions: the sizes; the library's variable that errors.As reads. -/
import Derived.Test.YtdmoigompmeacaaDoorCondW
import Derived.Test.YtdmoigompmeacaaDoorCondCov
import Derived.Test.YtdmoigompmeacaaDoorErrOk
import Derived.Deep.DeepCutAuto
namespace Go.Proofs.YtdmoigompmeacaaDoor.CondTellsLaw
open Go.RowKit Ints Lists Vals Bools Cnd Owns
set_option linter.unusedVariables false

theorem bad_i {n i : Int} {l : List Bool} (h : condE n l = 0) (hi : ¬ (0 ≤ i ∧ i < n)) : matE n l i = 1 ∧ matV n l i = false ∧ paiE n l i = 1 ∧ paiA n l i = 0 ∧ paiB n l i = 0 := by
  have e : matE n l i = 1 := by unfold matE; rw [if_pos h, if_neg hi]
  have hp : parL n l i = -1 := by unfold parL; rw [if_neg (by rw [e]; decide)]
  refine ⟨e, ?_, ?_, ?_, ?_⟩
  · unfold matV; rw [hp]; rfl
  · unfold paiE; rw [if_neg (by rw [e]; decide), e]
  · unfold paiA; rw [if_pos hp]
  · unfold paiB; rw [if_pos hp]
theorem bad_n {n i : Int} {l : List Bool} (h : ¬ condE n l = 0) : matE n l i = condE n l ∧ matV n l i = false ∧ paiE n l i = condE n l ∧ paiA n l i = 0 ∧ paiB n l i = 0 := by
  have e : matE n l i = condE n l := matE_no h
  have hp : parL n l i = -1 := by unfold parL; rw [if_neg (by rw [e]; exact h)]
  refine ⟨e, ?_, ?_, ?_, ?_⟩
  · unfold matV; rw [hp]; rfl
  · unfold paiE; rw [if_neg (by rw [e]; exact h), e]
  · unfold paiA; rw [if_pos hp]
  · unfold paiB; rw [if_pos hp]
theorem good_i {m j : Nat} {l : List Bool} (h : condE m l = 0) (hj : j < m) (hp : firstP l.length (fOf l) anyB j = -1) : matE m l j = 0 ∧ matV m l j = false ∧ paiE m l j = 2 ∧ paiA m l j = 0 ∧ paiB m l j = 0 := by
  have e : matE m l j = 0 := mat_ok h hj
  have hq : parL m l j = -1 := by unfold parL; rw [if_pos e, Int.toNat_natCast, hp]
  refine ⟨e, ?_, ?_, ?_, ?_⟩
  · unfold matV; rw [hq]; rfl
  · unfold paiE; rw [if_pos e, if_pos hq]
  · unfold paiA; rw [if_pos hq]
  · unfold paiB; rw [if_pos hq]
theorem good_p {m j t : Nat} {l : List Bool} (h : condE m l = 0) (hj : j < m) (hp : firstP l.length (fOf l) anyB j = t) : matE m l j = 0 ∧ matV m l j = true ∧ paiE m l j = 0 ∧ paiA m l j = t ∧ paiB m l j = (t : Int) + ((2 ^ j : Nat) : Int) := by
  have e : matE m l j = 0 := mat_ok h hj
  have hq : parL m l j = t := by unfold parL; rw [if_pos e, Int.toNat_natCast, hp]
  have hn : ¬ parL m l j = -1 := by rw [hq]; omega
  refine ⟨e, ?_, ?_, ?_, ?_⟩
  · unfold matV; rw [decide_eq_true hn]
  · unfold paiE; rw [if_pos e, if_neg hn]
  · unfold paiA; rw [if_neg hn, hq]
  · unfold paiB; rw [if_neg hn, hq, Int.toNat_natCast]; simp
theorem cov_bad {n : Int} {l : List Bool} {ts : List Int} (h : condE n l = 0) (hb : ∃ k, k < ts.length ∧ ¬ (0 ≤ ts.getD k 0 ∧ ts.getD k 0 < l.length)) : covE n l ts = 1 ∧ covV n l ts = false := by
  obtain ⟨k, hk, hb⟩ := hb
  exact covE_bad h hk hb
theorem cov_in {l : List Bool} {ts : List Int} (hb : ∀ k, k < ts.length → 0 ≤ ts.getD k 0 ∧ ts.getD k 0 < l.length) : ∀ t ∈ ts, 0 ≤ t ∧ t < l.length := fun t ht => by
  obtain ⟨k, hk, rfl⟩ := List.mem_iff_getElem.1 ht
  have := hb k hk
  rwa [List.getD_eq_getElem?_getD, List.getElem?_eq_getElem hk] at this
/-- what is told of a pair, of a right condition and of a wrong one -/
theorem fault_is {n i : Int} {l : List Bool} : (condE n l = 0 ∧ ¬ (0 ≤ i ∧ i < n) → matE n l i = 1) ∧ (¬ (condE n l = 0 ∧ ¬ (0 ≤ i ∧ i < n)) → matE n l i = condE n l) := by
  refine ⟨fun h => (bad_i h.1 h.2).1, fun h => ?_⟩
  by_cases h0 : condE n l = 0
  · rw [h0]
    unfold matE
    rw [if_pos h0, if_pos]
    apply Classical.byContradiction
    intro hh
    exact h ⟨h0, hh⟩
  · exact (bad_n h0).1
theorem fault_no {n i : Int} {l : List Bool} (h : ¬ matE n l i = 0) : matV n l i = false ∧ paiE n l i = matE n l i ∧ paiA n l i = 0 ∧ paiB n l i = 0 := by
  by_cases h0 : condE n l = 0
  · by_cases hi : 0 ≤ i ∧ i < n
    · exfalso
      apply h
      unfold matE
      rw [if_pos h0, if_pos hi]
    · obtain ⟨g1, g2, g3, g4, g5⟩ := bad_i h0 hi
      exact ⟨g2, by rw [g3, g1], g4, g5⟩
  · obtain ⟨g1, g2, g3, g4, g5⟩ := bad_n (i := i) h0
    exact ⟨g2, by rw [g3, g1], g4, g5⟩

set_option maxHeartbeats 16000000 in
set_option maxRecDepth 100000 in
theorem walk (n : Int) (l : List Bool) (A : Option Addr) (c : Nat) (i : Int) (ts : List Int) (A2 : Option Addr) (c2 : Nat) (hbulk : l.length ≤ 1048576 ∧ ts.length ≤ 1048576) (w : World) (wn : (Lit.int .i64 n).wf = true) (hA : AtB w w.heap.size A l) (wi : (Lit.int .i64 i).wf = true) (hB : At w w.heap.size A2 ts) (hcap : ts.length ≤ c2) (hg : Told.Handle w) :
    Calls Tryd.prog 3 #[.int .i64 n, .slice A l.length c, .int .i64 i, .slice A2 ts.length c2] w fun e w' => e = .returned (.bool true) ∧ Below w.heap.size w w' := by
  obtain ⟨hl, ht⟩ := hbulk
  have HA := Lib.hid (fun (W : World) (hb : Below w.heap.size w W) => show AtB W W.heap.size A l from (hA.below hb).more hb.size)
  have HB := Lib.hid (fun (W : World) (hb : Below w.heap.size w W) => show At W W.heap.size A2 ts from (hB.below hb).more hb.size)
  have DC := Lib.hid decided_prog
  have FA := Lib.hid (fun (W : World) => fault_ok n A c l W (by omega))
  have CH := Lib.hid (fun (W : World) => check_ok n A c l W (by omega))
  have MA := Lib.hid (fun (W : World) (hb : Below w.heap.size w W) => show Calls Tryd.prog 11 #[.int .i64 n, .slice A l.length c, .int .i64 i] W fun e w' => e = .returned (.tuple #[.bool (matV n l i), errOf (matE n l i)]) ∧ Below W.heap.size W w' from matters_prog n i A c l W (by omega) (HA.out W hb))
  have PR := Lib.hid (fun (W : World) (hb : Below w.heap.size w W) => show Calls Tryd.prog 12 #[.int .i64 n, .slice A l.length c, .int .i64 i] W fun e w' => e = .returned (.tuple #[.int .i64 (paiA n l i), .int .i64 (paiB n l i), errOf (paiE n l i)]) ∧ Below W.heap.size W w' from pair_prog n i A c l W (by omega) (HA.out W hb))
  have CV := Lib.hid (fun (W : World) (hb : Below w.heap.size w W) => show Calls Tryd.prog 14 #[.int .i64 n, .slice A l.length c, .slice A2 ts.length c2] W fun e w' => e = .returned (.tuple #[.bool (covV n l ts), errOf (covE n l ts)]) ∧ Below W.heap.size W w' from covers_prog n A c l A2 c2 ts W (by omega) (by omega) (HA.out W hb) (HB.out W hb))
  have TS := Lib.hid (fun (W : World) (hb : Below w.heap.size w W) => show Calls Tryd.prog 15 #[.int .i64 n, .slice A l.length c] W fun e w' => ∃ (A : Option Addr) (c : Nat), e = .returned (.tuple #[.slice A (tesV n l).length c, errOf (condE n l)]) ∧ Below W.heap.size W w' from (tests_prog n A c l W (by omega) (HA.out W hb)).mono fun _ _ ⟨A, c, h1, _, h3⟩ => ⟨A, c, h1, h3⟩)
  have ER := Lib.hid (fun (f : Int) (W : World) (hb : Below w.heap.size w W) => err_ok f W (hg.below hb))
  clear wn wi hA hB hg hcap
  have tsi : (ts.length : Int) ≤ 1048576 := by omega
  go_enter Tryd.func3, Tryd.ntmps3
  go_wp2_with fail
  refine (DC.out w).mono ?_
  rintro e w1 ⟨rfl, hb1⟩
  have B1 := Lib.hid hb1
  have F1 := Lib.hid (FA.out w1)
  clear hb1 DC FA
  go_wp2_with fail
  ((with_reducible refine F1.out.mono ?_))
  rintro e w2 ⟨rfl, rfl⟩
  have C2 := Lib.hid (CH.out w2)
  clear F1 CH
  go_wp2_with fail
  ((with_reducible refine C2.out.mono ?_))
  rintro e w3 ⟨rfl, rfl⟩
  have E3 := Lib.hid (ER.out (condE n l) w3 B1.out)
  clear C2
  go_wp2_with fail
  ((with_reducible refine E3.out.mono ?_))
  rintro e w4 ⟨rfl, hb4⟩
  have B4 := Lib.hid (below_trans B1.out hb4)
  clear hb4 E3 B1
  have PO := Lib.hid (fun (h : matE n l i = 0) => show ∃ (j : Nat) (p : Int), i = j ∧ j < 6 ∧ -1 ≤ p ∧ p < 64 ∧ (p = -1 → matV n l i = false ∧ paiE n l i = 2 ∧ paiA n l i = 0 ∧ paiB n l i = 0) ∧ (∀ t : Nat, p = t → matV n l i = true ∧ paiE n l i = 0 ∧ paiA n l i = t ∧ paiB n l i = (t : Int) + ((2 ^ j : Nat) : Int)) ∧
      Calls Tryd.prog 10 #[.slice A l.length c, .int .i64 i] w4 fun e w' => e = .returned (.int .i64 p) ∧ ∃ n, w' = w4.drewN n by
    obtain ⟨m, j, rfl, rfl, h1, h6, hj, hl2, _⟩ := par_ok h
    have hc := matE_err h
    have hp6 := pow_small h1 h6
    obtain ⟨b, off, rfl, _, hlie⟩ := lie_at (HA.out w4 B4.out) (by omega)
    have hb := firstP_bound l.length (fOf l) anyB j
    exact ⟨j, _, rfl, by omega, hb.1, by omega, fun hp => (good_i hc hj hp).2, fun t hp => (good_p hc hj hp).2, pairof_ok hj h6 hl2 b off c w4 hlie⟩)
  have FI := Lib.hid (fault_is (n := n) (i := i) (l := l))
  have FN := Lib.hid (fault_no (n := n) (i := i) (l := l))
  have CO := Lib.hid (fun (h : covE n l ts = 0) (W : World) (hb : Below w.heap.size w W) => show Calls Tryd.prog 13 #[.int .i64 n, .slice A l.length c, .slice A2 ts.length c2] W fun e w' => e = .returned (.bool (covV n l ts)) ∧ ∃ n, w' = W.drewN n by
    obtain ⟨m, rfl, h1, h6, hl2⟩ := cond_ok (covE_err h)
    have hp6 := pow_small h1 h6
    obtain ⟨b, off, rfl, _, hlie⟩ := lie_at (HA.out W hb) (by omega)
    rw [covV_of rfl h]
    exact covof_ok h1 h6 hl2 b off c ts A2 c2 (covE_in h) (by omega) W hlie (HB.out W hb))
  have CB := Lib.hid (fun (h : condE n l = 0) hb => cov_bad (n := n) (l := l) (ts := ts) h hb)
  have CG := Lib.hid (fun (h : condE n l = 0) hb => show covE n l ts = 0 from covE_of h (cov_in hb))
  have CN := Lib.hid (fun (h : ¬ condE n l = 0) => covE_no (ts := ts) h)
  have CM := Lib.hid (fun (h : ¬ covE n l ts = 0) => covV_no h)
  have TN := Lib.hid (tesV_no (n := n) (l := l))
  generalize matE n l i = ge at *
  generalize matV n l i = mv at *
  generalize paiE n l i = he at *
  generalize paiA n l i = pa at *
  generalize paiB n l i = pb at *
  generalize condE n l = q at *
  generalize covE n l ts = ce at *
  generalize covV n l ts = cv at *
  obtain ⟨tz, HTZ⟩ : ∃ tz, Hid (tz = (tesV n l).length) := ⟨_, Lib.hid rfl⟩
  rw [← HTZ.out] at TS
  have TZ := Lib.hid (fun (h : ¬ q = 0) => show tz = 0 by rw [HTZ.out, TN.out h]; rfl)
  clear HTZ TN
  obtain ⟨bd, HBD⟩ : ∃ bd, Hid (bd = decide (q = 0 ∧ ¬ (0 ≤ i ∧ i < n))) := ⟨_, Lib.hid rfl⟩
  go_upto_region 5 with (fail)
  go_cut [51] (fun s wx => s = .bool bd ∧ w4 = wx)
  case first =>
    by_cases hq : q = 0
    · subst hq
      by_cases i0 : i < 0
      · have BE := Lib.hid (show bd = true by rw [HBD.out]; exact decide_eq_true ⟨rfl, by omega⟩)
        obtain rfl := BE.out
        go_wp2_with fail
        go_meet
        exact ⟨rfl, rfl⟩
      · by_cases i1 : i < n
        · have BE := Lib.hid (show bd = false by rw [HBD.out]; exact decide_eq_false (fun h => h.2 ⟨by omega, i1⟩))
          obtain rfl := BE.out
          have d1 : decide (n ≤ i) = false := decide_eq_false (by omega)
          go_wp2_with fail
          go_meet
          exact ⟨rfl, rfl⟩
        · have BE := Lib.hid (show bd = true by rw [HBD.out]; exact decide_eq_true ⟨rfl, by omega⟩)
          obtain rfl := BE.out
          go_wp2_with fail
          go_meet
          exact ⟨rfl, rfl⟩
    · have BE := Lib.hid (show bd = false by rw [HBD.out]; exact decide_eq_false (fun h => hq h.1))
      obtain rfl := BE.out
      have q1 : (q == 0) = false := by rw [beq_eq_false_iff_ne]; exact hq
      go_wp2_with fail
      go_meet
      exact ⟨rfl, rfl⟩
  case rest =>
    obtain ⟨rfl, rfl⟩ := hcut
    have GT := Lib.hid (show bd = true → ge = 1 from fun h => by rw [HBD.out] at h; exact FI.out.1 (of_decide_eq_true h))
    have GF := Lib.hid (show bd = false → ge = q from fun h => by rw [HBD.out] at h; exact FI.out.2 (of_decide_eq_false h))
    clear FI HBD
    go_upto_if 51 with (fail)
    go_cut [12] (fun s wx => s = .int .i64 ge ∧ w4 = wx)
    case first =>
      cases bd
      case true =>
        have GE := Lib.hid (GT.out rfl)
        obtain rfl := GE.out
        go_wp2_with fail
        go_meet
        exact ⟨rfl, rfl⟩
      case false =>
        have GE := Lib.hid (GF.out rfl)
        obtain rfl := GE.out
        go_wp2_with fail
        go_meet
        exact ⟨rfl, rfl⟩
    case rest =>
      obtain ⟨rfl, rfl⟩ := hcut
      clear GT GF
      go_upto_if 54 with (fail)
      go_cut [13, 14, 15, 16, 17] (fun s13 s14 s15 s16 s17 wx => s13 = .int .i64 he ∧ s14 = .int .i64 pa ∧ s15 = .int .i64 pb ∧ s16 = .bool mv ∧ Hid (∃ v, s17 = v) ∧ Hid (Below w.heap.size w wx))
      case first =>
        by_cases hge : ge = 0
        · subst hge
          obtain ⟨j, p, rfl, j6, p0, p1, PM, PG, hpo⟩ := PO.out rfl
          have PO2 := Lib.hid hpo
          have SH := Lib.hid (shl_bit j j6)
          have jj : (j : Int) < 6 := by omega
          clear hpo PO FN
          by_cases hp : p = -1
          · obtain ⟨g2, g3, g4, g5⟩ := PM hp
            subst hp
            subst g2
            subst g3
            subst g4
            subst g5
            clear PM PG SH
            go_wp2_with fail
            ((with_reducible refine PO2.out.mono ?_))
            rintro e w5 ⟨rfl, n5, rfl⟩
            have B5 := Lib.hid (below_trans B4.out (below_drewN w4 n5))
            clear PO2 B4
            generalize w4.drewN n5 = w5 at *
            go_wp2_with fail
            go_meet
            exact ⟨rfl, rfl, rfl, rfl, Lib.hid ⟨_, rfl⟩, B5.out⟩
          · obtain ⟨t, rfl⟩ : ∃ t : Nat, p = t := ⟨p.toNat, by omega⟩
            obtain ⟨g2, g3, g4, g5⟩ := PG t rfl
            obtain ⟨bt, hbt⟩ : ∃ bt : Nat, bt = 2 ^ j := ⟨_, rfl⟩
            rw [← hbt] at g5
            have W1 : wrap64 ((2 : Int) ^ j) = (bt : Int) := by rw [SH.out.1, hbt]
            have hbt32 : bt ≤ 32 := by rw [hbt]; exact SH.out.2
            subst g2
            subst g3
            subst g4
            subst g5
            clear PM PG SH hbt hp
            have bti : (bt : Int) ≤ 32 := by omega
            go_wp2_with fail
            ((with_reducible refine PO2.out.mono ?_))
            rintro e w5 ⟨rfl, n5, rfl⟩
            have B5 := Lib.hid (below_trans B4.out (below_drewN w4 n5))
            clear PO2 B4
            generalize w4.drewN n5 = w5 at *
            go_wp2_with fail
            go_meet
            exact ⟨rfl, rfl, rfl, rfl, Lib.hid ⟨_, rfl⟩, B5.out⟩
        · obtain ⟨g2, g3, g4, g5⟩ := FN.out hge
          have e1 : (ge == 0) = false := by rw [beq_eq_false_iff_ne]; exact hge
          subst g2
          subst g3
          subst g4
          subst g5
          go_wp2_with fail
          go_meet
          exact ⟨rfl, rfl, rfl, rfl, Lib.hid ⟨_, rfl⟩, B4.out⟩
      case rest =>
        obtain ⟨rfl, rfl, rfl, rfl, h17, hbc⟩ := hcut
        obtain ⟨w5, hw5⟩ : ∃ w5, w5 = wc := ⟨_, rfl⟩
        subst hw5
        have B5 := Lib.hid hbc.out
        clear h17 hbc PO FN B4
        have M5 := Lib.hid (MA.out w5 B5.out)
        clear MA
        go_wp2_with fail
        ((with_reducible refine M5.out.mono ?_))
        rintro e w6 ⟨rfl, hb6⟩
        have B6 := Lib.hid (below_trans B5.out hb6)
        have E6 := Lib.hid (ER.out ge w6 B6.out)
        clear hb6 M5 B5
        go_wp2_with fail
        ((with_reducible refine E6.out.mono ?_))
        rintro e w7 ⟨rfl, hb7⟩
        have B7 := Lib.hid (below_trans B6.out hb7)
        have P7 := Lib.hid (PR.out w7 B7.out)
        clear hb7 E6 B6 PR
        go_wp2_with fail
        ((with_reducible refine P7.out.mono ?_))
        rintro e w8 ⟨rfl, hb8⟩
        have B8 := Lib.hid (below_trans B7.out hb8)
        have E8 := Lib.hid (ER.out he w8 B8.out)
        clear hb8 P7 B7
        go_wp2_with fail
        ((with_reducible refine E8.out.mono ?_))
        rintro e w9 ⟨rfl, hb9⟩
        have B9 := Lib.hid (below_trans B8.out hb9)
        clear hb9 E8 B8
        go_wp2_with fail
        go_loopw [24, 25] (fun cv' kv wq => ∃ (k : Nat) (c1 : Int), k ≤ ts.length ∧ kv = .int .i64 k ∧ cv' = .int .i64 c1 ∧ Hid ((q = 0 ∧ c1 = 0 ∧ ∀ j, j < k → 0 ≤ ts.getD j 0 ∧ ts.getD j 0 < l.length) ∨ (¬ c1 = 0 ∧ c1 = ce)) ∧ Hid (Below w.heap.size w wq)) (fun _ kv _ => ts.length - (intOf kv).toNat)
        case atStart => exact ⟨0, q, Nat.zero_le _, rfl, rfl, Lib.hid (by
          by_cases hq : q = 0
          · exact .inl ⟨hq, hq, fun j h => by omega⟩
          · exact .inr ⟨hq, (CN.out hq).1.symm⟩), B9.out⟩
        case round =>
          clear B9
          obtain ⟨k, c1, hk, rfl, rfl, hce, hb⟩ := hrel
          by_cases hgo : c1 = 0 ∧ k < ts.length
          · obtain ⟨rfl, hkt⟩ := hgo
            obtain ⟨hq, AL⟩ : q = 0 ∧ Hid (∀ j, j < k → 0 ≤ ts.getD j 0 ∧ ts.getD j 0 < l.length) := by
              rcases hce.out with ⟨a1, _, a3⟩ | ⟨a1, _⟩
              · exact ⟨a1, a3⟩
              · exact absurd rfl a1
            have hki : (k : Int) < ts.length := by omega
            obtain ⟨b2, o2, hA2, _, hc2⟩ := HB.out wr hb.out (by omega)
            have c1 : wr.cell? ⟨b2, o2 + k, none⟩ = some (.int .i64 (ts.getD k 0)) := hc2 k hkt
            have GB := Lib.hid (fun (h : ¬ (0 ≤ ts.getD k 0 ∧ ts.getD k 0 < l.length)) => show (1 : Int) = ce from (CB.out hq ⟨k, hkt, h⟩).1.symm)
            have GA := Lib.hid (fun (h : 0 ≤ ts.getD k 0 ∧ ts.getD k 0 < l.length) j (hj : j < k + 1) => show 0 ≤ ts.getD j 0 ∧ ts.getD j 0 < l.length by
              by_cases e : j = k
              · subst e; exact h
              · exact AL.out j (by omega))
            have HQ := Lib.hid hq
            subst hA2
            clear hc2 AL hq hce
            generalize ts.getD k 0 = x at *
            by_cases x0 : x < 0
            · have GC := Lib.hid (GB.out (by omega))
              clear GA GB
              go_wp2_with fail
              go_roundw
              case rel => exact ⟨k + 1, 1, by omega, by go_num, rfl, Lib.hid (.inr ⟨by decide, GC.out⟩), hb.out⟩
              case measure => simp [intOf]; omega
            · by_cases xl : x < l.length
              · have GC := Lib.hid (GA.out (by omega))
                clear GA GB
                go_wp2_with fail
                go_roundw
                case rel => exact ⟨k + 1, 0, by omega, by go_num, rfl, Lib.hid (.inl ⟨HQ.out, rfl, GC.out⟩), hb.out⟩
                case measure => simp [intOf]; omega
              · have GC := Lib.hid (GB.out (by omega))
                clear GA GB
                go_wp2_with fail
                go_roundw
                case rel => exact ⟨k + 1, 1, by omega, by go_num, rfl, Lib.hid (.inr ⟨by decide, GC.out⟩), hb.out⟩
                case measure => simp [intOf]; omega
          · have CE := Lib.hid (show c1 = ce by
              rcases hce.out with ⟨a1, a2, a3⟩ | ⟨_, a2⟩
              · rw [a2, CG.out a1 (fun j hj => a3 j (by have : ¬ k < ts.length := fun h => hgo ⟨a2, h⟩; omega))]
              · exact a2)
            have BR := Lib.hid hb.out
            clear hce hb CB CG CN
            obtain rfl := CE.out
            have HGO := Lib.hid hgo
            clear hgo CE
            by_cases hc1 : c1 = 0
            · subst hc1
              have hkk : ¬ k < ts.length := fun h => HGO.out ⟨rfl, h⟩
              obtain rfl : k = ts.length := by omega
              have CO2 := Lib.hid (CO.out rfl wr BR.out)
              clear CO HGO hkk CM
              go_wp2_with fail
              ((with_reducible refine CO2.out.mono ?_))
              rintro e wa ⟨rfl, na, rfl⟩
              have BA := Lib.hid (below_trans BR.out (below_drewN wr na))
              clear CO2 BR
              generalize wr.drewN na = wa at *
              have C10 := Lib.hid (CV.out wa BA.out)
              clear CV
              go_wp2_with fail
              ((with_reducible refine C10.out.mono ?_))
              rintro e wb ⟨rfl, hbb⟩
              have BB := Lib.hid (below_trans BA.out hbb)
              have EB := Lib.hid (ER.out 0 wb BB.out)
              clear hbb C10 BA
              go_wp2_with fail
              ((with_reducible refine EB.out.mono ?_))
              rintro e wc ⟨rfl, hbc⟩
              have BC := Lib.hid (below_trans BB.out hbc)
              have TC := Lib.hid (TS.out wc BC.out)
              clear hbc EB BB TS
              go_wp2_with fail
              ((with_reducible refine TC.out.mono ?_))
              rintro e wd ⟨Ad, cd, rfl, hbd⟩
              have BD := Lib.hid (below_trans BC.out hbd)
              have ED := Lib.hid (ER.out q wd BD.out)
              clear hbd TC BC
              go_wp2_with fail
              ((with_reducible refine ED.out.mono ?_))
              rintro e we ⟨rfl, hbe⟩
              have BE := Lib.hid (below_trans BD.out hbe)
              clear hbe ED BD ER
              by_cases hq : q = 0
              · subst hq
                clear TZ
                cases mv <;> cases cv
                all_goals (
                  go_wp2_with fail
                  go_ret
                  exact ⟨ret_b (by simp), BE.out⟩)
              · have q1 : (q == 0) = false := by rw [beq_eq_false_iff_ne]; exact hq
                have TE := Lib.hid (TZ.out hq)
                obtain rfl := TE.out
                clear TZ TE
                cases mv <;> cases cv
                all_goals (
                  go_wp2_with fail
                  go_ret
                  exact ⟨ret_b (by simp), BE.out⟩)
            · have CX := Lib.hid (CM.out hc1)
              obtain rfl := CX.out
              have c0 : (c1 == 0) = false := by rw [beq_eq_false_iff_ne]; exact hc1
              have C10 := Lib.hid (CV.out wr BR.out)
              have BA := Lib.hid BR.out
              clear CO HGO CM CX CV BR
              go_wp2_with fail
              ((with_reducible refine C10.out.mono ?_))
              rintro e wb ⟨rfl, hbb⟩
              have BB := Lib.hid (below_trans BA.out hbb)
              have EB := Lib.hid (ER.out c1 wb BB.out)
              clear hbb C10 BA
              go_wp2_with fail
              ((with_reducible refine EB.out.mono ?_))
              rintro e wc ⟨rfl, hbc⟩
              have BC := Lib.hid (below_trans BB.out hbc)
              have TC := Lib.hid (TS.out wc BC.out)
              clear hbc EB BB TS
              go_wp2_with fail
              ((with_reducible refine TC.out.mono ?_))
              rintro e wd ⟨Ad, cd, rfl, hbd⟩
              have BD := Lib.hid (below_trans BC.out hbd)
              have ED := Lib.hid (ER.out q wd BD.out)
              clear hbd TC BC
              go_wp2_with fail
              ((with_reducible refine ED.out.mono ?_))
              rintro e we ⟨rfl, hbe⟩
              have BE := Lib.hid (below_trans BD.out hbe)
              clear hbe ED BD ER
              by_cases hq : q = 0
              · subst hq
                clear TZ
                cases mv
                all_goals (
                  go_wp2_with fail
                  go_ret
                  exact ⟨ret_b (by simp), BE.out⟩)
              · have q1 : (q == 0) = false := by rw [beq_eq_false_iff_ne]; exact hq
                have TE := Lib.hid (TZ.out hq)
                obtain rfl := TE.out
                clear TZ TE
                cases mv
                all_goals (
                  go_wp2_with fail
                  go_ret
                  exact ⟨ret_b (by simp), BE.out⟩)
end Go.Proofs.YtdmoigompmeacaaDoor.CondTellsLaw
