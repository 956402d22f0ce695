/- RunsTell, part 33 of the proof: Contracts of the document's own PartFault and GenFault. Condition: the size. -/
import Derived.Test.YtabkihellcflhaaGreatDoorRunsTellZ32
/- Contracts of the document's own PartFault and GenFault. Condition: the size. -/
namespace Go.Proofs.YtabkihellcflhaaGreatDoor.Gens
open Go.RowKit Lists Ints
set_option linter.unusedVariables false

theorem far_any (x : Int) (h : I64 x) (w : World) : Calls Tryz.prog 46 #[.int .i64 x] w fun e w' => e = .returned (.bool (farB x)) ∧ w = w' := by
  obtain ⟨h1, h2⟩ := h
  by_cases a : x < -1073741824
  · have g : decide (x < -1073741824) = true := by rw [decide_eq_true_eq]; exact a
    have HV := Lib.hid (show farB x = true by unfold farB; rw [g]; rfl)
    go_enter Tryz.func46, Tryz.ntmps46
    go_wp2
    go_ret
    exact ⟨ret_b HV.out.symm, rfl⟩
  · have g : decide (x < -1073741824) = false := by rw [decide_eq_false_iff_not]; exact a
    have HV := Lib.hid (show farB x = decide (1073741824 < x) by unfold farB; rw [g]; rfl)
    go_enter Tryz.func46, Tryz.ntmps46
    go_wp2
    go_ret
    exact ⟨ret_b HV.out.symm, rfl⟩
theorem far_not {x : Int} (h : farB x = false) : -1073741824 ≤ x ∧ x ≤ 1073741824 := by
  simp only [farB, Bool.or_eq_false_iff] at h
  have := of_decide_eq_false h.1
  have := of_decide_eq_false h.2
  omega

set_option maxHeartbeats 8000000 in
set_option maxRecDepth 100000 in
theorem part_any : ∀ (n : Nat) (t : Gn) (v : Value) (B : Nat) (w : World), GAt w (GBel B) n v t → B ≤ w.heap.size → t.size ≤ 4294967296 →
    Calls Tryz.prog 22 #[v] w fun e w' => e = .returned (.int .i64 (partV t)) ∧ Below w.heap.size w w' := by
  intro n
  induction n with
  | zero => intro t v B w h; exact h.elim
  | succ n ih =>
    intro t v B w h hB hsz
    obtain ⟨m, A, c, e, hw, rfl, hit⟩ := h.open_
    obtain rfl : n = m := by omega
    have IH := Lib.hid ih
    have HIT := Lib.hid hit
    have HB := Lib.hid hB
    have HS := Lib.hid hsz
    have hln : t.subs.length ≤ 4294967296 := by have := glen_sizes t.subs; have := gsize_subs t; omega
    have EQ := Lib.hid (partV_eq t)
    have H0 : Below w.heap.size w (w.alloc (gc t A c)) := (Below.refl _ _).alloc (Nat.le_refl _) _
    have H0 := Lib.hid H0
    have SB := Lib.hid (gsize_subs t)
    obtain ⟨w1, w2, w3⟩ := hw
    obtain ⟨k1, k2⟩ := i64_wf w1
    have IA := Lib.hid (i64_wf w2)
    have IB := Lib.hid (i64_wf w3)
    clear ih hit h hB hsz e w1 w2 w3
    cases t with | node k a b subs =>
    simp only [Gn.kind, Gn.a, Gn.b, Gn.subs] at *
    change Calls Tryz.prog 22 #[.agg #[.int .i64 k, .int .i64 a, .int .i64 b, .slice A subs.length c]] w _
    have KB : kindBad (.node k a b subs) = (decide (k < 1) || decide (5 < k)) := rfl
    have RB : rangeBad (.node k a b subs) = ((k == 1 && farB a) || (k == 2 && (farB a || farB b || decide (b < a) || decide (1000 < b - a))) || (k == 4 && (decide (a < 0) || decide (5 < a)))) := rfl
    have SU : subsBad (.node k a b subs) = ((decide (k ≤ 2) && !subs.isEmpty) || (k == 4 && (subs.length != 1)) || (k == 5 && subs.isEmpty)) := rfl
    have FA := Lib.hid (fun w => far_any a IA.out w)
    have FB := Lib.hid (fun w => far_any b IB.out w)
    obtain ⟨a1, a2⟩ := IA.out
    obtain ⟨b1, b2⟩ := IB.out
    by_cases hk : 1 ≤ k ∧ k ≤ 5
    · have EQ := Lib.hid (show partV (.node k a b subs) = if rangeBad (.node k a b subs) = true then 1 else if subsBad (.node k a b subs) = true then 3 else partVs subs by
        have e1 : kindBad (.node k a b subs) = false := by rw [KB, Bool.or_eq_false_iff, decide_eq_false_iff_not, decide_eq_false_iff_not]; omega
        have := EQ.out
        rw [e1] at this
        simpa using this)
      have hEQ := EQ
      have HRB := Lib.hid RB
      have HSU := Lib.hid SU
      clear KB RB SU EQ
      rcases (show k = 1 ∨ k = 2 ∨ k = 3 ∨ k = 4 ∨ k = 5 by omega) with rfl | rfl | rfl | rfl | rfl
      · rcases hfa : farB a with _ | _
        · rw [hfa] at FA
          by_cases hs : subs = []
          · subst hs
            have EV := Lib.hid (show partV (.node 1 a b []) = partVs [] by
              have h1 := hEQ.out
              have h2 := HRB.out
              have h3 := HSU.out
              simp [hfa] at h2 h3
              simpa [h2, h3] using h1)
            go_enter Tryz.func22, Tryz.ntmps22
            go_wp2_with fail
            refine (FA.out _).mono ?_
            rintro e w9 ⟨rfl, rfl⟩
            go_wp2_with fail
            refine wp_loop_rounds 1 ?_
            rw [rounds_succ]
            go_wp2_with fail
            go_ret
            exact ⟨ret_v (a := .int .i64 0) (by rw [EV.out]; rfl), H0.out⟩
          · have hp : 0 < subs.length := List.length_pos_iff.2 hs
            have hi : subs.isEmpty = false := by cases subs with | nil => exact absurd rfl hs | cons _ _ => rfl
            have l1 : decide (0 < (subs.length : Int)) = true := by rw [decide_eq_true_eq]; omega
            have l2 : decide (0 < subs.length) = true := by rw [decide_eq_true_eq]; omega
            have EV := Lib.hid (show partV (.node 1 a b subs) = 3 by
              have h1 := hEQ.out
              have h2 := HRB.out
              have h3 := HSU.out
              simp [hfa, hi] at h2 h3
              simpa [h2, h3] using h1)
            clear hs
            go_enter Tryz.func22, Tryz.ntmps22
            go_wp2_with fail
            refine (FA.out _).mono ?_
            rintro e w9 ⟨rfl, rfl⟩
            go_wp2_with fail
            go_ret
            exact ⟨ret_int EV.out.symm, H0.out⟩
        · rw [hfa] at FA
          have EV := Lib.hid (show partV (.node 1 a b subs) = 1 by
            have h1 := hEQ.out
            have h2 := HRB.out
            have h3 := HSU.out
            simp [hfa] at h2
            simpa [h2] using h1)
          go_enter Tryz.func22, Tryz.ntmps22
          go_wp2_with fail
          refine (FA.out _).mono ?_
          rintro e w9 ⟨rfl, rfl⟩
          go_wp2_with fail
          go_ret
          exact ⟨ret_int EV.out.symm, H0.out⟩
      · rcases hfa : farB a with _ | _
        · rw [hfa] at FA
          obtain ⟨f1, f2⟩ := far_not hfa
          rcases hfb : farB b with _ | _
          · rw [hfb] at FB
            obtain ⟨f3, f4⟩ := far_not hfb
            by_cases hba : b < a
            · have d1 : decide (b < a) = true := by rw [decide_eq_true_eq]; exact hba
              have EV := Lib.hid (show partV (.node 2 a b subs) = 1 by
                have h1 := hEQ.out
                have h2 := HRB.out
                have h3 := HSU.out
                simp [hfa, hfb, hba] at h2
                simpa [h2] using h1)
              clear hba
              go_enter Tryz.func22, Tryz.ntmps22
              go_wp2_with fail
              refine (FA.out _).mono ?_
              rintro e w9 ⟨rfl, rfl⟩
              go_wp2_with fail
              refine (FB.out _).mono ?_
              rintro e w9 ⟨rfl, rfl⟩
              go_wp2_with fail
              go_ret
              exact ⟨ret_int EV.out.symm, H0.out⟩
            · have d1 : decide (b < a) = false := by rw [decide_eq_false_iff_not]; exact hba
              by_cases hsp : 1000 < b - a
              · have d2 : decide (1000 < b - a) = true := by rw [decide_eq_true_eq]; exact hsp
                have EV := Lib.hid (show partV (.node 2 a b subs) = 1 by
                  have h1 := hEQ.out
                  have h2 := HRB.out
                  have h3 := HSU.out
                  simp [hfa, hfb, hsp] at h2
                  simpa [h2] using h1)
                clear hba hsp
                go_enter Tryz.func22, Tryz.ntmps22
                go_wp2_with fail
                refine (FA.out _).mono ?_
                rintro e w9 ⟨rfl, rfl⟩
                go_wp2_with fail
                refine (FB.out _).mono ?_
                rintro e w9 ⟨rfl, rfl⟩
                go_wp2_with fail
                go_ret
                exact ⟨ret_int EV.out.symm, H0.out⟩
              · have d2 : decide (1000 < b - a) = false := by rw [decide_eq_false_iff_not]; exact hsp
                by_cases hs : subs = []
                · subst hs
                  have EV := Lib.hid (show partV (.node 2 a b []) = partVs [] by
                    have h1 := hEQ.out
                    have h2 := HRB.out
                    have h3 := HSU.out
                    simp [hfa, hfb, d1, d2] at h2 h3
                    simpa [h2, h3] using h1)
                  go_enter Tryz.func22, Tryz.ntmps22
                  go_wp2_with fail
                  refine (FA.out _).mono ?_
                  rintro e w9 ⟨rfl, rfl⟩
                  go_wp2_with fail
                  refine (FB.out _).mono ?_
                  rintro e w9 ⟨rfl, rfl⟩
                  go_wp2_with fail
                  refine wp_loop_rounds 1 ?_
                  rw [rounds_succ]
                  go_wp2_with fail
                  go_ret
                  exact ⟨ret_v (a := .int .i64 0) (by rw [EV.out]; rfl), H0.out⟩
                · have hp : 0 < subs.length := List.length_pos_iff.2 hs
                  have hi : subs.isEmpty = false := by cases subs with | nil => exact absurd rfl hs | cons _ _ => rfl
                  have l1 : decide (0 < (subs.length : Int)) = true := by rw [decide_eq_true_eq]; omega
                  have l2 : decide (0 < subs.length) = true := by rw [decide_eq_true_eq]; omega
                  have EV := Lib.hid (show partV (.node 2 a b subs) = 3 by
                    have h1 := hEQ.out
                    have h2 := HRB.out
                    have h3 := HSU.out
                    simp [hfa, hfb, d1, d2, hi] at h2 h3
                    simpa [h2, h3] using h1)
                  clear hs
                  go_enter Tryz.func22, Tryz.ntmps22
                  go_wp2_with fail
                  refine (FA.out _).mono ?_
                  rintro e w9 ⟨rfl, rfl⟩
                  go_wp2_with fail
                  refine (FB.out _).mono ?_
                  rintro e w9 ⟨rfl, rfl⟩
                  go_wp2_with fail
                  go_ret
                  exact ⟨ret_int EV.out.symm, H0.out⟩
          · rw [hfb] at FB
            have EV := Lib.hid (show partV (.node 2 a b subs) = 1 by
              have h1 := hEQ.out
              have h2 := HRB.out
              have h3 := HSU.out
              simp [hfa, hfb] at h2
              simpa [h2] using h1)
            go_enter Tryz.func22, Tryz.ntmps22
            go_wp2_with fail
            refine (FA.out _).mono ?_
            rintro e w9 ⟨rfl, rfl⟩
            go_wp2_with fail
            refine (FB.out _).mono ?_
            rintro e w9 ⟨rfl, rfl⟩
            go_wp2_with fail
            go_ret
            exact ⟨ret_int EV.out.symm, H0.out⟩
        · rw [hfa] at FA
          have EV := Lib.hid (show partV (.node 2 a b subs) = 1 by
            have h1 := hEQ.out
            have h2 := HRB.out
            have h3 := HSU.out
            simp [hfa] at h2
            simpa [h2] using h1)
          go_enter Tryz.func22, Tryz.ntmps22
          go_wp2_with fail
          refine (FA.out _).mono ?_
          rintro e w9 ⟨rfl, rfl⟩
          go_wp2_with fail
          go_ret
          exact ⟨ret_int EV.out.symm, H0.out⟩
      · have EV := Lib.hid (show partV (.node 3 a b subs) = partVs subs by
          have h1 := hEQ.out
          have h2 := HRB.out
          have h3 := HSU.out
          simp at h2 h3
          simpa [h2, h3] using h1)
        go_enter Tryz.func22, Tryz.ntmps22
        go_wp2_with fail
        go_loopw [3] (fun i wr => ∃ k : Nat, k ≤ subs.length ∧ i = .int .i64 k ∧ Below (w.alloc (.cells #[.int .i64 3, .int .i64 a, .int .i64 b, .slice A subs.length c] 24)).heap.size (w.alloc (.cells #[.int .i64 3, .int .i64 a, .int .i64 b, .slice A subs.length c] 24)) wr ∧ Hid (partVs (subs.take k) = 0)) (fun i _ => subs.length - (intOf i).toNat)
        case atStart => exact ⟨0, Nat.zero_le _, rfl, Below.refl _ _, (show partVs (subs.take 0) = 0 from rfl)⟩
        case round =>
          obtain ⟨k, hk, rfl, hb, hz⟩ := hrel
          obtain ⟨_, _, _, cb⟩ := gbox w wr _ _ _ _ hb
          have HWW := Lib.hid (on H0.out hb)
          have HBW := Lib.hid hb
          clear hb
          by_cases hlt : k < subs.length
          · obtain ⟨ib, off, D, d, rfl, c0, c1, c2, c3, hti⟩ := sub_as HIT.out (HWW.out.mono HB.out) k hlt
            have hsi : (subs[k]'hlt).size ≤ 4294967296 := by have := gsize_mem subs _ (List.getElem_mem hlt); have h3 := HS.out; have h4 := SB.out; omega
            have C1 := IH.out (subs[k]'hlt) _ B wr hti (Nat.le_trans HB.out HWW.out.size) hsi
            clear hti hsi
            by_cases hf : partV (subs[k]'hlt) = 0
            · have hz2 := Lib.hid (part_step0 subs k hlt hz.out hf)
              rw [hf] at C1
              have HC1 := Lib.hid C1
              clear C1 hf
              generalize subs[k]'hlt = y at HC1 c0 c1 c2 c3
              go_wp2_with fail
              refine HC1.out.mono ?_
              rintro e w2 ⟨rfl, hb2⟩
              have B2 := Lib.hid (on HBW.out hb2)
              clear hb2
              go_wp2_with fail
              go_roundw
              case rel => exact ⟨k + 1, hlt, by go_num, B2.out, hz2.out⟩
              case measure => simp [intOf]; omega
            · have hr := Lib.hid (part_step1 subs k hlt hz.out hf)
              have hne : (partV (subs[k]'hlt) != 0) = true := by rw [bne_iff_ne]; exact hf
              generalize partV (subs[k]'hlt) = q at C1 hr hne
              have HC1 := Lib.hid C1
              clear C1 hf
              generalize subs[k]'hlt = y at HC1 c0 c1 c2 c3
              go_wp2_with fail
              refine HC1.out.mono ?_
              rintro e w2 ⟨rfl, hb2⟩
              have B2 := Lib.hid (on HWW.out hb2)
              clear hb2
              go_wp2_with fail
              go_ret
              exact ⟨ret_v (a := .int .i64 q) (by rw [EV.out, hr.out]), B2.out⟩
          · have hr := Lib.hid (show partVs subs = 0 by rw [← List.take_of_length_le (show subs.length ≤ k by omega)]; exact hz.out)
            go_wp2_with fail
            go_ret
            exact ⟨ret_v (a := .int .i64 0) (by rw [EV.out, hr.out]), HWW.out⟩
      · by_cases ha0 : a < 0
        · have d1 : decide (a < 0) = true := by rw [decide_eq_true_eq]; exact ha0
          have EV := Lib.hid (show partV (.node 4 a b subs) = 1 by
            have h1 := hEQ.out
            have h2 := HRB.out
            have h3 := HSU.out
            simp [ha0] at h2
            simpa [h2] using h1)
          clear ha0
          go_enter Tryz.func22, Tryz.ntmps22
          go_wp2_with fail
          go_ret
          exact ⟨ret_int EV.out.symm, H0.out⟩
        · have d1 : decide (a < 0) = false := by rw [decide_eq_false_iff_not]; exact ha0
          by_cases ha5 : 5 < a
          · have d2 : decide (5 < a) = true := by rw [decide_eq_true_eq]; exact ha5
            have EV := Lib.hid (show partV (.node 4 a b subs) = 1 by
              have h1 := hEQ.out
              have h2 := HRB.out
              have h3 := HSU.out
              simp [ha5] at h2
              simpa [h2] using h1)
            clear ha0 ha5
            go_enter Tryz.func22, Tryz.ntmps22
            go_wp2_with fail
            go_ret
            exact ⟨ret_int EV.out.symm, H0.out⟩
          · have d2 : decide (5 < a) = false := by rw [decide_eq_false_iff_not]; exact ha5
            by_cases hl1 : subs.length = 1
            · have n1 : ((subs.length : Int) != 1) = false := by rw [bne_eq_false_iff_eq]; omega
              have EV := Lib.hid (show partV (.node 4 a b subs) = partVs subs by
                have h1 := hEQ.out
                have h2 := HRB.out
                have h3 := HSU.out
                simp [d1, d2, hl1] at h2 h3
                simpa [h2, h3] using h1)
              have HL1 := Lib.hid hl1
              clear ha0 ha5 hl1
              go_enter Tryz.func22, Tryz.ntmps22
              go_wp2_with fail
              go_loopw [3] (fun i wr => ∃ k : Nat, k ≤ subs.length ∧ i = .int .i64 k ∧ Below (w.alloc (.cells #[.int .i64 4, .int .i64 a, .int .i64 b, .slice A subs.length c] 24)).heap.size (w.alloc (.cells #[.int .i64 4, .int .i64 a, .int .i64 b, .slice A subs.length c] 24)) wr ∧ Hid (partVs (subs.take k) = 0)) (fun i _ => subs.length - (intOf i).toNat)
              case atStart => exact ⟨0, Nat.zero_le _, rfl, Below.refl _ _, (show partVs (subs.take 0) = 0 from rfl)⟩
              case round =>
                obtain ⟨k, hk, rfl, hb, hz⟩ := hrel
                obtain ⟨_, _, _, cb⟩ := gbox w wr _ _ _ _ hb
                have HWW := Lib.hid (on H0.out hb)
                have HBW := Lib.hid hb
                clear hb
                by_cases hlt : k < subs.length
                · obtain ⟨ib, off, D, d, rfl, c0, c1, c2, c3, hti⟩ := sub_as HIT.out (HWW.out.mono HB.out) k hlt
                  have hsi : (subs[k]'hlt).size ≤ 4294967296 := by have := gsize_mem subs _ (List.getElem_mem hlt); have h3 := HS.out; have h4 := SB.out; omega
                  have C1 := IH.out (subs[k]'hlt) _ B wr hti (Nat.le_trans HB.out HWW.out.size) hsi
                  clear hti hsi
                  by_cases hf : partV (subs[k]'hlt) = 0
                  · have hz2 := Lib.hid (part_step0 subs k hlt hz.out hf)
                    rw [hf] at C1
                    have HC1 := Lib.hid C1
                    clear C1 hf
                    generalize subs[k]'hlt = y at HC1 c0 c1 c2 c3
                    go_wp2_with fail
                    refine HC1.out.mono ?_
                    rintro e w2 ⟨rfl, hb2⟩
                    have B2 := Lib.hid (on HBW.out hb2)
                    clear hb2
                    go_wp2_with fail
                    go_roundw
                    case rel => exact ⟨k + 1, hlt, by go_num, B2.out, hz2.out⟩
                    case measure => simp [intOf]; omega
                  · have hr := Lib.hid (part_step1 subs k hlt hz.out hf)
                    have hne : (partV (subs[k]'hlt) != 0) = true := by rw [bne_iff_ne]; exact hf
                    generalize partV (subs[k]'hlt) = q at C1 hr hne
                    have HC1 := Lib.hid C1
                    clear C1 hf
                    generalize subs[k]'hlt = y at HC1 c0 c1 c2 c3
                    go_wp2_with fail
                    refine HC1.out.mono ?_
                    rintro e w2 ⟨rfl, hb2⟩
                    have B2 := Lib.hid (on HWW.out hb2)
                    clear hb2
                    go_wp2_with fail
                    go_ret
                    exact ⟨ret_v (a := .int .i64 q) (by rw [EV.out, hr.out]), B2.out⟩
                · have hr := Lib.hid (show partVs subs = 0 by rw [← List.take_of_length_le (show subs.length ≤ k by omega)]; exact hz.out)
                  go_wp2_with fail
                  go_ret
                  exact ⟨ret_v (a := .int .i64 0) (by rw [EV.out, hr.out]), HWW.out⟩
            · have n1 : ((subs.length : Int) != 1) = true := by rw [bne_iff_ne]; omega
              have EV := Lib.hid (show partV (.node 4 a b subs) = 3 by
                have h1 := hEQ.out
                have h2 := HRB.out
                have h3 := HSU.out
                simp [d1, d2] at h2 h3
                simpa [h2, h3, hl1] using h1)
              clear ha0 ha5 hl1
              go_enter Tryz.func22, Tryz.ntmps22
              go_wp2_with fail
              go_ret
              exact ⟨ret_int EV.out.symm, H0.out⟩
      · by_cases hs : subs = []
        · subst hs
          have EV := Lib.hid (show partV (.node 5 a b []) = 3 by
            have h1 := hEQ.out
            have h2 := HRB.out
            have h3 := HSU.out
            simp at h2 h3
            simpa [h2, h3] using h1)
          go_enter Tryz.func22, Tryz.ntmps22
          go_wp2_with fail
          go_ret
          exact ⟨ret_int EV.out.symm, H0.out⟩
        · have hp : 0 < subs.length := List.length_pos_iff.2 hs
          have hi : subs.isEmpty = false := by cases subs with | nil => exact absurd rfl hs | cons _ _ => rfl
          have n1 : ((subs.length : Int) == 0) = false := by rw [beq_eq_false_iff_ne]; omega
          have EV := Lib.hid (show partV (.node 5 a b subs) = partVs subs by
            have h1 := hEQ.out
            have h2 := HRB.out
            have h3 := HSU.out
            simp [hi] at h2 h3
            simpa [h2, h3] using h1)
          clear hs
          go_enter Tryz.func22, Tryz.ntmps22
          go_wp2_with fail
          go_loopw [3] (fun i wr => ∃ k : Nat, k ≤ subs.length ∧ i = .int .i64 k ∧ Below (w.alloc (.cells #[.int .i64 5, .int .i64 a, .int .i64 b, .slice A subs.length c] 24)).heap.size (w.alloc (.cells #[.int .i64 5, .int .i64 a, .int .i64 b, .slice A subs.length c] 24)) wr ∧ Hid (partVs (subs.take k) = 0)) (fun i _ => subs.length - (intOf i).toNat)
          case atStart => exact ⟨0, Nat.zero_le _, rfl, Below.refl _ _, (show partVs (subs.take 0) = 0 from rfl)⟩
          case round =>
            obtain ⟨k, hk, rfl, hb, hz⟩ := hrel
            obtain ⟨_, _, _, cb⟩ := gbox w wr _ _ _ _ hb
            have HWW := Lib.hid (on H0.out hb)
            have HBW := Lib.hid hb
            clear hb
            by_cases hlt : k < subs.length
            · obtain ⟨ib, off, D, d, rfl, c0, c1, c2, c3, hti⟩ := sub_as HIT.out (HWW.out.mono HB.out) k hlt
              have hsi : (subs[k]'hlt).size ≤ 4294967296 := by have := gsize_mem subs _ (List.getElem_mem hlt); have h3 := HS.out; have h4 := SB.out; omega
              have C1 := IH.out (subs[k]'hlt) _ B wr hti (Nat.le_trans HB.out HWW.out.size) hsi
              clear hti hsi
              by_cases hf : partV (subs[k]'hlt) = 0
              · have hz2 := Lib.hid (part_step0 subs k hlt hz.out hf)
                rw [hf] at C1
                have HC1 := Lib.hid C1
                clear C1 hf
                generalize subs[k]'hlt = y at HC1 c0 c1 c2 c3
                go_wp2_with fail
                refine HC1.out.mono ?_
                rintro e w2 ⟨rfl, hb2⟩
                have B2 := Lib.hid (on HBW.out hb2)
                clear hb2
                go_wp2_with fail
                go_roundw
                case rel => exact ⟨k + 1, hlt, by go_num, B2.out, hz2.out⟩
                case measure => simp [intOf]; omega
              · have hr := Lib.hid (part_step1 subs k hlt hz.out hf)
                have hne : (partV (subs[k]'hlt) != 0) = true := by rw [bne_iff_ne]; exact hf
                generalize partV (subs[k]'hlt) = q at C1 hr hne
                have HC1 := Lib.hid C1
                clear C1 hf
                generalize subs[k]'hlt = y at HC1 c0 c1 c2 c3
                go_wp2_with fail
                refine HC1.out.mono ?_
                rintro e w2 ⟨rfl, hb2⟩
                have B2 := Lib.hid (on HWW.out hb2)
                clear hb2
                go_wp2_with fail
                go_ret
                exact ⟨ret_v (a := .int .i64 q) (by rw [EV.out, hr.out]), B2.out⟩
            · have hr := Lib.hid (show partVs subs = 0 by rw [← List.take_of_length_le (show subs.length ≤ k by omega)]; exact hz.out)
              go_wp2_with fail
              go_ret
              exact ⟨ret_v (a := .int .i64 0) (by rw [EV.out, hr.out]), HWW.out⟩
    · have EV := Lib.hid (show partV (.node k a b subs) = 3 by
        have e1 : kindBad (.node k a b subs) = true := by rw [KB, Bool.or_eq_true, decide_eq_true_eq, decide_eq_true_eq]; omega
        have := EQ.out
        rw [e1] at this
        simpa using this)
      clear KB RB SU EQ
      rcases (show k < 1 ∨ (¬ k < 1 ∧ 5 < k) by omega) with g | ⟨g, g'⟩
      · have e1 : decide (k < 1) = true := by rw [decide_eq_true_eq]; exact g
        clear hk g
        go_enter Tryz.func22, Tryz.ntmps22
        go_wp2_with fail
        go_ret
        exact ⟨ret_int EV.out.symm, H0.out⟩
      · have e1 : decide (k < 1) = false := by rw [decide_eq_false_iff_not]; exact g
        have e2 : decide (5 < k) = true := by rw [decide_eq_true_eq]; exact g'
        clear hk g g'
        go_enter Tryz.func22, Tryz.ntmps22
        go_wp2_with fail
        go_ret
        exact ⟨ret_int EV.out.symm, H0.out⟩

/-- GenFault -/
theorem gen_any (n : Nat) (t : Gn) (A : Option Addr) (c B : Nat) (w : World) (h : GAt w (GBel B) n (gv t A c) t) (hB : B ≤ w.heap.size) (hs : t.size ≤ 4294967296) :
    Calls Tryz.prog 7 #[gv t A c] w fun e w' => e = .returned (.int .i64 (genV t)) ∧ Below w.heap.size w w' := by
  have H0 : Below w.heap.size w (w.alloc (gc t A c)) := (Below.refl _ _).alloc (Nat.le_refl _) _
  have L1 := Lib.hid (large_any n t (gv t A c) B 0 0 _ (h.below (H0.mono hB)) (Nat.le_trans hB H0.size) hs rfl (by omega))
  have P1 := Lib.hid (fun w1 (hb : Below w.heap.size w w1) => part_any n t (gv t A c) B w1 (h.below (hb.mono hB)) (Nat.le_trans hB hb.size) hs)
  have BX := Lib.hid (fun w1 hb => gbox w w1 (.int .i64 t.kind) (.int .i64 t.a) (.int .i64 t.b) (.slice A t.subs.length c) hb)
  have H0 := Lib.hid H0
  have GV := Lib.hid (show genV t = if (largeG t 0).2 = true then 4 else partV t from rfl)
  clear h hB hs
  generalize largeG t 0 = q at L1 GV
  obtain ⟨j, is⟩ := q
  cases is with
  | true =>
    have GV := Lib.hid (show genV t = 4 from GV.out)
    go_enter Tryz.func7, Tryz.ntmps7
    go_wp2_with fail
    refine L1.out.mono ?_
    rintro e w1 ⟨rfl, b1⟩
    have B1 := Lib.hid (on H0.out b1)
    clear b1
    go_wp2_with fail
    go_ret
    exact ⟨ret_int GV.out.symm, B1.out⟩
  | false =>
    have GV := Lib.hid (show genV t = partV t from GV.out)
    go_enter Tryz.func7, Tryz.ntmps7
    go_wp2_with fail
    refine L1.out.mono ?_
    rintro e w1 ⟨rfl, b1⟩
    have B1 := Lib.hid (on H0.out b1)
    obtain ⟨p0, p1, p2, p3⟩ := BX.out w1 b1
    clear b1
    go_wp2_with fail
    refine (P1.out w1 B1.out).mono ?_
    rintro e w2 ⟨rfl, b2⟩
    have B2 := Lib.hid (on B1.out b2)
    clear b2 p0 p1 p2 p3
    go_wp2_with fail
    go_ret
    exact ⟨ret_int GV.out.symm, B2.out⟩
end Go.Proofs.YtabkihellcflhaaGreatDoor.Gens
