/- GenTells, part 2 of the proof: Contracts of the document's own PartFault and GenFault. Condition: the size. · Values (a bool, a number, items) as trees: how they lie in memory, and what an argument reads as. · Plain laws on texts of tapes: cut at points, read number by number. No program. · Plain laws on digits: how a number's text is made of its tenth's; no program. · Plain laws on numbers' texts: what a text of digits is worth. No program. -/
import Derived.Test.YtffkppjmdelajaaDoorGenTellsZ1
import Derived.Deep.Slices
import Derived.Deep.Fields
import Derived.Lib.SmallJoins
import Derived.Lib.AtoiAll
import Derived.Lib.IndexMore
import Derived.IntWalk
/- Contracts of the document's own PartFault and GenFault. Condition: the size. -/
namespace Go.Proofs.YtffkppjmdelajaaDoor.Gens
open Go.RowKit Lists Ints
set_option linter.unusedVariables false

theorem far_any (x : Int) (h : I64 x) (w : World) : Calls Tryd.prog 68 #[.int .i64 x] w fun e w' => e = .returned (.bool (farB x)) ∧ w = w' := by
  obtain ⟨h1, h2⟩ := h
  by_cases a : x < -1073741824
  · have g : decide (x < -1073741824) = true := by rw [decide_eq_true_eq]; exact a
    have HV := Lib.hid (show farB x = true by unfold farB; rw [g]; rfl)
    go_enter Tryd.func68, Tryd.ntmps68
    go_wp2
    go_ret
    exact ⟨ret_b HV.out.symm, rfl⟩
  · have g : decide (x < -1073741824) = false := by rw [decide_eq_false_iff_not]; exact a
    have HV := Lib.hid (show farB x = decide (1073741824 < x) by unfold farB; rw [g]; rfl)
    go_enter Tryd.func68, Tryd.ntmps68
    go_wp2
    go_ret
    exact ⟨ret_b HV.out.symm, rfl⟩
theorem far_not {x : Int} (h : farB x = false) : -1073741824 ≤ x ∧ x ≤ 1073741824 := by
  simp only [farB, Bool.or_eq_false_iff] at h
  have := of_decide_eq_false h.1
  have := of_decide_eq_false h.2
  omega

set_option maxHeartbeats 8000000 in
set_option maxRecDepth 100000 in
theorem part_any : ∀ (n : Nat) (t : Gn) (v : Value) (B : Nat) (w : World), GAt w (GBel B) n v t → B ≤ w.heap.size → t.size ≤ 4294967296 →
    Calls Tryd.prog 43 #[v] w fun e w' => e = .returned (.int .i64 (partV t)) ∧ Below w.heap.size w w' := by
  intro n
  induction n with
  | zero => intro t v B w h; exact h.elim
  | succ n ih =>
    intro t v B w h hB hsz
    obtain ⟨m, A, c, e, hw, rfl, hit⟩ := h.open_
    obtain rfl : n = m := by omega
    have IH := Lib.hid ih
    have HIT := Lib.hid hit
    have HB := Lib.hid hB
    have HS := Lib.hid hsz
    have hln : t.subs.length ≤ 4294967296 := by have := glen_sizes t.subs; have := gsize_subs t; omega
    have EQ := Lib.hid (partV_eq t)
    have H0 : Below w.heap.size w (w.alloc (gc t A c)) := (Below.refl _ _).alloc (Nat.le_refl _) _
    have H0 := Lib.hid H0
    have SB := Lib.hid (gsize_subs t)
    obtain ⟨w1, w2, w3⟩ := hw
    obtain ⟨k1, k2⟩ := i64_wf w1
    have IA := Lib.hid (i64_wf w2)
    have IB := Lib.hid (i64_wf w3)
    clear ih hit h hB hsz e w1 w2 w3
    cases t with | node k a b subs =>
    simp only [Gn.kind, Gn.a, Gn.b, Gn.subs] at *
    change Calls Tryd.prog 43 #[.agg #[.int .i64 k, .int .i64 a, .int .i64 b, .slice A subs.length c]] w _
    have KB : kindBad (.node k a b subs) = (decide (k < 1) || decide (5 < k)) := rfl
    have RB : rangeBad (.node k a b subs) = ((k == 1 && farB a) || (k == 2 && (farB a || farB b || decide (b < a) || decide (1000 < b - a))) || (k == 4 && (decide (a < 0) || decide (5 < a)))) := rfl
    have SU : subsBad (.node k a b subs) = ((decide (k ≤ 2) && !subs.isEmpty) || (k == 4 && (subs.length != 1)) || (k == 5 && subs.isEmpty)) := rfl
    have FA := Lib.hid (fun w => far_any a IA.out w)
    have FB := Lib.hid (fun w => far_any b IB.out w)
    obtain ⟨a1, a2⟩ := IA.out
    obtain ⟨b1, b2⟩ := IB.out
    by_cases hk : 1 ≤ k ∧ k ≤ 5
    · have EQ := Lib.hid (show partV (.node k a b subs) = if rangeBad (.node k a b subs) = true then 1 else if subsBad (.node k a b subs) = true then 3 else partVs subs by
        have e1 : kindBad (.node k a b subs) = false := by rw [KB, Bool.or_eq_false_iff, decide_eq_false_iff_not, decide_eq_false_iff_not]; omega
        have := EQ.out
        rw [e1] at this
        simpa using this)
      have hEQ := EQ
      have HRB := Lib.hid RB
      have HSU := Lib.hid SU
      clear KB RB SU EQ
      rcases (show k = 1 ∨ k = 2 ∨ k = 3 ∨ k = 4 ∨ k = 5 by omega) with rfl | rfl | rfl | rfl | rfl
      · rcases hfa : farB a with _ | _
        · rw [hfa] at FA
          by_cases hs : subs = []
          · subst hs
            have EV := Lib.hid (show partV (.node 1 a b []) = partVs [] by
              have h1 := hEQ.out
              have h2 := HRB.out
              have h3 := HSU.out
              simp [hfa] at h2 h3
              simpa [h2, h3] using h1)
            go_enter Tryd.func43, Tryd.ntmps43
            go_wp2_with fail
            refine (FA.out _).mono ?_
            rintro e w9 ⟨rfl, rfl⟩
            go_wp2_with fail
            refine wp_loop_rounds 1 ?_
            rw [rounds_succ]
            go_wp2_with fail
            go_ret
            exact ⟨ret_v (a := .int .i64 0) (by rw [EV.out]; rfl), H0.out⟩
          · have hp : 0 < subs.length := List.length_pos_iff.2 hs
            have hi : subs.isEmpty = false := by cases subs with | nil => exact absurd rfl hs | cons _ _ => rfl
            have l1 : decide (0 < (subs.length : Int)) = true := by rw [decide_eq_true_eq]; omega
            have l2 : decide (0 < subs.length) = true := by rw [decide_eq_true_eq]; omega
            have EV := Lib.hid (show partV (.node 1 a b subs) = 3 by
              have h1 := hEQ.out
              have h2 := HRB.out
              have h3 := HSU.out
              simp [hfa, hi] at h2 h3
              simpa [h2, h3] using h1)
            clear hs
            go_enter Tryd.func43, Tryd.ntmps43
            go_wp2_with fail
            refine (FA.out _).mono ?_
            rintro e w9 ⟨rfl, rfl⟩
            go_wp2_with fail
            go_ret
            exact ⟨ret_int EV.out.symm, H0.out⟩
        · rw [hfa] at FA
          have EV := Lib.hid (show partV (.node 1 a b subs) = 1 by
            have h1 := hEQ.out
            have h2 := HRB.out
            have h3 := HSU.out
            simp [hfa] at h2
            simpa [h2] using h1)
          go_enter Tryd.func43, Tryd.ntmps43
          go_wp2_with fail
          refine (FA.out _).mono ?_
          rintro e w9 ⟨rfl, rfl⟩
          go_wp2_with fail
          go_ret
          exact ⟨ret_int EV.out.symm, H0.out⟩
      · rcases hfa : farB a with _ | _
        · rw [hfa] at FA
          obtain ⟨f1, f2⟩ := far_not hfa
          rcases hfb : farB b with _ | _
          · rw [hfb] at FB
            obtain ⟨f3, f4⟩ := far_not hfb
            by_cases hba : b < a
            · have d1 : decide (b < a) = true := by rw [decide_eq_true_eq]; exact hba
              have EV := Lib.hid (show partV (.node 2 a b subs) = 1 by
                have h1 := hEQ.out
                have h2 := HRB.out
                have h3 := HSU.out
                simp [hfa, hfb, hba] at h2
                simpa [h2] using h1)
              clear hba
              go_enter Tryd.func43, Tryd.ntmps43
              go_wp2_with fail
              refine (FA.out _).mono ?_
              rintro e w9 ⟨rfl, rfl⟩
              go_wp2_with fail
              refine (FB.out _).mono ?_
              rintro e w9 ⟨rfl, rfl⟩
              go_wp2_with fail
              go_ret
              exact ⟨ret_int EV.out.symm, H0.out⟩
            · have d1 : decide (b < a) = false := by rw [decide_eq_false_iff_not]; exact hba
              by_cases hsp : 1000 < b - a
              · have d2 : decide (1000 < b - a) = true := by rw [decide_eq_true_eq]; exact hsp
                have EV := Lib.hid (show partV (.node 2 a b subs) = 1 by
                  have h1 := hEQ.out
                  have h2 := HRB.out
                  have h3 := HSU.out
                  simp [hfa, hfb, hsp] at h2
                  simpa [h2] using h1)
                clear hba hsp
                go_enter Tryd.func43, Tryd.ntmps43
                go_wp2_with fail
                refine (FA.out _).mono ?_
                rintro e w9 ⟨rfl, rfl⟩
                go_wp2_with fail
                refine (FB.out _).mono ?_
                rintro e w9 ⟨rfl, rfl⟩
                go_wp2_with fail
                go_ret
                exact ⟨ret_int EV.out.symm, H0.out⟩
              · have d2 : decide (1000 < b - a) = false := by rw [decide_eq_false_iff_not]; exact hsp
                by_cases hs : subs = []
                · subst hs
                  have EV := Lib.hid (show partV (.node 2 a b []) = partVs [] by
                    have h1 := hEQ.out
                    have h2 := HRB.out
                    have h3 := HSU.out
                    simp [hfa, hfb, d1, d2] at h2 h3
                    simpa [h2, h3] using h1)
                  go_enter Tryd.func43, Tryd.ntmps43
                  go_wp2_with fail
                  refine (FA.out _).mono ?_
                  rintro e w9 ⟨rfl, rfl⟩
                  go_wp2_with fail
                  refine (FB.out _).mono ?_
                  rintro e w9 ⟨rfl, rfl⟩
                  go_wp2_with fail
                  refine wp_loop_rounds 1 ?_
                  rw [rounds_succ]
                  go_wp2_with fail
                  go_ret
                  exact ⟨ret_v (a := .int .i64 0) (by rw [EV.out]; rfl), H0.out⟩
                · have hp : 0 < subs.length := List.length_pos_iff.2 hs
                  have hi : subs.isEmpty = false := by cases subs with | nil => exact absurd rfl hs | cons _ _ => rfl
                  have l1 : decide (0 < (subs.length : Int)) = true := by rw [decide_eq_true_eq]; omega
                  have l2 : decide (0 < subs.length) = true := by rw [decide_eq_true_eq]; omega
                  have EV := Lib.hid (show partV (.node 2 a b subs) = 3 by
                    have h1 := hEQ.out
                    have h2 := HRB.out
                    have h3 := HSU.out
                    simp [hfa, hfb, d1, d2, hi] at h2 h3
                    simpa [h2, h3] using h1)
                  clear hs
                  go_enter Tryd.func43, Tryd.ntmps43
                  go_wp2_with fail
                  refine (FA.out _).mono ?_
                  rintro e w9 ⟨rfl, rfl⟩
                  go_wp2_with fail
                  refine (FB.out _).mono ?_
                  rintro e w9 ⟨rfl, rfl⟩
                  go_wp2_with fail
                  go_ret
                  exact ⟨ret_int EV.out.symm, H0.out⟩
          · rw [hfb] at FB
            have EV := Lib.hid (show partV (.node 2 a b subs) = 1 by
              have h1 := hEQ.out
              have h2 := HRB.out
              have h3 := HSU.out
              simp [hfa, hfb] at h2
              simpa [h2] using h1)
            go_enter Tryd.func43, Tryd.ntmps43
            go_wp2_with fail
            refine (FA.out _).mono ?_
            rintro e w9 ⟨rfl, rfl⟩
            go_wp2_with fail
            refine (FB.out _).mono ?_
            rintro e w9 ⟨rfl, rfl⟩
            go_wp2_with fail
            go_ret
            exact ⟨ret_int EV.out.symm, H0.out⟩
        · rw [hfa] at FA
          have EV := Lib.hid (show partV (.node 2 a b subs) = 1 by
            have h1 := hEQ.out
            have h2 := HRB.out
            have h3 := HSU.out
            simp [hfa] at h2
            simpa [h2] using h1)
          go_enter Tryd.func43, Tryd.ntmps43
          go_wp2_with fail
          refine (FA.out _).mono ?_
          rintro e w9 ⟨rfl, rfl⟩
          go_wp2_with fail
          go_ret
          exact ⟨ret_int EV.out.symm, H0.out⟩
      · have EV := Lib.hid (show partV (.node 3 a b subs) = partVs subs by
          have h1 := hEQ.out
          have h2 := HRB.out
          have h3 := HSU.out
          simp at h2 h3
          simpa [h2, h3] using h1)
        go_enter Tryd.func43, Tryd.ntmps43
        go_wp2_with fail
        go_loopw [3] (fun i wr => ∃ k : Nat, k ≤ subs.length ∧ i = .int .i64 k ∧ Below (w.alloc (.cells #[.int .i64 3, .int .i64 a, .int .i64 b, .slice A subs.length c] 24)).heap.size (w.alloc (.cells #[.int .i64 3, .int .i64 a, .int .i64 b, .slice A subs.length c] 24)) wr ∧ Hid (partVs (subs.take k) = 0)) (fun i _ => subs.length - (intOf i).toNat)
        case atStart => exact ⟨0, Nat.zero_le _, rfl, Below.refl _ _, (show partVs (subs.take 0) = 0 from rfl)⟩
        case round =>
          obtain ⟨k, hk, rfl, hb, hz⟩ := hrel
          obtain ⟨_, _, _, cb⟩ := gbox w wr _ _ _ _ hb
          have HWW := Lib.hid (on H0.out hb)
          have HBW := Lib.hid hb
          clear hb
          by_cases hlt : k < subs.length
          · obtain ⟨ib, off, D, d, rfl, c0, c1, c2, c3, hti⟩ := sub_as HIT.out (HWW.out.mono HB.out) k hlt
            have hsi : (subs[k]'hlt).size ≤ 4294967296 := by have := gsize_mem subs _ (List.getElem_mem hlt); have h3 := HS.out; have h4 := SB.out; omega
            have C1 := IH.out (subs[k]'hlt) _ B wr hti (Nat.le_trans HB.out HWW.out.size) hsi
            clear hti hsi
            by_cases hf : partV (subs[k]'hlt) = 0
            · have hz2 := Lib.hid (part_step0 subs k hlt hz.out hf)
              rw [hf] at C1
              have HC1 := Lib.hid C1
              clear C1 hf
              generalize subs[k]'hlt = y at HC1 c0 c1 c2 c3
              go_wp2_with fail
              refine HC1.out.mono ?_
              rintro e w2 ⟨rfl, hb2⟩
              have B2 := Lib.hid (on HBW.out hb2)
              clear hb2
              go_wp2_with fail
              go_roundw
              case rel => exact ⟨k + 1, hlt, by go_num, B2.out, hz2.out⟩
              case measure => simp [intOf]; omega
            · have hr := Lib.hid (part_step1 subs k hlt hz.out hf)
              have hne : (partV (subs[k]'hlt) != 0) = true := by rw [bne_iff_ne]; exact hf
              generalize partV (subs[k]'hlt) = q at C1 hr hne
              have HC1 := Lib.hid C1
              clear C1 hf
              generalize subs[k]'hlt = y at HC1 c0 c1 c2 c3
              go_wp2_with fail
              refine HC1.out.mono ?_
              rintro e w2 ⟨rfl, hb2⟩
              have B2 := Lib.hid (on HWW.out hb2)
              clear hb2
              go_wp2_with fail
              go_ret
              exact ⟨ret_v (a := .int .i64 q) (by rw [EV.out, hr.out]), B2.out⟩
          · have hr := Lib.hid (show partVs subs = 0 by rw [← List.take_of_length_le (show subs.length ≤ k by omega)]; exact hz.out)
            go_wp2_with fail
            go_ret
            exact ⟨ret_v (a := .int .i64 0) (by rw [EV.out, hr.out]), HWW.out⟩
      · by_cases ha0 : a < 0
        · have d1 : decide (a < 0) = true := by rw [decide_eq_true_eq]; exact ha0
          have EV := Lib.hid (show partV (.node 4 a b subs) = 1 by
            have h1 := hEQ.out
            have h2 := HRB.out
            have h3 := HSU.out
            simp [ha0] at h2
            simpa [h2] using h1)
          clear ha0
          go_enter Tryd.func43, Tryd.ntmps43
          go_wp2_with fail
          go_ret
          exact ⟨ret_int EV.out.symm, H0.out⟩
        · have d1 : decide (a < 0) = false := by rw [decide_eq_false_iff_not]; exact ha0
          by_cases ha5 : 5 < a
          · have d2 : decide (5 < a) = true := by rw [decide_eq_true_eq]; exact ha5
            have EV := Lib.hid (show partV (.node 4 a b subs) = 1 by
              have h1 := hEQ.out
              have h2 := HRB.out
              have h3 := HSU.out
              simp [ha5] at h2
              simpa [h2] using h1)
            clear ha0 ha5
            go_enter Tryd.func43, Tryd.ntmps43
            go_wp2_with fail
            go_ret
            exact ⟨ret_int EV.out.symm, H0.out⟩
          · have d2 : decide (5 < a) = false := by rw [decide_eq_false_iff_not]; exact ha5
            by_cases hl1 : subs.length = 1
            · have n1 : ((subs.length : Int) != 1) = false := by rw [bne_eq_false_iff_eq]; omega
              have EV := Lib.hid (show partV (.node 4 a b subs) = partVs subs by
                have h1 := hEQ.out
                have h2 := HRB.out
                have h3 := HSU.out
                simp [d1, d2, hl1] at h2 h3
                simpa [h2, h3] using h1)
              have HL1 := Lib.hid hl1
              clear ha0 ha5 hl1
              go_enter Tryd.func43, Tryd.ntmps43
              go_wp2_with fail
              go_loopw [3] (fun i wr => ∃ k : Nat, k ≤ subs.length ∧ i = .int .i64 k ∧ Below (w.alloc (.cells #[.int .i64 4, .int .i64 a, .int .i64 b, .slice A subs.length c] 24)).heap.size (w.alloc (.cells #[.int .i64 4, .int .i64 a, .int .i64 b, .slice A subs.length c] 24)) wr ∧ Hid (partVs (subs.take k) = 0)) (fun i _ => subs.length - (intOf i).toNat)
              case atStart => exact ⟨0, Nat.zero_le _, rfl, Below.refl _ _, (show partVs (subs.take 0) = 0 from rfl)⟩
              case round =>
                obtain ⟨k, hk, rfl, hb, hz⟩ := hrel
                obtain ⟨_, _, _, cb⟩ := gbox w wr _ _ _ _ hb
                have HWW := Lib.hid (on H0.out hb)
                have HBW := Lib.hid hb
                clear hb
                by_cases hlt : k < subs.length
                · obtain ⟨ib, off, D, d, rfl, c0, c1, c2, c3, hti⟩ := sub_as HIT.out (HWW.out.mono HB.out) k hlt
                  have hsi : (subs[k]'hlt).size ≤ 4294967296 := by have := gsize_mem subs _ (List.getElem_mem hlt); have h3 := HS.out; have h4 := SB.out; omega
                  have C1 := IH.out (subs[k]'hlt) _ B wr hti (Nat.le_trans HB.out HWW.out.size) hsi
                  clear hti hsi
                  by_cases hf : partV (subs[k]'hlt) = 0
                  · have hz2 := Lib.hid (part_step0 subs k hlt hz.out hf)
                    rw [hf] at C1
                    have HC1 := Lib.hid C1
                    clear C1 hf
                    generalize subs[k]'hlt = y at HC1 c0 c1 c2 c3
                    go_wp2_with fail
                    refine HC1.out.mono ?_
                    rintro e w2 ⟨rfl, hb2⟩
                    have B2 := Lib.hid (on HBW.out hb2)
                    clear hb2
                    go_wp2_with fail
                    go_roundw
                    case rel => exact ⟨k + 1, hlt, by go_num, B2.out, hz2.out⟩
                    case measure => simp [intOf]; omega
                  · have hr := Lib.hid (part_step1 subs k hlt hz.out hf)
                    have hne : (partV (subs[k]'hlt) != 0) = true := by rw [bne_iff_ne]; exact hf
                    generalize partV (subs[k]'hlt) = q at C1 hr hne
                    have HC1 := Lib.hid C1
                    clear C1 hf
                    generalize subs[k]'hlt = y at HC1 c0 c1 c2 c3
                    go_wp2_with fail
                    refine HC1.out.mono ?_
                    rintro e w2 ⟨rfl, hb2⟩
                    have B2 := Lib.hid (on HWW.out hb2)
                    clear hb2
                    go_wp2_with fail
                    go_ret
                    exact ⟨ret_v (a := .int .i64 q) (by rw [EV.out, hr.out]), B2.out⟩
                · have hr := Lib.hid (show partVs subs = 0 by rw [← List.take_of_length_le (show subs.length ≤ k by omega)]; exact hz.out)
                  go_wp2_with fail
                  go_ret
                  exact ⟨ret_v (a := .int .i64 0) (by rw [EV.out, hr.out]), HWW.out⟩
            · have n1 : ((subs.length : Int) != 1) = true := by rw [bne_iff_ne]; omega
              have EV := Lib.hid (show partV (.node 4 a b subs) = 3 by
                have h1 := hEQ.out
                have h2 := HRB.out
                have h3 := HSU.out
                simp [d1, d2] at h2 h3
                simpa [h2, h3, hl1] using h1)
              clear ha0 ha5 hl1
              go_enter Tryd.func43, Tryd.ntmps43
              go_wp2_with fail
              go_ret
              exact ⟨ret_int EV.out.symm, H0.out⟩
      · by_cases hs : subs = []
        · subst hs
          have EV := Lib.hid (show partV (.node 5 a b []) = 3 by
            have h1 := hEQ.out
            have h2 := HRB.out
            have h3 := HSU.out
            simp at h2 h3
            simpa [h2, h3] using h1)
          go_enter Tryd.func43, Tryd.ntmps43
          go_wp2_with fail
          go_ret
          exact ⟨ret_int EV.out.symm, H0.out⟩
        · have hp : 0 < subs.length := List.length_pos_iff.2 hs
          have hi : subs.isEmpty = false := by cases subs with | nil => exact absurd rfl hs | cons _ _ => rfl
          have n1 : ((subs.length : Int) == 0) = false := by rw [beq_eq_false_iff_ne]; omega
          have EV := Lib.hid (show partV (.node 5 a b subs) = partVs subs by
            have h1 := hEQ.out
            have h2 := HRB.out
            have h3 := HSU.out
            simp [hi] at h2 h3
            simpa [h2, h3] using h1)
          clear hs
          go_enter Tryd.func43, Tryd.ntmps43
          go_wp2_with fail
          go_loopw [3] (fun i wr => ∃ k : Nat, k ≤ subs.length ∧ i = .int .i64 k ∧ Below (w.alloc (.cells #[.int .i64 5, .int .i64 a, .int .i64 b, .slice A subs.length c] 24)).heap.size (w.alloc (.cells #[.int .i64 5, .int .i64 a, .int .i64 b, .slice A subs.length c] 24)) wr ∧ Hid (partVs (subs.take k) = 0)) (fun i _ => subs.length - (intOf i).toNat)
          case atStart => exact ⟨0, Nat.zero_le _, rfl, Below.refl _ _, (show partVs (subs.take 0) = 0 from rfl)⟩
          case round =>
            obtain ⟨k, hk, rfl, hb, hz⟩ := hrel
            obtain ⟨_, _, _, cb⟩ := gbox w wr _ _ _ _ hb
            have HWW := Lib.hid (on H0.out hb)
            have HBW := Lib.hid hb
            clear hb
            by_cases hlt : k < subs.length
            · obtain ⟨ib, off, D, d, rfl, c0, c1, c2, c3, hti⟩ := sub_as HIT.out (HWW.out.mono HB.out) k hlt
              have hsi : (subs[k]'hlt).size ≤ 4294967296 := by have := gsize_mem subs _ (List.getElem_mem hlt); have h3 := HS.out; have h4 := SB.out; omega
              have C1 := IH.out (subs[k]'hlt) _ B wr hti (Nat.le_trans HB.out HWW.out.size) hsi
              clear hti hsi
              by_cases hf : partV (subs[k]'hlt) = 0
              · have hz2 := Lib.hid (part_step0 subs k hlt hz.out hf)
                rw [hf] at C1
                have HC1 := Lib.hid C1
                clear C1 hf
                generalize subs[k]'hlt = y at HC1 c0 c1 c2 c3
                go_wp2_with fail
                refine HC1.out.mono ?_
                rintro e w2 ⟨rfl, hb2⟩
                have B2 := Lib.hid (on HBW.out hb2)
                clear hb2
                go_wp2_with fail
                go_roundw
                case rel => exact ⟨k + 1, hlt, by go_num, B2.out, hz2.out⟩
                case measure => simp [intOf]; omega
              · have hr := Lib.hid (part_step1 subs k hlt hz.out hf)
                have hne : (partV (subs[k]'hlt) != 0) = true := by rw [bne_iff_ne]; exact hf
                generalize partV (subs[k]'hlt) = q at C1 hr hne
                have HC1 := Lib.hid C1
                clear C1 hf
                generalize subs[k]'hlt = y at HC1 c0 c1 c2 c3
                go_wp2_with fail
                refine HC1.out.mono ?_
                rintro e w2 ⟨rfl, hb2⟩
                have B2 := Lib.hid (on HWW.out hb2)
                clear hb2
                go_wp2_with fail
                go_ret
                exact ⟨ret_v (a := .int .i64 q) (by rw [EV.out, hr.out]), B2.out⟩
            · have hr := Lib.hid (show partVs subs = 0 by rw [← List.take_of_length_le (show subs.length ≤ k by omega)]; exact hz.out)
              go_wp2_with fail
              go_ret
              exact ⟨ret_v (a := .int .i64 0) (by rw [EV.out, hr.out]), HWW.out⟩
    · have EV := Lib.hid (show partV (.node k a b subs) = 3 by
        have e1 : kindBad (.node k a b subs) = true := by rw [KB, Bool.or_eq_true, decide_eq_true_eq, decide_eq_true_eq]; omega
        have := EQ.out
        rw [e1] at this
        simpa using this)
      clear KB RB SU EQ
      rcases (show k < 1 ∨ (¬ k < 1 ∧ 5 < k) by omega) with g | ⟨g, g'⟩
      · have e1 : decide (k < 1) = true := by rw [decide_eq_true_eq]; exact g
        clear hk g
        go_enter Tryd.func43, Tryd.ntmps43
        go_wp2_with fail
        go_ret
        exact ⟨ret_int EV.out.symm, H0.out⟩
      · have e1 : decide (k < 1) = false := by rw [decide_eq_false_iff_not]; exact g
        have e2 : decide (5 < k) = true := by rw [decide_eq_true_eq]; exact g'
        clear hk g g'
        go_enter Tryd.func43, Tryd.ntmps43
        go_wp2_with fail
        go_ret
        exact ⟨ret_int EV.out.symm, H0.out⟩

/-- GenFault -/
theorem gen_any (n : Nat) (t : Gn) (A : Option Addr) (c B : Nat) (w : World) (h : GAt w (GBel B) n (gv t A c) t) (hB : B ≤ w.heap.size) (hs : t.size ≤ 4294967296) :
    Calls Tryd.prog 12 #[gv t A c] w fun e w' => e = .returned (.int .i64 (genV t)) ∧ Below w.heap.size w w' := by
  have H0 : Below w.heap.size w (w.alloc (gc t A c)) := (Below.refl _ _).alloc (Nat.le_refl _) _
  have L1 := Lib.hid (large_any n t (gv t A c) B 0 0 _ (h.below (H0.mono hB)) (Nat.le_trans hB H0.size) hs rfl (by omega))
  have P1 := Lib.hid (fun w1 (hb : Below w.heap.size w w1) => part_any n t (gv t A c) B w1 (h.below (hb.mono hB)) (Nat.le_trans hB hb.size) hs)
  have BX := Lib.hid (fun w1 hb => gbox w w1 (.int .i64 t.kind) (.int .i64 t.a) (.int .i64 t.b) (.slice A t.subs.length c) hb)
  have H0 := Lib.hid H0
  have GV := Lib.hid (show genV t = if (largeG t 0).2 = true then 4 else partV t from rfl)
  clear h hB hs
  generalize largeG t 0 = q at L1 GV
  obtain ⟨j, is⟩ := q
  cases is with
  | true =>
    have GV := Lib.hid (show genV t = 4 from GV.out)
    go_enter Tryd.func12, Tryd.ntmps12
    go_wp2_with fail
    refine L1.out.mono ?_
    rintro e w1 ⟨rfl, b1⟩
    have B1 := Lib.hid (on H0.out b1)
    clear b1
    go_wp2_with fail
    go_ret
    exact ⟨ret_int GV.out.symm, B1.out⟩
  | false =>
    have GV := Lib.hid (show genV t = partV t from GV.out)
    go_enter Tryd.func12, Tryd.ntmps12
    go_wp2_with fail
    refine L1.out.mono ?_
    rintro e w1 ⟨rfl, b1⟩
    have B1 := Lib.hid (on H0.out b1)
    obtain ⟨p0, p1, p2, p3⟩ := BX.out w1 b1
    clear b1
    go_wp2_with fail
    refine (P1.out w1 B1.out).mono ?_
    rintro e w2 ⟨rfl, b2⟩
    have B2 := Lib.hid (on B1.out b2)
    clear b2 p0 p1 p2 p3
    go_wp2_with fail
    go_ret
    exact ⟨ret_int GV.out.symm, B2.out⟩
end Go.Proofs.YtffkppjmdelajaaDoor.Gens

/- Values (a bool, a number, items) as trees: how they lie in memory, and what an argument reads as. -/
namespace Go.Proofs.YtffkppjmdelajaaDoor.Vals
open Go.RowKit Go.WideShapes Go.ChangeShapes Go.Deep Go.Joins
set_option linter.unusedVariables false

inductive Tr where
  | node (list : Bool) (num : Int) (items : List Tr)
instance instTr : Inhabited Tr := ⟨.node false 0 []⟩
def Tr.list : Tr → Bool | .node l _ _ => l
def Tr.num : Tr → Int | .node _ n _ => n
def Tr.items : Tr → List Tr | .node _ _ i => i
mutual
def Tr.size : Tr → Nat
  | .node _ _ i => 1 + sizes i
def sizes : List Tr → Nat
  | [] => 0
  | t :: r => t.size + sizes r
end

/-- In world w, in blocks of S, the value v is the tree t of at most so many levels. -/
def TAt (w : World) (S : Nat → Prop) : Nat → Value → Tr → Prop
  | 0, _, _ => False
  | n + 1, v, t => (Lit.int .i64 t.num).wf = true ∧ ∃ A c, v = .agg #[.bool t.list, .int .i64 t.num, .slice A t.items.length c] ∧
      (0 < t.items.length → ∃ b off, A = some ⟨b, off, none⟩ ∧ S b ∧ ∀ j (h : j < t.items.length), ∃ x0 x1 x2, w.cell? ⟨b, off + j * 3, none⟩ = some x0 ∧ w.cell? ⟨b, off + j * 3 + 1, none⟩ = some x1 ∧ w.cell? ⟨b, off + j * 3 + 2, none⟩ = some x2 ∧ TAt w S n (.agg #[x0, x1, x2]) (t.items[j]'h))

theorem TAt.keep {w w' : World} {S S' : Nat → Prop} (hk : ∀ b, S b → S' b ∧ ∀ o, w'.cell? ⟨b, o, none⟩ = w.cell? ⟨b, o, none⟩) : ∀ {n : Nat} {v : Value} {t : Tr}, TAt w S n v t → TAt w' S' n v t
  | 0, _, _, h => h
  | n + 1, v, t, h => by
    obtain ⟨hw, A, c, rfl, h⟩ := h
    refine ⟨hw, A, c, rfl, fun hp => ?_⟩
    obtain ⟨b, off, e, hb, hc⟩ := h hp
    obtain ⟨hb', hk'⟩ := hk b hb
    refine ⟨b, off, e, hb', fun j hj => ?_⟩
    obtain ⟨x0, x1, x2, c0, c1, c2, ht⟩ := hc j hj
    exact ⟨x0, x1, x2, (hk' _).trans c0, (hk' _).trans c1, (hk' _).trans c2, TAt.keep hk ht⟩
def Bel (B : Nat) : Nat → Prop := fun b => b < B
theorem TAt.below {w w' : World} {B n : Nat} {v : Value} {t : Tr} (h : TAt w (Bel B) n v t) (hb : Below B w w') : TAt w' (Bel B) n v t :=
  h.keep fun b hB => ⟨hB, fun o => hb.cell (p := ⟨b, o, none⟩) hB⟩
theorem TAt.more {w : World} {B B' n : Nat} {v : Value} {t : Tr} (h : TAt w (Bel B) n v t) (hB : B ≤ B') : TAt w (Bel B') n v t :=
  h.keep fun b hb => ⟨Nat.lt_of_lt_of_le hb hB, fun _ => rfl⟩
theorem TAt.drew {w : World} {S : Nat → Prop} {n : Nat} {v : Value} {t : Tr} (h : TAt w S n v t) : TAt w.drew S n v t := h.keep (w := w) (w' := w.drew) fun b hb => ⟨hb, fun _ => rfl⟩
theorem TAt.drewN {w : World} {S : Nat → Prop} {n : Nat} {v : Value} {t : Tr} (h : TAt w S n v t) (k : Nat) : TAt (w.drewN k) S n v t := h.keep (w := w) (w' := w.drewN k) fun b hb => ⟨hb, fun _ => rfl⟩
theorem TAt.up {w : World} {S : Nat → Prop} : ∀ {n m : Nat} {v : Value} {t : Tr}, n ≤ m → TAt w S n v t → TAt w S m v t
  | 0, _, _, _, _, h => h.elim
  | n + 1, 0, _, _, hm, _ => by omega
  | n + 1, m + 1, v, t, hm, h => by
    obtain ⟨hw, A, c, rfl, h⟩ := h
    refine ⟨hw, A, c, rfl, fun hp => ?_⟩
    obtain ⟨b, off, e, hb, hc⟩ := h hp
    refine ⟨b, off, e, hb, fun j hj => ?_⟩
    obtain ⟨x0, x1, x2, c0, c1, c2, ht⟩ := hc j hj
    exact ⟨x0, x1, x2, c0, c1, c2, TAt.up (by omega) ht⟩
/-- opened -/
theorem TAt.open_ {w : World} {S : Nat → Prop} {n : Nat} {v : Value} {t : Tr} (h : TAt w S n v t) : ∃ m A c, n = m + 1 ∧ (Lit.int .i64 t.num).wf = true ∧ v = .agg #[.bool t.list, .int .i64 t.num, .slice A t.items.length c] ∧
    (0 < t.items.length → ∃ b off, A = some ⟨b, off, none⟩ ∧ S b ∧ ∀ j (h : j < t.items.length), ∃ x0 x1 x2, w.cell? ⟨b, off + j * 3, none⟩ = some x0 ∧ w.cell? ⟨b, off + j * 3 + 1, none⟩ = some x1 ∧ w.cell? ⟨b, off + j * 3 + 2, none⟩ = some x2 ∧ TAt w S m (.agg #[x0, x1, x2]) (t.items[j]'h)) := by
  cases n with
  | zero => exact h.elim
  | succ n =>
    obtain ⟨hw, A, c, rfl, h⟩ := h
    exact ⟨n, A, c, rfl, hw, rfl, h⟩

theorem sizes_bulk {H : Type} (f : Nat → Tr) (elems : List (DataW H)) : ∀ (k : Nat), (∀ i (h : i < elems.length), (f (k + i)).size ≤ Rows.uptoBulk (elems[i]'h)) → sizes ((List.range' k elems.length).map f) ≤ Rows.uptoBulkAll elems := by
  induction elems with
  | nil => intro k _; simp [sizes, Rows.uptoBulkAll]
  | cons d r ih =>
    intro k h
    simp only [List.length_cons, List.range'_succ, List.map_cons, sizes, Rows.uptoBulkAll]
    have h0 := h 0 (by simp)
    have h1 := ih (k + 1) (fun i hi => by
      have := h (i + 1) (by simpa using hi)
      simpa [Nat.add_assoc, Nat.add_comm 1 i] using this)
    simp at h0
    omega

set_option maxRecDepth 100000 in
theorem cells3 : Tryd.prog.cellsOf 38 = 3 := by kernel_rfl
set_option maxRecDepth 100000 in
theorem hone : oneCellFields Tryd.prog #[{ name := "List", type := 4, offset := 0, embedded := false, tag := "", pkgPath := "", byteOffset := 0 }, { name := "Num", type := 3, offset := 1, embedded := false, tag := "", pkgPath := "", byteOffset := 8 }, { name := "Items", type := 36, offset := 2, embedded := false, tag := "", pkgPath := "", byteOffset := 16 }] = true := by kernel_rfl

set_option maxRecDepth 100000 in
theorem read_tree {H : Type} {enc : TypeId × Value → H} {w : World} {base : Nat} {spare : Nat → Bool} {held : Bool} : ∀ (fuel : Nat) (cs : List Value) (x : DataW H × List MemPlace),
    DataW.trod enc Tryd.prog w base spare held fuel 38 cs = some x → ∃ t : Tr, TAt w (Bel w.heap.size) fuel (.agg cs.toArray) t ∧ t.size ≤ Rows.uptoBulk x.1 := by
  intro fuel
  induction fuel using Nat.strongRecOn with
  | ind fuel ih =>
    intro cs x h
    obtain ⟨xs, n, rfl, rfl, hlen, hxl, hf⟩ := DataW.trod_struct Tryd.underlying38 h
    rw [cells3] at hlen
    match cs, hlen with
    | [c0, c1, c2], _ =>
      obtain ⟨o0, k0⟩ := hone_of hone 0 _ rfl
      obtain ⟨o1, k1⟩ := hone_of hone 1 _ rfl
      obtain ⟨o2, k2⟩ := hone_of hone 2 _ rfl
      match xs, hxl with
      | [y0, y1, y2], _ =>
        have f0 := hf 0 _ rfl
        have f1 := hf 1 _ rfl
        have f2 := hf 2 _ rfl
        rw [o0, k0] at f0
        rw [o1, k1] at f1
        rw [o2, k2] at f2
        obtain ⟨l, e0, rfl⟩ := DataW.trod_bool Tryd.underlying4 f0
        obtain ⟨m, e1, rfl, hm⟩ := DataW.trod_int Tryd.underlying3 f1
        simp only [List.drop_zero, List.take_succ_cons, List.take_zero, List.cons.injEq, and_true, List.drop_succ_cons] at e0 e1
        subst e0 e1
        rcases DataW.trod_slice Tryd.underlying36 f2 with ⟨e2, rfl⟩ | ⟨a, len, cap, elems, rest, n', rfl, e2, rfl, _, _, _, hel, hat, _, _⟩
        · simp only [List.take_succ_cons, List.take_zero, List.cons.injEq, and_true, List.drop_succ_cons, List.drop_zero] at e2
          subst e2
          exact ⟨.node l m [], ⟨hm, none, 0, rfl, fun hp => by simp [Tr.items] at hp⟩, by simp [Tr.size, sizes, Rows.uptoBulk, Rows.uptoBulkAll]⟩
        · simp only [List.take_succ_cons, List.take_zero, List.cons.injEq, and_true, List.drop_succ_cons, List.drop_zero] at e2
          subst e2
          have each : ∀ i, i < len → ∃ t : Tr, ∃ cs' : List Value, w.cells? base (a.add (i * 3)) 3 = some cs' ∧ TAt w (Bel w.heap.size) n' (.agg cs'.toArray) t ∧ ∀ (hi : i < elems.length), t.size ≤ Rows.uptoBulk (elems[i]'hi).1 := by
            intro i hi
            have h1 := hat i hi
            rw [cells3] at h1
            have hi' : i < elems.length := by omega
            rw [List.getElem?_eq_getElem hi'] at h1
            obtain ⟨cs', hc, ht⟩ := Option.bind_eq_some_iff.1 h1
            obtain ⟨t, h2, h3⟩ := ih n' (by omega) cs' _ ht
            exact ⟨t, cs', hc, h2, fun _ => h3⟩
          obtain ⟨f, hfx⟩ := choose_lt each
          refine ⟨.node l m ((List.range' 0 len).map f), ⟨hm, some a, cap, ?_, fun hp => ?_⟩, ?_⟩
          · simp [Tr.items, Tr.list, Tr.num]
          · have hp' : 0 < len := by simpa [Tr.items] using hp
            obtain ⟨cs0, hc0, _⟩ := hfx 0 hp'
            obtain ⟨b, off, spot⟩ := a
            have hcell : ∀ i, i < len → ∀ q, q < 3 → ∃ u, w.cell? ((⟨b, off, spot⟩ : Addr).add (i * 3) |>.add q) = some u := by
              intro i hi q hq
              obtain ⟨cs', hc, _⟩ := hfx i hi
              obtain ⟨_, hl', hu⟩ := World.cells?_some hc
              exact ⟨_, (hu q hq).trans (List.getElem?_eq_getElem (by omega))⟩
            have hspot : spot = none := by
              obtain ⟨u, hu⟩ := hcell 0 hp' 0 (by omega)
              simpa [Addr.add] using World.cell?_spot hu
            subst hspot
            refine ⟨b, off, rfl, ?_, fun j hj => ?_⟩
            · obtain ⟨u, hu⟩ := hcell 0 hp' 0 (by omega)
              exact World.block_lt_of_cell? _ _ (by simpa [Addr.add] using hu)
            · have hj' : j < len := by simpa [Tr.items] using hj
              obtain ⟨cs', hc, ht, _⟩ := hfx j hj'
              obtain ⟨_, hl', hu⟩ := World.cells?_some hc
              match cs', hl' with
              | [x0, x1, x2], _ =>
                have u0 := hu 0 (by omega)
                have u1 := hu 1 (by omega)
                have u2 := hu 2 (by omega)
                rw [add_plain, add_plain] at u0 u1 u2
                refine ⟨x0, x1, x2, by simpa using u0, by simpa using u1, by simpa using u2, ?_⟩
                have e : (Tr.node l m ((List.range' 0 len).map f)).items[j]'hj = f j := by simp [Tr.items]
                rw [e]
                exact TAt.up (by omega) ht
          · simp only [Tr.size, List.map_cons, List.map_nil, Rows.uptoBulk, Rows.uptoBulkAll]
            have := sizes_bulk f (elems.map (·.1)) 0 (fun i hi => by
              have hi' : i < elems.length := by simpa using hi
              obtain ⟨_, _, _, hs⟩ := hfx i (by omega)
              have := hs hi'
              simpa using this)
            rw [List.length_map, hel] at this
            omega

set_option maxRecDepth 100000 in
theorem open_value {H : Type} {enc : TypeId × Value → H} {w : World} {base : Nat} {r : Reach} {b0 : Nat} {spare : Nat → Bool} {held : Bool} {v : Value} {d : DataW H} {ps : List MemPlace}
    (hval : Value.okWide Tryd.prog w r b0 38 v) (hd : DataW.Trod enc Tryd.prog w base spare held 38 v d ps) :
    ∃ (t : Tr) (n : Nat), TAt w (Bel w.heap.size) n v t ∧ t.size ≤ Rows.uptoBulk d := by
  obtain ⟨cs, rfl, _⟩ := okWide_struct Tryd.underlying38 hval
  obtain ⟨fuel, hf⟩ := hd
  obtain ⟨t, h1, h2⟩ := read_tree fuel _ _ hf
  exact ⟨t, fuel, by simpa [Value.cells] using h1, h2⟩
end Go.Proofs.YtffkppjmdelajaaDoor.Vals

/- Plain laws on texts of tapes: cut at points, read number by number. No program. -/
namespace Go.Proofs.YtffkppjmdelajaaDoor.Lists
open Go.Lib (itoa decDigits nDigits atoiAll parseUint10 NumEnd)

/-- up to the first point; behind it; is there one? -/
def cutL : List UInt8 → List UInt8 × List UInt8 × Bool
  | [] => ([], [], false)
  | c :: r => if c = 46 then ([], r, true) else (c :: (cutL r).1, (cutL r).2.1, (cutL r).2.2)
def splitL : List UInt8 → List (List UInt8)
  | [] => [[]]
  | c :: r => if c = 46 then [] :: splitL r else match splitL r with
    | [] => [[c]]
    | p :: ps => (c :: p) :: ps

theorem splitL_cut : ∀ l, splitL l = (cutL l).1 :: (if (cutL l).2.2 = true then splitL (cutL l).2.1 else [])
  | [] => by simp [splitL, cutL]
  | c :: r => by
    by_cases h : c = 46
    · simp [splitL, cutL, h]
    · simp only [splitL, cutL, if_neg h]
      rw [splitL_cut r]
theorem cutL_len : ∀ l, (cutL l).1.length ≤ l.length ∧ (cutL l).2.1.length ≤ l.length ∧ ((cutL l).2.2 = true → (cutL l).2.1.length + 1 ≤ l.length) ∧ ((cutL l).2.2 = false → (cutL l).2.1 = [])
  | [] => by simp [cutL]
  | c :: r => by
    by_cases h : c = 46
    · simp [cutL, h]
    · have ih := cutL_len r
      simp only [cutL, if_neg h, List.length_cons]
      exact ⟨by omega, by omega, fun g => by have := ih.2.2.1 g; omega, ih.2.2.2⟩
theorem cut_eq : ∀ l, Lib.cut l [46] = cutL l
  | [] => by simp [Lib.cut, Lib.index, cutL]
  | c :: r => by
    have ih := cut_eq r
    by_cases h : c = 46
    · subst h
      simp [Lib.cut, Lib.index, cutL]
    · have hp : ([46] : List UInt8).isPrefixOf (c :: r) = false := by
        simp only [List.isPrefixOf_cons_cons, List.isPrefixOf_nil_left, Bool.and_true, beq_eq_false_iff_ne]
        exact fun e => h e.symm
      have hi : Lib.index (c :: r) [46] = if Lib.index r [46] == -1 then -1 else Lib.index r [46] + 1 := by
        rw [Lib.index, hp]; rfl
      have hge := Lib.index_ge r [46]
      simp only [cutL, if_neg h]
      rw [← ih]
      unfold Lib.cut
      rw [hi]
      by_cases h0 : Lib.index r [46] = -1
      · simp [h0]
      · have hb : (Lib.index r [46] == -1) = false := by rw [beq_eq_false_iff_ne]; exact h0
        have g0 : 0 ≤ Lib.index r [46] := by omega
        rw [hb]
        simp only [Bool.false_eq_true, if_false]
        rw [if_pos (by omega), if_pos g0]
        have e1 : (Lib.index r [46] + 1).toNat = (Lib.index r [46]).toNat + 1 := by omega
        rw [e1]
        simp only [List.take_succ_cons, List.length_cons, List.length_nil, Nat.zero_add, List.drop_succ_cons]

/-- the number of a part: one of a tape's -/
def numOf (p : List UInt8) : Option Int := match atoiAll p with
  | .ok v => if 0 ≤ v ∧ v ≤ 1000 then some v else none
  | _ => none
def numsOf : List (List UInt8) → Option (List Int)
  | [] => some []
  | p :: ps => match numOf p with
    | none => none
    | some v => (numsOf ps).map (v :: ·)
def numL (l : List UInt8) : Option (List Int) := if l = [] then some [] else numsOf (splitL l)
def parseL (l : List UInt8) : Option (List Int) := match numL l with
  | none => none
  | some t => if textL t = l then some t else none
def Valid (l : List Int) : Prop := ∀ n ∈ l, 0 ≤ n ∧ n ≤ 1000

def validB (l : List Int) : Bool := l.all fun n => decide (0 ≤ n ∧ n ≤ 1000)
theorem validB_iff (l : List Int) : validB l = true ↔ Valid l := by
  unfold validB Valid
  rw [List.all_eq_true]
  exact ⟨fun h n hn => of_decide_eq_true (h n hn), fun h n hn => decide_eq_true (h n hn)⟩
theorem validB_no (l : List Int) : validB l = false ↔ ¬ Valid l := by
  rw [← validB_iff]; simp
theorem numOf_range {p : List UInt8} {v : Int} (h : numOf p = some v) : 0 ≤ v ∧ v ≤ 1000 := by
  unfold numOf at h
  split at h
  · split at h
    · rename_i g; injection h with h; subst h; exact g
    · cases h
  · cases h
theorem numsOf_valid : ∀ (ps : List (List UInt8)) (l : List Int), numsOf ps = some l → Valid l
  | [], l, h => by simp only [numsOf] at h; injection h with h; subst h; intro n hn; cases hn
  | p :: ps, l, h => by
    simp only [numsOf] at h
    split at h
    · cases h
    · rename_i v hv
      rcases hq : numsOf ps with _ | q
      · rw [hq] at h; cases h
      · rw [hq] at h
        simp only [Option.map_some] at h
        injection h with h
        subst h
        intro n hn
        rcases List.mem_cons.1 hn with rfl | hn
        · exact numOf_range hv
        · exact numsOf_valid ps q hq n hn
theorem numL_valid {s : List UInt8} {l : List Int} (h : numL s = some l) : Valid l := by
  unfold numL at h
  split at h
  · injection h with h; subst h; intro n hn; cases hn
  · exact numsOf_valid _ _ h
theorem parseL_sound {s : List UInt8} {l : List Int} (h : parseL s = some l) : textL l = s ∧ Valid l := by
  unfold parseL at h
  split at h
  · cases h
  · rename_i t ht
    split at h
    · rename_i g
      injection h with h
      subst h
      exact ⟨g, numL_valid ht⟩
    · cases h

/-! a number's digits, read again -/
theorem dig_toNat (d : Nat) (h : d < 10) : (UInt8.ofNat (48 + d)).toNat = 48 + d := by
  rw [UInt8.toNat_ofNat']; omega
theorem parse_dec : ∀ (u acc : Nat) (r : List UInt8), acc * 10 ^ nDigits u + u < 9223372036854775808 → parseUint10 acc (decDigits u ++ r) = parseUint10 (acc * 10 ^ nDigits u + u) r := by
  intro u
  induction u using Nat.strongRecOn with
  | ind u ih =>
    intro acc r h
    by_cases h10 : u < 10
    · rw [Lib.nDigits_small h10] at h ⊢
      rw [Lib.decDigits_one h10]
      simp only [List.cons_append, List.nil_append, parseUint10]
      rw [dig_toNat u h10]
      rw [if_pos ⟨by omega, by omega⟩, if_neg (by omega), if_neg (by omega)]
      have e : acc * 10 + (48 + u - 48) = acc * 10 ^ 1 + u := by omega
      rw [e]
    · rw [Lib.nDigits_big h10] at h ⊢
      have e0 : decDigits u = decDigits (u / 10) ++ [UInt8.ofNat (48 + u % 10)] := by
        rw [decDigits, dif_neg h10]
      have e1 : acc * 10 ^ (nDigits (u / 10) + 1) + u = (acc * 10 ^ nDigits (u / 10) + u / 10) * 10 + u % 10 := by
        rw [Nat.pow_succ, ← Nat.mul_assoc]; omega
      rw [e1] at h ⊢
      rw [e0, List.append_assoc, ih (u / 10) (by omega) acc _ (by omega)]
      simp only [List.cons_append, List.nil_append, parseUint10]
      rw [dig_toNat (u % 10) (by omega)]
      rw [if_pos ⟨by omega, by omega⟩, if_neg (by omega), if_neg (by omega)]
      have e2 : (acc * 10 ^ nDigits (u / 10) + u / 10) * 10 + (48 + u % 10 - 48) = (acc * 10 ^ nDigits (u / 10) + u / 10) * 10 + u % 10 := by omega
      rw [e2]
theorem dec_digit : ∀ (u : Nat), ∀ c ∈ decDigits u, 48 ≤ c.toNat ∧ c.toNat ≤ 57 := by
  intro u
  induction u using Nat.strongRecOn with
  | ind u ih =>
    intro c hc
    by_cases h10 : u < 10
    · rw [Lib.decDigits_one h10] at hc
      have : c = UInt8.ofNat (48 + u) := by simpa using hc
      subst this
      rw [dig_toNat u h10]; omega
    · rw [decDigits, dif_neg h10] at hc
      rcases List.mem_append.1 hc with h | h
      · exact ih (u / 10) (by omega) c h
      · have : c = UInt8.ofNat (48 + u % 10) := by simpa using h
        subst this
        rw [dig_toNat (u % 10) (by omega)]; omega
theorem dec_ne (u : Nat) : decDigits u ≠ [] := by
  intro e
  have := decDigits_pos u
  rw [e] at this
  simp at this
theorem atoi_dec (u : Nat) (h : u < 9223372036854775808) : atoiAll (decDigits u) = .ok (u : Int) := by
  have hd := dec_digit u
  have hp := parse_dec u 0 [] (by omega)
  rw [List.append_nil] at hp
  rcases hl : decDigits u with _ | ⟨c, r⟩
  · exact absurd hl (dec_ne u)
  · rw [hl] at hd hp
    have hc := hd c (by simp)
    have n43 : ¬ c.toNat = 43 := by omega
    have n45 : ¬ c.toNat = 45 := by omega
    have hm : Lib.parseMag (c :: r) = .ok u := by
      unfold Lib.parseMag
      rw [if_neg (by simp), hp]
      simp only [parseUint10]
      congr 1
      omega
    have hb : ¬ 9223372036854775808 ≤ u := by omega
    unfold atoiAll
    simp only [n43, n45, or_self, if_false, hm, hb, not_false_eq_true, and_false, false_and]
theorem itoa_nat (n : Int) (h : 0 ≤ n) : itoa n = decDigits n.toNat := by unfold itoa; rw [if_neg (by omega)]
theorem numOf_itoa (n : Int) (h : 0 ≤ n ∧ n ≤ 1000) : numOf (itoa n) = some n := by
  unfold numOf
  rw [itoa_nat n h.1, atoi_dec n.toNat (by omega)]
  simp only
  rw [if_pos ⟨by omega, by omega⟩]
  congr 1
  omega
theorem itoa_nodot (n : Int) : ∀ c ∈ itoa n, c ≠ 46 := by
  intro c hc e
  subst e
  unfold itoa at hc
  split at hc
  · rcases List.mem_cons.1 hc with h | h
    · exact absurd h (by decide)
    · have := dec_digit _ _ h; simp at this
  · have := dec_digit _ _ hc; simp at this
theorem cutL_nodot : ∀ (a r : List UInt8), (∀ c ∈ a, c ≠ 46) → cutL (a ++ 46 :: r) = (a, r, true)
  | [], r, _ => by simp [cutL]
  | c :: a, r, h => by
    simp only [List.cons_append, cutL]
    rw [if_neg (h c (by simp)), cutL_nodot a r (fun x hx => h x (by simp [hx]))]
theorem cutL_none : ∀ (a : List UInt8), (∀ c ∈ a, c ≠ 46) → cutL a = (a, [], false)
  | [], _ => by simp [cutL]
  | c :: a, h => by
    simp only [cutL]
    rw [if_neg (h c (by simp)), cutL_none a (fun x hx => h x (by simp [hx]))]
theorem split_text : ∀ (l : List Int), l ≠ [] → splitL (textL l) = l.map itoa
  | [], h => absurd rfl h
  | [n], _ => by
    rw [splitL_cut, textL, cutL_none _ (itoa_nodot n)]
    simp
  | n :: m :: r, _ => by
    rw [splitL_cut, textL, cutL_nodot _ _ (itoa_nodot n)]
    simp only [if_true]
    rw [split_text (m :: r) (by simp)]
    simp
theorem numsOf_map : ∀ (l : List Int), Valid l → numsOf (l.map itoa) = some l
  | [], _ => rfl
  | n :: l, h => by
    simp only [List.map_cons, numsOf]
    rw [numOf_itoa n (h n (by simp)), numsOf_map l (fun x hx => h x (by simp [hx]))]
    rfl
theorem itoa_ne (n : Int) : itoa n ≠ [] := by
  intro e
  have := itoa_pos n
  rw [e] at this
  simp at this
theorem textL_ne (l : List Int) (h : l ≠ []) : textL l ≠ [] := by
  cases l with
  | nil => exact absurd rfl h
  | cons n r =>
    rw [textL_cons]
    intro e
    exact itoa_ne n (List.append_eq_nil_iff.1 e).1
theorem parse_text (l : List Int) (h : Valid l) : parseL (textL l) = some l := by
  unfold parseL numL
  by_cases e : l = []
  · subst e; simp [textL]
  · rw [if_neg (textL_ne l e), split_text l e, numsOf_map l h]
    simp
end Go.Proofs.YtffkppjmdelajaaDoor.Lists

/- Plain laws on digits: how a number's text is made of its tenth's; no program. -/
namespace Go.Proofs.YtffkppjmdelajaaDoor.Lists
open Go.Lib (itoa decDigits nDigits)

theorem dec_step (u : Nat) (h : 10 ≤ u) : decDigits u = decDigits (u / 10) ++ decDigits (u % 10) := by
  rw [decDigits, dif_neg (by omega), Lib.decDigits_one (show u % 10 < 10 by omega)]
theorem itoa_neg_one (n : Int) (h : n < 0) (h10 : n.tdiv 10 = 0) : itoa n = 45 :: itoa (0 - n.tmod 10) := by
  have e1 : n.tmod 10 = n := by have := Int.tmod_add_mul_tdiv n 10; rw [h10] at this; omega
  have hneg : 0 ≤ 0 - n := by omega
  rw [e1, itoa_nat (0 - n) hneg]
  unfold itoa
  rw [if_pos h]
  congr 2
  omega
theorem tdiv_neg (n : Int) (h : n < 0) : (n.tdiv 10).natAbs = n.natAbs / 10 ∧ (n.tmod 10).natAbs = n.natAbs % 10 ∧ n.tdiv 10 ≤ 0 ∧ n.tmod 10 ≤ 0 := by
  have e : n = -((n.natAbs : Nat) : Int) := by omega
  have h1 : n.tdiv 10 = -(((n.natAbs / 10 : Nat) : Int)) := by
    rw [e, Int.neg_tdiv, ← e]
    congr 1
  have h2 : n.tmod 10 = -(((n.natAbs % 10 : Nat) : Int)) := by
    rw [e, Int.neg_tmod, ← e]
    congr 1
  rw [h1, h2]
  omega
theorem itoa_neg_step (n : Int) (h : n < 0) (h10 : n.tdiv 10 ≠ 0) : itoa n = itoa (n.tdiv 10) ++ itoa (0 - n.tmod 10) := by
  obtain ⟨a, b, c, d⟩ := tdiv_neg n h
  have hq : n.tdiv 10 < 0 := by omega
  rw [itoa_nat (0 - n.tmod 10) (by omega)]
  unfold itoa
  rw [if_pos h, if_pos hq, a, dec_step n.natAbs (by omega)]
  have e : (0 - n.tmod 10).toNat = n.natAbs % 10 := by omega
  rw [e]; rfl
theorem itoa_pos_step (n : Int) (h : 10 ≤ n) : itoa n = itoa (n / 10) ++ itoa (n % 10) := by
  rw [itoa_nat n (by omega), itoa_nat (n / 10) (by omega), itoa_nat (n % 10) (by omega), dec_step n.toNat (by omega)]
  have e1 : (n / 10).toNat = n.toNat / 10 := by omega
  have e2 : (n % 10).toNat = n.toNat % 10 := by omega
  rw [e1, e2]
theorem itoa_one (n : Int) (h : 0 ≤ n) (h' : n < 10) : itoa n = [UInt8.ofNat (48 + n.toNat)] := by
  rw [itoa_nat n h, Lib.decDigits_one (by omega)]
end Go.Proofs.YtffkppjmdelajaaDoor.Lists

/- Plain laws on numbers' texts: what a text of digits is worth. No program. -/
namespace Go.Proofs.YtffkppjmdelajaaDoor.Lists
open Go.Lib (itoa decDigits nDigits)

def AllDig (d : List UInt8) : Prop := ∀ c ∈ d, 48 ≤ c.toNat ∧ c.toNat ≤ 57
def valD (d : List UInt8) : Int := d.foldl (fun a c => 10 * a + ((c.toNat : Int) - 48)) 0
theorem valD_snoc (d : List UInt8) (c : UInt8) : valD (d ++ [c]) = 10 * valD d + ((c.toNat : Int) - 48) := by
  unfold valD; rw [List.foldl_append]; rfl
theorem valD_dec : ∀ (u : Nat), valD (decDigits u) = u := by
  intro u
  induction u using Nat.strongRecOn with
  | ind u ih =>
    by_cases h10 : u < 10
    · rw [Lib.decDigits_one h10]
      show 10 * 0 + (((UInt8.ofNat (48 + u)).toNat : Int) - 48) = u
      rw [dig_toNat u h10]; omega
    · rw [decDigits, dif_neg h10, valD_snoc, ih (u / 10) (by omega), dig_toNat (u % 10) (by omega)]
      omega
theorem nd_le : ∀ (k u : Nat), u < 10 ^ (k + 1) → nDigits u ≤ k + 1
  | 0, u, h => by rw [Lib.nDigits_small (by omega)]; omega
  | k + 1, u, h => by
    by_cases h10 : u < 10
    · rw [Lib.nDigits_small h10]; omega
    · rw [Lib.nDigits_big h10]
      have h2 : u / 10 < 10 ^ (k + 1) := by rw [Nat.pow_succ] at h; omega
      have := nd_le k (u / 10) h2
      omega
theorem itoa_len20 (v : Int) (h : I64 v) : (itoa v).length ≤ 20 := by
  obtain ⟨h1, h2⟩ := h
  have hp : (10 : Nat) ^ (18 + 1) = 10000000000000000000 := by decide
  unfold itoa
  split
  · rw [List.length_cons, Lib.decDigits_length]
    have := nd_le 18 v.natAbs (by rw [hp]; omega)
    omega
  · rw [Lib.decDigits_length]
    have := nd_le 18 v.toNat (by rw [hp]; omega)
    omega
/-- a text that begins with '-' -/
def isNeg (l : List UInt8) : Bool := match l with | [] => false | c :: _ => c == 45
def startOf (l : List UInt8) : Nat := if isNeg l = true then 1 else 0
def signOf (l : List UInt8) : Int := if isNeg l = true then -1 else 1
theorem dec_head (u : Nat) : isNeg (decDigits u) = false := by
  have hd := dec_digit u
  cases h : decDigits u with
  | nil => rfl
  | cons c r =>
    rw [h] at hd
    have := hd c (by simp)
    show (c == 45) = false
    rw [beq_eq_false_iff_ne]
    intro e
    subst e
    simp at this
theorem itoa_read (v : Int) : AllDig ((itoa v).drop (startOf (itoa v))) ∧ signOf (itoa v) * valD ((itoa v).drop (startOf (itoa v))) = v := by
  by_cases h : v < 0
  · have e : itoa v = 45 :: decDigits v.natAbs := by unfold itoa; rw [if_pos h]
    have hn : isNeg (45 :: decDigits v.natAbs) = true := rfl
    rw [e]
    unfold startOf signOf
    rw [if_pos hn, if_pos hn]
    simp only [List.drop_succ_cons, List.drop_zero]
    refine ⟨dec_digit _, ?_⟩
    rw [valD_dec]; omega
  · have e : itoa v = decDigits v.toNat := itoa_nat v (by omega)
    rw [e]
    unfold startOf signOf
    rw [dec_head]
    simp only [Bool.false_eq_true, if_false, List.drop_zero]
    refine ⟨dec_digit _, ?_⟩
    rw [valD_dec]; omega
theorem itoa_inj {v u : Int} (h : itoa v = itoa u) : v = u := by
  have h1 := (itoa_read v).2
  rw [h, (itoa_read u).2] at h1
  exact h1.symm

/-! with wrap-around -/
def w64 (x : Int) : Int := (x + 9223372036854775808) % 18446744073709551616 - 9223372036854775808
theorem w64_id {x : Int} (h : I64 x) : w64 x = x := by unfold I64 at h; unfold w64; omega
theorem w64_i64 (x : Int) : I64 (w64 x) := by unfold I64 w64; omega
theorem w64_add (x d : Int) : w64 (w64 (10 * w64 x) + d) = w64 (10 * x + d) := by unfold w64; omega
theorem w64_sub (x d : Int) : w64 (w64 (10 * w64 (-x)) - d) = w64 (-(10 * x + d)) := by unfold w64; omega

def NumIs (l : List UInt8) (n : Int) (b : Bool) : Prop := I64 n ∧ (b = true → itoa n = l) ∧ ∀ v, I64 v → itoa v = l → n = v ∧ b = true
theorem num_no {l : List UInt8} (h : ∀ v, I64 v → itoa v ≠ l) : NumIs l 0 false :=
  ⟨by unfold I64; omega, (fun e => by cases e), fun v hv e => absurd e (h v hv)⟩
theorem num_long {l : List UInt8} (h : 20 < l.length) : NumIs l 0 false := num_no fun v hv e => by
  have := itoa_len20 v hv
  rw [e] at this
  omega
theorem num_bad {l : List UInt8} (k : Nat) (h : k < l.length) (hk : startOf l ≤ k) (hc : ¬ (48 ≤ (l[k]'h).toNat ∧ (l[k]'h).toNat ≤ 57)) : NumIs l 0 false := num_no fun v _ e => by
  have h1 := (itoa_read v).1
  rw [e] at h1
  refine hc (h1 _ ?_)
  have h2 : (l.drop (startOf l))[k - startOf l]? = some (l[k]'h) := by
    rw [List.getElem?_drop, List.getElem?_eq_getElem (by omega)]
    congr 2
    omega
  exact List.mem_of_getElem? h2
theorem num_end {l r : List UInt8} {n : Int} (hn : n = w64 (signOf l * valD (l.drop (startOf l)))) (hr : r = itoa n) : NumIs l n (r == l) := by
  refine ⟨by rw [hn]; exact w64_i64 _, fun e => by rw [← hr]; exact beq_iff_eq.1 e, fun v hv e => ?_⟩
  have h1 := (itoa_read v).2
  rw [e] at h1
  have h2 : n = v := by rw [hn, h1, w64_id hv]
  refine ⟨h2, ?_⟩
  rw [hr, h2, e]
  exact beq_self_eq_true l
/-- what a reading has come to behind k bytes -/
def ReadTo (l : List UInt8) (k : Nat) (n : Int) : Prop := startOf l ≤ k ∧ n = w64 (signOf l * valD ((l.take k).drop (startOf l)))
theorem take_drop_snoc (l : List UInt8) (k st : Nat) (h : k < l.length) (hs : st ≤ k) : (l.take (k + 1)).drop st = (l.take k).drop st ++ [l[k]'h] := by
  rw [List.take_succ_eq_append_getElem h, List.drop_append]
  have e : (l.take k).length = k := by rw [List.length_take]; omega
  rw [e, Nat.sub_eq_zero_of_le hs]
  rfl
theorem read_plus {l : List UInt8} {k : Nat} {n : Int} (h : ReadTo l k n) (hk : k < l.length) (hs : signOf l = 1) : ReadTo l (k + 1) (w64 (w64 (10 * n) + (((l[k]'hk).toNat : Int) - 48))) := by
  obtain ⟨h1, h2⟩ := h
  refine ⟨by omega, ?_⟩
  rw [take_drop_snoc l k _ hk h1, valD_snoc, h2, hs]
  simp only [Int.one_mul]
  exact w64_add _ _
theorem read_minus {l : List UInt8} {k : Nat} {n : Int} (h : ReadTo l k n) (hk : k < l.length) (hs : signOf l = -1) : ReadTo l (k + 1) (w64 (w64 (10 * n) - (((l[k]'hk).toNat : Int) - 48))) := by
  obtain ⟨h1, h2⟩ := h
  refine ⟨by omega, ?_⟩
  rw [take_drop_snoc l k _ hk h1, valD_snoc, h2, hs]
  have e1 : ∀ x : Int, (-1) * x = -x := fun x => by omega
  rw [e1, e1]
  exact w64_sub _ _
theorem read_start (l : List UInt8) : ReadTo l (startOf l) 0 := by
  refine ⟨Nat.le_refl _, ?_⟩
  have e : (l.take (startOf l)).drop (startOf l) = [] := List.drop_eq_nil_of_le (by rw [List.length_take]; omega)
  rw [e]
  show (0 : Int) = w64 (signOf l * 0)
  rw [Int.mul_zero]; rfl
theorem read_done {l r : List UInt8} {k : Nat} {n : Int} (h : ReadTo l k n) (hk : l.length ≤ k) (hr : r = itoa n) : NumIs l n (r == l) := by
  obtain ⟨h1, h2⟩ := h
  rw [List.take_of_length_le hk] at h2
  exact num_end h2 hr
end Go.Proofs.YtffkppjmdelajaaDoor.Lists
