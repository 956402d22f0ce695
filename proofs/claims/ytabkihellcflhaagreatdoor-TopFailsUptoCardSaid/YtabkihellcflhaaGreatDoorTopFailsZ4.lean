/- TopFails, part 4 of the proof: The program's Check of generators, but for fits: contracts. Conditions: the size. -/
import Derived.Test.YtabkihellcflhaaGreatDoorTopFailsZ3
/- The program's Check of generators, but for fits: contracts. Conditions: the size. -/
namespace Go.Proofs.YtabkihellcflhaaGreatDoor.Gens
open Go.RowKit Lists Ints Vals
set_option linter.unusedVariables false

theorem inrange_any (x : Int) (w : World) : Calls Tryz.prog 123 #[.int .i64 x] w fun e w' => e = .returned (.bool (!farB x)) ∧ w = w' := by
  by_cases a : -1073741824 ≤ x
  · have g : decide (-1073741824 ≤ x) = true := by rw [decide_eq_true_eq]; exact a
    have HV := Lib.hid (show (!farB x) = decide (x ≤ 1073741824) by
      unfold farB
      rw [show decide (x < -1073741824) = false by rw [decide_eq_false_iff_not]; omega, Bool.false_or]
      by_cases h : 1073741824 < x
      · rw [decide_eq_true h, show decide (x ≤ 1073741824) = false by rw [decide_eq_false_iff_not]; omega]; rfl
      · rw [decide_eq_false h, show decide (x ≤ 1073741824) = true by rw [decide_eq_true_eq]; omega]; rfl)
    go_enter Tryz.func123, Tryz.ntmps123
    go_wp2
    go_ret
    exact ⟨ret_b HV.out.symm, rfl⟩
  · have g : decide (-1073741824 ≤ x) = false := by rw [decide_eq_false_iff_not]; exact a
    have HV := Lib.hid (show (!farB x) = false by
      unfold farB
      rw [show decide (x < -1073741824) = true by rw [decide_eq_true_eq]; omega]; rfl)
    go_enter Tryz.func123, Tryz.ntmps123
    go_wp2
    go_ret
    exact ⟨ret_b HV.out.symm, rfl⟩
theorem near_of {x : Int} (h : farB x = false) : -1073741824 ≤ x ∧ x ≤ 1073741824 := by
  simp only [farB, Bool.or_eq_false_iff] at h
  have := of_decide_eq_false h.1
  have := of_decide_eq_false h.2
  omega

set_option maxHeartbeats 2000000 in
set_option maxRecDepth 100000 in
theorem numbers_any (k a b : Int) (subs : List Gn) (A : Option Addr) (c : Nat) (w : World) (hk : 1 ≤ k) (hk5 : k ≤ 5) :
    Calls Tryz.prog 114 #[.agg #[.int .i64 k, .int .i64 a, .int .i64 b, .slice A subs.length c]] w fun e w' => e = .returned (.bool (!rangeBad (.node k a b subs))) ∧ Below w.heap.size w w' := by
  have H0 := Lib.hid (show Below w.heap.size w (w.alloc (.cells #[.int .i64 k, .int .i64 a, .int .i64 b, .slice A subs.length c] 24)) from (Below.refl _ _).alloc (Nat.le_refl _) _)
  have FA := Lib.hid (fun w => inrange_any a w)
  have FB := Lib.hid (fun w => inrange_any b w)
  have RB := Lib.hid (show rangeBad (.node k a b subs) = ((k == 1 && farB a) || (k == 2 && (farB a || farB b || decide (b < a) || decide (1000 < b - a))) || (k == 4 && (decide (a < 0) || decide (5 < a)))) from rfl)
  rcases (show k = 1 ∨ k = 2 ∨ k = 3 ∨ k = 4 ∨ k = 5 by omega) with rfl | rfl | rfl | rfl | rfl
  · have EV := Lib.hid (show rangeBad (.node 1 a b subs) = farB a by rw [RB.out]; simp)
    go_enter Tryz.func114, Tryz.ntmps114
    go_wp2_with fail
    refine (FA.out _).mono ?_
    rintro e w9 ⟨rfl, rfl⟩
    go_wp2_with fail
    go_ret
    exact ⟨ret_b (by rw [EV.out]), H0.out⟩
  · cases hfa : farB a with
    | true =>
      rw [hfa] at FA
      have EV := Lib.hid (show rangeBad (.node 2 a b subs) = true by rw [RB.out, hfa]; simp)
      clear hfa
      simp only [Bool.not_true] at FA
      go_enter Tryz.func114, Tryz.ntmps114
      go_wp2_with fail
      refine (FA.out _).mono ?_
      rintro e w9 ⟨rfl, rfl⟩
      go_wp2_with fail
      go_ret
      exact ⟨ret_b (by rw [EV.out]; rfl), H0.out⟩
    | false =>
      obtain ⟨a1, a2⟩ := near_of hfa
      rw [hfa] at FA
      simp only [Bool.not_false] at FA
      cases hfb : farB b with
      | true =>
        rw [hfb] at FB
        have EV := Lib.hid (show rangeBad (.node 2 a b subs) = true by rw [RB.out, hfa, hfb]; simp)
        clear hfa hfb
        simp only [Bool.not_true] at FB
        go_enter Tryz.func114, Tryz.ntmps114
        go_wp2_with fail
        refine (FA.out _).mono ?_
        rintro e w9 ⟨rfl, rfl⟩
        go_wp2_with fail
        refine (FB.out _).mono ?_
        rintro e w9 ⟨rfl, rfl⟩
        go_wp2_with fail
        go_ret
        exact ⟨ret_b (by rw [EV.out]; rfl), H0.out⟩
      | false =>
        obtain ⟨b1, b2⟩ := near_of hfb
        rw [hfb] at FB
        simp only [Bool.not_false] at FB
        have EV := Lib.hid (show (!rangeBad (.node 2 a b subs)) = (decide (a ≤ b) && decide (b - a ≤ 1000)) by
          rw [RB.out, hfa, hfb, show decide (b < a) = !decide (a ≤ b) by rw [← decide_not]; exact decide_eq_decide.2 (by omega), show decide (1000 < b - a) = !decide (b - a ≤ 1000) by rw [← decide_not]; exact decide_eq_decide.2 (by omega)]
          cases decide (a ≤ b) <;> cases decide (b - a ≤ 1000) <;> rfl)
        clear hfa hfb
        by_cases hab : a ≤ b
        · have g1 : decide (a ≤ b) = true := by rw [decide_eq_true_eq]; exact hab
          have EV := Lib.hid (show (!rangeBad (.node 2 a b subs)) = decide (b - a ≤ 1000) by rw [EV.out, g1, Bool.true_and])
          go_enter Tryz.func114, Tryz.ntmps114
          go_wp2_with fail
          refine (FA.out _).mono ?_
          rintro e w9 ⟨rfl, rfl⟩
          go_wp2_with fail
          refine (FB.out _).mono ?_
          rintro e w9 ⟨rfl, rfl⟩
          go_wp2_with fail
          go_ret
          exact ⟨ret_b EV.out.symm, H0.out⟩
        · have g1 : decide (a ≤ b) = false := by rw [decide_eq_false_iff_not]; exact hab
          have EV := Lib.hid (show (!rangeBad (.node 2 a b subs)) = false by rw [EV.out, g1, Bool.false_and])
          go_enter Tryz.func114, Tryz.ntmps114
          go_wp2_with fail
          refine (FA.out _).mono ?_
          rintro e w9 ⟨rfl, rfl⟩
          go_wp2_with fail
          refine (FB.out _).mono ?_
          rintro e w9 ⟨rfl, rfl⟩
          go_wp2_with fail
          go_ret
          exact ⟨ret_b EV.out.symm, H0.out⟩
  · have EV := Lib.hid (show rangeBad (.node 3 a b subs) = false by rw [RB.out]; simp)
    go_enter Tryz.func114, Tryz.ntmps114
    go_wp2_with fail
    go_ret
    exact ⟨ret_b (by rw [EV.out]; rfl), H0.out⟩
  · have EV := Lib.hid (show (!rangeBad (.node 4 a b subs)) = (decide (0 ≤ a) && decide (a ≤ 5)) by
      rw [RB.out, show decide (a < 0) = !decide (0 ≤ a) by rw [← decide_not]; exact decide_eq_decide.2 (by omega), show decide (5 < a) = !decide (a ≤ 5) by rw [← decide_not]; exact decide_eq_decide.2 (by omega)]
      cases decide (0 ≤ a) <;> cases decide (a ≤ 5) <;> rfl)
    by_cases hab : 0 ≤ a
    · have g1 : decide (0 ≤ a) = true := by rw [decide_eq_true_eq]; exact hab
      have EV := Lib.hid (show (!rangeBad (.node 4 a b subs)) = decide (a ≤ 5) by rw [EV.out, g1, Bool.true_and])
      go_enter Tryz.func114, Tryz.ntmps114
      go_wp2_with fail
      go_ret
      exact ⟨ret_b EV.out.symm, H0.out⟩
    · have g1 : decide (0 ≤ a) = false := by rw [decide_eq_false_iff_not]; exact hab
      have EV := Lib.hid (show (!rangeBad (.node 4 a b subs)) = false by rw [EV.out, g1, Bool.false_and])
      go_enter Tryz.func114, Tryz.ntmps114
      go_wp2_with fail
      go_ret
      exact ⟨ret_b EV.out.symm, H0.out⟩
  · have EV := Lib.hid (show rangeBad (.node 5 a b subs) = false by rw [RB.out]; simp)
    go_enter Tryz.func114, Tryz.ntmps114
    go_wp2_with fail
    go_ret
    exact ⟨ret_b (by rw [EV.out]; rfl), H0.out⟩

set_option maxHeartbeats 2000000 in
set_option maxRecDepth 100000 in
theorem subsfit_any (k a b : Int) (subs : List Gn) (A : Option Addr) (c : Nat) (w : World) (hk : 1 ≤ k) (hk5 : k ≤ 5) (hln : subs.length ≤ 4294967296) :
    Calls Tryz.prog 115 #[.agg #[.int .i64 k, .int .i64 a, .int .i64 b, .slice A subs.length c]] w fun e w' => e = .returned (.bool (!subsBad (.node k a b subs))) ∧ Below w.heap.size w w' := by
  have H0 := Lib.hid (show Below w.heap.size w (w.alloc (.cells #[.int .i64 k, .int .i64 a, .int .i64 b, .slice A subs.length c] 24)) from (Below.refl _ _).alloc (Nat.le_refl _) _)
  have RB := Lib.hid (show subsBad (.node k a b subs) = ((decide (k ≤ 2) && !subs.isEmpty) || (k == 4 && (subs.length != 1)) || (k == 5 && subs.isEmpty)) from rfl)
  have IE : subs.isEmpty = decide (subs.length = 0) := by cases subs <;> simp
  have EV := Lib.hid (show (!subsBad (.node k a b subs)) = if k = 1 ∨ k = 2 then ((subs.length : Int) == 0) else if k = 4 then ((subs.length : Int) == 1) else if k = 5 then decide (0 < (subs.length : Int)) else true by
    rw [RB.out, IE]
    by_cases z : subs.length = 0
    · rw [z]
      rcases (show k = 1 ∨ k = 2 ∨ k = 3 ∨ k = 4 ∨ k = 5 by omega) with rfl | rfl | rfl | rfl | rfl <;> simp
    · have z1 : ((subs.length : Int) == 0) = false := by rw [beq_eq_false_iff_ne]; omega
      have z2 : decide (0 < (subs.length : Int)) = true := by rw [decide_eq_true_eq]; omega
      by_cases y : subs.length = 1
      · rw [z1, z2, y]
        rcases (show k = 1 ∨ k = 2 ∨ k = 3 ∨ k = 4 ∨ k = 5 by omega) with rfl | rfl | rfl | rfl | rfl <;> simp
      · have y1 : ((subs.length : Int) == 1) = false := by rw [beq_eq_false_iff_ne]; omega
        have y2 : (subs.length != 1) = true := by rw [bne_iff_ne]; exact y
        rw [z1, z2, y1, y2]
        rcases (show k = 1 ∨ k = 2 ∨ k = 3 ∨ k = 4 ∨ k = 5 by omega) with rfl | rfl | rfl | rfl | rfl <;> simp [z])
  clear IE
  rcases (show k = 1 ∨ k = 2 ∨ k = 3 ∨ k = 4 ∨ k = 5 by omega) with rfl | rfl | rfl | rfl | rfl
  all_goals
    simp at EV
    go_enter Tryz.func115, Tryz.ntmps115
    go_wp2_with fail
    go_ret
    exact ⟨ret_b (by rw [EV.out]; simp), H0.out⟩

/-- what is wrong with a part by itself -/
def partOne (t : Gn) : Int := if kindBad t = true then 3 else if rangeBad t = true then 1 else if subsBad t = true then 3 else 0
theorem partV_one (t : Gn) : partV t = if partOne t = 0 then partVs t.subs else partOne t := by
  rw [partV_eq]; unfold partOne
  split
  · simp
  · split
    · simp
    · split <;> simp

set_option maxHeartbeats 2000000 in
set_option maxRecDepth 100000 in
theorem part_one (k a b : Int) (subs : List Gn) (A : Option Addr) (c : Nat) (w : World) (hwk : I64 k) (hln : subs.length ≤ 4294967296) :
    Calls Tryz.prog 97 #[.agg #[.int .i64 k, .int .i64 a, .int .i64 b, .slice A subs.length c]] w fun e w' => e = .returned (errOf (partOne (.node k a b subs))) ∧ Below w.heap.size w w' := by
  have hh : Below w.heap.size w (w.alloc (.cells #[.int .i64 k, .int .i64 a, .int .i64 b, .slice A subs.length c] 24)) := (Below.refl _ _).alloc (Nat.le_refl _) _
  have H0 := Lib.hid hh
  clear hh
  by_cases h1 : k < 1
  · have EV := Lib.hid (show partOne (.node k a b subs) = 3 by unfold partOne; rw [if_pos (by show (decide (k < 1) || decide (5 < k)) = true; rw [decide_eq_true h1]; rfl)])
    have g : decide (k < 1) = true := by rw [decide_eq_true_eq]; exact h1
    go_enter Tryz.func97, Tryz.ntmps97
    go_wp2_with fail
    go_ret
    exact ⟨ret_v (by rw [EV.out]; rfl), H0.out⟩
  · have g : decide (k < 1) = false := by rw [decide_eq_false_iff_not]; exact h1
    by_cases h5 : 5 < k
    · have EV := Lib.hid (show partOne (.node k a b subs) = 3 by unfold partOne; rw [if_pos (by show (decide (k < 1) || decide (5 < k)) = true; rw [decide_eq_true h5]; simp)])
      have g' : decide (5 < k) = true := by rw [decide_eq_true_eq]; exact h5
      go_enter Tryz.func97, Tryz.ntmps97
      go_wp2_with fail
      go_ret
      exact ⟨ret_v (by rw [EV.out]; rfl), H0.out⟩
    · have g' : decide (5 < k) = false := by rw [decide_eq_false_iff_not]; exact h5
      have EV := Lib.hid (show partOne (.node k a b subs) = if rangeBad (.node k a b subs) = true then 1 else if subsBad (.node k a b subs) = true then 3 else 0 by unfold partOne; rw [if_neg (by show ¬ (decide (k < 1) || decide (5 < k)) = true; rw [decide_eq_false h1, decide_eq_false h5]; simp)])
      have N1 := numbers_any k a b subs A c (w.alloc (.cells #[.int .i64 k, .int .i64 a, .int .i64 b, .slice A subs.length c] 24)) (by omega) (by omega)
      have S1 := Lib.hid (fun w => subsfit_any k a b subs A c w (by omega) (by omega) hln)
      cases hr : rangeBad (.node k a b subs) with
      | true =>
        rw [hr] at N1 EV
        simp only [Bool.not_true] at N1
        have N1 := Lib.hid N1
        go_enter Tryz.func97, Tryz.ntmps97
        go_wp2_with fail
        refine N1.out.mono ?_
        rintro e w2 ⟨rfl, hb2⟩
        have B2 := Lib.hid (on H0.out hb2)
        clear hb2
        go_wp2_with fail
        go_ret
        exact ⟨ret_v (by rw [EV.out]; rfl), B2.out⟩
      | false =>
        rw [hr] at N1 EV
        simp only [Bool.not_false] at N1
        have N1 := Lib.hid N1
        cases hs : subsBad (.node k a b subs) with
        | true =>
          rw [hs] at S1 EV
          simp only [Bool.not_true] at S1
          go_enter Tryz.func97, Tryz.ntmps97
          go_wp2_with fail
          refine N1.out.mono ?_
          rintro e w2 ⟨rfl, hb2⟩
          have B2 := Lib.hid (on H0.out hb2)
          obtain ⟨c0, c1, c2, c3⟩ := gbox w w2 _ _ _ _ hb2
          clear hb2
          go_wp2_with fail
          refine (S1.out w2).mono ?_
          rintro e w3 ⟨rfl, hb3⟩
          have B3 := Lib.hid (on B2.out hb3)
          clear hb3
          go_wp2_with fail
          go_ret
          exact ⟨ret_v (by rw [EV.out]; rfl), B3.out⟩
        | false =>
          rw [hs] at S1 EV
          simp only [Bool.not_false] at S1
          go_enter Tryz.func97, Tryz.ntmps97
          go_wp2_with fail
          refine N1.out.mono ?_
          rintro e w2 ⟨rfl, hb2⟩
          have B2 := Lib.hid (on H0.out hb2)
          obtain ⟨c0, c1, c2, c3⟩ := gbox w w2 _ _ _ _ hb2
          clear hb2
          go_wp2_with fail
          refine (S1.out w2).mono ?_
          rintro e w3 ⟨rfl, hb3⟩
          have B3 := Lib.hid (on B2.out hb3)
          clear hb3
          go_wp2_with fail
          go_ret
          exact ⟨ret_v (by rw [EV.out]; rfl), B3.out⟩

set_option maxHeartbeats 2000000 in
set_option maxRecDepth 100000 in
theorem parts_any : ∀ (n : Nat) (t : Gn) (v : Value) (B : Nat) (w : World), GAt w (GBel B) n v t → B ≤ w.heap.size → t.size ≤ 4294967296 →
    Calls Tryz.prog 64 #[v] w fun e w' => e = .returned (errOf (partV t)) ∧ Below w.heap.size w w' := by
  intro n
  induction n with
  | zero => intro t v B w h; exact h.elim
  | succ n ih =>
    intro t v B w h hB hsz
    obtain ⟨m, A, c, e, hw, rfl, hit⟩ := h.open_
    obtain rfl : n = m := by omega
    have IH := Lib.hid ih
    have HIT := Lib.hid hit
    have HB := Lib.hid hB
    have HS := Lib.hid hsz
    have hln : t.subs.length ≤ 4294967296 := by have := glen_sizes t.subs; have := gsize_subs t; omega
    have EQ := Lib.hid (partV_one t)
    have b0 : Below w.heap.size w (w.alloc (gc t A c)) := (Below.refl _ _).alloc (Nat.le_refl _) _
    have H0 := Lib.hid b0
    have SB := Lib.hid (gsize_subs t)
    have P1 := part_one t.kind t.a t.b t.subs A c (w.alloc (gc t A c)) (i64_wf hw.1) hln
    rw [show Gn.node t.kind t.a t.b t.subs = t by cases t; rfl] at P1
    clear ih hit h hB hsz e hw b0
    by_cases hz : partOne t = 0
    · rw [hz, errOf_ok] at P1
      have P1 := Lib.hid P1
      have EQ := Lib.hid (show partV t = partVs t.subs by rw [EQ.out, if_pos hz])
      clear hz
      go_enter Tryz.func64, Tryz.ntmps64
      go_wp2_with fail
      refine P1.out.mono ?_
      rintro e w2 ⟨rfl, hb2⟩
      have B2 := Lib.hid (on H0.out hb2)
      obtain ⟨c0, c1, c2, c3⟩ := gbox w w2 _ _ _ _ hb2
      clear hb2 P1
      go_wp2_with fail
      clear c0 c1 c2 c3
      go_loopw [15] (fun i wr => ∃ k : Nat, k ≤ t.subs.length ∧ i = .int .i64 k ∧ Hid (Below w.heap.size w wr) ∧ Hid (partVs (t.subs.take k) = 0)) (fun i _ => t.subs.length - (intOf i).toNat)
      case atStart => exact ⟨0, Nat.zero_le _, rfl, B2.out, (show partVs (t.subs.take 0) = 0 from rfl)⟩
      case round =>
        obtain ⟨k, hk, rfl, hw, hz⟩ := hrel
        have hs2 := Lib.hid hw.out.size
        by_cases hlt : k < t.subs.length
        · obtain ⟨ib, off, D, d, rfl, c0, c1, c2, c3, hti⟩ := sub_as HIT.out (hw.out.mono HB.out) k hlt
          have hsi : (t.subs[k]'hlt).size ≤ 4294967296 := by have := gsize_mem t.subs _ (List.getElem_mem hlt); have h3 := HS.out; have := SB.out; omega
          have ba : Below wr.heap.size wr (wr.alloc (gc (t.subs[k]'hlt) D d)) := (Below.refl _ _).alloc (Nat.le_refl _) _
          have bsz : B ≤ wr.heap.size := Nat.le_trans HB.out hs2.out
          have C1 := IH.out (t.subs[k]'hlt) _ B _ (hti.below (ba.mono bsz)) (by have := HB.out; have := hs2.out; simp; omega) hsi
          clear hti hsi
          by_cases hf : partV (t.subs[k]'hlt) = 0
          · have hz2 := Lib.hid (part_step0 t.subs k hlt hz.out hf)
            rw [hf, errOf_ok] at C1
            have HC1 := Lib.hid C1
            have HA := Lib.hid ba
            clear C1 hf ba
            generalize t.subs[k]'hlt = y at HC1 c0 c1 c2 c3 HA
            go_wp2_with fail
            refine HC1.out.mono ?_
            rintro e w3 ⟨rfl, hb3⟩
            have B3 := Lib.hid (hw.out.trans ((on HA.out hb3).mono hs2.out))
            clear hb3
            go_wp2_with fail
            go_roundw
            case rel => exact ⟨k + 1, hlt, by go_num, B3.out, hz2.out⟩
            case measure => simp [intOf]; omega
          · have hr := Lib.hid (part_step1 t.subs k hlt hz.out hf)
            rw [errOf_no hf] at C1
            have RE := Lib.hid (errOf_no hf)
            generalize partV (t.subs[k]'hlt) = q at C1 hr RE
            have HC1 := Lib.hid C1
            have HA := Lib.hid ba
            clear C1 hf ba
            generalize t.subs[k]'hlt = y at HC1 c0 c1 c2 c3 HA
            go_wp2_with fail
            refine HC1.out.mono ?_
            rintro e w3 ⟨rfl, hb3⟩
            have B3 := Lib.hid (hw.out.trans ((on HA.out hb3).mono hs2.out))
            clear hb3
            go_wp2_with fail
            go_ret
            exact ⟨ret_v (a := .iface 29 (.int .i64 q)) (by rw [EQ.out, ← hr.out, RE.out]), B3.out⟩
        · have hr := Lib.hid (show partVs t.subs = 0 by rw [← List.take_of_length_le (show t.subs.length ≤ k by omega)]; exact hz.out)
          go_wp2_with fail
          go_ret
          exact ⟨by rw [EQ.out, hr.out]; rfl, hw.out⟩
    · have RE := Lib.hid (errOf_no hz)
      rw [errOf_no hz] at P1
      have EQ := Lib.hid (show partV t = partOne t by rw [EQ.out, if_neg hz])
      generalize partOne t = q at P1 EQ RE
      have P1 := Lib.hid P1
      clear hz
      go_enter Tryz.func64, Tryz.ntmps64
      go_wp2_with fail
      refine P1.out.mono ?_
      rintro e w2 ⟨rfl, hb2⟩
      have B2 := Lib.hid (on H0.out hb2)
      clear hb2 P1
      go_wp2_with fail
      go_ret
      exact ⟨ret_v (a := .iface 29 (.int .i64 q)) (by rw [EQ.out, RE.out]), B2.out⟩
end Go.Proofs.YtabkihellcflhaaGreatDoor.Gens
