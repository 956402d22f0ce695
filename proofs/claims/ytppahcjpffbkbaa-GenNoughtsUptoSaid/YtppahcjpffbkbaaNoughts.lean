/- GenNoughts: the walk. Conditions: the sizes. -/
import Derived.Test.YtppahcjpffbkbaaGMend
import Derived.Test.YtppahcjpffbkbaaJust
namespace Go.Proofs.Ytppahcjpffbkbaa.NoughtsLaw
open Go.RowKit Lists Ints Vals Gens
set_option linter.unusedVariables false

set_option maxHeartbeats 4000000 in
set_option maxRecDepth 100000 in
theorem walk (t : Gn) (A : Option Addr) (c n : Nat) (l : List Int) (L : Option Addr) (lc : Nat) (hbulk : t.size + l.length ≤ 1048576) (w : World) (hg : GAt w (GBel w.heap.size) n (gv t A c) t) (hl : At w w.heap.size L l) (hcap : l.length ≤ lc) :
    Calls Try.prog 6 #[gv t A c, .slice L l.length lc] w fun e w' => e = .returned (.bool true) ∧ Below w.heap.size w w' := by
  have hb0 : Below w.heap.size w (w.alloc (gc t A c)) := (Below.refl _ _).alloc (Nat.le_refl _) _
  have g0 : G4 w.heap.size (.int .i64 t.kind) (.int .i64 t.a) (.int .i64 t.b) (.slice A t.subs.length c) (w.alloc (gc t A c)) := new_obj w _
  have JC := Lib.hid (fun (w : World) => just_ok w)
  have M1 := Lib.hid (fun (W : World) (hb : Below w.heap.size w W) => mend_prog (L := none) (l := []) (lc := 0) W ((hg.below hb).more hb.size) At.nil (Nat.le_refl _) (by simp) (by omega))
  have M2 := Lib.hid (fun (W : World) (hb : Below w.heap.size w W) => mend_prog (L := L) (l := l) (lc := lc) W ((hg.below hb).more hb.size) ((hl.below hb).more hb.size) hcap (by omega) (by omega))
  have B0 := Lib.hid hb0
  have G0 := Lib.hid g0
  have NT := Lib.hid (fun (h0 : genV t = 0) => show (∀ x ∈ mendL t [], x = 0) ∧ (∀ x ∈ mendL t l, 0 ≤ x ∧ x ≤ 1000) ∧ (mendL t []).length ≤ 1399680 ∧ (mendL t l).length ≤ 1399680 ∧ ((∀ i, i < (mendL t []).length → i < (mendL t l).length → (mendL t []).getD i 0 = (mendL t l).getD i 0) → mendL t [] = mendL t l) by
    obtain ⟨v1, r1, h1, n1⟩ := mend_run (t := t) [] h0
    obtain ⟨v2, r2, h2, n2⟩ := mend_run (t := t) l h0
    exact ⟨mend_noughts (gen_right h0).1 (small30 h0) h1, mend_within (gen_right h0).1 (small30 h0) h2, n1, n2, fun h => mend_alike (gen_right h0).1 h1 h2 h⟩)
  clear hb0 g0 hg hl hcap hbulk
  go_enter Try.func6, Try.ntmps6
  go_wp2_with fail
  generalize w.alloc (gc t A c) = W0 at *
  refine (JC.out _).mono ?_
  rintro e w1 ⟨rfl, hb1⟩
  have B1 := Lib.hid (below_trans B0.out hb1)
  have G1 := Lib.hid (G0.out.below hb1)
  obtain ⟨k0, k1, k2, k3⟩ := G1.out.facts
  clear hb1
  go_wp2_with fail
  refine (M1.out w1 B1.out).mono ?_
  rintro e w2 ⟨A1, c1, rfl, ho1, hb2⟩
  have B2 := Lib.hid (below_trans B1.out hb2)
  have G2 := Lib.hid (G1.out.below hb2)
  obtain ⟨k0, k1, k2, k3⟩ := G2.out.facts
  have O1 := Lib.hid ho1
  clear hb2 ho1
  go_wp2_with fail
  refine (M2.out w2 B2.out).mono ?_
  rintro e w3 ⟨A2, c2, rfl, ho2, hb3⟩
  have B3 := Lib.hid (below_trans B2.out hb3)
  have H1 := Lib.hid (O1.out.below hb3).at_
  have H2 := Lib.hid ho2.at_
  clear hb3 ho2 G2 G1 G0 O1
  by_cases hz : genV t = 0
  · obtain ⟨q1, q2, q3, q4, q5⟩ := NT.out hz
    rw [hz, errOf_ok]
    have Q1 := Lib.hid q1
    have Q2 := Lib.hid q2
    have Q5 := Lib.hid q5
    clear hz q1 q2 q5 NT M1 M2
    generalize mendL t [] = m at *
    generalize mendL t l = u at *
    go_wp2_with fail
    go_loop [10] (fun i => ∃ k : Nat, k ≤ m.length ∧ i = .int .i64 k) (fun i => m.length - (intOf i).toNat)
    case atStart => exact ⟨0, Nat.zero_le _, rfl⟩
    case round =>
      obtain ⟨k, hk, rfl⟩ := hrel
      by_cases hlt : k < m.length
      · obtain ⟨b1, o1, rfl, _, hc1⟩ := H1.out (by omega)
        have c1 := hc1 k hlt
        have hz0 : m.getD k 0 = 0 := by
          rw [List.getD_eq_getElem?_getD, List.getElem?_eq_getElem hlt]
          exact Q1.out _ (List.getElem_mem hlt)
        rw [hz0] at c1
        clear hc1 hz0
        go_wp2
        go_round
        case rel => exact ⟨k + 1, by omega, by go_num⟩
        case measure => simp [intOf]; omega
      · go_wp2_with fail
        clear hlt hk
        go_loopw [11] (fun i wr => ∃ k : Nat, k ≤ m.length ∧ i = .int .i64 k ∧ Hid (Below w3.heap.size w3 wr) ∧ Hid (∀ j, j < k → j < u.length → m.getD j 0 = u.getD j 0)) (fun i _ => m.length - (intOf i).toNat)
        case atStart => exact ⟨0, Nat.zero_le _, rfl, Below.refl _ _, fun j hj => by omega⟩
        case round =>
          obtain ⟨k, hk, rfl, hbw, hag⟩ := hrel
          have BW := Lib.hid (below_trans B3.out hbw.out)
          by_cases hlt : k < m.length
          · by_cases hlu : k < u.length
            · obtain ⟨b1, o1, rfl, hb1, hc1⟩ := (H1.out.below hbw.out) (by omega)
              obtain ⟨b2, o2, rfl, hb2, hc2⟩ := (H2.out.below hbw.out) (by omega)
              have c1 := hc1 k hlt
              have c2 := hc2 k hlu
              have hz0 : m.getD k 0 = 0 := by
                rw [List.getD_eq_getElem?_getD, List.getElem?_eq_getElem hlt]
                exact Q1.out _ (List.getElem_mem hlt)
              have hu0 : 0 ≤ u.getD k 0 := by
                rw [List.getD_eq_getElem?_getD, List.getElem?_eq_getElem hlu]
                exact (Q2.out _ (List.getElem_mem hlu)).1
              rw [hz0] at c1
              have HZ := Lib.hid hz0
              clear hc1 hc2 hz0 hb1 hb2
              generalize hx : u.getD k 0 = x at c2 hu0
              have HX := Lib.hid hx
              clear hx
              have h1' : (k : Int) < m.length := by omega
              have h2' : (k : Int) < u.length := by omega
              by_cases h : x = 0
              · subst h
                have hag2 := Lib.hid (show ∀ j, j < k + 1 → j < u.length → m.getD j 0 = u.getD j 0 from fun j hj hj2 => by
                  rcases (show j < k ∨ j = k by omega) with hj3 | rfl
                  · exact hag.out j hj3 hj2
                  · rw [HZ.out, HX.out])
                go_wp2
                go_quiet (fail)
                go_wp2
                go_roundw
                case rel => exact ⟨k + 1, by omega, by go_num, hbw.out.trans (below_drewN _ _ |>.mono hbw.out.size), hag2.out⟩
                case measure => simp [intOf]; omega
              · have hne : (x != 0) = true := by rw [bne_iff_ne]; exact h
                have hpos : decide (0 < x) = true := by rw [decide_eq_true_eq]; omega
                clear h
                go_wp2
                go_quiet (fail)
                go_wp2
                go_quiet (fail)
                go_wp2
                go_ret
                exact ⟨rfl, below_trans BW.out (by first | exact below_drewN _ _ | exact (below_drewN _ _).trans ((below_drewN _ _).mono (Nat.le_refl _)))⟩
            · have hm : m = u := Q5.out (fun j hj hj2 => hag.out j (by omega) hj2)
              have : u.length ≤ k := by omega
              rw [hm] at hlt
              omega
          · have hm : m = u := Q5.out (fun j hj hj2 => hag.out j (by omega) hj2)
            subst hm
            go_wp2
            go_ret
            exact ⟨rfl, BW.out⟩
  · have RE := Lib.hid (errOf_no hz)
    rw [errOf_no hz]
    clear NT M1 M2
    generalize genV t = q at *
    go_wp2_with fail
    go_ret
    exact ⟨rfl, B3.out⟩
end Go.Proofs.Ytppahcjpffbkbaa.NoughtsLaw
