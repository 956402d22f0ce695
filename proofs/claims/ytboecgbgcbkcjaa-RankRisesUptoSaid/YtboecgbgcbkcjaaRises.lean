/- RankRises: the walk. Conditions: the sizes. -/
import Derived.Test.YtboecgbgcbkcjaaMade
import Derived.Test.YtboecgbgcbkcjaaRkNth
import Derived.Test.YtboecgbgcbkcjaaRisesP
namespace Go.Proofs.Ytboecgbgcbkcjaa.RisesLaw
open Go.RowKit Lists Ints Vals Gens
set_option linter.unusedVariables false

theorem rises_facts {t : Gn} {i k : Int} (hi : nthE t i = 0) (hk : nthE t k = 0) :
    (∀ j, (∀ m, m < j → (nthV t i).getD m 0 = (nthV t k).getD m 0) → (nthV t i).getD j 0 ≠ (nthV t k).getD j 0 → ((nthV t i).getD j 0 < (nthV t k).getD j 0 ↔ i < k)) ∧
    ((∀ m, m < (nthV t i).length → m < (nthV t k).length → (nthV t i).getD m 0 = (nthV t k).getD m 0) → i = k) := by
  obtain ⟨hf, _, i0, i1, iv⟩ := nthE_zero hi
  obtain ⟨_, _, k0, k1, kv⟩ := nthE_zero hk
  rw [iv, kv]
  have hg := good_gen t hf.1
  refine ⟨fun j hp hne => ?_, fun hp => ?_⟩
  · rw [hg.order i1 k1 hp hne]; omega
  · have := hg.same i1 k1 hp; omega

theorem drew1 {w wr : World} {n : Nat} (h : Below w.heap.size w wr) : Below w.heap.size w (wr.drewN n) := below_trans h (Ints.below_drewN _ _)

set_option maxHeartbeats 4000000 in
set_option maxRecDepth 100000 in
theorem walk (t : Gn) (A : Option Addr) (c n : Nat) (i k : Int) (hbulk : t.size ≤ 1048576) (w : World) (hg : GAt w (GBel w.heap.size) n (gv t A c) t) (wi : (Lit.int .i64 i).wf = true) (wk : (Lit.int .i64 k).wf = true) :
    Calls Try.prog 4 #[gv t A c, .int .i64 i, .int .i64 k] w fun e w' => e = .returned (.bool true) ∧ Below w.heap.size w w' := by
  have hb0 : Below w.heap.size w (w.alloc (gc t A c)) := (Below.refl _ _).alloc (Nat.le_refl _) _
  have g0 : G4 w.heap.size (.int .i64 t.kind) (.int .i64 t.a) (.int .i64 t.b) (.slice A t.subs.length c) (w.alloc (gc t A c)) := new_obj w _
  have JC := Lib.hid (fun (w : World) => made_ok w)
  have N1 := Lib.hid (fun (W : World) (hb : Below w.heap.size w W) (i : Int) (hi : I64 i) => nth_prog W ((hg.below hb).more hb.size) (Nat.le_refl _) (by omega) i hi)
  have B0 := Lib.hid hb0
  have G0 := Lib.hid g0
  have FT := Lib.hid (fun (h1 : nthE t i = 0) (h2 : nthE t k = 0) => rises_facts h1 h2)
  have LN := Lib.hid (And.intro (nthV_len t i) (nthV_len t k))
  have II := Lib.hid (i64_wf wi)
  have KK := Lib.hid (i64_wf wk)
  clear hb0 g0 hg hbulk wi wk
  go_enter Try.func4, Try.ntmps4
  go_wp2_with fail
  generalize w.alloc (gc t A c) = W0 at *
  ((with_reducible refine (JC.out _).mono ?_))
  rintro e w1 ⟨rfl, hb1⟩
  have B1 := Lib.hid (below_trans B0.out hb1)
  have G1 := Lib.hid (G0.out.below hb1)
  obtain ⟨k0, k1, k2, k3⟩ := G1.out.facts
  clear hb1
  go_wp2_with fail
  ((with_reducible refine (N1.out w1 B1.out i II.out).mono ?_))
  rintro e w2 ⟨A1, c1, rfl, ho1, hb2⟩
  have B2 := Lib.hid (below_trans B1.out hb2)
  have O2 := Lib.hid ho1
  clear k0 k1 k2 k3
  obtain ⟨k0, k1, k2, k3⟩ := (G1.out.below hb2).facts
  clear hb2 ho1
  go_wp2_with fail
  ((with_reducible refine (N1.out w2 B2.out k KK.out).mono ?_))
  rintro e w3 ⟨A2, c2, rfl, ho2, hb3⟩
  have B3 := Lib.hid (below_trans B2.out hb3)
  have H1 := Lib.hid (O2.out.below hb3).at_
  have H2 := Lib.hid ho2.at_
  clear hb3 ho2 O2 G1 G0 k0 k1 k2 k3 N1 JC
  by_cases h1 : nthE t i = 0
  · by_cases h2 : nthE t k = 0
    · obtain ⟨f1, f2⟩ := FT.out h1 h2
      rw [h1, h2, errOf_ok]
      have F1 := Lib.hid f1
      have F2 := Lib.hid f2
      have L1 := Lib.hid LN.out.1
      have L2 := Lib.hid LN.out.2
      have HV := Lib.hid (fun (e : i = k) => show nthV t i = nthV t k by rw [e])
      clear h1 h2 f1 f2 FT LN
      generalize nthV t i = a at *
      generalize nthV t k = b at *
      have ha := L1.out
      have hb := L2.out
      go_wp2_with fail
      go_loopw [12] (fun x wr => ∃ j : Nat, j ≤ a.length ∧ x = .int .i64 j ∧ Hid (Below w3.heap.size w3 wr) ∧ Hid (∀ m, m < j → a.getD m 0 = b.getD m 0)) (fun x _ => a.length - (intOf x).toNat)
      case atStart => exact ⟨0, Nat.zero_le _, rfl, Below.refl _ _, fun j hj => by omega⟩
      case round =>
        obtain ⟨j, hj, rfl, hbw, hag⟩ := hrel
        have BW := Lib.hid (below_trans B3.out hbw.out)
        by_cases hlt : j < a.length
        · by_cases hlu : j < b.length
          · obtain ⟨b1, o1, rfl, hb1, hc1⟩ := (H1.out.below hbw.out) (by omega)
            obtain ⟨b2, o2, rfl, hb2, hc2⟩ := (H2.out.below hbw.out) (by omega)
            have c1 := hc1 j hlt
            have c2 := hc2 j hlu
            have F1 := Lib.hid (F1.out j hag.out)
            have HAG := Lib.hid (fun (h : a.getD j 0 = b.getD j 0) => show ∀ m, m < j + 1 → a.getD m 0 = b.getD m 0 from fun m hm => by
              rcases (show m < j ∨ m = j by omega) with h3 | rfl
              · exact hag.out m h3
              · exact h)
            clear hc1 hc2 hb1 hb2
            generalize a.getD j 0 = x at *
            generalize b.getD j 0 = y at *
            have h1' : (j : Int) < a.length := by omega
            have h2' : (j : Int) < b.length := by omega
            by_cases h : x = y
            · subst h
              have hag2 := Lib.hid (HAG.out rfl)
              clear HAG F1
              go_wp2
              go_quiet (fail)
              go_wp2
              go_roundw
              case rel => exact ⟨j + 1, by omega, by go_num, drew1 hbw.out, hag2.out⟩
              case measure => simp [intOf]; omega
            · have hne : (x != y) = true := by rw [bne_iff_ne]; exact h
              have hiff := F1.out h
              by_cases hik : i < k
              · have hx : decide (x < y) = true := by rw [decide_eq_true_eq]; exact hiff.2 hik
                have hd : decide (i < k) = true := by rw [decide_eq_true_eq]; exact hik
                clear h hiff hik
                go_wp2
                go_quiet (fail)
                go_wp2
                go_quiet (fail)
                go_wp2
                go_ret
                exact ⟨rfl, by first | exact drew1 (drew1 BW.out) | exact drew1 BW.out⟩
              · have hx : decide (x < y) = false := by rw [decide_eq_false_iff_not]; exact fun h2 => hik (hiff.1 h2)
                have hd : decide (i < k) = false := by rw [decide_eq_false_iff_not]; exact hik
                clear h hiff hik
                go_wp2
                go_quiet (fail)
                go_wp2
                go_quiet (fail)
                go_wp2
                go_ret
                exact ⟨rfl, by first | exact drew1 (drew1 BW.out) | exact drew1 BW.out⟩
          · have e1 : i = k := F2.out (fun m h3 h4 => hag.out m (by omega))
            have e2 : a = b := HV.out e1
            subst e2
            omega
        · have e1 : i = k := F2.out (fun m h3 h4 => hag.out m (by omega))
          have e2 : a = b := HV.out e1
          subst e2
          subst e1
          go_wp2
          go_ret
          exact ⟨rfl, BW.out⟩
    · have RE := Lib.hid (errOf_no h2)
      rw [h1, errOf_ok, errOf_no h2]
      clear FT LN h1
      generalize nthE t k = q at *
      go_wp2_with fail
      go_ret
      exact ⟨rfl, B3.out⟩
  · have RE := Lib.hid (errOf_no h1)
    rw [errOf_no h1]
    clear FT LN
    generalize nthE t i = q at *
    generalize errOf (nthE t k) = q2 at *
    go_wp2_with fail
    go_ret
    exact ⟨rfl, B3.out⟩
end Go.Proofs.Ytboecgbgcbkcjaa.RisesLaw
