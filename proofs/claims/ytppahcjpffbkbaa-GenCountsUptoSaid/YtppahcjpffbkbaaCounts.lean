/- GenCounts: the walk. Conditions: the sizes. -/
import Derived.Test.YtppahcjpffbkbaaMade
import Derived.Test.YtppahcjpffbkbaaBuilt
import Derived.Test.YtppahcjpffbkbaaCountsL
namespace Go.Proofs.Ytppahcjpffbkbaa.CountsLaw
open Go.RowKit Lists Ints Vals Gens
set_option linter.unusedVariables false

theorem countE_zero {t : Gn} (h : countE t = 0) : genV t = 0 ∧ countG t ≤ 1048576 ∧ countN t = countG t ∧ 0 ≤ countG t := by
  unfold countE at h
  by_cases hz : genV t = 0
  · rw [if_pos hz] at h
    by_cases hc : 1048576 < countG t
    · rw [if_pos hc] at h; omega
    · exact ⟨hz, by omega, by unfold countN; rw [if_pos hz, if_neg hc], (count_few t (gen_right hz).1).1⟩
  · rw [if_neg hz] at h; exact absurd h hz
theorem countE_no {t : Gn} (h : ¬ countE t = 0) : countN t = 0 := by
  unfold countE at h
  unfold countN
  by_cases hz : genV t = 0
  · rw [if_pos hz] at h ⊢
    by_cases hc : 1048576 < countG t
    · rw [if_pos hc]
    · rw [if_neg hc] at h; exact absurd rfl h
  · rw [if_neg hz]
theorem any_sum {t u : Gn} (ht : countE t = 0) (hu : countE u = 0) (h : countE (.node 5 0 0 [t, u]) = 0) : countN (.node 5 0 0 [t, u]) = countN t + countN u := by
  obtain ⟨_, a1, a2, a3⟩ := countE_zero ht
  obtain ⟨_, b1, b2, b3⟩ := countE_zero hu
  obtain ⟨_, c1, c2, _⟩ := countE_zero h
  rw [c2, a2, b2]
  rw [(count_two t u).1] at c1 ⊢
  omega
theorem both_prod {t u : Gn} (ht : countE t = 0) (hu : countE u = 0) (h : countE (.node 3 0 0 [t, u]) = 0) : countN (.node 3 0 0 [t, u]) = countN t * countN u := by
  obtain ⟨_, a1, a2, a3⟩ := countE_zero ht
  obtain ⟨_, b1, b2, b3⟩ := countE_zero hu
  obtain ⟨_, c1, c2, _⟩ := countE_zero h
  rw [c2, a2, b2]
  rw [(count_two t u).2] at c1 ⊢
  rw [Int.one_mul, show min 1048577 (countG t) = countG t by omega] at c1 ⊢
  omega
theorem many_sum {t : Gn} {k : Int} (ht : countE t = 0) (h : countE (.node 4 k 0 [t]) = 0) : 0 ≤ k ∧ k ≤ 5 ∧ countN (.node 4 k 0 [t]) = geo (countN t) (k + 1).toNat 0 1 ∧ geo (countN t) (k + 1).toNat 0 1 ≤ 1048576 := by
  obtain ⟨_, a1, a2, a3⟩ := countE_zero ht
  obtain ⟨c0, c1, c2, _⟩ := countE_zero h
  obtain ⟨k0, k5, _⟩ := (right_max (gen_right c0).1).2.2.1 rfl
  have e := many_geo (countG t) a3 (k + 1).toNat 0 1 (by omega) (by omega)
  rw [show min (1048577 : Int) 0 = 0 by omega, show min (1048577 : Int) 1 = 1 by omega] at e
  rw [count_rep, e] at c1 c2
  rw [a2]
  exact ⟨k0, k5, by omega, by omega⟩

set_option maxHeartbeats 8000000 in
set_option maxRecDepth 100000 in
theorem walk (t : Gn) (A : Option Addr) (c n : Nat) (u : Gn) (A' : Option Addr) (c' m : Nat) (k : Int) (hbulk : t.size + u.size ≤ 1048576) (w : World) (hg : GAt w (GBel w.heap.size) n (gv t A c) t) (hh : GAt w (GBel w.heap.size) m (gv u A' c') u) (wk : (Lit.int .i64 k).wf = true) :
    Calls Try.prog 5 #[gv t A c, gv u A' c', .int .i64 k] w fun e w' => e = .returned (.bool true) ∧ Below w.heap.size w w' := by
  have b1 : Below w.heap.size w ((w.alloc (gc t A c)).alloc (gc u A' c')) := ((Below.refl _ _).alloc (Nat.le_refl _) _).alloc (by simp) _
  have s1 : (w.alloc (gc t A c)).heap.size = w.heap.size + 1 := by simp
  have g1 : G4 w.heap.size (.int .i64 t.kind) (.int .i64 t.a) (.int .i64 t.b) (.slice A t.subs.length c) ((w.alloc (gc t A c)).alloc (gc u A' c')) := (Below.heap_alloc _ _ _ (by omega)).trans (new_obj w _)
  have g2 : G4 (w.heap.size + 1) (.int .i64 u.kind) (.int .i64 u.a) (.int .i64 u.b) (.slice A' u.subs.length c') ((w.alloc (gc t A c)).alloc (gc u A' c')) := by
    have := new_obj (w.alloc (gc t A c)) (gc u A' c')
    rw [s1] at this; exact this
  obtain ⟨kk1, kk2⟩ := i64_wf wk
  have JC := Lib.hid (fun (w : World) => made_ok w)
  have CT := Lib.hid (fun (W : World) (hb : Below w.heap.size w W) => gcount W ((hg.below hb).more hb.size) (Nat.le_refl _) (by omega))
  have CU := Lib.hid (fun (W : World) (hb : Below w.heap.size w W) => gcount W ((hh.below hb).more hb.size) (Nat.le_refl _) (by omega))
  have C2 := Lib.hid (fun (W : World) (hb : Below w.heap.size w W) (q : Int) (hq : Wf q) => gcount _ (gat_sub2 (k := q) hq ((hg.below hb).more hb.size) ((hh.below hb).more hb.size)) (Nat.le_refl _) (by rw [Gn.size, gsizes, gsizes, gsizes]; omega))
  have C3 := Lib.hid (fun (W : World) (hb : Below w.heap.size w W) => gcount _ (gat_sub1 (k := 4) (a := k) (by decide) wk ((hg.below hb).more hb.size)) (Nat.le_refl _) (by rw [Gn.size, gsizes, gsizes]; omega))
  have HB := Lib.hid (And.intro b1 (And.intro g1 g2))
  have NT := Lib.hid (fun (h : ¬ countE t = 0) => countE_no h)
  have NU := Lib.hid (fun (h : ¬ countE u = 0) => countE_no h)
  have FT := Lib.hid (fun (h : countE t = 0) => show 0 ≤ countN t ∧ countN t ≤ 1048576 by obtain ⟨_, a, b, c⟩ := countE_zero h; omega)
  have FU := Lib.hid (fun (h : countE u = 0) => show 0 ≤ countN u ∧ countN u ≤ 1048576 by obtain ⟨_, a, b, c⟩ := countE_zero h; omega)
  have SA := Lib.hid (fun (h : countE t = 0) (h' : countE u = 0) => any_sum h h')
  have SP := Lib.hid (fun (h : countE t = 0) (h' : countE u = 0) => both_prod h h')
  have SM := Lib.hid (fun (h : countE t = 0) => many_sum (k := k) h)
  clear b1 s1 g1 g2 hg hh hbulk wk
  go_enter Try.func5, Try.ntmps5
  go_wp2_with fail
  generalize (w.alloc (gc t A c)).alloc (gc u A' c') = W0 at *
  refine (JC.out _).mono ?_
  rintro e w1 ⟨rfl, hb1⟩
  have B1 := Lib.hid (below_trans HB.out.1 hb1)
  have G1 := Lib.hid (HB.out.2.1.below hb1)
  have G2 := Lib.hid (HB.out.2.2.below hb1)
  clear hb1 HB JC
  obtain ⟨k0, k1, k2, k3⟩ := G1.out.facts
  go_wp2_with fail
  refine (CT.out w1 B1.out).mono ?_
  rintro e w2 ⟨rfl, hb2⟩
  have B2 := Lib.hid (below_trans B1.out hb2)
  have G3 := Lib.hid (G1.out.below hb2)
  have G4' := Lib.hid (G2.out.below hb2)
  clear hb2 CT G1 G2 k0 k1 k2 k3
  obtain ⟨k0, k1, k2, k3⟩ := G4'.out.facts
  go_wp2_with fail
  refine (CU.out w2 B2.out).mono ?_
  rintro e w3 ⟨rfl, hb3⟩
  have B3 := Lib.hid (below_trans B2.out hb3)
  have G5 := Lib.hid (G3.out.below hb3)
  have G6 := Lib.hid (G4'.out.below hb3)
  clear hb3 CU G3 G4' k0 k1 k2 k3
  by_cases ht : countE t = 0
  · by_cases hu : countE u = 0
    · have FT := FT.out ht
      have FU := FU.out hu
      have SA := Lib.hid (SA.out ht hu)
      have SP := Lib.hid (SP.out ht hu)
      have SM := Lib.hid (SM.out ht)
      rw [ht, hu, errOf_ok]
      clear NT NU ht hu
      generalize countN t = x at *
      generalize countN u = y at *
      obtain ⟨x0, x1⟩ := FT
      obtain ⟨y0, y1⟩ := FU
      obtain ⟨k0, k1, k2, k3⟩ := G5.out.facts
      obtain ⟨j0, j1, j2, j3⟩ := G6.out.facts
      have D5 := Lib.hid (C2.out w3 B3.out 5 (by decide))
      have A5 := bel1 w3 (.cells #[.int .i64 t.kind, .int .i64 t.a, .int .i64 t.b, .slice A t.subs.length c, .int .i64 u.kind, .int .i64 u.a, .int .i64 u.b, .slice A' u.subs.length c'] 24)
      have A5 := Lib.hid A5
      go_wp2_with fail
      refine D5.out.mono ?_
      rintro e w4 ⟨rfl, hb4⟩
      have F4 := Lib.hid (A5.out.trans (hb4.mono A5.out.size))
      have B4 := Lib.hid (below_trans B3.out F4.out)
      clear hb4 D5 A5 k0 k1 k2 k3 j0 j1 j2 j3
      obtain ⟨k0, k1, k2, k3⟩ := (G5.out.below F4.out).facts
      obtain ⟨j0, j1, j2, j3⟩ := (G6.out.below F4.out).facts
      generalize countE (.node 5 0 0 [t, u]) = E5 at SA ⊢
      generalize countN (.node 5 0 0 [t, u]) = N5 at SA ⊢
      have D6 := Lib.hid (C2.out w4 B4.out 3 (by decide))
      have A6 := Lib.hid (bel1 w4 (.cells #[.int .i64 t.kind, .int .i64 t.a, .int .i64 t.b, .slice A t.subs.length c, .int .i64 u.kind, .int .i64 u.a, .int .i64 u.b, .slice A' u.subs.length c'] 24))
      go_wp2_with fail
      refine D6.out.mono ?_
      rintro e w5 ⟨rfl, hb5⟩
      have F5 := Lib.hid (F4.out.trans ((on A6.out hb5).mono F4.out.size))
      have B5 := Lib.hid (below_trans B3.out F5.out)
      clear hb5 D6 A6 k0 k1 k2 k3 j0 j1 j2 j3
      obtain ⟨k0, k1, k2, k3⟩ := (G5.out.below F5.out).facts
      generalize countE (.node 3 0 0 [t, u]) = E6 at SP ⊢
      generalize countN (.node 3 0 0 [t, u]) = N6 at SP ⊢
      have D7 := Lib.hid (C3.out w5 B5.out)
      have A7 := Lib.hid (bel1 w5 (.cells #[.int .i64 t.kind, .int .i64 t.a, .int .i64 t.b, .slice A t.subs.length c] 24))
      go_wp2_with fail
      refine D7.out.mono ?_
      rintro e w6 ⟨rfl, hb6⟩
      have B6 := Lib.hid (below_trans B5.out (on A7.out hb6))
      clear hb6 D7 A7 k0 k1 k2 k3 C2 C3 G5 G6 F4 F5 B4 B5 B3 B2 B1
      generalize countE (.node 4 k 0 [t]) = E7 at SM ⊢
      generalize countN (.node 4 k 0 [t]) = N7 at SM ⊢
      have H5 : (E5 = 0 ∧ N5 = x + y) ∨ ¬ E5 = 0 := by
        by_cases h : E5 = 0
        · exact .inl ⟨h, SA.out h⟩
        · exact .inr h
      have H6 : (E6 = 0 ∧ N6 = x * y) ∨ ¬ E6 = 0 := by
        by_cases h : E6 = 0
        · exact .inl ⟨h, SP.out h⟩
        · exact .inr h
      have hxy : 0 ≤ x * y ∧ x * y ≤ 1099511627776 := ⟨Int.mul_nonneg x0 y0, by have := Int.mul_le_mul x1 y1 y0 (by omega : (0:Int) ≤ 1048576); omega⟩
      obtain ⟨p0, p1⟩ := hxy
      clear SA SP
      rcases H5 with ⟨rfl, rfl⟩ | h5 <;> rcases H6 with ⟨rfl, rfl⟩ | h6
      all_goals (
        try rw [errOf_ok]
        try rw [errOf_no h5]
        try rw [errOf_no h6]
        by_cases h7 : E7 = 0
        · obtain ⟨n0, n5, z1, z2⟩ := SM.out h7
          rw [h7, errOf_ok]
          have Z1 := Lib.hid z1
          have Z2 := Lib.hid z2
          clear h7 z1 z2 SM
          go_wp2_with fail
          go_loop [18, 19, 20] (fun s p i => ∃ (j : Nat) (a q : Int), (j : Int) ≤ k + 1 ∧ i = .int .i64 j ∧ s = .int .i64 a ∧ p = .int .i64 q ∧ 0 ≤ a ∧ 0 ≤ q ∧ a ≤ 1048576 ∧ q ≤ 1099511627776 ∧ Hid (geo x ((k + 1).toNat - j) a q = geo x (k + 1).toNat 0 1)) (fun _ _ i => 7 - (intOf i).toNat)
          case atStart => exact ⟨0, 0, 1, by omega, rfl, rfl, rfl, by omega, by omega, by omega, by omega, rfl⟩
          case round =>
            obtain ⟨j, a, q, hj, rfl, rfl, rfl, a0, q0, a1, q1, hgeo⟩ := hrel
            by_cases hlt : (j : Int) ≤ k
            · obtain ⟨st1, st2⟩ := geo_step x x0 ((k + 1).toNat - (j + 1)) a q a0 q0 (by rw [show (k + 1).toNat - (j + 1) + 1 = (k + 1).toNat - j by omega, hgeo.out]; exact Z2.out)
              have hq1 : q ≤ 1048576 := by omega
              have hqx : 0 ≤ q * x ∧ q * x ≤ 1099511627776 := ⟨Int.mul_nonneg q0 x0, by have := Int.mul_le_mul hq1 x1 x0 (by omega : (0:Int) ≤ 1048576); omega⟩
              obtain ⟨w0, w1'⟩ := hqx
              have HG := Lib.hid (show geo x ((k + 1).toNat - (j + 1)) (a + q) (q * x) = geo x (k + 1).toNat 0 1 by rw [st2, show (k + 1).toNat - (j + 1) + 1 = (k + 1).toNat - j by omega, hgeo.out])
              clear st2
              have gk : decide ((j : Int) ≤ k) = true := by rw [decide_eq_true_eq]; exact hlt
              go_wp2
              go_round
              case rel => exact ⟨j + 1, a + q, q * x, by omega, by go_num, rfl, rfl, by omega, w0, st1, w1', HG.out⟩
              case measure => simp [intOf]; omega
            · have gk : decide ((j : Int) ≤ k) = false := by rw [decide_eq_false_iff_not]; exact hlt
              have he : a = N7 := by
                have := hgeo.out
                rw [show (k + 1).toNat - j = 0 by omega, geo] at this
                rw [this, Z1.out]
              subst he
              go_wp2
              go_ret
              exact ⟨by simp, B6.out⟩
        · rw [errOf_no h7]
          clear h7 SM
          go_wp2_with fail
          refine wp_loop_rounds 1 ?_
          rw [rounds_succ]
          by_cases hk : (0 : Int) ≤ k
          · have gk : decide ((0 : Int) ≤ k) = true := by rw [decide_eq_true_eq]; exact hk
            go_wp2_with fail
            go_ret
            exact ⟨by simp, B6.out⟩
          · have gk : decide ((0 : Int) ≤ k) = false := by rw [decide_eq_false_iff_not]; exact hk
            go_wp2_with fail
            go_ret
            exact ⟨by simp, B6.out⟩)
    · have hn := NU.out hu
      have RE := Lib.hid (errOf_no hu)
      rw [ht, errOf_ok, errOf_no hu, hn]
      clear FT FU SA SP SM NT NU hn ht hu
      generalize countE u = q at *
      generalize countN t = x
      cases hx : (x == 0)
      all_goals (
        go_wp2_with fail
        go_ret
        exact ⟨rfl, B3.out⟩)
  · have hn := NT.out ht
    rw [errOf_no ht, hn]
    clear FT FU SA SP SM NT NU hn ht
    generalize countE t = q
    generalize errOf (countE u) = q'
    generalize countN u = x
    go_wp2_with fail
    go_ret
    exact ⟨rfl, B3.out⟩
end Go.Proofs.Ytppahcjpffbkbaa.CountsLaw
