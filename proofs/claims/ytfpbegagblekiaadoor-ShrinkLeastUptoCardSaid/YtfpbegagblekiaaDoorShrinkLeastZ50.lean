/- ShrinkLeast, part 50 of the proof: ShrinkLeast: the walk. Conditions: the sizes; the program's table. -/
import Derived.Test.YtfpbegagblekiaaDoorShrinkLeastZ47
import Derived.Test.YtfpbegagblekiaaDoorShrinkLeastZ48
import Derived.Test.YtfpbegagblekiaaDoorShrinkLeastZ49
import Derived.Deep.RegionHeld3
/- ShrinkLeast: the walk. Conditions: the sizes; the program's table. -/
namespace Go.Proofs.YtfpbegagblekiaaDoor.ShLeastLaw
open Go.RowKit Lists Ints Vals Gens Exprs
set_option linter.unusedVariables false

theorem least_facts {t x : Gn} {u : List Int} (hs : startE t x u = 0) : let r := walkT t x u
    faultE x = 0 ∧ roseE t r.1 = 0 ∧ badT t x r.1 = true ∧ startE t x r.1 = 0 ∧ walkV t x r.1 = (r.1, 0) ∧ r.1.length ≤ 1399680 ∧ (r.1 = u ↔ r.2 = 0) ∧ (r.2 ≠ 0 → lessL r.1 u = true) ∧ (∀ y ∈ roseL t r.1, badT t x y = false ∧ (∃ v, repV t y = .ok v) ∧ y.length ≤ 1399680) ∧ (roseL t r.1).length ≤ 5598720 ∧ r.2 ≤ 1401079680 := by
  intro r
  obtain ⟨_, hf, hz, hb⟩ := start_ok hs
  obtain ⟨h1, h2, h3, h4, h5, h6⟩ := walk_facts (measL u) u (Nat.le_refl _) hz hb
  have hs2 := start_of hf h1 h2
  have hl := (rep_facts h1).2.1
  have hrf := rose_facts (rep_facts h1).1 r.1
  refine ⟨hf, h1, h2, hs2, by rw [walkV_ok hs2, walk_stop h1 h3], hl, ⟨fun e => ?_, h5⟩, h6, fun y hy => ⟨none_fails h3 y hy, (hrf.2 y hy).1, (hrf.2 y hy).2.2⟩, by have := hrf.1; have : r.1.length ≤ 1399680 := hl; omega, Nat.le_trans h4 (meas_bound hz)⟩
  by_cases h : r.2 = 0
  · exact h
  · have := h6 h
    have e : (walkT t x u).1 = u := e
    rw [e] at this
    rw [lessL_irrefl] at this
    cases this

set_option maxHeartbeats 16000000 in
set_option maxRecDepth 100000 in
theorem walk (t : Gn) (A : Option Addr) (c n : Nat) (x : Gn) (XA : Option Addr) (xc nx : Nat) (l : List Int) (L : Option Addr) (lc : Nat) (hbulk : t.size + x.size + l.length ≤ 1048576) (w : World) (hg : GAt w (GBel w.heap.size) n (gv t A c) t) (hx : EAt w (EBel w.heap.size) nx (ev x XA xc) x) (hl : At w w.heap.size L l) (hcap : l.length ≤ lc) (hsub : Subs w) :
    Calls Tryd.prog 4 #[gv t A c, ev x XA xc, .slice L l.length lc] w fun e w' => e = .returned (.bool true) ∧ Below w.heap.size w w' := by
  have HB := Lib.hid (gx_boxes w t x A XA c xc)
  have MD := Lib.hid (fun (w : World) => made_ok w)
  have AC := Lib.hid (fun (W : World) (hb : Below w.heap.size w W) => asked_ok W (hsub.below hb))
  have ME := Lib.hid (fun (W : World) (hb : Below w.heap.size w W) => mend_prog (L := L) (l := l) (lc := lc) W ((hg.below hb).more hb.size) ((hl.below hb).more hb.size) hcap (by omega) (by omega))
  have WK := Lib.hid (fun (l : List Int) (z : List Int) (k : Nat) (q : Int) (hs : startE t x l = q) (hv : walkV t x l = (z, k)) (hln : l.length ≤ 1399680) (W : World) (hb : Below w.heap.size w W) (L : Option Addr) (lc : Nat) (hl : At W W.heap.size L l) (hcap : l.length ≤ lc) => show Calls Tryd.prog 19 #[gv t A c, ev x XA xc, .slice L l.length lc] W (WkOk z k q W) from walk_is W ((hg.below hb).more hb.size) ((hx.below hb).more hb.size) (hsub.below hb) hl hcap (by omega) (by omega) (by omega) hs hv)
  have RV := Lib.hid (fun (l : List Int) (v : Tr) (hv : repV t l = .ok v) (hln : l.length ≤ 1399680) (W : World) (hb : Below w.heap.size w W) (L : Option Addr) (lc : Nat) (hl : At W W.heap.size L l) (hcap : l.length ≤ lc) => rv_ok (n := n) W ((hg.below hb).more hb.size) hl hcap (by omega) (by omega) hv)
  have FV := Lib.hid (fun (hf : faultE x = 0) (l : List Int) (v : Tr) (hv : repV t l = .ok v) (W : World) (hb : Below w.heap.size w W) (VA : Option Addr) (vc m : Nat) (ht : TAt W (Bel W.heap.size) m (vv v VA vc) v) => fv_ok (t := t) (l := l) W ((hx.below hb).more hb.size) ht hf (hsub.below hb) (by omega) hv)
  have RO := Lib.hid (fun (W : World) (hb : Below w.heap.size w W) (l : List Int) (L : Option Addr) (lc : Nat) (z : List (List Int)) (hl : At W W.heap.size L l) (hcap : l.length ≤ lc) (hln : l.length ≤ 1399680) (hz : roseE t l = 0) (hv : roseL t l = z) => rose_ok (L := L) (l := l) (lc := lc) W ((hg.below hb).more hb.size) hl hcap (by omega) (by omega) hz hv)
  clear hg hx hl hcap hbulk hsub
  obtain ⟨k0, k1, k2, k3⟩ := HB.out.1.facts
  by_cases h0 : genV t = 0
  · have E1 := roseE_mend h0 l
    have N1 := Lib.hid (mend_len h0 l)
    rw [h0, errOf_ok] at ME
    clear h0
    generalize mendL t l = u at *
    go_enter Tryd.func4, Tryd.ntmps4
    go_wp2_with fail
    generalize (w.alloc (gc t A c)).alloc (ec x XA xc) = W0 at *
    refine (MD.out _).mono ?_
    rintro e w1 ⟨rfl, hb1⟩
    have B1 := Lib.hid (HB.out.2.2.1.trans (hb1.mono HB.out.2.2.1.size))
    have X1 := Lib.hid (HB.out.2.1.below hb1)
    have G1 := Lib.hid (HB.out.1.below hb1)
    clear hb1 k0 k1 k2 k3
    go_wp2_with fail
    refine (AC.out w1 B1.out).mono ?_
    rintro e w2 ⟨rfl, hb2⟩
    have B2 := Lib.hid (below_trans B1.out hb2)
    have X2 := Lib.hid (X1.out.below hb2)
    have G2 := Lib.hid (G1.out.below hb2)
    clear hb2 X1 G1
    obtain ⟨k0, k1, k2, k3⟩ := G2.out.facts
    go_wp2_with fail
    ((with_reducible refine (ME.out w2 B2.out).mono ?_))
    rintro e w3 ⟨A3, c3, rfl, ho3, hb3⟩
    have B3 := Lib.hid (below_trans B2.out hb3)
    have X3 := Lib.hid (X2.out.below hb3)
    have G3 := Lib.hid (G2.out.below hb3)
    have U3 := Lib.hid ho3
    clear hb3 X2 G2 k0 k1 k2 k3 ho3
    obtain ⟨k0, k1, k2, k3⟩ := G3.out.facts
    obtain ⟨x0, x1, x2⟩ := X3.out.facts
    by_cases hs : startE t x u = 0
    · have LF := Lib.hid (least_facts hs)
      have C4 := Lib.hid (WK.out u (walkT t x u).1 (walkT t x u).2 0 hs (walkV_ok hs) N1.out w3 B3.out A3 c3 U3.out.at_ U3.out.cap_)
      clear hs E1
      generalize walkT t x u = r at *
      obtain ⟨m, k⟩ := r
      have LF := Lib.hid (show faultE x = 0 ∧ roseE t m = 0 ∧ badT t x m = true ∧ startE t x m = 0 ∧ walkV t x m = (m, 0) ∧ m.length ≤ 1399680 ∧ (m = u ↔ k = 0) ∧ (k ≠ 0 → lessL m u = true) ∧ (∀ y ∈ roseL t m, badT t x y = false ∧ (∃ v, repV t y = .ok v) ∧ y.length ≤ 1399680) ∧ (roseL t m).length ≤ 5598720 ∧ k ≤ 1401079680 from LF.out)
      have C4 := Lib.hid (show Calls Tryd.prog 19 #[gv t A c, ev x XA xc, .slice A3 u.length c3] w3 (WkOk m k 0 w3) from C4.out)
      go_wp2_with fail
      ((with_reducible refine C4.out.mono ?_))
      rintro e w4 ⟨A4, c4, rfl, ho4, hb4⟩
      rw [errOf_ok]
      have B4 := Lib.hid (below_trans B3.out hb4)
      have X4 := Lib.hid (X3.out.below hb4)
      have G4' := Lib.hid (G3.out.below hb4)
      have U4 := Lib.hid (U3.out.below hb4)
      have M4 := Lib.hid ho4
      clear hb4 X3 G3 U3 ho4 k0 k1 k2 k3 x0 x1 x2 C4
      obtain ⟨k0, k1, k2, k3⟩ := G4'.out.facts
      obtain ⟨v, hv⟩ := rep_of LF.out.2.1
      have HV := Lib.hid hv
      have C5 := Lib.hid (RV.out m v hv LF.out.2.2.2.2.2.1 w4 B4.out A4 c4 M4.out.at_ M4.out.cap_)
      clear hv
      go_wp2_with fail
      ((with_reducible refine C5.out.mono ?_))
      rintro e w5 ⟨A5, c5, rfl, ht, hb5⟩
      have N5 := Lib.hid (bel1 w5 (.cells #[.bool v.list, .int .i64 v.num, .slice A5 v.items.length c5] 32))
      have NV := Lib.hid (show V3 w5.heap.size (.bool v.list) (.int .i64 v.num) (.slice A5 v.items.length c5) (w5.alloc (.cells #[.bool v.list, .int .i64 v.num, .slice A5 v.items.length c5] 32)) from new_obj w5 _)
      have B5 := Lib.hid (below_trans (below_trans B4.out hb5) N5.out)
      have X5 := Lib.hid ((X4.out.below hb5).below N5.out)
      have G5 := Lib.hid ((G4'.out.below hb5).below N5.out)
      have U5 := Lib.hid ((U4.out.below hb5).below N5.out)
      have M5 := Lib.hid ((M4.out.below hb5).below N5.out)
      have C6 := FV.out LF.out.1 m v HV.out (w5.alloc (.cells #[.bool v.list, .int .i64 v.num, .slice A5 v.items.length c5] 32)) B5.out A5 c5 n (ht.keep fun b hb => ⟨Nat.lt_of_lt_of_le hb.2 N5.out.size, fun o => N5.out.cell (p := ⟨b, o, none⟩) hb.2⟩)
      rw [LF.out.2.2.1] at C6
      have C6 := Lib.hid C6
      clear hb5 ht C5 X4 G4' U4 M4 N5 B4 k0 k1 k2 k3
      obtain ⟨x0, x1, x2⟩ := X5.out.facts
      obtain ⟨v0, v1, v2, _⟩ := NV.out.facts
      go_wp2_with fail
      generalize w5.alloc (.cells #[.bool v.list, .int .i64 v.num, .slice A5 v.items.length c5] 32) = w6 at *
      ((with_reducible refine C6.out.mono ?_))
      rintro e w7 ⟨rfl, hb7⟩
      have B7 := Lib.hid (below_trans B5.out hb7)
      have X7 := Lib.hid (X5.out.below hb7)
      have G7 := Lib.hid (G5.out.below hb7)
      have U7 := Lib.hid (U5.out.below hb7)
      have M7 := Lib.hid (M5.out.below hb7)
      clear hb7 C6 X5 G5 U5 M5 NV B5 x0 x1 x2 v0 v1 v2
      obtain ⟨k0, k1, k2, k3⟩ := G7.out.facts
      have C8 := Lib.hid (RO.out w7 B7.out m A4 c4 (roseL t m) M7.out.at_ M7.out.cap_ LF.out.2.2.2.2.2.1 LF.out.2.1 rfl)
      go_wp2_with fail
      ((with_reducible refine C8.out.mono ?_))
      rintro e w8 ⟨A8, c8, rfl, ho8, hb8⟩
      have B8 := Lib.hid (below_trans B7.out hb8)
      have X8 := Lib.hid (X7.out.below hb8)
      have G8 := Lib.hid (G7.out.below hb8)
      have U8 := Lib.hid (U7.out.below hb8)
      have M8 := Lib.hid (M7.out.below hb8)
      have Z8 := Lib.hid ho8
      clear hb8 ho8 C8 X7 G7 U7 M7 B7 k0 k1 k2 k3
      obtain ⟨k0, k1, k2, k3⟩ := G8.out.facts
      obtain ⟨x0, x1, x2⟩ := X8.out.facts
      have C9 := Lib.hid (WK.out m m 0 0 LF.out.2.2.2.1 LF.out.2.2.2.2.1 LF.out.2.2.2.2.2.1 w8 B8.out A4 c4 M8.out.at_ M8.out.cap_)
      go_wp2_with fail
      ((with_reducible refine C9.out.mono ?_))
      rintro e w9 ⟨A9, c9, rfl, ho9, hb9⟩
      rw [errOf_ok]
      have B9 := Lib.hid (below_trans B8.out hb9)
      have X9 := Lib.hid (X8.out.below hb9)
      have G9 := Lib.hid (G8.out.below hb9)
      have U9 := Lib.hid (U8.out.below hb9)
      have M9 := Lib.hid (M8.out.below hb9)
      have Z9 := Lib.hid (Z8.out.below hb9)
      have ML := Lib.hid (show m.length ≤ maxLen by have := LF.out.2.2.2.2.2.1; simp only [maxLen]; omega)
      have SM := same_below m m A9 A4 c9 c4 w9.heap.size ML.out ML.out w9 ho9.at_ M9.out.at_
      rw [decide_eq_true (rfl : m = m)] at SM
      have SM := Lib.hid SM
      clear hb9 ho9 C9 X8 G8 U8 M8 B8 Z8 k0 k1 k2 k3 x0 x1 x2
      go_wp2_with fail
      ((with_reducible refine SM.out.mono ?_))
      rintro e w10 ⟨rfl, hb10⟩
      have B10 := Lib.hid (below_trans B9.out hb10)
      have X10 := Lib.hid (X9.out.below hb10)
      have G10 := Lib.hid (G9.out.below hb10)
      have U10 := Lib.hid (U9.out.below hb10)
      have M10 := Lib.hid (M9.out.below hb10)
      have Z10 := Lib.hid (Z9.out.below hb10)
      have S2 := Lib.hid (same_below m u A4 A3 c4 c3 w10.heap.size ML.out (by have := N1.out; simp only [maxLen]; omega) w10 M10.out.at_ U10.out.at_)
      clear hb10 SM X9 G9 U9 M9 B9 Z9
      go_wp2_with fail
      ((with_reducible refine S2.out.mono ?_))
      rintro e w11 ⟨rfl, hb11⟩
      have B11 := Lib.hid (below_trans B10.out hb11)
      have X11 := Lib.hid (X10.out.below hb11)
      have G11 := Lib.hid (G10.out.below hb11)
      have U11 := Lib.hid (U10.out.below hb11)
      have M11 := Lib.hid (M10.out.below hb11)
      have Z11 := Lib.hid (Z10.out.below hb11)
      have C12 := Lib.hid (less_any m u A4 A3 c4 c3 w11.heap.size ML.out (by have := N1.out; simp only [maxLen]; omega) w11 M11.out.at_ U11.out.at_)
      have LF2 := Lib.hid (And.intro LF.out.2.2.2.2.2.2.1 LF.out.2.2.2.2.2.2.2.1)
      have ZF := Lib.hid LF.out.2.2.2.2.2.2.2.2.1
      have ZL := LF.out.2.2.2.2.2.2.2.2.2.1
      have FX := Lib.hid LF.out.1
      clear hb11 S2 X10 G10 U10 M10 B10 Z10 LF U11 M11
      generalize roseL t m = z at *
      by_cases hk : k = 0
      · have d1 : decide (m = u) = true := decide_eq_true (LF2.out.1.2 hk)
        subst hk
        rw [d1]
        clear C12 d1
        go_wp2_with fail
        go_loopw [24] (fun i wr => ∃ j : Nat, j ≤ z.length ∧ i = .int .i64 j ∧ Hid (Below w11.heap.size w11 wr)) (fun i _ => z.length - (intOf i).toNat)
        case atStart => exact ⟨0, Nat.zero_le _, rfl, Below.refl _ _⟩
        case round =>
          obtain ⟨j, hj, rfl, hbb⟩ := hrel
          by_cases hlt : j < z.length
          · obtain ⟨rb, ro, rfl, hrb, hrc⟩ := Z11.out.at_ (by omega)
            obtain ⟨D, d, q0, qc, q1⟩ := hrc j hlt
            have q0 := (hbb.out.cell (p := ⟨rb, ro + j, none⟩) hrb).trans q0
            have QA := Lib.hid (show At wr wr.heap.size D (z[j]'hlt) from (q1.keep fun b hb => ⟨Nat.lt_of_lt_of_le hb hbb.out.size, fun o => hbb.out.cell (p := ⟨b, o, none⟩) hb⟩))
            have QC := Lib.hid qc
            obtain ⟨fb, ⟨vy, hvy⟩, fl⟩ := ZF.out _ (List.getElem_mem hlt)
            have HY := Lib.hid hvy
            have FB := Lib.hid fb
            have FL := Lib.hid fl
            clear hrc qc q1 hvy fb fl
            generalize z[j]'hlt = y at *
            have Bw := Lib.hid (below_trans B11.out hbb.out)
            have Gw := Lib.hid (G11.out.below hbb.out)
            have Xw := Lib.hid (X11.out.below hbb.out)
            have hd : decide ((j : Int) < (z.length : Int)) = true := by rw [decide_eq_true_eq]; omega
            have g1 : rb < wr.heap.size := World.block_lt_of_cell? _ _ q0
            have CR := Lib.hid (fun (W : World) (hb : Below wr.heap.size wr W) => RV.out y vy HY.out FL.out W (below_trans Bw.out hb) D d ((QA.out.below hb).more hb.size) QC.out)
            have HK := Lib.hid (fun (W : World) (hb : Below wr.heap.size wr W) => show W.cell? ⟨w.heap.size, 0, none⟩ = some (.int .i64 t.kind) ∧ W.cell? ⟨w.heap.size, 1, none⟩ = some (.int .i64 t.a) ∧ W.cell? ⟨w.heap.size, 2, none⟩ = some (.int .i64 t.b) ∧ W.cell? ⟨w.heap.size, 3, none⟩ = some (.slice A t.subs.length c) ∧ W.cell? ⟨rb, ro + j, none⟩ = some (.slice D y.length d) from by
              obtain ⟨j0, j1, j2, j3⟩ := (Gw.out.below hb).facts
              exact ⟨j0, j1, j2, j3, (hb.cell (p := ⟨rb, ro + j, none⟩) g1).trans q0⟩)
            have E0 := Lib.hid (Below.refl wr.heap.size wr)
            have zw : wr.heap.size = wr.heap.size := rfl
            obtain ⟨k0, k1, k2, k3⟩ := Gw.out.facts
            go_wp2_with fail
            go_region_held3 (fun w' => w'.cell? ⟨w.heap.size, 0, none⟩ = some (.int .i64 t.kind) ∧ w'.cell? ⟨w.heap.size, 1, none⟩ = some (.int .i64 t.a) ∧ w'.cell? ⟨w.heap.size, 2, none⟩ = some (.int .i64 t.b) ∧ w'.cell? ⟨w.heap.size, 3, none⟩ = some (.slice A t.subs.length c) ∧ w'.cell? ⟨rb, ro + j, none⟩ = some (.slice D y.length d)) ((refine HK.out _ ?_; repeat (first | with_reducible exact E13.out | with_reducible refine Below.setCell ?_ (by first | exact Nat.le_refl _ | (simp; omega) | omega) _ | with_reducible exact Below.refl _ _ | with_reducible refine Below.drew ?_ | with_reducible refine Below.alloc ?_ (by first | omega | (simp; omega) | (simp; done)) _)))
              ((with_reducible refine (CR.out _ ?_).mono ?_
                · repeat (first | with_reducible exact Below.refl _ _ | with_reducible refine Below.drew ?_ | with_reducible refine Below.alloc ?_ (by first | omega | (simp; omega) | (simp; done)) _)
                rintro e w13 ⟨VA, vc, rfl, ht, hb13⟩
                have E13 := Lib.hid (show Below wr.heap.size wr w13 by
                  refine Below.trans ?_ (hb13.mono (by first | omega | (simp; omega) | (simp; done)))
                  repeat (first | with_reducible exact Below.refl _ _ | with_reducible refine Below.drew ?_ | with_reducible refine Below.alloc ?_ (by first | omega | (simp; omega) | (simp; done)) _))
                have HT := Lib.hid ht
                have S13 := E13.out.size
                try (have z13 : V3 wr.heap.size (.bool false) (.int .i64 0) (.slice none 0 0) w13 := (hb13.block wr.heap.size (by first | (simp; done) | omega)).trans (new_obj wr (.cells #[.bool false, .int .i64 0, .slice none 0 0] 32)); obtain ⟨z0, z1, z2, z3⟩ := z13.facts)
                clear hb13 ht))
            · have V14 := Lib.hid (show V3 w13.heap.size (.bool vy.list) (.int .i64 vy.num) (.slice VA vy.items.length vc) (w13.alloc (.cells #[.bool vy.list, .int .i64 vy.num, .slice VA vy.items.length vc] 32)) from new_obj w13 _)
              have N14 := bel1 w13 (.cells #[.bool vy.list, .int .i64 vy.num, .slice VA vy.items.length vc] 32)
              have E14 := Lib.hid (below_trans E13.out N14)
              have T14 := Lib.hid (show TAt (w13.alloc (.cells #[.bool vy.list, .int .i64 vy.num, .slice VA vy.items.length vc] 32)) (Bel (w13.alloc (.cells #[.bool vy.list, .int .i64 vy.num, .slice VA vy.items.length vc] 32)).heap.size) n (vv vy VA vc) vy from HT.out.keep fun b hb => ⟨Nat.lt_of_lt_of_le hb.2 N14.size, fun o => N14.cell (p := ⟨b, o, none⟩) hb.2⟩)
              clear N14 CR HK E13 HT k0 k1 k2 k3 q0
              generalize w13.heap.size = pv at *
              generalize w13.alloc (.cells #[.bool vy.list, .int .i64 vy.num, .slice VA vy.items.length vc] 32) = w14 at *
              have B14 := Lib.hid (below_trans Bw.out E14.out)
              have C14 := FV.out FX.out y vy HY.out w14 B14.out VA vc n T14.out
              rw [FB.out] at C14
              have C14 := Lib.hid C14
              obtain ⟨x0, x1, x2⟩ := (Xw.out.below E14.out).facts
              obtain ⟨v0, v1, v2, _⟩ := V14.out.facts
              go_wp2_with fail
              ((with_reducible refine C14.out.mono ?_))
              rintro e w15 ⟨rfl, hb15⟩
              have B15 := Lib.hid (below_trans hbb.out (below_trans E14.out hb15))
              clear hb15 C14 x0 x1 x2 v0 v1 v2
              go_wp2_with fail
              go_roundw
              case rel => exact ⟨j + 1, hlt, by go_num, B15.out⟩
              case measure => simp [intOf]; omega
            · obtain ⟨t1, t2, t3⟩ := box_put z13 (.bool vy.list) (.int .i64 vy.num) (.slice VA vy.items.length vc)
              have V14 := Lib.hid t1
              have E14 := Lib.hid (show Below wr.heap.size wr _ from E13.out.trans t2)
              have T14 := Lib.hid (show TAt _ (Bel _) n (vv vy VA vc) vy from HT.out.keep fun b hb => ⟨Nat.lt_of_lt_of_le hb.2 t2.size, fun o => World.cell?_of_block (t3 b (by have := hb.1; simp at this; omega))⟩)
              clear t1 t2 t3 CR HK E13 HT k0 k1 k2 k3 q0 z13 z0 z1 z2 z3
              generalize ((w13.setCell ⟨wr.heap.size, 0, none⟩ (.bool vy.list)).setCell ⟨wr.heap.size, 1, none⟩ (.int .i64 vy.num)).setCell ⟨wr.heap.size, 2, none⟩ (.slice VA vy.items.length vc) = w14 at *
              have B14 := Lib.hid (below_trans Bw.out E14.out)
              have C14 := FV.out FX.out y vy HY.out w14 B14.out VA vc n T14.out
              rw [FB.out] at C14
              have C14 := Lib.hid C14
              obtain ⟨x0, x1, x2⟩ := (Xw.out.below E14.out).facts
              obtain ⟨v0, v1, v2, _⟩ := V14.out.facts
              go_wp2_with fail
              ((with_reducible refine C14.out.mono ?_))
              rintro e w15 ⟨rfl, hb15⟩
              have B15 := Lib.hid (below_trans hbb.out (below_trans E14.out hb15))
              clear hb15 C14 x0 x1 x2 v0 v1 v2
              go_wp2_with fail
              go_roundw
              case rel => exact ⟨j + 1, hlt, by go_num, B15.out⟩
              case measure => simp [intOf]; omega
          · go_wp2_with fail
            go_ret
            exact ⟨rfl, below_trans B11.out hbb.out⟩
      · have d1 : decide (m = u) = false := decide_eq_false (fun e => hk (LF2.out.1.1 e))
        have d2 : ((k : Int) == 0) = false := by rw [beq_eq_false_iff_ne]; omega
        rw [LF2.out.2 hk] at C12
        rw [d1]
        clear d1
        go_wp2_with fail
        ((with_reducible refine C12.out.mono ?_))
        rintro e w12 ⟨rfl, rfl⟩
        clear C12 d2
        go_wp2_with fail
        go_loopw [24] (fun i wr => ∃ j : Nat, j ≤ z.length ∧ i = .int .i64 j ∧ Hid (Below w11.heap.size w11 wr)) (fun i _ => z.length - (intOf i).toNat)
        case atStart => exact ⟨0, Nat.zero_le _, rfl, Below.refl _ _⟩
        case round =>
          obtain ⟨j, hj, rfl, hbb⟩ := hrel
          by_cases hlt : j < z.length
          · obtain ⟨rb, ro, rfl, hrb, hrc⟩ := Z11.out.at_ (by omega)
            obtain ⟨D, d, q0, qc, q1⟩ := hrc j hlt
            have q0 := (hbb.out.cell (p := ⟨rb, ro + j, none⟩) hrb).trans q0
            have QA := Lib.hid (show At wr wr.heap.size D (z[j]'hlt) from (q1.keep fun b hb => ⟨Nat.lt_of_lt_of_le hb hbb.out.size, fun o => hbb.out.cell (p := ⟨b, o, none⟩) hb⟩))
            have QC := Lib.hid qc
            obtain ⟨fb, ⟨vy, hvy⟩, fl⟩ := ZF.out _ (List.getElem_mem hlt)
            have HY := Lib.hid hvy
            have FB := Lib.hid fb
            have FL := Lib.hid fl
            clear hrc qc q1 hvy fb fl
            generalize z[j]'hlt = y at *
            have Bw := Lib.hid (below_trans B11.out hbb.out)
            have Gw := Lib.hid (G11.out.below hbb.out)
            have Xw := Lib.hid (X11.out.below hbb.out)
            have hd : decide ((j : Int) < (z.length : Int)) = true := by rw [decide_eq_true_eq]; omega
            have g1 : rb < wr.heap.size := World.block_lt_of_cell? _ _ q0
            have CR := Lib.hid (fun (W : World) (hb : Below wr.heap.size wr W) => RV.out y vy HY.out FL.out W (below_trans Bw.out hb) D d ((QA.out.below hb).more hb.size) QC.out)
            have HK := Lib.hid (fun (W : World) (hb : Below wr.heap.size wr W) => show W.cell? ⟨w.heap.size, 0, none⟩ = some (.int .i64 t.kind) ∧ W.cell? ⟨w.heap.size, 1, none⟩ = some (.int .i64 t.a) ∧ W.cell? ⟨w.heap.size, 2, none⟩ = some (.int .i64 t.b) ∧ W.cell? ⟨w.heap.size, 3, none⟩ = some (.slice A t.subs.length c) ∧ W.cell? ⟨rb, ro + j, none⟩ = some (.slice D y.length d) from by
              obtain ⟨j0, j1, j2, j3⟩ := (Gw.out.below hb).facts
              exact ⟨j0, j1, j2, j3, (hb.cell (p := ⟨rb, ro + j, none⟩) g1).trans q0⟩)
            have E0 := Lib.hid (Below.refl wr.heap.size wr)
            have zw : wr.heap.size = wr.heap.size := rfl
            obtain ⟨k0, k1, k2, k3⟩ := Gw.out.facts
            go_wp2_with fail
            go_region_held3 (fun w' => w'.cell? ⟨w.heap.size, 0, none⟩ = some (.int .i64 t.kind) ∧ w'.cell? ⟨w.heap.size, 1, none⟩ = some (.int .i64 t.a) ∧ w'.cell? ⟨w.heap.size, 2, none⟩ = some (.int .i64 t.b) ∧ w'.cell? ⟨w.heap.size, 3, none⟩ = some (.slice A t.subs.length c) ∧ w'.cell? ⟨rb, ro + j, none⟩ = some (.slice D y.length d)) ((refine HK.out _ ?_; repeat (first | with_reducible exact E13.out | with_reducible refine Below.setCell ?_ (by first | exact Nat.le_refl _ | (simp; omega) | omega) _ | with_reducible exact Below.refl _ _ | with_reducible refine Below.drew ?_ | with_reducible refine Below.alloc ?_ (by first | omega | (simp; omega) | (simp; done)) _)))
              ((with_reducible refine (CR.out _ ?_).mono ?_
                · repeat (first | with_reducible exact Below.refl _ _ | with_reducible refine Below.drew ?_ | with_reducible refine Below.alloc ?_ (by first | omega | (simp; omega) | (simp; done)) _)
                rintro e w13 ⟨VA, vc, rfl, ht, hb13⟩
                have E13 := Lib.hid (show Below wr.heap.size wr w13 by
                  refine Below.trans ?_ (hb13.mono (by first | omega | (simp; omega) | (simp; done)))
                  repeat (first | with_reducible exact Below.refl _ _ | with_reducible refine Below.drew ?_ | with_reducible refine Below.alloc ?_ (by first | omega | (simp; omega) | (simp; done)) _))
                have HT := Lib.hid ht
                have S13 := E13.out.size
                try (have z13 : V3 wr.heap.size (.bool false) (.int .i64 0) (.slice none 0 0) w13 := (hb13.block wr.heap.size (by first | (simp; done) | omega)).trans (new_obj wr (.cells #[.bool false, .int .i64 0, .slice none 0 0] 32)); obtain ⟨z0, z1, z2, z3⟩ := z13.facts)
                clear hb13 ht))
            · have V14 := Lib.hid (show V3 w13.heap.size (.bool vy.list) (.int .i64 vy.num) (.slice VA vy.items.length vc) (w13.alloc (.cells #[.bool vy.list, .int .i64 vy.num, .slice VA vy.items.length vc] 32)) from new_obj w13 _)
              have N14 := bel1 w13 (.cells #[.bool vy.list, .int .i64 vy.num, .slice VA vy.items.length vc] 32)
              have E14 := Lib.hid (below_trans E13.out N14)
              have T14 := Lib.hid (show TAt (w13.alloc (.cells #[.bool vy.list, .int .i64 vy.num, .slice VA vy.items.length vc] 32)) (Bel (w13.alloc (.cells #[.bool vy.list, .int .i64 vy.num, .slice VA vy.items.length vc] 32)).heap.size) n (vv vy VA vc) vy from HT.out.keep fun b hb => ⟨Nat.lt_of_lt_of_le hb.2 N14.size, fun o => N14.cell (p := ⟨b, o, none⟩) hb.2⟩)
              clear N14 CR HK E13 HT k0 k1 k2 k3 q0
              generalize w13.heap.size = pv at *
              generalize w13.alloc (.cells #[.bool vy.list, .int .i64 vy.num, .slice VA vy.items.length vc] 32) = w14 at *
              have B14 := Lib.hid (below_trans Bw.out E14.out)
              have C14 := FV.out FX.out y vy HY.out w14 B14.out VA vc n T14.out
              rw [FB.out] at C14
              have C14 := Lib.hid C14
              obtain ⟨x0, x1, x2⟩ := (Xw.out.below E14.out).facts
              obtain ⟨v0, v1, v2, _⟩ := V14.out.facts
              go_wp2_with fail
              ((with_reducible refine C14.out.mono ?_))
              rintro e w15 ⟨rfl, hb15⟩
              have B15 := Lib.hid (below_trans hbb.out (below_trans E14.out hb15))
              clear hb15 C14 x0 x1 x2 v0 v1 v2
              go_wp2_with fail
              go_roundw
              case rel => exact ⟨j + 1, hlt, by go_num, B15.out⟩
              case measure => simp [intOf]; omega
            · obtain ⟨t1, t2, t3⟩ := box_put z13 (.bool vy.list) (.int .i64 vy.num) (.slice VA vy.items.length vc)
              have V14 := Lib.hid t1
              have E14 := Lib.hid (show Below wr.heap.size wr _ from E13.out.trans t2)
              have T14 := Lib.hid (show TAt _ (Bel _) n (vv vy VA vc) vy from HT.out.keep fun b hb => ⟨Nat.lt_of_lt_of_le hb.2 t2.size, fun o => World.cell?_of_block (t3 b (by have := hb.1; simp at this; omega))⟩)
              clear t1 t2 t3 CR HK E13 HT k0 k1 k2 k3 q0 z13 z0 z1 z2 z3
              generalize ((w13.setCell ⟨wr.heap.size, 0, none⟩ (.bool vy.list)).setCell ⟨wr.heap.size, 1, none⟩ (.int .i64 vy.num)).setCell ⟨wr.heap.size, 2, none⟩ (.slice VA vy.items.length vc) = w14 at *
              have B14 := Lib.hid (below_trans Bw.out E14.out)
              have C14 := FV.out FX.out y vy HY.out w14 B14.out VA vc n T14.out
              rw [FB.out] at C14
              have C14 := Lib.hid C14
              obtain ⟨x0, x1, x2⟩ := (Xw.out.below E14.out).facts
              obtain ⟨v0, v1, v2, _⟩ := V14.out.facts
              go_wp2_with fail
              ((with_reducible refine C14.out.mono ?_))
              rintro e w15 ⟨rfl, hb15⟩
              have B15 := Lib.hid (below_trans hbb.out (below_trans E14.out hb15))
              clear hb15 C14 x0 x1 x2 v0 v1 v2
              go_wp2_with fail
              go_roundw
              case rel => exact ⟨j + 1, hlt, by go_num, B15.out⟩
              case measure => simp [intOf]; omega
          · go_wp2_with fail
            go_ret
            exact ⟨rfl, below_trans B11.out hbb.out⟩
    · have C4 := Lib.hid (WK.out u [] 0 (startE t x u) rfl (walkV_no hs) N1.out w3 B3.out A3 c3 U3.out.at_ U3.out.cap_)
      have RE := Lib.hid (errOf_no hs)
      generalize startE t x u = q at *
      clear hs E1
      go_wp2_with fail
      ((with_reducible refine C4.out.mono ?_))
      rintro e w4 ⟨A4, c4, rfl, ho4, hb4⟩
      rw [RE.out]
      have B4 := Lib.hid (below_trans B3.out hb4)
      clear hb4 ho4 k0 k1 k2 k3 x0 x1 x2 C4
      go_wp2_with fail
      go_ret
      exact ⟨ret_b (by simp), B4.out⟩
  · have RE := Lib.hid (errOf_no h0)
    rw [errOf_no h0] at ME
    clear WK RV FV RO
    generalize genV t = q at *
    generalize mendL t l = u at *
    clear h0
    go_enter Tryd.func4, Tryd.ntmps4
    go_wp2_with fail
    generalize (w.alloc (gc t A c)).alloc (ec x XA xc) = W0 at *
    refine (MD.out _).mono ?_
    rintro e w1 ⟨rfl, hb1⟩
    have B1 := Lib.hid (HB.out.2.2.1.trans (hb1.mono HB.out.2.2.1.size))
    have G1 := Lib.hid (HB.out.1.below hb1)
    clear hb1 k0 k1 k2 k3
    go_wp2_with fail
    refine (AC.out w1 B1.out).mono ?_
    rintro e w2 ⟨rfl, hb2⟩
    have B2 := Lib.hid (below_trans B1.out hb2)
    have G2 := Lib.hid (G1.out.below hb2)
    clear hb2 G1
    obtain ⟨k0, k1, k2, k3⟩ := G2.out.facts
    go_wp2_with fail
    ((with_reducible refine (ME.out w2 B2.out).mono ?_))
    rintro e w3 ⟨A3, c3, rfl, ho3, hb3⟩
    have B3 := Lib.hid (below_trans B2.out hb3)
    clear hb3 ho3 k0 k1 k2 k3
    go_wp2_with fail
    go_ret
    exact ⟨rfl, B3.out⟩
end Go.Proofs.YtfpbegagblekiaaDoor.ShLeastLaw
