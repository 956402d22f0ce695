/- TopLeast, part 50 of the proof: TopLeast: the walk. Conditions: the machine's integers; the program's table. -/
import Derived.Test.YtfpbegagblekiaaDoorTopLeastZ44
import Derived.Test.YtfpbegagblekiaaDoorTopLeastZ49
/- TopLeast: the walk. Conditions: the machine's integers; the program's table. -/
namespace Go.Proofs.YtfpbegagblekiaaDoor.TopLeastLaw
open Go.RowKit Lists Ints Vals Gens Exprs
set_option linter.unusedVariables false

theorem just_count (w : World) : Calls Tryd.prog 31 #[.agg #[.int .i64 1, .int .i64 0, .int .i64 0, .slice none 0 0]] w fun e w' => e = .returned (.tuple #[.int .i64 1, .nilIface]) ∧ Below w.heap.size w w' := by
  have h := gcount (n := 1) (t := .node 1 0 0 []) (B := w.heap.size) w (gat_leaf (by decide) (by decide) (by decide)) (Nat.le_refl _) (by simp [Gn.size, gsizes])
  have e0 : countE (.node 1 0 0 []) = 0 := by rfl
  have e1 : countN (.node 1 0 0 []) = 1 := by rfl
  rw [e0, e1, errOf_ok] at h
  exact h
/-- the numbering of one number -/
theorem one_count {a b : Int} (h0 : genV (gOne a b) = 0) : countE (gOne a b) = 0 ∧ countN (gOne a b) = b - a + 1 := by
  have hr := one_range h0
  have hc := count_cap (gOne a b) (gen_right h0).1
  have he : (enG (gOne a b)).cnt = (b - a + 1).toNat := by rw [enG_int]; rfl
  rw [he] at hc
  unfold countE countN
  rw [if_pos h0, if_pos h0, if_neg (by omega), if_neg (by omega)]
  exact ⟨rfl, by omega⟩
theorem one_nth {a b i : Int} (h0 : genV (gOne a b) = 0) (h1 : 0 ≤ i) (h2 : i ≤ b - a) : nthE (gOne a b) i = 0 ∧ nthV (gOne a b) i = [i] := by
  have he : enG (gOne a b) = intE (b - a + 1).toNat := enG_int a b []
  have e0 : nthE (gOne a b) i = 0 := by
    unfold nthE
    rw [if_pos (one_count h0).1, he]
    have : ((intE (b - a + 1).toNat).cnt : Int) = b - a + 1 := by show (((b - a + 1).toNat : Nat) : Int) = _; omega
    rw [if_neg (by omega)]
  refine ⟨e0, ?_⟩
  unfold nthV
  rw [if_pos e0, he]
  show [((i.toNat : Nat) : Int)] = [i]
  congr 1
  omega

set_option maxHeartbeats 16000000 in
set_option maxRecDepth 100000 in
theorem walk (a b e x : Int) (hbulk : 0 + 0 ≤ 1048576) (w : World) (wa : (Lit.int .i64 a).wf = true) (wb : (Lit.int .i64 b).wf = true) (we : (Lit.int .i64 e).wf = true) (wx : (Lit.int .i64 x).wf = true) (hsub : Subs w) :
    Calls Tryd.prog 9 #[.int .i64 a, .int .i64 b, .int .i64 e, .int .i64 x] w fun e w' => e = .returned (.bool true) ∧ Below w.heap.size w w' := by
  have JC := Lib.hid (fun (w : World) => just_count w)
  have EC := Lib.hid (fun (W : World) (p q : Nat) (hb : Below w.heap.size w W) hp hq => edge_call (a := a) (b := b) (e := e) (x := x) wa wb we W p q hp hq (hsub.below hb))
  have BX := Lib.hid (edge_boxes3 w a b e)
  have CT := Lib.hid (fun (h0 : genV (gOne a b) = 0) (W : World) => show Calls Tryd.prog 31 #[.agg #[.int .i64 2, .int .i64 a, .int .i64 b, .slice none 0 0]] W fun e w' => e = .returned (.tuple #[.int .i64 (b - a + 1), .nilIface]) ∧ Below W.heap.size W w' by
    have h := gcount (t := gOne a b) (n := 1) (B := 0) W (gat_leaf (show Wf 2 by decide) wa wb) (Nat.zero_le _) (by simp [Gn.size, gsizes])
    rw [(one_count h0).1, (one_count h0).2, errOf_ok] at h
    exact h)
  have NT := Lib.hid (fun (h0 : genV (gOne a b) = 0) (i : Int) (h1 : 0 ≤ i) (h2 : i ≤ b - a) (W : World) => show Calls Tryd.prog 32 #[.agg #[.int .i64 2, .int .i64 a, .int .i64 b, .slice none 0 0], .int .i64 i] W fun e w' => ∃ (A' : Option Addr) (c' : Nat), e = .returned (.tuple #[.slice A' 1 c', .nilIface]) ∧ Own w' W.heap.size A' c' [i] ∧ Below W.heap.size W w' by
    have h := nth_prog (t := gOne a b) (n := 1) (B := 0) W (gat_leaf (show Wf 2 by decide) wa wb) (Nat.zero_le _) (by simp [Gn.size, gsizes]) i (by have := one_range h0; unfold I64; omega)
    rw [(one_nth h0 h1 h2).1, (one_nth h0 h1 h2).2, errOf_ok] at h
    exact h)
  have RV := Lib.hid (fun (h0 : genV (gOne a b) = 0) (i : Int) (h1 : 0 ≤ i) (h2 : i ≤ b - a) (W : World) (L : Option Addr) (lc : Nat) (hl : At W W.heap.size L [i]) (hcap : 1 ≤ lc) => show Calls Tryd.prog 20 #[.agg #[.int .i64 2, .int .i64 a, .int .i64 b, .slice none 0 0], .slice L 1 lc] W (RvOk (.node false (a + i) []) 1 W) from rv_ok (t := gOne a b) (A := none) (c := 0) (l := [i]) W (gat_leaf (show Wf 2 by decide) wa wb) hl hcap (by simp) (by simp [Gn.size, gsizes]) (rep_in h0 h1 h2))
  have FV := Lib.hid (fun (h0 : genV (gOne a b) = 0) (i : Int) (h1 : 0 ≤ i) (h2 : i ≤ b - a) (p : Nat) (W : World) (hp : EP p e W) (hb : Below w.heap.size w W) (VA : Option Addr) (vc m : Nat) (ht : TAt W (Bel W.heap.size) m (vv (.node false (a + i) []) VA vc) (.node false (a + i) [])) => show Calls Tryd.prog 21 #[.agg #[.int .i64 7, .int .i64 0, .slice (some ⟨p, 0, none⟩) 2 2], .agg #[.bool false, .int .i64 (a + i), .slice VA 0 vc]] W fun e' w' => e' = .returned (.tuple #[.bool (decide (e ≤ a + i)), .nilIface]) ∧ Below W.heap.size W w' by
    have h := fv_ok (t := gOne a b) (x := fEdge e) (l := [i]) W (hp.eat we) ht (edge_ok e) (hsub.below hb) (by simp [Gn.size, gsizes]) (rep_in h0 h1 h2)
    rw [bad_edge e h0 h1 h2] at h
    exact h)
  clear wa wb we wx hsub
  go_enter Tryd.func9, Tryd.ntmps9
  go_wp2_with fail
  generalize ((w.alloc (.cells #[.int .i64 2, .int .i64 a, .int .i64 b, .slice none 0 0] 24)).alloc (.cells #[.int .i64 2, .int .i64 0, .slice none 0 0, .int .i64 1, .int .i64 e, .slice none 0 0] 45)).alloc (.cells #[.int .i64 7, .int .i64 0, .slice (some ⟨w.heap.size + 1, 0, none⟩) 2 2] 45) = w0 at *
  ((with_reducible refine (JC.out w0).mono ?_))
  rintro e0 w1 ⟨rfl, hb1⟩
  have NX := bel1 w1 (.cells #[.int .i64 x] 3)
  have HX := Lib.hid (new_obj w1 (.cells #[.int .i64 x] 3))
  have G1 := Lib.hid (BX.out.2.1.below hb1)
  have X1 := Lib.hid (BX.out.2.2.2.below hb1)
  have P1 := Lib.hid (BX.out.2.2.1.below hb1)
  have B1 := Lib.hid (below_trans BX.out.1 hb1)
  have B2 := Lib.hid (below_trans B1.out NX)
  have G2 := Lib.hid (G1.out.below NX)
  have X2 := Lib.hid (X1.out.below NX)
  have P2 := Lib.hid (P1.out.below NX)
  have EK := Lib.hid (EC.out _ _ _ B2.out P2.out HX.out)
  obtain ⟨k0, k1, k2, k3⟩ := G1.out.facts
  obtain ⟨x0, x1, x2⟩ := X1.out.facts
  clear hb1 NX BX P1
  go_wp2_with fail
  generalize w1.alloc (.cells #[.int .i64 x] 3) = w2 at *
  ((with_reducible refine EK.out.mono ?_))
  rintro e0 w4 ⟨A4, c4, rfl, ho4, hb4⟩
  have B4 := Lib.hid (below_trans B2.out hb4)
  have G4' := Lib.hid (G2.out.below hb4)
  have X4 := Lib.hid (X2.out.below hb4)
  have P4 := Lib.hid (P2.out.below hb4)
  clear EK k0 k1 k2 k3 x0 x1 x2 G1 X1 B1 G2 X2 P2 B2
  by_cases hs : startE (gOne a b) (fEdge e) [x] = 0
  · obtain ⟨h0, h1, h2, h3, h4⟩ := edge_told hs
    have hr := one_range h0
    rw [h4] at ho4
    obtain ⟨M, hm⟩ : ∃ M : Nat, (M : Int) = max a e - a := ⟨(max a e - a).toNat, by omega⟩
    have m1 : (M : Int) ≤ b - a := by omega
    have m2 : ∀ i : Int, 0 ≤ i → (e ≤ a + i ↔ (M : Int) ≤ i) := fun i hi => by omega
    have m3 : M ≤ 1000 := by omega
    rw [← hm] at h4 ho4
    have M4 := Lib.hid ho4
    have CT := Lib.hid (CT.out h0)
    have NT := Lib.hid (NT.out h0)
    have RV := Lib.hid (RV.out h0)
    have FV := Lib.hid (FV.out h0)
    rw [hs, h4, errOf_ok]
    clear hs h4 ho4 hb4 hm h0 EC h1 h2 h3
    obtain ⟨k0, k1, k2, k3⟩ := G4'.out.facts
    have HR := Lib.hid hr
    go_wp2_with fail
    ((with_reducible refine (CT.out w4).mono ?_))
    rintro e0 w5 ⟨rfl, hb5⟩
    have B5 := Lib.hid (below_trans B4.out hb5)
    have G5 := Lib.hid (G4'.out.below hb5)
    have X5 := Lib.hid (X4.out.below hb5)
    have P5 := Lib.hid (P4.out.below hb5)
    have M5 := Lib.hid (M4.out.below hb5)
    clear hb5 k0 k1 k2 k3 G4' X4 P4 M4 B4
    go_wp2_with fail
    go_loopw [18] (fun i wr => ∃ j : Nat, j ≤ M ∧ i = .int .i64 j ∧ Hid (Below w5.heap.size w5 wr)) (fun i _ => M + 1 - (intOf i).toNat)
    case atStart => exact ⟨0, Nat.zero_le _, rfl, Below.refl _ _⟩
    case round =>
      obtain ⟨j, hj, rfl, hbb⟩ := hrel
      have Bw := Lib.hid (below_trans B5.out hbb.out)
      have Gw := Lib.hid (G5.out.below hbb.out)
      have Xw := Lib.hid (X5.out.below hbb.out)
      have Pw := Lib.hid (P5.out.below hbb.out)
      have Mw := Lib.hid (M5.out.below hbb.out)
      have hr := HR.out
      have hd : decide ((j : Int) < b - a + 1) = true := by rw [decide_eq_true_eq]; omega
      obtain ⟨k0, k1, k2, k3⟩ := Gw.out.facts
      have C6 := Lib.hid (NT.out j (by omega) (by omega) wr)
      go_wp2_with fail
      ((with_reducible refine C6.out.mono ?_))
      rintro e0 w6 ⟨A6, c6, rfl, ho6, hb6⟩
      have B6 := Lib.hid (below_trans Bw.out hb6)
      have N6 := Lib.hid (below_trans hbb.out hb6)
      have G6 := Lib.hid (Gw.out.below hb6)
      have X6 := Lib.hid (Xw.out.below hb6)
      have P6 := Lib.hid (Pw.out.below hb6)
      have M6 := Lib.hid (Mw.out.below hb6)
      have T6 := Lib.hid ho6
      have C7 := Lib.hid (RV.out j (by omega) (by omega) w6 A6 c6 T6.out.at_ T6.out.cap_)
      clear hb6 ho6 C6 k0 k1 k2 k3 Bw Gw Xw Pw Mw hd
      obtain ⟨k0, k1, k2, k3⟩ := G6.out.facts
      go_wp2_with fail
      ((with_reducible refine C7.out.mono ?_))
      rintro e0 w7 ⟨A7, c7, rfl, ht, hb7⟩
      have N7 := Lib.hid (bel1 w7 (.cells #[.bool false, .int .i64 (a + j), .slice A7 0 c7] 32))
      have V7 := Lib.hid (show V3 w7.heap.size (.bool false) (.int .i64 (a + j)) (.slice A7 0 c7) (w7.alloc (.cells #[.bool false, .int .i64 (a + j), .slice A7 0 c7] 32)) from new_obj w7 _)
      have B8 := Lib.hid (below_trans (below_trans B6.out hb7) N7.out)
      have E8 := Lib.hid (below_trans (below_trans N6.out hb7) N7.out)
      have X8 := Lib.hid ((X6.out.below hb7).below N7.out)
      have P8 := Lib.hid ((P6.out.below hb7).below N7.out)
      have M8 := Lib.hid ((M6.out.below hb7).below N7.out)
      have T8 := Lib.hid ((T6.out.below hb7).below N7.out)
      have C8 := Lib.hid (FV.out j (by omega) (by omega) _ (w7.alloc (.cells #[.bool false, .int .i64 (a + j), .slice A7 0 c7] 32)) P8.out B8.out A7 c7 1 (ht.keep fun b hb => ⟨Nat.lt_of_lt_of_le hb.2 N7.out.size, fun o => N7.out.cell (p := ⟨b, o, none⟩) hb.2⟩))
      clear hb7 ht C7 k0 k1 k2 k3 B6 N6 G6 X6 P6 M6 T6 N7
      obtain ⟨x0, x1, x2⟩ := X8.out.facts
      obtain ⟨v0, v1, v2, _⟩ := V7.out.facts
      simp only [show (Tr.node false (a + (j : Int)) []).list = false from rfl, show (Tr.node false (a + (j : Int)) []).num = a + (j : Int) from rfl, show (Tr.node false (a + (j : Int)) []).items.length = 0 from rfl]
      go_wp2_with fail
      generalize w7.alloc (.cells #[.bool false, .int .i64 (a + j), .slice A7 0 c7] 32) = w8 at *
      ((with_reducible refine C8.out.mono ?_))
      rintro e0 w9 ⟨rfl, hb9⟩
      have B9 := Lib.hid (below_trans B8.out hb9)
      have E9 := Lib.hid (below_trans E8.out hb9)
      have M9 := Lib.hid (M8.out.below hb9)
      have T9 := Lib.hid (T8.out.below hb9)
      clear hb9 C8 x0 x1 x2 v0 v1 v2 B8 E8 X8 P8 M8 T8 V7
      by_cases hM : j = M
      · subst hM
        have hd : decide (e ≤ a + (j : Int)) = true := by rw [decide_eq_true_eq]; exact (m2 j (by omega)).2 (by omega)
        have SM := same_below [(j : Int)] [(j : Int)] A4 A6 c4 c6 w9.heap.size (by simp [maxLen]) (by simp [maxLen]) w9 M9.out.at_ T9.out.at_
        rw [decide_eq_true (rfl : [(j : Int)] = [(j : Int)])] at SM
        have SM := Lib.hid (show Calls Tryd.prog 22 #[.slice A4 1 c4, .slice A6 1 c6] w9 _ from SM)
        rw [hd]
        clear hd
        go_wp2_with fail
        refine SM.out.mono ?_
        rintro e0 w10 ⟨rfl, hb10⟩
        have B10 := Lib.hid (below_trans B9.out hb10)
        clear hb10 SM
        go_wp2_with fail
        go_ret
        exact ⟨rfl, B10.out⟩
      · have hd : decide (e ≤ a + (j : Int)) = false := by rw [decide_eq_false_iff_not, m2 j (by omega)]; omega
        rw [hd]
        clear hd
        go_wp2_with fail
        go_roundw
        case rel => exact ⟨j + 1, by omega, by go_num, E9.out⟩
        case measure => simp [intOf]; omega
  · have RE := Lib.hid (errOf_no hs)
    have ZV := Lib.hid (walkV_no hs)
    rw [errOf_no hs, ZV.out]
    generalize startE (gOne a b) (fEdge e) [x] = q at *
    clear hs ho4 hb4
    go_wp2_with fail
    go_ret
    exact ⟨ret_b (by simp), B4.out⟩
end Go.Proofs.YtfpbegagblekiaaDoor.TopLeastLaw
