/- RunsFail, part 50 of the proof: RunsFail: the walk. Conditions: the sizes; the program's table. -/
import Derived.Test.YtabkihellcflhaaDoorRunsFailZ48
import Derived.Test.YtabkihellcflhaaDoorRunsFailZ47
import Derived.Test.YtabkihellcflhaaDoorRunsFailZ46
import Derived.Test.YtabkihellcflhaaDoorRunsFailZ49
/- RunsFail: the walk. Conditions: the sizes; the program's table. -/
namespace Go.Proofs.YtabkihellcflhaaDoor.RunFailLaw
open Go.RowKit Lists Ints Vals Gens Exprs
set_option linter.unusedVariables false

theorem fail_facts (t x : Gn) (num many : Int) : let r := runR t x num many; let y := runR t (.node 1 1 0 []) num many
    (¬ runE t x many = 0 → r.failed = false ∧ r.runs = 0) ∧ (runE t x many = 0 → runE t (.node 1 1 0 []) many = 0 ∧ y.failed = false ∧ (y.runs : Int) = many ∧ (r.failed = false → r.tape = [] ∧ r.steps = 0) ∧ (r.failed = true → startE t x r.tape = 0 ∧ walkV t x r.tape = (r.tape, 0) ∧ 1 ≤ r.runs ∧ (r.runs : Int) ≤ many)) := by
  intro r y
  refine ⟨fun h => ?_, fun h => ?_⟩
  · have e : r = ⟨0, false, [], 0⟩ := runR_no h
    rw [e]; exact ⟨rfl, rfl⟩
  · obtain ⟨h0, hf, a1, a2⟩ := run_ok h
    have h2 : runE t (.node 1 1 0 []) many = 0 := by
      unfold runE
      rw [if_pos h0, if_pos (lit_ok 1), if_neg (by omega)]
    have er : r = repK t x (Rng.u64of num, Rng.gold) many.toNat := runR_ok h
    have ey : y = repK t (.node 1 1 0 []) (Rng.u64of num, Rng.gold) many.toNat := runR_ok h2
    have fy : firstK t (.node 1 1 0 []) (Rng.u64of num, Rng.gold) many.toNat = none := first_no fun j _ => lit_bad 1 (draw_rose (t := t) _ h0)
    refine ⟨h2, by rw [ey, rep_none fy], by rw [ey, rep_none fy]; show ((many.toNat : Nat) : Int) = many; omega, fun hn => ?_, fun hn => ?_⟩
    · rw [er] at hn ⊢
      cases hk : firstK t x (Rng.u64of num, Rng.gold) many.toNat with
      | none => rw [rep_none hk]; exact ⟨rfl, rfl⟩
      | some k => rw [rep_some hk] at hn; cases hn
    · rw [er] at hn ⊢
      obtain ⟨b1, b2, b3, b4, b5, _⟩ := rep_fails h0 hf hn
      have hs := start_of hf b3 b4
      exact ⟨hs, by rw [walkV_ok hs, walk_stop b3 b5], b1, by omega⟩

set_option maxHeartbeats 16000000 in
set_option maxRecDepth 100000 in
theorem walk (t : Gn) (A : Option Addr) (c n : Nat) (x : Gn) (XA : Option Addr) (xc nx : Nat) (num many : Int) (hbulk : t.size + x.size ≤ 1048576) (w : World) (hg : GAt w (GBel w.heap.size) n (gv t A c) t) (hx : EAt w (EBel w.heap.size) nx (ev x XA xc) x) (wn : (Lit.int .i64 num).wf = true) (wm : (Lit.int .i64 many).wf = true) (hsub : Subs w) :
    Calls Tryd.prog 4 #[gv t A c, ev x XA xc, .int .i64 num, .int .i64 many] w fun e w' => e = .returned (.bool true) ∧ Below w.heap.size w w' := by
  have HB := Lib.hid (gx_boxes w t x A XA c xc)
  have MD := Lib.hid (fun (w : World) => made_ok w)
  have AC := Lib.hid (fun (W : World) (hb : Below w.heap.size w W) => asked_ok W (hsub.below hb))
  have C1 := Lib.hid (fun (W : World) (hb : Below w.heap.size w W) => run_prog num many W ((hg.below hb).more hb.size) ((hx.below hb).more hb.size) (hsub.below hb) (by omega) (by omega))
  have C2 := Lib.hid (fun (W : World) (hb : Below w.heap.size w W) => show Calls Tryd.prog 7 #[gv t A c, .agg #[.int .i64 1, .int .i64 1, .slice none 0 0], .int .i64 num, .int .i64 many] W (RnPost (runR t (.node 1 1 0 []) num many) (runE t (.node 1 1 0 []) many) W) from run_prog (x := .node 1 1 0 []) (XA := none) (xcap := 0) (nx := 1) num many W ((hg.below hb).more hb.size) (eat_leaf 1 1 0 (by decide) (by decide) 0) (hsub.below hb) (by omega) (by simp [Gn.size, gsizes]))
  have WK := Lib.hid (fun (l z : List Int) (k : Nat) (q : Int) (hs : startE t x l = q) (hv : walkV t x l = (z, k)) (hln : l.length ≤ 1399680) (W : World) (hb : Below w.heap.size w W) (L : Option Addr) (lc : Nat) (hl : At W W.heap.size L l) (hcap : l.length ≤ lc) => show Calls Tryd.prog 9 #[gv t A c, ev x XA xc, .slice L l.length lc] W (WkOk z k q W) from walk_is W ((hg.below hb).more hb.size) ((hx.below hb).more hb.size) (hsub.below hb) hl hcap (by omega) (by omega) (by omega) hs hv)
  have FF := fail_facts t x num many
  have L1 := (rep_len (t := t) (x := x) (n := num) (many := many)).1
  clear hg hx hbulk hsub wn wm
  unfold RnPost at C1 C2
  generalize runR t x num many = r at *
  generalize runR t (.node 1 1 0 []) num many = y at *
  generalize runE t x many = e1 at *
  generalize runE t (.node 1 1 0 []) many = e2 at *
  obtain ⟨rr, rf, m, rs⟩ := r
  obtain ⟨yr, yf, yt, ys⟩ := y
  have FF := Lib.hid (show (¬ e1 = 0 → rf = false ∧ rr = 0) ∧ (e1 = 0 → e2 = 0 ∧ yf = false ∧ (yr : Int) = many ∧ (rf = false → m = [] ∧ rs = 0) ∧ (rf = true → startE t x m = 0 ∧ walkV t x m = (m, 0) ∧ 1 ≤ rr ∧ (rr : Int) ≤ many)) from FF)
  have L1 := Lib.hid (show m.length ≤ 1399680 from L1)
  have C1 := Lib.hid (fun (W : World) (hb : Below w.heap.size w W) => show Calls Tryd.prog 7 #[gv t A c, ev x XA xc, .int .i64 num, .int .i64 many] W fun e w' => ∃ (A : Option Addr) (c : Nat), e = .returned (.tuple #[.agg #[.int .i64 rr, .bool rf, .slice A m.length c, .int .i64 rs], errOf e1]) ∧ At w' w'.heap.size A m ∧ m.length ≤ c ∧ Below W.heap.size W w' from C1.out W hb)
  have C2 := Lib.hid (fun (W : World) (hb : Below w.heap.size w W) => show Calls Tryd.prog 7 #[gv t A c, .agg #[.int .i64 1, .int .i64 1, .slice none 0 0], .int .i64 num, .int .i64 many] W fun e w' => ∃ (A : Option Addr) (c : Nat), e = .returned (.tuple #[.agg #[.int .i64 yr, .bool yf, .slice A yt.length c, .int .i64 ys], errOf e2]) ∧ At w' w'.heap.size A yt ∧ yt.length ≤ c ∧ Below W.heap.size W w' from C2.out W hb)
  go_enter Tryd.func4, Tryd.ntmps4
  go_wp2_with fail
  generalize (w.alloc (gc t A c)).alloc (ec x XA xc) = W0 at *
  refine (MD.out _).mono ?_
  rintro e w1 ⟨rfl, hb1⟩
  have B1 := Lib.hid (HB.out.2.2.1.trans (hb1.mono HB.out.2.2.1.size))
  have X1 := Lib.hid (HB.out.2.1.below hb1)
  have G1 := Lib.hid (HB.out.1.below hb1)
  clear hb1
  go_wp2_with fail
  refine (AC.out w1 B1.out).mono ?_
  rintro e w2 ⟨rfl, hb2⟩
  have B2 := Lib.hid (below_trans B1.out hb2)
  have X2 := Lib.hid (X1.out.below hb2)
  have G2 := Lib.hid (G1.out.below hb2)
  clear hb2 X1 G1 B1
  obtain ⟨k0, k1, k2, k3⟩ := G2.out.facts
  obtain ⟨x0, x1, x2⟩ := X2.out.facts
  go_wp2_with fail
  ((with_reducible refine (C1.out w2 B2.out).mono ?_))
  rintro e w3 ⟨A3, c3, rfl, ha3, hc3, hb3⟩
  have N3 := bel1 w3 (.cells #[.int .i64 rr, .bool rf, .slice A3 m.length c3, .int .i64 rs] 31)
  have R4' := Lib.hid (show R4 w3.heap.size (.int .i64 rr) (.bool rf) (.slice A3 m.length c3) (.int .i64 rs) (w3.alloc (.cells #[.int .i64 rr, .bool rf, .slice A3 m.length c3, .int .i64 rs] 31)) from new_obj w3 _)
  have B4 := Lib.hid (below_trans (below_trans B2.out hb3) N3)
  have X4 := Lib.hid ((X2.out.below hb3).below N3)
  have G4' := Lib.hid ((G2.out.below hb3).below N3)
  have T4 := Lib.hid ((ha3.below N3).more N3.size)
  have HC := Lib.hid hc3
  clear N3 hb3 ha3 hc3 C1 k0 k1 k2 k3 x0 x1 x2 X2 G2 B2
  obtain ⟨k0, k1, k2, k3⟩ := G4'.out.facts
  go_wp2_with fail
  generalize w3.alloc (.cells #[.int .i64 rr, .bool rf, .slice A3 m.length c3, .int .i64 rs] 31) = w4 at *
  generalize w3.heap.size = pr at *
  ((with_reducible refine (C2.out w4 B4.out).mono ?_))
  rintro e w5 ⟨A5, c5, rfl, ha5, hc5, hb5⟩
  have N5 := bel1 w5 (.cells #[.int .i64 yr, .bool yf, .slice A5 yt.length c5, .int .i64 ys] 31)
  have Q6 := Lib.hid (show R4 w5.heap.size (.int .i64 yr) (.bool yf) (.slice A5 yt.length c5) (.int .i64 ys) (w5.alloc (.cells #[.int .i64 yr, .bool yf, .slice A5 yt.length c5, .int .i64 ys] 31)) from new_obj w5 _)
  have B6 := Lib.hid (below_trans (below_trans B4.out hb5) N5)
  have R6 := Lib.hid ((R4'.out.below hb5).below N5)
  have X6 := Lib.hid ((X4.out.below hb5).below N5)
  have G6 := Lib.hid ((G4'.out.below hb5).below N5)
  have T6 := Lib.hid ((((T4.out.below hb5).more hb5.size).below N5).more N5.size)
  clear N5 hb5 ha5 hc5 C2 k0 k1 k2 k3 X4 G4' B4 T4
  obtain ⟨⟨a0, a1, a2, a3⟩, _⟩ := R6.out.facts
  obtain ⟨⟨b0, b1, b2, b3⟩, _⟩ := Q6.out.facts
  obtain ⟨k0, k1, k2, k3⟩ := G6.out.facts
  obtain ⟨x0, x1, x2⟩ := X6.out.facts
  by_cases h1 : e1 = 0
  · obtain ⟨h2, y1, y2, r0, r1⟩ := FF.out.2 h1
    subst h1 h2 y1 y2
    rw [errOf_ok]
    cases rf with
    | false =>
      obtain ⟨e3, e4⟩ := r0 rfl
      subst e3 e4
      go_wp2_with fail
      go_ret
      exact ⟨ret_b (by simp), B6.out⟩
    | true =>
      obtain ⟨q1, q2, q3, q4⟩ := r1 rfl
      have C7 := Lib.hid (WK.out m m 0 0 q1 q2 L1.out _ B6.out A3 c3 T6.out HC.out)
      clear FF r0 r1 q1 q2
      go_wp2_with fail
      generalize w5.alloc (.cells #[.int .i64 yr, .bool false, .slice A5 yt.length c5, .int .i64 ys] 31) = w6 at *
      generalize w5.heap.size = pq at *
      ((with_reducible refine C7.out.mono ?_))
      rintro e w7 ⟨A7, c7, rfl, ho7, hb7⟩
      rw [errOf_ok]
      have B7 := Lib.hid (below_trans B6.out hb7)
      have SM := same_below m m A7 A3 c7 c3 w7.heap.size (by have := L1.out; simp only [maxLen]; omega) (by have := L1.out; simp only [maxLen]; omega) w7 ho7.at_ ((T6.out.below hb7).more hb7.size)
      rw [decide_eq_true (rfl : m = m)] at SM
      have SM := Lib.hid SM
      have R7 := Lib.hid (R6.out.below hb7)
      clear a0 a1 a2 a3 b0 b1 b2 b3 k0 k1 k2 k3 x0 x1 x2 C7
      obtain ⟨⟨a0, a1, a2, a3⟩, _⟩ := R7.out.facts
      clear hb7 ho7
      go_wp2_with fail
      ((with_reducible refine SM.out.mono ?_))
      rintro e w8 ⟨rfl, hb8⟩
      have B8 := Lib.hid (below_trans B7.out hb8)
      clear a0 a1 a2 a3 SM
      obtain ⟨⟨a0, a1, a2, a3⟩, _⟩ := (R7.out.below hb8).facts
      clear hb8
      have d1 : decide ((1 : Int) ≤ (rr : Int)) = true := by rw [decide_eq_true_eq]; omega
      have d2 : decide ((rr : Int) ≤ (yr : Int)) = true := by rw [decide_eq_true_eq]; exact q4
      go_wp2_with fail
      all_goals
        go_ret
        exact ⟨ret_b (by first | rfl | simp | (simp; omega)), B8.out⟩
  · obtain ⟨r0, r1⟩ := FF.out.1 h1
    rw [errOf_no h1]
    subst r0 r1
    clear FF
    go_wp2_with fail
    go_ret
    exact ⟨ret_b (by simp), B6.out⟩
end Go.Proofs.YtabkihellcflhaaDoor.RunFailLaw
