/- RunsAgain, part 50 of the proof: RunsAgain: the walk. Conditions: the sizes; the program's table. -/
import Derived.Test.YtabkihellcflhaaDoorRunsAgainZ48
import Derived.Test.YtabkihellcflhaaDoorRunsAgainZ49
/- RunsAgain: the walk. Conditions: the sizes; the program's table. -/
namespace Go.Proofs.YtabkihellcflhaaDoor.RunAgainLaw
open Go.RowKit Lists Ints Vals Gens Exprs
set_option linter.unusedVariables false

theorem again_facts (t x : Gn) (num many more : Int) (h1 : runE t x many = 0) (h2 : runE t x more = 0) : let r := runR t x num many; let q := runR t x num more
    (r.failed = true → (r.runs : Int) ≤ more → r = q) ∧ (r.failed = true → ¬ (r.runs : Int) ≤ more → q.failed = false ∧ (q.runs : Int) = more) ∧ (r.failed = false → (r.runs : Int) = many ∧ (more ≤ many → (q.runs : Int) = more ∧ q.failed = false)) := by
  intro r q
  obtain ⟨_, _, a1, a2⟩ := run_ok h1
  obtain ⟨_, _, b1, b2⟩ := run_ok h2
  have er : r = repK t x (Rng.u64of num, Rng.gold) many.toNat := runR_ok h1
  have eq : q = repK t x (Rng.u64of num, Rng.gold) more.toNat := runR_ok h2
  rw [er, eq]
  cases hk : firstK t x (Rng.u64of num, Rng.gold) many.toNat with
  | none =>
    rw [rep_none hk]
    refine ⟨(fun h => nomatch h), (fun h => nomatch h), fun _ => ⟨by show ((many.toNat : Nat) : Int) = many; omega, fun hm => ?_⟩⟩
    rw [rep_none (first_none_fewer hk (by omega))]
    exact ⟨by show ((more.toNat : Nat) : Int) = more; omega, rfl⟩
  | some k =>
    have e1 := rep_some hk
    refine ⟨fun _ hle => ?_, fun _ hle => ?_, fun h => by rw [e1] at h; cases h⟩
    · rw [e1] at hle
      have hle : ((k + 1 : Nat) : Int) ≤ more := hle
      rw [e1, rep_some (first_more hk (by omega))]
    · rw [e1] at hle
      have hle : ¬ ((k + 1 : Nat) : Int) ≤ more := hle
      rw [rep_none (first_fewer hk (by omega))]
      exact ⟨rfl, by show ((more.toNat : Nat) : Int) = more; omega⟩

set_option maxHeartbeats 16000000 in
set_option maxRecDepth 100000 in
theorem walk (t : Gn) (A : Option Addr) (c n : Nat) (x : Gn) (XA : Option Addr) (xc nx : Nat) (num many more : Int) (hbulk : t.size + x.size ≤ 1048576) (w : World) (hg : GAt w (GBel w.heap.size) n (gv t A c) t) (hx : EAt w (EBel w.heap.size) nx (ev x XA xc) x) (wn : (Lit.int .i64 num).wf = true) (wm : (Lit.int .i64 many).wf = true) (wq : (Lit.int .i64 more).wf = true) (hsub : Subs w) :
    Calls Tryd.prog 3 #[gv t A c, ev x XA xc, .int .i64 num, .int .i64 many, .int .i64 more] w fun e w' => e = .returned (.bool true) ∧ Below w.heap.size w w' := by
  have HB := Lib.hid (gx_boxes w t x A XA c xc)
  have MD := Lib.hid (fun (w : World) => made_ok w)
  have AC := Lib.hid (fun (W : World) (hb : Below w.heap.size w W) => asked_ok W (hsub.below hb))
  have RN := Lib.hid (fun (many : Int) (r : Rep) (q : Int) (hr : runR t x num many = r) (hq : runE t x many = q) (W : World) (hb : Below w.heap.size w W) => show Calls Tryd.prog 7 #[gv t A c, ev x XA xc, .int .i64 num, .int .i64 many] W (RnPost r q W) by
    subst hr hq
    exact run_prog num many W ((hg.below hb).more hb.size) ((hx.below hb).more hb.size) (hsub.below hb) (by omega) (by omega))
  have AF := again_facts t x num many more
  have L1 := Lib.hid (show (runR t x num many).tape.length ≤ maxLen by have := (rep_len (t := t) (x := x) (n := num) (many := many)).1; simp only [maxLen]; omega)
  have L2 := Lib.hid (show (runR t x num more).tape.length ≤ maxLen by have := (rep_len (t := t) (x := x) (n := num) (many := more)).1; simp only [maxLen]; omega)
  have C1 := Lib.hid (RN.out many _ _ rfl rfl)
  have C2 := Lib.hid (RN.out more _ _ rfl rfl)
  clear hg hx hbulk hsub wn wm wq RN
  generalize runR t x num many = r at *
  generalize runR t x num more = q at *
  generalize runE t x many = e1 at *
  generalize runE t x more = e2 at *
  have AF := Lib.hid AF
  go_enter Tryd.func3, Tryd.ntmps3
  go_wp2_with fail
  generalize (w.alloc (gc t A c)).alloc (ec x XA xc) = W0 at *
  refine (MD.out _).mono ?_
  rintro e w1 ⟨rfl, hb1⟩
  have B1 := Lib.hid (HB.out.2.2.1.trans (hb1.mono HB.out.2.2.1.size))
  have X1 := Lib.hid (HB.out.2.1.below hb1)
  have G1 := Lib.hid (HB.out.1.below hb1)
  clear hb1
  go_wp2_with fail
  refine (AC.out w1 B1.out).mono ?_
  rintro e w2 ⟨rfl, hb2⟩
  have B2 := Lib.hid (below_trans B1.out hb2)
  have X2 := Lib.hid (X1.out.below hb2)
  have G2 := Lib.hid (G1.out.below hb2)
  clear hb2 X1 G1 B1
  obtain ⟨k0, k1, k2, k3⟩ := G2.out.facts
  obtain ⟨x0, x1, x2⟩ := X2.out.facts
  go_wp2_with fail
  ((with_reducible refine (C1.out w2 B2.out).mono ?_))
  rintro e w3 ⟨A3, c3, rfl, ha3, hc3, hb3⟩
  have N3 := bel1 w3 (rc r A3 c3)
  have R4' := Lib.hid (show R4 w3.heap.size (.int .i64 r.runs) (.bool r.failed) (.slice A3 r.tape.length c3) (.int .i64 r.steps) (w3.alloc (rc r A3 c3)) from new_obj w3 _)
  have B4 := Lib.hid (below_trans (below_trans B2.out hb3) N3)
  have X4 := Lib.hid ((X2.out.below hb3).below N3)
  have G4' := Lib.hid ((G2.out.below hb3).below N3)
  have T4 := Lib.hid ((ha3.below N3).more N3.size)
  clear N3 hb3 ha3 hc3 C1 k0 k1 k2 k3 x0 x1 x2 X2 G2 B2
  obtain ⟨k0, k1, k2, k3⟩ := G4'.out.facts
  obtain ⟨x0, x1, x2⟩ := X4.out.facts
  go_wp2_with fail
  generalize w3.alloc (rc r A3 c3) = w4 at *
  generalize w3.heap.size = pr at *
  ((with_reducible refine (C2.out w4 B4.out).mono ?_))
  rintro e w5 ⟨A5, c5, rfl, ha5, hc5, hb5⟩
  have N5 := bel1 w5 (rc q A5 c5)
  have Q6 := Lib.hid (show R4 w5.heap.size (.int .i64 q.runs) (.bool q.failed) (.slice A5 q.tape.length c5) (.int .i64 q.steps) (w5.alloc (rc q A5 c5)) from new_obj w5 _)
  have B6 := Lib.hid (below_trans (below_trans B4.out hb5) N5)
  have R6 := Lib.hid ((R4'.out.below hb5).below N5)
  have T6 := Lib.hid ((((T4.out.below hb5).more hb5.size).below N5).more N5.size)
  have U6 := Lib.hid ((ha5.below N5).more N5.size)
  clear N5 hb5 ha5 hc5 C2 k0 k1 k2 k3 x0 x1 x2 X4 G4' B4
  by_cases h1 : e1 = 0
  · by_cases h2 : e2 = 0
    · have AF2 := Lib.hid (AF.out h1 h2)
      subst h1 h2
      rw [errOf_ok]
      obtain ⟨⟨a0, a1, a2, a3⟩, _⟩ := R6.out.facts
      obtain ⟨⟨b0, b1, b2, b3⟩, _⟩ := Q6.out.facts
      have SR := Lib.hid (report_any r q A3 A5 c3 c5 _ T6.out U6.out L1.out L2.out)
      go_wp2_with fail
      generalize w5.alloc (rc q A5 c5) = w6 at *
      generalize w5.heap.size = pq at *
      ((with_reducible refine SR.out.mono ?_))
      rintro e w7 ⟨bb, rfl, hbb, hb7⟩
      have B7 := Lib.hid (below_trans B6.out hb7)
      have HBB := Lib.hid hbb
      clear a0 a1 a2 a3 b0 b1 b2 b3
      obtain ⟨⟨a0, a1, a2, a3⟩, _⟩ := (R6.out.below hb7).facts
      obtain ⟨⟨b0, b1, b2, b3⟩, _⟩ := (Q6.out.below hb7).facts
      clear hb7 SR hbb
      cases hf : r.failed with
      | true =>
        rw [hf] at a1
        by_cases hm : (r.runs : Int) ≤ more
        · have hb : bb = true := HBB.out (AF2.out.1 hf hm)
          subst hb
          go_wp2_with fail
          all_goals
            go_ret
            exact ⟨ret_b (by first | rfl | simp), B7.out⟩
        · obtain ⟨q1, q2⟩ := AF2.out.2.1 hf (by omega)
          rw [q1] at b1
          rw [q2] at b0
          have hm2 : decide ((r.runs : Int) ≤ more) = false := decide_eq_false hm
          go_wp2_with fail
          all_goals
            go_ret
            exact ⟨ret_b (by first | rfl | simp), B7.out⟩
      | false =>
        obtain ⟨q1, q2⟩ := AF2.out.2.2 hf
        rw [hf] at a1
        rw [q1] at a0
        by_cases hm : more ≤ many
        · obtain ⟨q3, q4⟩ := q2 hm
          rw [q4] at b1
          rw [q3] at b0
          have hm2 : decide (many < more) = false := by rw [decide_eq_false_iff_not]; omega
          go_wp2_with fail
          all_goals
            go_ret
            exact ⟨ret_b (by first | rfl | simp), B7.out⟩
        · have hm2 : decide (many < more) = true := by rw [decide_eq_true_eq]; omega
          go_wp2_with fail
          all_goals
            go_ret
            exact ⟨ret_b (by first | rfl | simp), B7.out⟩
    · rw [errOf_no h2]
      subst h1
      rw [errOf_ok]
      go_wp2_with fail
      go_ret
      exact ⟨rfl, B6.out⟩
  · rw [errOf_no h1]
    go_wp2_with fail
    go_ret
    exact ⟨rfl, B6.out⟩
end Go.Proofs.YtabkihellcflhaaDoor.RunAgainLaw
