/- GenMends: the walk. Conditions: the sizes. -/
import Derived.Test.YtppahcjpffbkbaaMade
import Derived.Test.YtppahcjpffbkbaaGrowS
import Derived.Test.YtppahcjpffbkbaaSame
import Derived.Test.YtppahcjpffbkbaaCheck
namespace Go.Proofs.Ytppahcjpffbkbaa.MendsLaw
open Go.RowKit Lists Ints Vals Gens
set_option linter.unusedVariables false

theorem mends_facts {t : Gn} (l more : List Int) (h0 : genV t = 0) : (mendL t l).length ≤ 1399680 ∧ mendL t (mendL t l ++ more) = mendL t l ∧ (∃ v, repV t (mendL t l) = .ok v ∧ faultV v 0 = 0 ∧ v.size ≤ 1399680) ∧ (errI (repV t l) = 0 ↔ mendL t l = l) := by
  obtain ⟨v, r, h1, n1⟩ := mend_run (t := t) l h0
  obtain ⟨hr, hl⟩ := gen_right h0
  refine ⟨n1, mendL_of h0 (mend_mend hr h1 more), ?_, ?_⟩
  · have h2 := mend_read hr h1 []
    rw [List.append_nil] at h2
    have hv := small_val mend_bounded hr hl h1
    refine ⟨v, ?_, (fault_ok 6 v 0 rfl).2 hv.1, hv.2⟩
    unfold repV repG
    rw [if_pos h0, h2]
    rfl
  · have h3 := read_own hr h1
    unfold repV repG
    rw [if_pos h0]
    constructor
    · intro h
      refine h3.1 ?_
      cases hp : play readC t l with
      | error e =>
        rw [hp] at h
        have h : e = 0 := h
        rcases play_err t l e hp with h' | h' <;> omega
      | ok p =>
        obtain ⟨c, v', r'⟩ := p
        rw [hp] at h
        by_cases hr' : r' = []
        · subst hr'; exact ⟨c, v', rfl⟩
        · have h : errI (if r' = [] then Except.ok v' else Except.error 3) = 0 := h
          rw [if_neg hr'] at h
          have h : (3 : Int) = 0 := h
          omega
    · intro h
      obtain ⟨c', v', hp⟩ := h3.2 h
      rw [hp]
      rfl

set_option maxHeartbeats 4000000 in
set_option maxRecDepth 100000 in
theorem walk (t : Gn) (A : Option Addr) (c n : Nat) (l : List Int) (L : Option Addr) (lc : Nat) (more : List Int) (M : Option Addr) (mc : Nat) (hbulk : t.size + l.length + more.length ≤ 1048576) (w : World) (hg : GAt w (GBel w.heap.size) n (gv t A c) t) (hl : At w w.heap.size L l) (hcap : l.length ≤ lc) (hm : At w w.heap.size M more) (hcapm : more.length ≤ mc) :
    Calls Try.prog 4 #[gv t A c, .slice L l.length lc, .slice M more.length mc] w fun e w' => e = .returned (.bool true) ∧ Below w.heap.size w w' := by
  have hb0 : Below w.heap.size w (w.alloc (gc t A c)) := (Below.refl _ _).alloc (Nat.le_refl _) _
  have g0 : G4 w.heap.size (.int .i64 t.kind) (.int .i64 t.a) (.int .i64 t.b) (.slice A t.subs.length c) (w.alloc (gc t A c)) := new_obj w _
  have JC := Lib.hid (fun (w : World) => made_ok w)
  have M1 := Lib.hid (fun (W : World) (hb : Below w.heap.size w W) (l : List Int) (L : Option Addr) (lc : Nat) (hl : At W W.heap.size L l) (hcap : l.length ≤ lc) (hln : l.length ≤ 4294967296) => mend_prog (L := L) (l := l) (lc := lc) W ((hg.below hb).more hb.size) hl hcap hln (by omega))
  have R1 := Lib.hid (fun (W : World) (hb : Below w.heap.size w W) (l : List Int) (L : Option Addr) (lc : Nat) (hl : At W W.heap.size L l) (hcap : l.length ≤ lc) (hln : l.length ≤ 4294967296) => replay_prog (L := L) (l := l) (lc := lc) W ((hg.below hb).more hb.size) hl hcap hln (by omega))
  have B0 := Lib.hid hb0
  have G0 := Lib.hid g0
  have HL := Lib.hid (And.intro hl (And.intro hcap (And.intro hm hcapm)))
  have LN := Lib.hid (show l.length ≤ 1048576 ∧ more.length ≤ 1048576 by omega)
  have FT := Lib.hid (fun (h0 : genV t = 0) => mends_facts l more h0)
  have NZ := Lib.hid (fun (h0 : ¬ genV t = 0) => show mendL t l = [] by unfold mendL; rw [if_neg h0])
  clear hb0 g0 hg hl hcap hbulk hm hcapm
  go_enter Try.func4, Try.ntmps4
  go_wp2_with fail
  generalize w.alloc (gc t A c) = W0 at *
  refine (JC.out _).mono ?_
  rintro e w1 ⟨rfl, hb1⟩
  have B1 := Lib.hid (below_trans B0.out hb1)
  have G1 := Lib.hid (G0.out.below hb1)
  obtain ⟨k0, k1, k2, k3⟩ := G1.out.facts
  clear hb1
  go_wp2_with fail
  refine (M1.out w1 B1.out l L lc ((HL.out.1.below B1.out).more B1.out.size) HL.out.2.1 (by have := LN.out; omega)).mono ?_
  rintro e w2 ⟨A1, c1, rfl, ho1, hb2⟩
  have B2 := Lib.hid (below_trans B1.out hb2)
  have G2 := Lib.hid (G1.out.below hb2)
  have O2 := Lib.hid ho1
  clear hb2 ho1 k0 k1 k2 k3
  by_cases hz : genV t = 0
  · obtain ⟨f1, f2, ⟨v, f3, f4, f5⟩, f6⟩ := FT.out hz
    rw [hz, errOf_ok]
    have F2 := Lib.hid f2
    have F3 := Lib.hid f3
    have F45 := Lib.hid (And.intro f4 f5)
    have F6 := Lib.hid f6
    have F1 := Lib.hid f1
    clear FT NZ f1 f2 f3 f4 f5 f6
    generalize hmm : mendL t l = m at *
    clear hmm
    obtain ⟨k0, k1, k2, k3⟩ := G2.out.facts
    go_wp2_with fail
    have RM := R1.out w2 B2.out m A1 c1 O2.out.at_ O2.out.cap_ (by have := F1.out; omega)
    rw [F3.out] at RM
    have RM := Lib.hid RM
    refine RM.out.mono ?_
    rintro e w3 ⟨A3, c3, rfl, ht3, hn3, hb3⟩
    have B3 := Lib.hid (below_trans B2.out hb3)
    have G3 := Lib.hid (G2.out.below hb3)
    have O3 := Lib.hid (O2.out.below hb3)
    have T3 := Lib.hid ht3
    clear ht3 hn3 hb3 RM
    simp only [trOf, errI, errOf_ok]
    have n4 := new_obj w3 (.cells #[.bool v.list, .int .i64 v.num, .slice A3 v.items.length c3] 36)
    have b4 := bel1 w3 (.cells #[.bool v.list, .int .i64 v.num, .slice A3 v.items.length c3] 36)
    have z4 : (w3.alloc (.cells #[.bool v.list, .int .i64 v.num, .slice A3 v.items.length c3] 36)).heap.size = w3.heap.size + 1 := by simp
    have N4 := Lib.hid (And.intro n4 (And.intro b4 z4))
    clear n4 b4 z4
    go_wp2_with fail
    generalize w3.alloc (.cells #[.bool v.list, .int .i64 v.num, .slice A3 v.items.length c3] 36) = w4 at *
    have V4 := Lib.hid (show V3 w3.heap.size (.bool v.list) (.int .i64 v.num) (.slice A3 v.items.length c3) w4 from N4.out.1)
    have B4 := Lib.hid (below_trans B3.out N4.out.2.1)
    have G4' := Lib.hid (G3.out.below N4.out.2.1)
    have O4 := Lib.hid (O3.out.below N4.out.2.1)
    have T4 := Lib.hid (show TAt w4 (Bel w4.heap.size) n (tval v A3 c3) v from TAt.keep (fun b hb => ⟨by show b < w4.heap.size; have := N4.out.2.2; have := hb.2; omega, fun o => N4.out.2.1.cell (p := ⟨b, o, none⟩) hb.2⟩) T3.out)
    clear k0 k1 k2 k3
    obtain ⟨k0, k1, k2, k3⟩ := G4'.out.facts
    have HR0 := Lib.hid (heap_alloc_new w4 (.cells #[] 3))
    have HA0 := Lib.hid (show At (w4.alloc (.cells #[] 3)).drew w4.heap.size A1 m from ((O4.out.at_).alloc (Nat.le_refl _) _).drew)
    have ZD := Lib.hid (show (w4.alloc (.cells #[] 3)).drew.heap.size = w4.heap.size + 1 by simp)
    have BE := Lib.hid (show Below w4.heap.size w4 (w4.alloc (.cells #[] 3)).drew from ((Below.refl _ _).alloc (Nat.le_refl _) _).drew)
    obtain ⟨d0, d1, d2, d3⟩ := (G4'.out.below ((Below.refl _ _).alloc (Nat.le_refl _) (.cells #[] 3))).facts
    go_region_law (first
      | (refine step_append_ints (by rfl) (.tmp 40) (.tmp 41) (by rfl) w4.heap.size 0 (some ⟨w4.heap.size, 0, none⟩) [] (Own.empty HR0.out) w4.heap.size A1 c1 m HA0.out (by rfl) (by rfl) (by have := F1.out; simp; omega) (by simp) ?_
         intro A5 c5 w5 z5 hz5 own5 g5 r5
         have E5 := Lib.hid (BE.out.grown g5 (by rw [ZD.out]; omega) (by intro k hk; simp [rowOf] at hk; omega))
         have B5 := Lib.hid (below_trans B4.out E5.out)
         have L5 := Lib.hid (show z5.length ≤ 1399680 by rw [hz5.out]; simpa using F1.out)
         have Z5 := E5.out.size
         obtain ⟨j0, j1, j2, j3⟩ := (G4'.out.below E5.out).facts)
      | (refine step_append_ints (by rfl) (.tmp 42) (.tmp 43) (by rfl) w4.heap.size c5 A5 z5 own5 w.heap.size M mc more (HL.out.2.2.1.below B5.out) (by rfl) (by rfl) (by have := L5.out; have := LN.out; omega) Z5 ?_
         intro A6 c6 w6 z6 hz6 own6 g6 r6
         have E6 := Lib.hid (E5.out.grown g6 Z5 own5.ge)
         have B6 := Lib.hid (below_trans B4.out E6.out)
         have O6 := Lib.hid own6
         have H6 := Lib.hid (show z6 = m ++ more by rw [hz6.out, hz5.out]; rfl)
         have L6 := Lib.hid (show z6.length ≤ 4294967296 by rw [hz6.out, List.length_append]; have := L5.out; have := LN.out; omega)
         obtain ⟨i0, i1, i2, i3⟩ := (G4'.out.below E6.out).facts
         clear own6 own5)
      | (go_simp
         have MX := M1.out w6 B6.out z6 A6 c6 O6.out.at_ O6.out.cap_ L6.out
         rw [show mendL t z6 = m by rw [H6.out]; exact F2.out, hz, errOf_ok] at MX
         with_reducible refine MX.mono ?_
         rintro e w7 ⟨A7, c7, rfl, ho7, hb7⟩
         have E7 := Lib.hid (E6.out.trans (hb7.mono E6.out.size))
         have O7 := Lib.hid ho7
         clear ho7 hb7 MX))
    all_goals (
      clear k0 k1 k2 k3 d0 d1 d2 d3
      have B7 := Lib.hid (below_trans B4.out E7.out)
      have O47 := Lib.hid (O4.out.below E7.out)
      have ml : m.length ≤ maxLen := by have := F1.out; simp only [maxLen]; omega
      have ll : l.length ≤ maxLen := by have := LN.out; simp only [maxLen]; omega
      have SM := Lib.hid (same_below m m A7 A1 c7 c1 w7.heap.size ml ml w7 O7.out.at_ O47.out.at_)
      rw [decide_eq_true (rfl : m = m)] at SM
      have ML := Lib.hid (And.intro ml ll)
      clear ml ll
      obtain ⟨k0, k1, k2, k3⟩ := (G4'.out.below E7.out).facts
      go_wp2_with fail
      refine SM.out.mono ?_
      rintro e w8 ⟨rfl, hb8⟩
      have E8 := Lib.hid (E7.out.trans (hb8.mono E7.out.size))
      have B8 := Lib.hid (below_trans B4.out E8.out)
      clear hb8 SM k0 k1 k2 k3
      obtain ⟨k0, k1, k2, k3⟩ := (G4'.out.below E8.out).facts
      have RL := Lib.hid (R1.out w8 B8.out l L lc ((HL.out.1.below B8.out).more B8.out.size) HL.out.2.1 (by have := LN.out; omega))
      go_wp2_with fail
      refine RL.out.mono ?_
      rintro e w9 ⟨A9, c9, rfl, _, _, hb9⟩
      have E9 := Lib.hid (E8.out.trans (hb9.mono E8.out.size))
      clear hb9 RL k0 k1 k2 k3
      have n10 := bel1 w9 (.cells #[.bool (trOf (repV t l)).list, .int .i64 (trOf (repV t l)).num, .slice A9 (trOf (repV t l)).items.length c9] 36)
      have E10 := Lib.hid (E9.out.trans (n10.mono E9.out.size))
      clear n10
      go_wp2_with fail
      generalize w9.alloc (.cells #[.bool (trOf (repV t l)).list, .int .i64 (trOf (repV t l)).num, .slice A9 (trOf (repV t l)).items.length c9] 36) = w10 at *
      have O10 := Lib.hid (O4.out.below E10.out)
      have SL := Lib.hid (same_below m l A1 L c1 lc w10.heap.size ML.out.1 ML.out.2 w10 O10.out.at_ ((HL.out.1.below (below_trans B4.out E10.out)).more (below_trans B4.out E10.out).size))
      refine SL.out.mono ?_
      rintro e w11 ⟨rfl, hb11⟩
      have E11 := Lib.hid (E10.out.trans (hb11.mono E10.out.size))
      have B11 := Lib.hid (below_trans B4.out E11.out)
      clear hb11 SL
      obtain ⟨v0, v1, v2, _⟩ := (V4.out.below E11.out).facts
      have CK := check_prog w11 (T4.out.below E11.out) E11.out.size (by have := F45.out.2; omega)
      rw [F45.out.1, errOf_ok] at CK
      have CK := Lib.hid CK
      by_cases heq : m = l
      · have e6 := F6.out.2 heq
        rw [e6, decide_eq_true heq, errOf_ok]
        clear e6 heq
        go_wp2_with fail
        refine CK.out.mono ?_
        rintro e w12 ⟨rfl, hb12⟩
        have B12 := Lib.hid (below_trans B11.out hb12)
        clear hb12
        go_wp2_with fail
        go_ret
        exact ⟨rfl, B12.out⟩
      · have e6 : ¬ errI (repV t l) = 0 := fun h => heq (F6.out.1 h)
        rw [errOf_no e6, decide_eq_false heq]
        clear e6 heq F6
        generalize errI (repV t l) = q
        go_wp2_with fail
        refine CK.out.mono ?_
        rintro e w12 ⟨rfl, hb12⟩
        have B12 := Lib.hid (below_trans B11.out hb12)
        clear hb12
        go_wp2_with fail
        go_ret
        exact ⟨rfl, B12.out⟩)
  · have RE := Lib.hid (errOf_no hz)
    have hm0 := NZ.out hz
    rw [errOf_no hz, hm0]
    clear NZ FT M1 R1 hm0
    generalize genV t = q at *
    go_wp2_with fail
    go_ret
    exact ⟨rfl, B2.out⟩
end Go.Proofs.Ytppahcjpffbkbaa.MendsLaw
