/- RankBack: the walk. Conditions: the sizes. -/
import Derived.Test.YtboecgbgcbkcjaaMade
import Derived.Test.YtboecgbgcbkcjaaGMend
import Derived.Test.YtboecgbgcbkcjaaSame
import Derived.Test.YtboecgbgcbkcjaaRkRank
namespace Go.Proofs.Ytboecgbgcbkcjaa.RBackLaw
open Go.RowKit Lists Ints Vals Gens
set_option linter.unusedVariables false

/-- a number's tape has this number, and can be played -/
theorem back_nth {t : Gn} {i : Int} (hi : nthE t i = 0) : rankE t (nthV t i) = 0 ∧ ((rankV t (nthV t i) : Nat) : Int) = i ∧ errI (repV t (nthV t i)) = 0 := by
  obtain ⟨hf, hc, i0, i1, hv⟩ := nthE_zero hi
  have hg := good_gen t hf.1
  obtain ⟨v, hp⟩ := hg.tape i.toNat i1
  have hr : errI (repV t (nthV t i)) = 0 := by
    rw [hv]; unfold repV repG
    rw [if_pos hf.gen, hp]; rfl
  have hce : countE t = 0 := by
    unfold nthE at hi
    by_cases h : countE t = 0
    · exact h
    · rw [if_neg h] at hi; exact hi
  have he : rankE t (nthV t i) = 0 := by unfold rankE; rw [if_pos hce]; exact hr
  refine ⟨he, ?_, hr⟩
  unfold rankV
  rw [if_pos he, hv]
  have := hg.back i.toNat i1 []
  rw [List.append_nil] at this
  rw [this]; omega
/-- a tape is that of its number -/
theorem back_mend {t : Gn} (l : List Int) (hc : countE t = 0) : genV t = 0 ∧ (mendL t l).length ≤ 1399680 ∧ rankE t (mendL t l) = 0 ∧ nthE t (rankV t (mendL t l) : Nat) = 0 ∧ nthV t (rankV t (mendL t l) : Nat) = mendL t l ∧ ((rankV t (mendL t l) : Nat) : Int) < countN t ∧ (rankV t (mendL t l) : Nat) ≤ 1048576 := by
  obtain ⟨hf, hb, hn⟩ := count_fine hc
  obtain ⟨v, r, h1, n1⟩ := mend_run (t := t) l hf.gen
  have h2 := mend_read hf.1 h1 []
  rw [List.append_nil] at h2
  have hr : errI (repV t (mendL t l)) = 0 := by
    unfold repV repG
    rw [if_pos hf.gen, h2]; rfl
  have he : rankE t (mendL t l) = 0 := by unfold rankE; rw [if_pos hc]; exact hr
  obtain ⟨_, _, _, h3, h4⟩ := rankE_zero he
  have h5 : nthE t (rankV t (mendL t l) : Nat) = 0 := by
    unfold nthE; rw [if_pos hc, if_neg (by omega)]
  refine ⟨hf.gen, n1, he, h5, ?_, by rw [hn]; omega, by omega⟩
  unfold nthV
  rw [if_pos h5, Int.toNat_natCast, h4]
theorem back_in {t : Gn} (i : Int) (hc : countE t = 0) : (nthE t i = 0 ↔ 0 ≤ i ∧ i < countN t) ∧ 0 ≤ countN t ∧ countN t ≤ 1048576 := by
  obtain ⟨hf, hb, hn⟩ := count_fine hc
  rw [hn]
  refine ⟨?_, by omega, by omega⟩
  unfold nthE
  rw [if_pos hc]
  by_cases h : i < 0 ∨ ((enG t).cnt : Int) ≤ i
  · rw [if_pos h]; omega
  · rw [if_neg h]; omega

set_option maxHeartbeats 8000000 in
set_option maxRecDepth 100000 in
theorem walk (t : Gn) (A : Option Addr) (c n : Nat) (i : Int) (l : List Int) (L : Option Addr) (lc : Nat) (hbulk : t.size + l.length ≤ 1048576) (w : World) (hg : GAt w (GBel w.heap.size) n (gv t A c) t) (wi : (Lit.int .i64 i).wf = true) (hl : At w w.heap.size L l) (hcap : l.length ≤ lc) :
    Calls Try.prog 3 #[gv t A c, .int .i64 i, .slice L l.length lc] w fun e w' => e = .returned (.bool true) ∧ Below w.heap.size w w' := by
  have hb0 : Below w.heap.size w (w.alloc (gc t A c)) := (Below.refl _ _).alloc (Nat.le_refl _) _
  have g0 : G4 w.heap.size (.int .i64 t.kind) (.int .i64 t.a) (.int .i64 t.b) (.slice A t.subs.length c) (w.alloc (gc t A c)) := new_obj w _
  have JC := Lib.hid (fun (w : World) => made_ok w)
  have C1 := Lib.hid (fun (W : World) (hb : Below w.heap.size w W) => gcount W ((hg.below hb).more hb.size) (Nat.le_refl _) (by omega))
  have N1 := Lib.hid (fun (W : World) (hb : Below w.heap.size w W) (i : Int) (hi : I64 i) => nth_prog W ((hg.below hb).more hb.size) (Nat.le_refl _) (by omega) i hi)
  have K1 := Lib.hid (fun (W : World) (hb : Below w.heap.size w W) (l : List Int) (L : Option Addr) (lc : Nat) (hl : At W W.heap.size L l) (hcap : l.length ≤ lc) (hln : l.length ≤ 4294967296) => rank_prog (L := L) (l := l) (lc := lc) W ((hg.below hb).more hb.size) hl hcap hln (by omega))
  have M1 := Lib.hid (fun (W : World) (hb : Below w.heap.size w W) => mend_prog (L := L) (l := l) (lc := lc) W ((hg.below hb).more hb.size) ((hl.below hb).more hb.size) hcap (by omega) (by omega))
  have R1 := Lib.hid (fun (W : World) (hb : Below w.heap.size w W) (l : List Int) (L : Option Addr) (lc : Nat) (hl : At W W.heap.size L l) (hcap : l.length ≤ lc) (hln : l.length ≤ 4294967296) => replay_prog (L := L) (l := l) (lc := lc) W ((hg.below hb).more hb.size) hl hcap hln (by omega))
  have B0 := Lib.hid hb0
  have G0 := Lib.hid g0
  have FN := Lib.hid (fun (h1 : nthE t i = 0) => back_nth h1)
  have FM := Lib.hid (fun (h1 : countE t = 0) => back_mend l h1)
  have FI := Lib.hid (fun (h1 : countE t = 0) => back_in i h1)
  have FC := Lib.hid (fun (h1 : ¬ countE t = 0) => show countN t = 0 by
    unfold countE at h1
    unfold countN
    by_cases hg : genV t = 0
    · rw [if_pos hg] at h1 ⊢
      by_cases hq : 1048576 < countG t
      · rw [if_pos hq]
      · rw [if_neg hq] at h1; exact absurd rfl h1
    · rw [if_neg hg])
  have LN := Lib.hid (nthV_len t i)
  have II := Lib.hid (i64_wf wi)
  clear hb0 g0 hg hbulk wi hl hcap
  go_enter Try.func3, Try.ntmps3
  go_wp2_with fail
  generalize w.alloc (gc t A c) = W0 at *
  ((with_reducible refine (JC.out _).mono ?_))
  rintro e w1 ⟨rfl, hb1⟩
  have B1 := Lib.hid (below_trans B0.out hb1)
  have G1 := Lib.hid (G0.out.below hb1)
  obtain ⟨k0, k1, k2, k3⟩ := G1.out.facts
  clear hb1 JC
  go_wp2_with fail
  ((with_reducible refine (C1.out w1 B1.out).mono ?_))
  rintro e w2 ⟨rfl, hb2⟩
  have B2 := Lib.hid (below_trans B1.out hb2)
  have G2 := Lib.hid (G1.out.below hb2)
  clear hb2 C1 k0 k1 k2 k3
  obtain ⟨k0, k1, k2, k3⟩ := G2.out.facts
  by_cases hc : countE t = 0
  · obtain ⟨fi1, fi2, fi3⟩ := FI.out hc
    obtain ⟨m0, m1, m2, m3, m4, m5, m6⟩ := FM.out hc
    have KM := Lib.hid (fun (W : World) (hb : Below w.heap.size w W) (A' : Option Addr) (c' : Nat) (hat : At W W.heap.size A' (mendL t l)) (hcp : (mendL t l).length ≤ c') => show Calls Try.prog 8 #[gv t A c, .slice A' (mendL t l).length c'] W fun e w' => e = .returned (.tuple #[.int .i64 (rankV t (mendL t l) : Nat), .nilIface]) ∧ Below W.heap.size W w' by
      have := K1.out W hb (mendL t l) A' c' hat hcp (by omega)
      rw [m2, errOf_ok] at this
      exact this)
    have NM := Lib.hid (fun (W : World) (hb : Below w.heap.size w W) => show Calls Try.prog 7 #[gv t A c, .int .i64 (rankV t (mendL t l) : Nat)] W fun e w' => ∃ (A' : Option Addr) (c' : Nat), e = .returned (.tuple #[.slice A' (mendL t l).length c', .nilIface]) ∧ Own w' W.heap.size A' c' (mendL t l) ∧ Below W.heap.size W w' by
      have := N1.out W hb (rankV t (mendL t l) : Nat) ⟨by omega, by omega⟩
      rw [m3, m4, errOf_ok] at this
      exact this)
    have MM := Lib.hid (fun (W : World) (hb : Below w.heap.size w W) => show Calls Try.prog 10 #[gv t A c, .slice L l.length lc] W fun e w' => ∃ (A' : Option Addr) (c' : Nat), e = .returned (.tuple #[.slice A' (mendL t l).length c', .nilIface]) ∧ Own w' W.heap.size A' c' (mendL t l) ∧ Below W.heap.size W w' by
      have := M1.out W hb
      rw [m0, errOf_ok] at this
      exact this)
    have LM := Lib.hid (show (mendL t l).length ≤ maxLen by simp only [maxLen]; omega)
    rw [hc, errOf_ok]
    clear hc FC FI FM m0 m1 m2 m3 m4 M1
    generalize rankV t (mendL t l) = j at *
    generalize mendL t l = m at *
    generalize countN t = N at *
    have hj0 : (0 : Int) ≤ (j : Int) := by omega
    -- the number's tape
    go_wp2_with fail
    ((with_reducible refine (N1.out w2 B2.out i II.out).mono ?_))
    rintro e w3 ⟨A3, c3, rfl, ho3, hb3⟩
    have B3 := Lib.hid (below_trans B2.out hb3)
    have G3 := Lib.hid (G2.out.below hb3)
    have O3 := Lib.hid ho3
    clear hb3 ho3 k0 k1 k2 k3
    obtain ⟨k0, k1, k2, k3⟩ := G3.out.facts
    by_cases h1 : nthE t i = 0
    · obtain ⟨f1, f2, f3⟩ := FN.out h1
      obtain ⟨i0, iN⟩ := fi1.1 h1
      have KC := K1.out w3 B3.out (nthV t i) A3 c3 O3.out.at_ O3.out.cap_ (by have := LN.out; omega)
      rw [f1, f2, errOf_ok] at KC
      have KC := Lib.hid KC
      have RC := Lib.hid (fun (W : World) (hb : Below w.heap.size w W) (hat : At W W.heap.size A3 (nthV t i)) => R1.out W hb (nthV t i) A3 c3 hat O3.out.cap_ (by have := LN.out; omega))
      have F3 := Lib.hid f3
      rw [h1, errOf_ok]
      clear f1 f2 f3 h1 FN LN K1 R1 N1 fi1
      generalize nthV t i = a at *
      go_wp2_with fail
      ((with_reducible refine KC.out.mono ?_))
      rintro e w4 ⟨rfl, hb4⟩
      have B4 := Lib.hid (below_trans B3.out hb4)
      have G4' := Lib.hid (G3.out.below hb4)
      have RC := Lib.hid (RC.out w4 B4.out (O3.out.below hb4).at_)
      clear hb4 KC k0 k1 k2 k3
      obtain ⟨k0, k1, k2, k3⟩ := G4'.out.facts
      go_wp2_with fail
      ((with_reducible refine RC.out.mono ?_))
      rintro e w5 ⟨A5, c5, rfl, _, _, hb5⟩
      have n6 := bel1 w5 (.cells #[.bool (trOf (repV t a)).list, .int .i64 (trOf (repV t a)).num, .slice A5 (trOf (repV t a)).items.length c5] 36)
      have BT := Lib.hid (below_trans (below_trans B4.out hb5) n6)
      have GT := Lib.hid ((G4'.out.below hb5).below n6)
      rw [F3.out, errOf_ok]
      clear hb5 n6 RC k0 k1 k2 k3 F3
      generalize trOf (repV t a) = tv at *
      obtain ⟨k0, k1, k2, k3⟩ := GT.out.facts
      go_wp2_with fail
      generalize w5.alloc (.cells #[.bool tv.list, .int .i64 tv.num, .slice A5 tv.items.length c5] 36) = wt at *
      ((with_reducible refine (MM.out wt BT.out).mono ?_))
      rintro e u1 ⟨A7, c7, rfl, ho7, hb7⟩
      have U1 := Lib.hid (below_trans BT.out hb7)
      have GU1 := Lib.hid (GT.out.below hb7)
      have O7 := Lib.hid ho7
      clear hb7 ho7 k0 k1 k2 k3
      obtain ⟨k0, k1, k2, k3⟩ := GU1.out.facts
      go_wp2_with fail
      ((with_reducible refine (KM.out u1 U1.out A7 c7 O7.out.at_ O7.out.cap_).mono ?_))
      rintro e u2 ⟨rfl, hb8⟩
      have U2 := Lib.hid (below_trans U1.out hb8)
      have GU2 := Lib.hid (GU1.out.below hb8)
      have O8 := Lib.hid (O7.out.below hb8)
      clear hb8 k0 k1 k2 k3
      obtain ⟨k0, k1, k2, k3⟩ := GU2.out.facts
      go_wp2_with fail
      ((with_reducible refine (NM.out u2 U2.out).mono ?_))
      rintro e u3 ⟨A9, c9, rfl, ho9, hb9⟩
      have U3 := Lib.hid (below_trans U2.out hb9)
      have SM := same_below m m A9 A7 c9 c7 u3.heap.size LM.out LM.out u3 ho9.at_ (O8.out.below hb9).at_
      rw [decide_eq_true (rfl : m = m)] at SM
      have SM := Lib.hid SM
      clear hb9 ho9 k0 k1 k2 k3
      go_wp2_with fail
      ((with_reducible refine SM.out.mono ?_))
      rintro e u4 ⟨rfl, hb10⟩
      have U4 := Lib.hid (below_trans U3.out hb10)
      clear hb10
      go_wp2_with fail
      go_ret
      exact ⟨rfl, U4.out⟩
    · have hn : ¬ (0 ≤ i ∧ i < N) := fun h => h1 (fi1.2 h)
      have RE := Lib.hid (errOf_no h1)
      rw [errOf_no h1]
      have BT := Lib.hid B3.out
      have GT := Lib.hid G3.out
      clear h1 FN LN K1 R1 N1 fi1 B3 G3 O3
      generalize w3 = wt at *
      generalize nthE t i = q at *
      by_cases hi0 : 0 ≤ i
      all_goals (
        (try have hiN : decide (i < N) = false := decide_eq_false (fun h => hn ⟨hi0, h⟩))
        clear hn
        go_wp2_with fail
        ((with_reducible refine (MM.out wt BT.out).mono ?_))
        rintro e u1 ⟨A7, c7, rfl, ho7, hb7⟩
        have U1 := Lib.hid (below_trans BT.out hb7)
        have GU1 := Lib.hid (GT.out.below hb7)
        have O7 := Lib.hid ho7
        clear hb7 ho7 k0 k1 k2 k3
        obtain ⟨k0, k1, k2, k3⟩ := GU1.out.facts
        go_wp2_with fail
        ((with_reducible refine (KM.out u1 U1.out A7 c7 O7.out.at_ O7.out.cap_).mono ?_))
        rintro e u2 ⟨rfl, hb8⟩
        have U2 := Lib.hid (below_trans U1.out hb8)
        have GU2 := Lib.hid (GU1.out.below hb8)
        have O8 := Lib.hid (O7.out.below hb8)
        clear hb8 k0 k1 k2 k3
        obtain ⟨k0, k1, k2, k3⟩ := GU2.out.facts
        go_wp2_with fail
        ((with_reducible refine (NM.out u2 U2.out).mono ?_))
        rintro e u3 ⟨A9, c9, rfl, ho9, hb9⟩
        have U3 := Lib.hid (below_trans U2.out hb9)
        have SM := same_below m m A9 A7 c9 c7 u3.heap.size LM.out LM.out u3 ho9.at_ (O8.out.below hb9).at_
        rw [decide_eq_true (rfl : m = m)] at SM
        have SM := Lib.hid SM
        clear hb9 ho9 k0 k1 k2 k3
        go_wp2_with fail
        ((with_reducible refine SM.out.mono ?_))
        rintro e u4 ⟨rfl, hb10⟩
        have U4 := Lib.hid (below_trans U3.out hb10)
        clear hb10
        go_wp2_with fail
        go_ret
        exact ⟨rfl, U4.out⟩)
  · have RE := Lib.hid (errOf_no hc)
    have hn0 := FC.out hc
    rw [errOf_no hc, hn0]
    clear FC FI FM FN hn0
    generalize countE t = q at *
    go_wp2_with fail
    go_ret
    exact ⟨rfl, B2.out⟩
end Go.Proofs.Ytboecgbgcbkcjaa.RBackLaw
