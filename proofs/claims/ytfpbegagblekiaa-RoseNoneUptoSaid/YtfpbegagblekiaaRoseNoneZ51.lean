/- RoseNone, part 51 of the proof: RoseNone: the walk. Conditions: the sizes. -/
import Derived.Test.YtfpbegagblekiaaRoseNoneZ47
import Derived.Test.YtfpbegagblekiaaRoseNoneZ50
/- RoseNone: the walk. Conditions: the sizes. -/
namespace Go.Proofs.Ytfpbegagblekiaa.RoNoneLaw
open Go.RowKit Lists Ints Vals Gens
set_option linter.unusedVariables false

set_option maxHeartbeats 4000000 in
set_option maxRecDepth 100000 in
theorem walk (t : Gn) (A : Option Addr) (c n : Nat) (l : List Int) (L : Option Addr) (lc : Nat) (hbulk : t.size + l.length ≤ 1048576) (w : World) (hg : GAt w (GBel w.heap.size) n (gv t A c) t) (hl : At w w.heap.size L l) (hcap : l.length ≤ lc) :
    Calls Try.prog 5 #[gv t A c, .slice L l.length lc] w fun e w' => e = .returned (.bool true) ∧ Below w.heap.size w w' := by
  have hb0 : Below w.heap.size w (w.alloc (gc t A c)) := (Below.refl _ _).alloc (Nat.le_refl _) _
  have g0 : G4 w.heap.size (.int .i64 t.kind) (.int .i64 t.a) (.int .i64 t.b) (.slice A t.subs.length c) (w.alloc (gc t A c)) := new_obj w _
  have JC := Lib.hid (fun (w : World) => just_ok w)
  have M1 := Lib.hid (fun (W : World) (hb : Below w.heap.size w W) => mend_prog (L := none) (l := []) (lc := 0) W ((hg.below hb).more hb.size) At.nil (Nat.le_refl _) (by simp) (by omega))
  have M2 := Lib.hid (fun (W : World) (hb : Below w.heap.size w W) => mend_prog (L := L) (l := l) (lc := lc) W ((hg.below hb).more hb.size) ((hl.below hb).more hb.size) hcap (by omega) (by omega))
  have RO := Lib.hid (fun (W : World) (hb : Below w.heap.size w W) (l : List Int) (L : Option Addr) (lc : Nat) (z : List (List Int)) (hl : At W W.heap.size L l) (hcap : l.length ≤ lc) (hln : l.length ≤ 4294967296) (hz : roseE t l = 0) (hv : roseL t l = z) => rose_ok (L := L) (l := l) (lc := lc) W ((hg.below hb).more hb.size) hl hcap hln (by omega) hz hv)
  have B0 := Lib.hid hb0
  have G0 := Lib.hid g0
  clear hb0 g0 hg hl hcap hbulk
  by_cases h0 : genV t = 0
  · have E1 := Lib.hid (roseE_mend h0 [])
    have E2 := Lib.hid (roseE_mend h0 l)
    have N1 := Lib.hid (mend_len h0 [])
    have N2 := Lib.hid (mend_len h0 l)
    have V1 := Lib.hid (rose_noughts h0)
    rw [h0, errOf_ok] at M1 M2
    clear h0
    generalize mendL t [] = m at *
    generalize mendL t l = u at *
    have QS := Lib.hid (show roseL t u = [] ∨ decide (u = m) = false by
      by_cases e : u = m
      · subst e; exact .inl V1.out
      · exact .inr (decide_eq_false e))
    generalize hz : roseL t u = z at QS
    have V2 := Lib.hid hz
    clear hz
    go_enter Try.func5, Try.ntmps5
    go_wp2_with fail
    generalize w.alloc (gc t A c) = W0 at *
    refine (JC.out _).mono ?_
    rintro e w1 ⟨rfl, hb1⟩
    have B1 := Lib.hid (below_trans B0.out hb1)
    have G1 := Lib.hid (G0.out.below hb1)
    obtain ⟨k0, k1, k2, k3⟩ := G1.out.facts
    clear hb1
    go_wp2_with fail
    refine (M1.out w1 B1.out).mono ?_
    rintro e w2 ⟨A1, c1, rfl, ho1, hb2⟩
    have B2 := Lib.hid (below_trans B1.out hb2)
    have G2 := Lib.hid (G1.out.below hb2)
    have O1 := Lib.hid ho1
    clear hb2 ho1 k0 k1 k2 k3
    obtain ⟨k0, k1, k2, k3⟩ := G2.out.facts
    have R1 := Lib.hid (RO.out w2 B2.out m A1 c1 [] O1.out.at_ O1.out.cap_ (by have := N1.out; omega) E1.out V1.out)
    go_wp2_with fail
    ((with_reducible refine R1.out.mono ?_))
    rintro e w3 ⟨A3, c3, rfl, _, hb3⟩
    have B3 := Lib.hid (below_trans B2.out hb3)
    have G3 := Lib.hid (G2.out.below hb3)
    have O3 := Lib.hid (O1.out.below hb3)
    clear hb3 k0 k1 k2 k3 R1
    obtain ⟨k0, k1, k2, k3⟩ := G3.out.facts
    go_wp2_with fail
    ((with_reducible refine (M2.out w3 B3.out).mono ?_))
    rintro e w4 ⟨A4, c4, rfl, ho4, hb4⟩
    have B4 := Lib.hid (below_trans B3.out hb4)
    have G4' := Lib.hid (G3.out.below hb4)
    have O4 := Lib.hid (O3.out.below hb4)
    have P4 := Lib.hid ho4
    clear hb4 ho4 k0 k1 k2 k3
    obtain ⟨k0, k1, k2, k3⟩ := G4'.out.facts
    have R2 := Lib.hid (RO.out w4 B4.out u A4 c4 z P4.out.at_ P4.out.cap_ (by have := N2.out; omega) E2.out V2.out)
    go_wp2_with fail
    ((with_reducible refine R2.out.mono ?_))
    rintro e w5 ⟨A5, c5, rfl, _, hb5⟩
    have B5 := Lib.hid (below_trans B4.out hb5)
    have O5 := Lib.hid (O4.out.below hb5)
    have P5 := Lib.hid (P4.out.below hb5)
    clear hb5 k0 k1 k2 k3 R2
    have SM := Lib.hid (same_below u m A4 A1 c4 c1 w5.heap.size (by have := N2.out; simp only [maxLen]; omega) (by have := N1.out; simp only [maxLen]; omega) w5 P5.out.at_ O5.out.at_)
    generalize decide (u = m) = q at *
    go_wp2_with fail
    ((with_reducible refine SM.out.mono ?_))
    rintro e w6 ⟨rfl, hb6⟩
    have B6 := Lib.hid (below_trans B5.out hb6)
    clear hb6
    rcases QS.out with hq | hq
    · rw [hq]
      clear hq
      go_wp2_with fail
      go_ret
      exact ⟨ret_b (by simp), B6.out⟩
    · subst hq
      by_cases hz : z.length = 0
      · rw [hz]
        go_wp2_with fail
        go_ret
        exact ⟨ret_b (by simp), B6.out⟩
      · have hz' : ((z.length : Int) == 0) = false := by simp; exact fun h => hz (by rw [h]; rfl)
        go_wp2_with fail
        go_ret
        exact ⟨ret_b (by simp), B6.out⟩
  · have RE := Lib.hid (errOf_no h0)
    rw [errOf_no h0] at M1
    clear M2 RO
    generalize genV t = q at *
    clear h0
    generalize mendL t [] = m at *
    go_enter Try.func5, Try.ntmps5
    go_wp2_with fail
    generalize w.alloc (gc t A c) = W0 at *
    refine (JC.out _).mono ?_
    rintro e w1 ⟨rfl, hb1⟩
    have B1 := Lib.hid (below_trans B0.out hb1)
    have G1 := Lib.hid (G0.out.below hb1)
    obtain ⟨k0, k1, k2, k3⟩ := G1.out.facts
    clear hb1
    go_wp2_with fail
    refine (M1.out w1 B1.out).mono ?_
    rintro e w2 ⟨A1, c1, rfl, ho1, hb2⟩
    have B2 := Lib.hid (below_trans B1.out hb2)
    clear hb2 ho1 k0 k1 k2 k3
    go_wp2_with fail
    go_ret
    exact ⟨rfl, B2.out⟩
end Go.Proofs.Ytfpbegagblekiaa.RoNoneLaw
