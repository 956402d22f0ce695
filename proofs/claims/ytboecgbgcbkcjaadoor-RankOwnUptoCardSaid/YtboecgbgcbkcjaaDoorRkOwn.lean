/- RankOwn: the walk. Conditions: the sizes; the library's variable that errors.As reads. -/
import Derived.Test.YtboecgbgcbkcjaaDoorOwnL
import Derived.Test.YtboecgbgcbkcjaaDoorSame
import Derived.Test.YtboecgbgcbkcjaaDoorJust
import Derived.Test.YtboecgbgcbkcjaaDoorRkRank
namespace Go.Proofs.YtboecgbgcbkcjaaDoor.RkOwnLaw
open Go.RowKit Lists Ints Vals Gens Owns
set_option linter.unusedVariables false

set_option maxHeartbeats 8000000 in
set_option maxRecDepth 100000 in
theorem walk (t : Gn) (A : Option Addr) (c n : Nat) (i : Int) (l : List Int) (L : Option Addr) (lc : Nat) (x : Int) (hbulk : t.size + l.length ≤ 1048576) (w : World) (hg : GAt w (GBel w.heap.size) n (gv t A c) t) (wi : (Lit.int .i64 i).wf = true) (hl : At w w.heap.size L l) (hcap : l.length ≤ lc) (wx : (Lit.int .i64 x).wf = true) (hh : Told.Handle w) :
    Calls Tryd.prog 6 #[gv t A c, .int .i64 i, .slice L l.length lc, .int .i64 x] w fun e w' => e = .returned (.bool true) ∧ Below w.heap.size w w' := by
  have hb0 : Below w.heap.size w (w.alloc (gc t A c)) := (Below.refl _ _).alloc (Nat.le_refl _) _
  have g0 : G4 w.heap.size (.int .i64 t.kind) (.int .i64 t.a) (.int .i64 t.b) (.slice A t.subs.length c) (w.alloc (gc t A c)) := new_obj w _
  have C1 := Lib.hid (fun (W : World) => show Calls Tryd.prog 16 #[.agg #[.int .i64 1, .int .i64 0, .int .i64 0, .slice none 0 0]] W fun e w' => e = .returned (.tuple #[.int .i64 1, .nilIface]) ∧ Below W.heap.size W w' by
    have C := gcount (n := 1) (t := .node 1 0 0 []) (B := W.heap.size) W (gat_leaf (by decide) (by decide) (by decide)) (Nat.le_refl _) (by decide)
    rw [show countN (.node 1 0 0 []) = 1 by decide, show countE (.node 1 0 0 []) = 0 by decide, errOf_ok] at C
    exact C)
  have N1 := Lib.hid (fun (W : World) (hb : Below w.heap.size w W) => nth_prog W ((hg.below hb).more hb.size) (Nat.le_refl _) (by omega) i (i64_wf wi))
  have K1 := Lib.hid (fun (W : World) (hb : Below w.heap.size w W) (L : Option Addr) (lc : Nat) (hl : At W W.heap.size L l) (hcap : l.length ≤ lc) => rank_prog (L := L) (l := l) (lc := lc) W ((hg.below hb).more hb.size) hl hcap (by omega) (by omega))
  have T1 := Lib.hid (fun (W : World) (hb : Below w.heap.size w W) => told_same (rankE t l) W (hh.below hb))
  have T2 := Lib.hid (fun (W : World) (hb : Below w.heap.size w W) => told_same (nthE t i) W (hh.below hb))
  have HL := Lib.hid (fun (W : World) (hb : Below w.heap.size w W) => show At W W.heap.size L l from (hl.below hb).more hb.size)
  have LN := Lib.hid (show l.length ≤ 4294967296 ∧ l.length ≤ maxLen ∧ l.length ≤ lc by simp only [maxLen]; omega)
  have ZN := Lib.hid (show (nthV t i).length ≤ 4294967296 ∧ (nthV t i).length ≤ maxLen by have := nthV_len t i; simp only [maxLen]; omega)
  have B0 := Lib.hid hb0
  have G0 := Lib.hid g0
  clear hb0 g0 hg hbulk wi hl hcap wx hh
  generalize errOf (nthE t i) = ev2 at *
  generalize errOf (rankE t l) = ev1 at *
  generalize nthV t i = z at *
  generalize ((rankV t l : Nat) : Int) = rk at *
  go_enter Tryd.func6, Tryd.ntmps6
  go_wp2_with fail
  generalize w.alloc (gc t A c) = W0 at *
  have I1 := Lib.hid (ints_ok (lc := lc) W0 (HL.out W0 B0.out) LN.out.1)
  ((with_reducible refine I1.out.mono ?_))
  rintro e w1 ⟨A1, c1, rfl, ho1, hb1⟩
  have B1 := Lib.hid (below_trans B0.out hb1)
  have G1 := Lib.hid (G0.out.below hb1)
  have O1 := Lib.hid ho1
  clear hb1 ho1
  obtain ⟨k0, k1, k2, k3⟩ := G1.out.facts
  go_wp2_with fail
  ((with_reducible refine (K1.out w1 B1.out A1 c1 O1.out.at_ O1.out.cap_).mono ?_))
  rintro e w2 ⟨rfl, hb2⟩
  have B2 := Lib.hid (below_trans B1.out hb2)
  have G2 := Lib.hid (G1.out.below hb2)
  have O2 := Lib.hid (O1.out.below hb2)
  clear hb2 k0 k1 k2 k3
  obtain ⟨k0, k1, k2, k3⟩ := G2.out.facts
  go_wp2_with fail
  ((with_reducible refine (N1.out w2 B2.out).mono ?_))
  rintro e w3 ⟨A3, c3, rfl, ho3, hb3⟩
  have B3 := Lib.hid (below_trans B2.out hb3)
  have G3 := Lib.hid (G2.out.below hb3)
  have O3 := Lib.hid (O2.out.below hb3)
  have T3 := Lib.hid ho3
  clear hb3 ho3 k0 k1 k2 k3
  go_wp2_with fail
  ((with_reducible refine (C1.out _).mono ?_))
  rintro e w4 ⟨rfl, hb4⟩
  have B4 := Lib.hid (below_trans B3.out hb4)
  have G4' := Lib.hid (G3.out.below hb4)
  have O4 := Lib.hid (O3.out.below hb4)
  have T4 := Lib.hid (T3.out.below hb4)
  have SM1 := same_below l l A1 L c1 lc w4.heap.size LN.out.2.1 LN.out.2.1 w4 O4.out.at_ (HL.out w4 B4.out)
  rw [decide_eq_true (rfl : l = l)] at SM1
  have SM1 := Lib.hid SM1
  have S34 := Lib.hid hb4.size
  clear hb4
  go_wp2_with fail
  ((with_reducible refine SM1.out.mono ?_))
  rintro e w5 ⟨rfl, hb5⟩
  have B5 := Lib.hid (below_trans B4.out hb5)
  have G5 := Lib.hid (G4'.out.below hb5)
  have T5 := Lib.hid (T4.out.below hb5)
  have S35 := Lib.hid (Nat.le_trans S34.out hb5.size)
  clear hb5 SM1
  have I2 := Lib.hid (ints_ok (lc := c3) w5 T5.out.at_ ZN.out.1)
  go_wp2_with fail
  ((with_reducible refine I2.out.mono ?_))
  rintro e w6 ⟨A6, c6, rfl, ho6, hb6⟩
  have B6 := Lib.hid (below_trans B5.out hb6)
  have G6 := Lib.hid (G5.out.below hb6)
  have T6 := Lib.hid (T5.out.below hb6)
  have U6 := Lib.hid ho6
  have SP := Lib.hid (spoil_ok w6 x T6.out ZN.out.1)
  clear hb6 ho6 I2
  go_wp2_with fail
  ((with_reducible refine SP.out.mono ?_))
  rintro e w7 ⟨rfl, g7⟩
  have B7 := Lib.hid (B6.out.grown g7 B6.out.size (fun g hg => Nat.le_trans B2.out.size (T6.out.ge g hg)))
  have G7 := Lib.hid (show G4 w.heap.size (.int .i64 t.kind) (.int .i64 t.a) (.int .i64 t.b) (.slice A t.subs.length c) w7 from (g7.block w.heap.size G6.out.lt (fun h => by have h1 := T6.out.ge _ h.symm; have h2 := G2.out.lt; omega)).trans G6.out)
  have U7 := Lib.hid (U6.out.grown g7 (fun g hg h => by have h1 := U6.out.ge g hg; have h2 := own_row_lt T3.out h; have h3 := S35.out; omega))
  clear g7 SP
  obtain ⟨k0, k1, k2, k3⟩ := G7.out.facts
  go_wp2_with fail
  ((with_reducible refine (N1.out w7 B7.out).mono ?_))
  rintro e w8 ⟨A8, c8, rfl, ho8, hb8⟩
  have B8 := Lib.hid (below_trans B7.out hb8)
  have G8 := Lib.hid (G7.out.below hb8)
  have SM2 := same_below z z A8 A6 c8 c6 w8.heap.size ZN.out.2 ZN.out.2 w8 ho8.at_ (U7.out.below hb8).at_
  rw [decide_eq_true (rfl : z = z)] at SM2
  have SM2 := Lib.hid SM2
  clear hb8 ho8 k0 k1 k2 k3
  go_wp2_with fail
  ((with_reducible refine SM2.out.mono ?_))
  rintro e w9 ⟨rfl, hb9⟩
  have B9 := Lib.hid (below_trans B8.out hb9)
  have G9 := Lib.hid (G8.out.below hb9)
  clear hb9 SM2
  go_wp2_with fail
  ((with_reducible refine (T2.out w9 B9.out).mono ?_))
  rintro e w10 ⟨rfl, hb10⟩
  have B10 := Lib.hid (below_trans B9.out hb10)
  have G10 := Lib.hid (G9.out.below hb10)
  clear hb10
  obtain ⟨k0, k1, k2, k3⟩ := G10.out.facts
  go_wp2_with fail
  ((with_reducible refine (K1.out w10 B10.out L lc (HL.out w10 B10.out) LN.out.2.2).mono ?_))
  rintro e w11 ⟨rfl, hb11⟩
  have B11 := Lib.hid (below_trans B10.out hb11)
  clear hb11 k0 k1 k2 k3
  go_wp2_with fail
  ((with_reducible refine (T1.out w11 B11.out).mono ?_))
  rintro e w12 ⟨rfl, hb12⟩
  have B12 := Lib.hid (below_trans B11.out hb12)
  clear hb12
  go_wp2_with fail
  go_ret
  exact ⟨rfl, B12.out⟩
end Go.Proofs.YtboecgbgcbkcjaaDoor.RkOwnLaw
