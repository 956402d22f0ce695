/- ShrinkStays, part 51 of the proof: What a row's list gives of the library's variable errors.errorType. · The statements' own Error of an error and its own number. Conditions: the library's variable that errors.As reads. · ShrinkStays: the walk. Conditions: the sizes; the program's table, the library's variable that errors.As reads. -/
import Derived.Test.YtfpbegagblekiaaDoorShrinkStaysZ50
import Derived.Test.YtfpbegagblekiaaDoorRows
import Derived.LaidHandle
import Derived.Below
import Derived.Test.YtfpbegagblekiaaDoorShrinkStaysZ4
import Derived.Test.YtfpbegagblekiaaDoorShrinkStaysZ45
import Derived.Test.YtfpbegagblekiaaDoorShrinkStaysZ46
import Derived.Test.YtfpbegagblekiaaDoorShrinkStaysZ49
/- What a row's list gives of the library's variable errors.errorType. -/
namespace Go.Proofs.YtfpbegagblekiaaDoor.Told
open Go.RowKit
theorem et : Tryd.prog.globalNamed "errors.errorType" = some 0 := by kernel_rfl
theorem rt : (Tryd.prog.cutTypes.find? (·.1 == "internal/reflectlite.rtype")).map (·.2) = some 127 := by kernel_rfl
theorem oneRow : ((List.range 189).filter fun t => Tryd.prog.rowNamed t [101, 114, 114, 111, 114]) = [37] := by kernel_rfl
theorem size : Tryd.prog.types.size = 189 := by kernel_rfl
theorem handle_of_met {W : World} (h : handlesMet Tryd.prog [("errors.errorType", Rows.laid_errors_errorType)] W) : Handle W := by
  obtain ⟨name, u, ty, e1, e2, e3, e4, e5⟩ := h _ (List.mem_singleton.2 rfl)
  have en : name = [101, 114, 114, 111, 114] := (Option.some.inj e1).symm
  subst en
  obtain rfl := Option.some.inj (rt.symm.trans e2)
  have hm : ty ∈ (List.range 189).filter fun t => Tryd.prog.rowNamed t [101, 114, 114, 111, 114] := List.mem_filter.2 ⟨List.mem_range.2 (by rw [← size]; exact e3), e4⟩
  rw [oneRow] at hm
  obtain rfl := List.mem_singleton.1 hm
  have hh : typeHandle Tryd.prog 37 = .pointer (some ⟨2, 37, none⟩) := by kernel_rfl
  rw [hh] at e5
  simpa [Handle] using World.var?_cell et e5 0
theorem Handle.below {w w' : World} (h : Handle w) (hb : Below w.heap.size w w') : Handle w' := by
  have hlt : 0 < w.heap.size := World.block_lt_of_cell? _ _ h
  exact (hb.cell (p := ⟨0, 0, none⟩) hlt).trans h
end Go.Proofs.YtfpbegagblekiaaDoor.Told

/- The statements' own Error of an error and its own number. Conditions: the library's variable that errors.As reads. -/
namespace Go.Proofs.YtfpbegagblekiaaDoor.Owns
open Go.RowKit Vals
set_option linter.unusedVariables false
theorem err_ok (f : Int) (w : World) (h : Told.Handle w) : Calls Tryd.prog 15 #[errOf f, .int .i64 f] w fun e w' => e = .returned (.bool true) ∧ Below w.heap.size w w' := by
  by_cases hf : f = 0
  · subst hf
    refine (Told.error_nil 0 w).mono ?_
    rintro e w' ⟨rfl, hb⟩
    exact ⟨by simp, hb⟩
  · rw [errOf_no hf]
    refine (Told.error_errno f f w h).mono ?_
    rintro e w' ⟨rfl, hb⟩
    exact ⟨by simp, hb⟩
end Go.Proofs.YtfpbegagblekiaaDoor.Owns

/- ShrinkStays: the walk. Conditions: the sizes; the program's table, the library's variable that errors.As reads. -/
namespace Go.Proofs.YtfpbegagblekiaaDoor.ShStaysLaw
open Go.RowKit Lists Ints Vals Gens Exprs Owns
set_option linter.unusedVariables false

set_option maxHeartbeats 8000000 in
set_option maxRecDepth 100000 in
theorem walk (t : Gn) (A : Option Addr) (c n : Nat) (l : List Int) (L : Option Addr) (lc : Nat) (hbulk : t.size + l.length ≤ 1048576) (w : World) (hg : GAt w (GBel w.heap.size) n (gv t A c) t) (hl : At w w.heap.size L l) (hcap : l.length ≤ lc) (hsub : Subs w) (hh : Told.Handle w) :
    Calls Tryd.prog 8 #[gv t A c, .slice L l.length lc] w fun e w' => e = .returned (.bool true) ∧ Below w.heap.size w w' := by
  have hb0 : Below w.heap.size w (w.alloc (gc t A c)) := (Below.refl _ _).alloc (Nat.le_refl _) _
  have g0 : G4 w.heap.size (.int .i64 t.kind) (.int .i64 t.a) (.int .i64 t.b) (.slice A t.subs.length c) (w.alloc (gc t A c)) := new_obj w _
  have JC := Lib.hid (fun (w : World) => just_ok w)
  have M1 := Lib.hid (fun (W : World) (hb : Below w.heap.size w W) => mend_prog (L := none) (l := []) (lc := 0) W ((hg.below hb).more hb.size) At.nil (Nat.le_refl _) (by simp) (by omega))
  have M2 := Lib.hid (fun (W : World) (hb : Below w.heap.size w W) => mend_prog (L := L) (l := l) (lc := lc) W ((hg.below hb).more hb.size) ((hl.below hb).more hb.size) hcap (by omega) (by omega))
  have RO := Lib.hid (fun (W : World) (hb : Below w.heap.size w W) (l : List Int) (L : Option Addr) (lc : Nat) (z : List (List Int)) (hl : At W W.heap.size L l) (hcap : l.length ≤ lc) (hln : l.length ≤ 4294967296) (hz : roseE t l = 0) (hv : roseL t l = z) => rose_ok (L := L) (l := l) (lc := lc) W ((hg.below hb).more hb.size) hl hcap hln (by omega) hz hv)
  have WK := Lib.hid (fun (k : Int) (hk : EWf k) (W : World) (hb : Below w.heap.size w W) (l : List Int) (L : Option Addr) (lc : Nat) (z : List Int) (st : Nat) (q : Int) (hl : At W W.heap.size L l) (hcap : l.length ≤ lc) (hln : l.length ≤ 4294967296) (hs : startE t (.node 1 k 0 []) l = q) (hv : walkV t (.node 1 k 0 []) l = (z, st)) => show Calls Tryd.prog 19 #[gv t A c, .agg #[.int .i64 1, .int .i64 k, .slice none 0 0], .slice L l.length lc] W (WkOk z st q W) from walk_is (x := .node 1 k 0 []) (XA := none) (xcap := 0) (nx := 1) W ((hg.below hb).more hb.size) (eat_leaf 1 k 0 (by decide) hk 0) (hsub.below hb) hl hcap hln (by omega) (by simp [Gn.size, gsizes]) hs hv)
  have ET := Lib.hid (fun (f : Int) (W : World) (hb : Below w.heap.size w W) => err_ok f W (hh.below hb))
  have B0 := Lib.hid hb0
  have G0 := Lib.hid g0
  clear hb0 g0 hg hl hcap hbulk hsub hh
  by_cases h0 : genV t = 0
  · have E1 := roseE_mend h0 []
    have E2 := roseE_mend h0 l
    have N1 := Lib.hid (mend_len h0 [])
    have N2 := Lib.hid (mend_len h0 l)
    have V1 := rose_noughts h0
    have W1 := Lib.hid (And.intro (never_end E1).1 (stay_end (lit_ok 0) E1 (lit_bad 0 E1) V1))
    have W2 := Lib.hid (And.intro (start_none (lit_ok 1) E2 (lit_bad 1 E2)) (walkV_no (t := t) (x := .node 1 1 0 []) (l := mendL t l) (by rw [start_none (lit_ok 1) E2 (lit_bad 1 E2)]; decide)))
    have W3 := Lib.hid (And.intro (never_end E2).1 (walkV_ok (never_end E2).1))
    have W4 := Lib.hid (And.intro (never_end E2).2 (walkV_len t (.node 1 0 0 []) (mendL t l)))
    rw [h0, errOf_ok] at M1 M2
    clear h0 E1 E2 V1
    generalize mendL t [] = m at *
    generalize mendL t l = u at *
    rw [W3.out.2] at W4
    generalize hb : walkT t (.node 1 0 0 []) u = bb at *
    obtain ⟨b, kb⟩ := bb
    have W3 := Lib.hid (show startE t (.node 1 0 0 []) u = 0 ∧ walkV t (.node 1 0 0 []) u = (b, kb) from W3.out)
    have W4 := Lib.hid (show (roseE t b = 0 ∧ roseL t b = []) ∧ b.length ≤ 1399680 from W4.out)
    clear hb
    go_enter Tryd.func8, Tryd.ntmps8
    go_wp2_with fail
    generalize w.alloc (gc t A c) = W0 at *
    refine (JC.out _).mono ?_
    rintro e w1 ⟨rfl, hb1⟩
    have B1 := Lib.hid (below_trans B0.out hb1)
    have G1 := Lib.hid (G0.out.below hb1)
    obtain ⟨k0, k1, k2, k3⟩ := G1.out.facts
    clear hb1
    go_wp2_with fail
    refine (M2.out w1 B1.out).mono ?_
    rintro e w2 ⟨A2, c2, rfl, ho2, hb2⟩
    have B2 := Lib.hid (below_trans B1.out hb2)
    have G2 := Lib.hid (G1.out.below hb2)
    have U2 := Lib.hid ho2
    clear hb2 ho2 k0 k1 k2 k3
    obtain ⟨k0, k1, k2, k3⟩ := G2.out.facts
    go_wp2_with fail
    refine (M1.out w2 B2.out).mono ?_
    rintro e w3 ⟨A3, c3, rfl, ho3, hb3⟩
    have NB := Lib.hid (bel1 w3 (.cells #[.int .i64 1, .int .i64 0, .slice none 0 0] 45))
    have NE := Lib.hid (show E3 w3.heap.size (.int .i64 1) (.int .i64 0) (.slice none 0 0) (w3.alloc (.cells #[.int .i64 1, .int .i64 0, .slice none 0 0] 45)) from new_obj w3 _)
    have B4 := Lib.hid (below_trans (below_trans B2.out hb3) NB.out)
    have G4' := Lib.hid ((G2.out.below hb3).below NB.out)
    have U4 := Lib.hid ((U2.out.below hb3).below NB.out)
    have M4 := Lib.hid (ho3.below NB.out)
    clear hb3 ho3 k0 k1 k2 k3
    obtain ⟨k0, k1, k2, k3⟩ := G4'.out.facts
    obtain ⟨x0, x1, x2⟩ := NE.out.facts
    go_wp2_with fail
    generalize w3.alloc (.cells #[.int .i64 1, .int .i64 0, .slice none 0 0] 45) = w4 at *
    generalize w3.heap.size = pe at *
    have C1 := Lib.hid (WK.out 0 (by decide) w4 B4.out m A3 c3 m 0 0 M4.out.at_ M4.out.cap_ (by have := N1.out; omega) W1.out.1 W1.out.2)
    ((with_reducible refine C1.out.mono ?_))
    rintro e w5 ⟨A5, c5, rfl, ho5, hb5⟩
    rw [errOf_ok]
    have B5 := Lib.hid (below_trans B4.out hb5)
    have G5 := Lib.hid (G4'.out.below hb5)
    have E5 := Lib.hid (NE.out.below hb5)
    have U5 := Lib.hid (U4.out.below hb5)
    have SM := same_below m m A5 A3 c5 c3 w5.heap.size (by have := N1.out; simp only [maxLen]; omega) (by have := N1.out; simp only [maxLen]; omega) w5 ho5.at_ (M4.out.below hb5).at_
    rw [decide_eq_true (rfl : m = m)] at SM
    have SM := Lib.hid SM
    clear hb5 ho5 k0 k1 k2 k3 x0 x1 x2 C1 NB
    go_wp2_with fail
    ((with_reducible refine SM.out.mono ?_))
    rintro e w6 ⟨rfl, hb6⟩
    have B6 := Lib.hid (below_trans B5.out hb6)
    have G6 := Lib.hid (G5.out.below hb6)
    have E6 := Lib.hid (E5.out.below hb6)
    have U6 := Lib.hid (U5.out.below hb6)
    clear hb6 SM
    obtain ⟨k0, k1, k2, k3⟩ := G6.out.facts
    have C2 := Lib.hid (WK.out 1 (by decide) w6 B6.out u A2 c2 [] 0 2 U6.out.at_ U6.out.cap_ (by have := N2.out; omega) W2.out.1 W2.out.2)
    go_wp2_with fail
    ((with_reducible refine C2.out.mono ?_))
    rintro e w7 ⟨A7, c7, rfl, _, hb7⟩
    have B7 := Lib.hid (below_trans B6.out hb7)
    have G7 := Lib.hid (G6.out.below hb7)
    have E7 := Lib.hid (E6.out.below hb7)
    have U7 := Lib.hid (U6.out.below hb7)
    have T7 := Lib.hid (ET.out 2 w7 B7.out)
    clear hb7 C2 k0 k1 k2 k3
    go_wp2_with fail
    ((with_reducible refine T7.out.mono ?_))
    rintro e w8 ⟨rfl, hb8⟩
    have B8 := Lib.hid (below_trans B7.out hb8)
    have G8 := Lib.hid (G7.out.below hb8)
    have E8 := Lib.hid (E7.out.below hb8)
    have U8 := Lib.hid (U7.out.below hb8)
    clear hb8 T7
    obtain ⟨k0, k1, k2, k3⟩ := G8.out.facts
    obtain ⟨x0, x1, x2⟩ := E8.out.facts
    have C3 := Lib.hid (WK.out 0 (by decide) w8 B8.out u A2 c2 b kb 0 U8.out.at_ U8.out.cap_ (by have := N2.out; omega) W3.out.1 W3.out.2)
    go_wp2_with fail
    ((with_reducible refine C3.out.mono ?_))
    rintro e w9 ⟨A9, c9, rfl, ho9, hb9⟩
    have B9 := Lib.hid (below_trans B8.out hb9)
    have G9 := Lib.hid (G8.out.below hb9)
    have R9 := Lib.hid (RO.out w9 B9.out b A9 c9 [] ho9.at_ ho9.cap_ (by have := W4.out.2; omega) W4.out.1.1 W4.out.1.2)
    rw [errOf_ok]
    clear hb9 ho9 C3 k0 k1 k2 k3 x0 x1 x2
    obtain ⟨k0, k1, k2, k3⟩ := G9.out.facts
    go_wp2_with fail
    ((with_reducible refine R9.out.mono ?_))
    rintro e w10 ⟨A10, c10, rfl, _, hb10⟩
    have B10 := Lib.hid (below_trans B9.out hb10)
    clear hb10 R9 k0 k1 k2 k3
    go_wp2_with fail
    go_ret
    exact ⟨ret_b (by simp), B10.out⟩
  · have RE := Lib.hid (errOf_no h0)
    rw [errOf_no h0] at M2
    clear M1 RO WK ET
    generalize genV t = q at *
    clear h0
    generalize mendL t l = m at *
    go_enter Tryd.func8, Tryd.ntmps8
    go_wp2_with fail
    generalize w.alloc (gc t A c) = W0 at *
    refine (JC.out _).mono ?_
    rintro e w1 ⟨rfl, hb1⟩
    have B1 := Lib.hid (below_trans B0.out hb1)
    have G1 := Lib.hid (G0.out.below hb1)
    obtain ⟨k0, k1, k2, k3⟩ := G1.out.facts
    clear hb1
    go_wp2_with fail
    refine (M2.out w1 B1.out).mono ?_
    rintro e w2 ⟨A1, c1, rfl, ho1, hb2⟩
    have B2 := Lib.hid (below_trans B1.out hb2)
    clear hb2 ho1 k0 k1 k2 k3
    go_wp2_with fail
    go_ret
    exact ⟨rfl, B2.out⟩
end Go.Proofs.YtfpbegagblekiaaDoor.ShStaysLaw
