/-
  ShrinkOwn: a tape that is handed in to Walk stays as it was, and who writes into the tape that is told changes nothing that is told later; for all generators, expressions and lists that together hold at most 1048576 parts, and all numbers.
  Conditions: the second form's bound on what comes in; the program's table subsByKind and the library's variable errors.errorType as the program's text lays it (the card ties it).
-/
import Derived.Test.YtfpbegagblekiaaDoorShrinkOwnZ47
import Derived.Test.YtfpbegagblekiaaDoorShrinkOwnZ48
import Derived.Test.YtfpbegagblekiaaDoorShrinkOwnZ50
import Derived.Test.YtfpbegagblekiaaDoorCards
import Derived.Test.YtfpbegagblekiaaDoorTie
import Derived.JoinedCond
import Derived.LaidHandle
import Derived.Deep.DeepLaidRun
import Derived.Deep.DeepHandedRow
import Derived.Deep.DeepWitnessRowRef
/- ShrinkOwn: the walk. Conditions: the sizes; the program's table, the library's variable that errors.As reads. -/
namespace Go.Proofs.YtfpbegagblekiaaDoor.ShOwnLaw
open Go.RowKit Lists Ints Vals Gens Exprs Owns
set_option linter.unusedVariables false

set_option maxHeartbeats 8000000 in
set_option maxRecDepth 100000 in
theorem walk (t : Gn) (A : Option Addr) (c n : Nat) (x : Gn) (XA : Option Addr) (xc nx : Nat) (l : List Int) (L : Option Addr) (lc : Nat) (y : Int) (hbulk : t.size + x.size + l.length ≤ 1048576) (w : World) (hg : GAt w (GBel w.heap.size) n (gv t A c) t) (hx : EAt w (EBel w.heap.size) nx (ev x XA xc) x) (hl : At w w.heap.size L l) (hcap : l.length ≤ lc) (wy : (Lit.int .i64 y).wf = true) (hsub : Subs w) (hh : Told.Handle w) :
    Calls Tryd.prog 7 #[gv t A c, ev x XA xc, .slice L l.length lc, .int .i64 y] w fun e w' => e = .returned (.bool true) ∧ Below w.heap.size w w' := by
  have HB := Lib.hid (gx_boxes w t x A XA c xc)
  have WK := Lib.hid (fun (W : World) (hb : Below w.heap.size w W) (L : Option Addr) (lc : Nat) (hl : At W W.heap.size L l) (hcap : l.length ≤ lc) => show Calls Tryd.prog 19 #[gv t A c, ev x XA xc, .slice L l.length lc] W (WlPost t x l W) from walk_prog W ((hg.below hb).more hb.size) ((hx.below hb).more hb.size) (hsub.below hb) hl hcap (by omega) (by omega) (by omega))
  have TS := Lib.hid (fun (W : World) (hb : Below w.heap.size w W) => told_same (startE t x l) W (hh.below hb))
  have SV := Lib.hid (fun (W : World) (hb : Below w.heap.size w W) => seven_ok W (hsub.below hb))
  have HL := Lib.hid (fun (W : World) (hb : Below w.heap.size w W) => show At W W.heap.size L l from (hl.below hb).more hb.size)
  have LN := Lib.hid (show l.length ≤ 4294967296 ∧ l.length ≤ maxLen ∧ l.length ≤ lc by simp only [maxLen]; omega)
  have ZL := Lib.hid (walkV_len t x l)
  clear hg hx hl hcap hbulk hh wy hsub
  unfold WlPost at WK
  generalize errOf (startE t x l) = er at *
  generalize (walkV t x l).1 = z at *
  generalize (walkV t x l).2 = st at *
  have ZM := Lib.hid (show z.length ≤ maxLen ∧ z.length ≤ 4294967296 by have := ZL.out; simp only [maxLen]; omega)
  go_enter Tryd.func7, Tryd.ntmps7
  go_wp2_with fail
  generalize (w.alloc (gc t A c)).alloc (ec x XA xc) = W0 at *
  have I1 := Lib.hid (ints_ok (lc := lc) W0 (HL.out W0 HB.out.2.2.1) LN.out.1)
  ((with_reducible refine I1.out.mono ?_))
  rintro e w1 ⟨A1, c1, rfl, ho1, hb1⟩
  have B1 := Lib.hid (HB.out.2.2.1.trans (hb1.mono HB.out.2.2.1.size))
  have G1 := Lib.hid (HB.out.1.below hb1)
  have X1 := Lib.hid (HB.out.2.1.below hb1)
  have O1 := Lib.hid ho1
  clear hb1 ho1 I1
  obtain ⟨k0, k1, k2, k3⟩ := G1.out.facts
  obtain ⟨x0, x1, x2⟩ := X1.out.facts
  go_wp2_with fail
  ((with_reducible refine (WK.out w1 B1.out A1 c1 O1.out.at_ O1.out.cap_).mono ?_))
  rintro e w2 ⟨A2, c2, rfl, ho2, hb2⟩
  have B2 := Lib.hid (below_trans B1.out hb2)
  have G2 := Lib.hid (G1.out.below hb2)
  have X2 := Lib.hid (X1.out.below hb2)
  have O2 := Lib.hid (O1.out.below hb2)
  have M2 := Lib.hid ho2
  have N2 := Lib.hid hb2
  clear hb2 ho2 k0 k1 k2 k3 x0 x1 x2
  go_wp2_with fail
  ((with_reducible refine (SV.out w2 B2.out).mono ?_))
  rintro e w3 ⟨rfl, hb3⟩
  have B3 := Lib.hid (below_trans B2.out hb3)
  have N3 := Lib.hid (below_trans N2.out hb3)
  have G3 := Lib.hid (G2.out.below hb3)
  have X3 := Lib.hid (X2.out.below hb3)
  have O3 := Lib.hid (O2.out.below hb3)
  have M3 := Lib.hid (M2.out.below hb3)
  clear hb3
  have I3 := Lib.hid (ints_ok (lc := c2) w3 M3.out.at_ ZM.out.2)
  go_wp2_with fail
  ((with_reducible refine I3.out.mono ?_))
  rintro e w4 ⟨A4, c4, rfl, ho4, hb4⟩
  have B4 := Lib.hid (below_trans B3.out hb4)
  have N4 := Lib.hid (below_trans N3.out hb4)
  have G4' := Lib.hid (G3.out.below hb4)
  have X4 := Lib.hid (X3.out.below hb4)
  have O4 := Lib.hid (O3.out.below hb4)
  have M4 := Lib.hid (M3.out.below hb4)
  have C4 := Lib.hid ho4
  have MR := Lib.hid (fun g (hg : rowOf A2 = some g) => show w1.heap.size ≤ g ∧ g < w3.heap.size from ⟨(M3.out.ge g hg), (own_blk M3.out g hg).2⟩)
  clear hb4 ho4 I3
  have SP := Lib.hid (spoil_ok w4 y M4.out ZM.out.2)
  go_wp2_with fail
  ((with_reducible refine SP.out.mono ?_))
  rintro e w5 ⟨rfl, g5⟩
  have N5 := Lib.hid (show Below w1.heap.size w1 w5 from N4.out.grown g5 N4.out.size (fun g hg => (MR.out g hg).1))
  have B5 := Lib.hid (below_trans B1.out N5.out)
  have G5 := Lib.hid (G1.out.below N5.out)
  have X5 := Lib.hid (X1.out.below N5.out)
  have O5 := Lib.hid (O1.out.below N5.out)
  have C5 := Lib.hid (C4.out.grown g5 (fun g hg e => by have h1 := (MR.out g e).2; have h2 := C4.out.ge g hg; omega))
  clear g5 SP M4
  have SM1 := same_below l l A1 L c1 lc w5.heap.size LN.out.2.1 LN.out.2.1 w5 O5.out.at_ (HL.out w5 B5.out)
  rw [decide_eq_true (rfl : l = l)] at SM1
  have SM1 := Lib.hid SM1
  go_wp2_with fail
  ((with_reducible refine SM1.out.mono ?_))
  rintro e w6 ⟨rfl, hb6⟩
  have B6 := Lib.hid (below_trans B5.out hb6)
  have G6 := Lib.hid (G5.out.below hb6)
  have X6 := Lib.hid (X5.out.below hb6)
  have C6 := Lib.hid (C5.out.below hb6)
  clear hb6 SM1
  obtain ⟨k0, k1, k2, k3⟩ := G6.out.facts
  obtain ⟨x0, x1, x2⟩ := X6.out.facts
  go_wp2_with fail
  ((with_reducible refine (WK.out w6 B6.out L lc (HL.out w6 B6.out) LN.out.2.2).mono ?_))
  rintro e w7 ⟨A7, c7, rfl, ho7, hb7⟩
  have B7 := Lib.hid (below_trans B6.out hb7)
  have SM2 := same_below z z A7 A4 c7 c4 w7.heap.size ZM.out.1 ZM.out.1 w7 ho7.at_ (C6.out.below hb7).at_
  rw [decide_eq_true (rfl : z = z)] at SM2
  have SM2 := Lib.hid SM2
  clear hb7 ho7 k0 k1 k2 k3 x0 x1 x2
  go_wp2_with fail
  ((with_reducible refine SM2.out.mono ?_))
  rintro e w8 ⟨rfl, hb8⟩
  have B8 := Lib.hid (below_trans B7.out hb8)
  clear hb8 SM2
  go_wp2_with fail
  ((with_reducible refine (TS.out w8 B8.out).mono ?_))
  rintro e w9 ⟨rfl, hb9⟩
  have B9 := Lib.hid (below_trans B8.out hb9)
  clear hb9
  go_wp2_with fail
  go_ret
  exact ⟨by simp, B9.out⟩
end Go.Proofs.YtfpbegagblekiaaDoor.ShOwnLaw

namespace Go.Proofs.YtfpbegagblekiaaDoor.ShOwnLaw
open Go.ChangeShapes Go.WideShapes Go.ChangeAt Go.RowKit Lists Ints Vals Gens Exprs
set_option linter.unusedVariables false
theorem own : ownKnob Tryd.prog.godebug = none := by kernel_rfl
theorem laidOut : laidOutB Tryd.prog = true := by kernel_rfl
noncomputable def laidWorld (os : Os) : World :=
  let w0 := World.holding Tryd.prog os ⟨#[], #[], []⟩
  { w0 with heap := ((w0.heap.modify 1 fun | .cells _ t frozen => .cells #[.int .i64 0, .int .i64 0, .int .i64 0, .int .i64 0, .int .i64 0, .int .i64 2, .int .i64 2, .int .i64 2, .int .i64 2, .int .i64 1, .int .i64 2, .int .i64 2] t frozen | o => o).modify 0 fun | .cells _ t frozen => .cells #[.iface 127 (.agg #[.pointer (some ⟨2, 37, none⟩)])] t frozen | o => o) }
set_option maxRecDepth 100000 in
theorem laidWorld_met (os : Os) : laidMetH Tryd.prog Rows.shrinkOwnUptoRow.laid ((laidWorld os).forCall (fun _ _ => 0) ⟨#[], #[.agg #[.int .i64 0, .int .i64 0, .int .i64 0, .slice none 0 0], .agg #[.int .i64 0, .int .i64 0, .slice none 0 0], .slice none 0 0, .int .i64 0], []⟩).memory :=
  laidMetH_of_parts (laidMet_of_run3 8 (by kernel_rfl) (by kernel_rfl) (by kernel_rfl)) (by kernel_rfl)
theorem reads (os : Os) {H : Type} (enc : TypeId × Value → H) : ∃ places, DataW.whole enc Tryd.prog ((laidWorld os).forCall (fun _ _ => 0) ⟨#[], #[.agg #[.int .i64 0, .int .i64 0, .int .i64 0, .slice none 0 0], .agg #[.int .i64 0, .int .i64 0, .slice none 0 0], .slice none 0 0, .int .i64 0], []⟩).memory Tryd.f7.params.toList Rows.shrinkOwnSpec.vars false #[.agg #[.int .i64 0, .int .i64 0, .int .i64 0, .slice none 0 0], .agg #[.int .i64 0, .int .i64 0, .slice none 0 0], .slice none 0 0, .int .i64 0].toList 8 = some ([.agg [.lit (.int .i64 0), .lit (.int .i64 0), .lit (.int .i64 0), .nil], .agg [.lit (.int .i64 0), .lit (.int .i64 0), .nil], .nil, .lit (.int .i64 0)], [], places) :=
  ⟨[], by kernel_rfl⟩
theorem data_of {W : World} (h : laidMetH Tryd.prog Rows.shrinkOwnUptoRow.laid W) : laidMet Tryd.prog [("assayer/expr.subsByKind", Rows.laid_assayer_expr_subsByKind)] W := by
  have h' : laidMet Tryd.prog [("assayer/expr.subsByKind", Rows.laid_assayer_expr_subsByKind)] W ∧ handlesMet Tryd.prog [("errors.errorType", Rows.laid_errors_errorType)] W := h
  exact h'.1
theorem handle_of {W : World} (h : laidMetH Tryd.prog Rows.shrinkOwnUptoRow.laid W) : Told.Handle W := by
  have h' : laidMet Tryd.prog [("assayer/expr.subsByKind", Rows.laid_assayer_expr_subsByKind)] W ∧ handlesMet Tryd.prog [("errors.errorType", Rows.laid_errors_errorType)] W := h
  exact Told.handle_of_met h'.2

set_option maxRecDepth 100000 in
theorem lifted (os : Os) (started : os.Started) (H : Type) (enc : TypeId × Value → H) (F : Stop.Interp) :
    ReturnsInHanded {} Tryd.checked os 7 .any ((Rows.OpenSpec.upto Rows.shrinkOwnSpec).preRow enc Tryd.prog Tryd.f7 Rows.shrinkOwnUptoRow.domain false Rows.shrinkOwnUptoRow.laid) (((Rows.OpenSpec.upto Rows.shrinkOwnSpec).at F).post enc Tryd.prog Tryd.f7 false true false false) := by
  obtain ⟨places, hx⟩ := reads os enc
  refine returnsInHanded_of_row (C := Tryd.checked) (s := Rows.OpenSpec.upto Rows.shrinkOwnSpec) own started (by kernel_rfl) Tryd.func7
    (witness_row_at (enc := enc) (C := Tryd.checked) false (laidWorld os) #[.agg #[.int .i64 0, .int .i64 0, .int .i64 0, .slice none 0 0], .agg #[.int .i64 0, .int .i64 0, .slice none 0 0], .slice none 0 0, .int .i64 0] rfl (by kernel_rfl) (by kernel_rfl) (by kernel_rfl)
      (OpenSpec.preRow_of_cond 8 hx (by kernel_rfl) (fun k hk => by cases hk; kernel_rfl) (by kernel_rfl) (laidWorld_met os))) ?_
  intro W base args ds gs before hval0 hW _ hcond _ hL hShaped _
  have hk : Rows.uptoSmall H (ds ++ gs) = true := hcond _ rfl
  have hval : ∀ (j : Nat) t v, Tryd.f7.params[j]? = some t → args[j]? = some v → Value.okWide Tryd.prog W .any base t v := hval0
  have hW' := hW
  obtain ⟨p, q, hA0, hV, rfl, hfz, hnd⟩ := hW
  have hA : DataW.TrodAll enc Tryd.prog W 0 (fun _ => true) true Tryd.f7.params.toList args.toList ds p := hA0
  rw [Tryd.params7] at hA hval
  have hSubs := Exprs.subs_of_laid ((data_of hL))
  have hHandle := handle_of hL
  obtain ⟨v0, vs0, d0, ds0, p0, q0, hargs, rfl, rfl, h0, r0⟩ := trodAll_cons hA
  obtain ⟨v1, vs1, d1, ds1, p1, q1, rfl, rfl, rfl, h1, r1⟩ := trodAll_cons r0
  obtain ⟨v2, vs2, d2, ds2, p2, q2, rfl, rfl, rfl, h2, r2⟩ := trodAll_cons r1
  obtain ⟨v3, vs3, d3, ds3, p3, q3, rfl, rfl, rfl, h3, r3⟩ := trodAll_cons r2
  obtain ⟨rfl, rfl, rfl⟩ := trodAll_nil r3
  obtain rfl : args = #[v0, v1, v2, v3] := by cases args; simp_all
  have k0 := h0
  have lt0 : ∀ x ∈ p0, x.block < W.heap.size := by obtain ⟨m, hm⟩ := k0; exact DataW.trod_lt m _ _ _ hm
  obtain ⟨t0, n0, at0, b0⟩ := open_gen (hval 0 24 v0 rfl rfl) h0
  obtain ⟨m0, A0, c0, _, _, rfl, _⟩ := at0.open_
  have k1 := h1
  have lt1 : ∀ x ∈ p1, x.block < W.heap.size := by obtain ⟨m, hm⟩ := k1; exact DataW.trod_lt m _ _ _ hm
  obtain ⟨t1, n1, at1, b1⟩ := open_expr (hval 1 45 v1 rfl rfl) h1
  obtain ⟨m1, A1, c1, _, _, rfl, _⟩ := at1.open_
  have k2 := h2
  have lt2 : ∀ x ∈ p2, x.block < W.heap.size := by obtain ⟨m, hm⟩ := k2; exact DataW.trod_lt m _ _ _ hm
  obtain ⟨A2, l2, c2, rfl, at2, n2, wf2, cp2⟩ := open_list (hval 2 25 v2 rfl rfl) h2
  obtain ⟨a3, rfl, rfl, rfl, w3⟩ := open_int Tryd.underlying3 (hval 3 3 v3 rfl rfl) h3
  obtain ⟨rfl, rfl⟩ := trodVars_none hV
  have hk2 := hk
  clear hA0 hval0
  have hk3 : Rows.uptoBulkAll [_, _, _, _] ≤ 1048576 := of_decide_eq_true hk2
  simp only [Rows.uptoBulkAll] at hk3
  refine (walk t0 A0 c0 n0 t1 A1 c1 n1 l2 A2 c2 a3 (by clear hk hk2; omega) W at0 at1 at2 cp2 w3  hSubs hHandle).mono fun e W' ⟨he, bel⟩ => ?_
  subst he
  exact ⟨_, rfl, _, _, _, [], _, [], hW', trodAll_mk1 (shut_bool Tryd.underlying4 _), (trodAll_cons_mk (Below.trod laidOut (by kernel_rfl) (of_decide_eq_true (by kernel_rfl)) k0 bel lt0) (trodAll_cons_mk (Below.trod laidOut (by kernel_rfl) (of_decide_eq_true (by kernel_rfl)) k1 bel lt1) (trodAll_cons_mk (Below.trod laidOut (by kernel_rfl) (of_decide_eq_true (by kernel_rfl)) k2 bel lt2) (trodAll_cons_mk (shut_int Tryd.underlying3 w3) trodAll_mk0)))), rfl, bel.frame _, fun h => by cases h⟩

theorem row_holds : Rows.ShrinkOwnUptoSaid :=
  OpenClaim.holds_of_cond 7 Tryd.f7 rfl rfl rfl rfl rfl rfl rfl ⟨rfl, rfl, rfl, rfl, rfl⟩ rfl rfl rfl rfl rfl (by kernel_rfl) Tryd.func7 (by kernel_rfl)
    (of_decide_eq_true (by kernel_rfl)) (by unfold Func.isWrapper; first | (rw [if_pos (by decide +kernel)]; kernel_rfl) | (rw [if_neg (by decide +kernel)]; exact ⟨rfl, rfl⟩))
    (fun os started H enc _ F => by rw [OpenClaim.pre_eq_preRow]; exact lifted os started H enc F)

theorem plain (f : FuncId) (fn : Func) (hf : Tryd.pinned.checked.prog.funcNamed "assayer/assayerlaw5.ShrinkOwn" = some f) (hfn : Tryd.pinned.checked.prog.funcs[f]? = some fn) :
    true = Tryd.pinned.checked.prog.looks [] ∧ ∀ (j : Nat) t, fn.params[j]? = some t → Tryd.pinned.checked.prog.wantsStandIn t = false := by
  obtain rfl : f = 7 := Option.some.inj ((show Tryd.prog.funcNamed "assayer/assayerlaw5.ShrinkOwn" = some 7 by kernel_rfl).symm.trans hf) |>.symm
  obtain rfl : fn = Tryd.f7 := (Option.some.inj (Tryd.func7.symm.trans hfn)).symm
  refine ⟨by kernel_rfl, fun j t ht => ?_⟩
  rw [Tryd.params7] at ht
  have hm := Array.mem_of_getElem? ht
  have h3 : t = 24 ∨ t = 45 ∨ t = 25 ∨ t = 3 := by first | (simpa using hm) | (simp at hm; rcases hm with h | h | h | h <;> simp [h])
  rcases h3 with rfl | rfl | rfl | rfl
  · exact (show Tryd.prog.wantsStandIn 24 = false by kernel_rfl)
  · exact (show Tryd.prog.wantsStandIn 45 = false by kernel_rfl)
  · exact (show Tryd.prog.wantsStandIn 25 = false by kernel_rfl)
  · exact (show Tryd.prog.wantsStandIn 3 = false by kernel_rfl)

/-- The statement: the card of the second form. -/
theorem proved : Rows.ShrinkOwnUptoCardSaid :=
  Claim7.holds_tied_plain_at .later [] _ _ _ _ row_holds (fun _ h => by cases h) (by kernel_rfl) (fun _ h => by cases h) shrinkOwnUpto_row_tie rfl ⟨rfl, rfl⟩ (by kernel_rfl) rfl plain (by kernel_rfl)
#print axioms proved
end Go.Proofs.YtfpbegagblekiaaDoor.ShOwnLaw
