/- ShrinkNumber, part 50 of the proof: The program's Walk, of one number that fails from an edge on. Conditions: the program's table. · The statements' own 'coin' and 'made'. · ShrinkNumber: the walk. Conditions: the machine's integers; the program's table. -/
import Derived.Test.YtfpbegagblekiaaDoorShrinkNumberZ49
import Derived.Test.YtfpbegagblekiaaDoorShrinkNumberZ37
/- The program's Walk, of one number that fails from an edge on. Conditions: the program's table. -/
namespace Go.Proofs.YtfpbegagblekiaaDoor.Gens
open Go.RowKit Lists Ints Vals Exprs
set_option linter.unusedVariables false

theorem ewf_b' {x : Int} (h : EWf x) : -9223372036854775808 ≤ x ∧ x ≤ 9223372036854775807 := by have := ei64_wf h; unfold Lists.I64 at this; exact this
theorem at_one' {w : World} {b B : Nat} {x : Int} {T : TypeId} (hB : b < B) (h : w.heap[b]? = some (.cells #[.int .i64 x] T (0, 0))) : At w B (some ⟨b, 0, none⟩) [x] := fun hp => by
  refine ⟨b, 0, rfl, hB, fun j hj => ?_⟩
  have hj : j = 0 := by simpa using hj
  subst hj
  rw [Lib.cell_of_heap h]; rfl
/-- the cells of an edge's two parts -/
def EP (p : Nat) (e : Int) (w : World) : Prop := w.heap[p]? = some (.cells #[.int .i64 2, .int .i64 0, .slice none 0 0, .int .i64 1, .int .i64 e, .slice none 0 0] 45 (0, 0))
theorem EP.lt {p : Nat} {e : Int} {w : World} (h : EP p e w) : p < w.heap.size := (Array.getElem?_eq_some_iff.1 h).1
theorem EP.below {p : Nat} {e : Int} {w w' : World} (h : EP p e w) (hb : Below w.heap.size w w') : EP p e w' := (hb.block p h.lt).trans h
theorem EP.eat {p : Nat} {e : Int} {w : World} (h : EP p e w) (he : EWf e) : EAt w (EBel w.heap.size) 2 (.agg #[.int .i64 7, .int .i64 0, .slice (some ⟨p, 0, none⟩) 2 2]) (fEdge e) :=
  eat_two (x := .node 2 0 0 []) (y := .node 1 e 0 []) (n := 1) 7 0 (by decide) (by decide) h (eat_leaf 2 0 0 (by decide) (by decide) 0) (eat_leaf 1 e 0 (by decide) he 0) (Nat.le_refl 2)
theorem edge_call {a b e x : Int} (ha : Wf a) (hb : Wf b) (he : EWf e) (w : World) (p q : Nat) (hp : EP p e w) (hq : w.heap[q]? = some (.cells #[.int .i64 x] 3 (0, 0))) (hsub : Subs w) :
    Calls Tryd.prog 19 #[.agg #[.int .i64 2, .int .i64 a, .int .i64 b, .slice none 0 0], .agg #[.int .i64 7, .int .i64 0, .slice (some ⟨p, 0, none⟩) 2 2], .slice (some ⟨q, 0, none⟩) 1 1] w (WlPost (gOne a b) (fEdge e) [x] w) :=
  walk_prog (t := gOne a b) (x := fEdge e) (l := [x]) (lc := 1) w (gat_leaf (show Wf 2 by decide) ha hb) (hp.eat he) hsub (at_one' (Array.getElem?_eq_some_iff.1 hq).1 hq) (by simp) (by simp) (by simp [Gn.size, gsizes]) (by simp [Gn.size, gsizes])
/-- the boxes of a statement that builds them -/
theorem edge_boxes (w : World) (a b e x : Int) :
    let W1 := w.alloc (.cells #[.int .i64 2, .int .i64 a, .int .i64 b, .slice none 0 0] 24)
    let W2 := W1.alloc (.cells #[.int .i64 2, .int .i64 0, .slice none 0 0, .int .i64 1, .int .i64 e, .slice none 0 0] 45)
    let W3 := W2.alloc (.cells #[.int .i64 7, .int .i64 0, .slice (some ⟨w.heap.size + 1, 0, none⟩) 2 2] 45)
    let W := W3.alloc (.cells #[.int .i64 x] 3)
    Below w.heap.size w W ∧ G4 w.heap.size (.int .i64 2) (.int .i64 a) (.int .i64 b) (.slice none 0 0) W ∧ EP (w.heap.size + 1) e W ∧ E3 (w.heap.size + 1 + 1) (.int .i64 7) (.int .i64 0) (.slice (some ⟨w.heap.size + 1, 0, none⟩) 2 2) W ∧ W.heap[w.heap.size + 1 + 1 + 1]? = some (.cells #[.int .i64 x] 3 (0, 0)) := by
  intro W1 W2 W3 W
  have z1 : W1.heap.size = w.heap.size + 1 := by show (World.alloc _ _).heap.size = _; simp
  have z2 : W2.heap.size = w.heap.size + 1 + 1 := by show (World.alloc _ _).heap.size = _; simp [z1]
  have z3 : W3.heap.size = w.heap.size + 1 + 1 + 1 := by show (World.alloc _ _).heap.size = _; simp [z2]
  have b1 := bel1 w (.cells #[.int .i64 2, .int .i64 a, .int .i64 b, .slice none 0 0] 24)
  have b2 := bel1 W1 (.cells #[.int .i64 2, .int .i64 0, .slice none 0 0, .int .i64 1, .int .i64 e, .slice none 0 0] 45)
  have b3 := bel1 W2 (.cells #[.int .i64 7, .int .i64 0, .slice (some ⟨w.heap.size + 1, 0, none⟩) 2 2] 45)
  have b4 := bel1 W3 (.cells #[.int .i64 x] 3)
  have n1 := new_obj w (.cells #[.int .i64 2, .int .i64 a, .int .i64 b, .slice none 0 0] 24)
  have n2 := new_obj W1 (.cells #[.int .i64 2, .int .i64 0, .slice none 0 0, .int .i64 1, .int .i64 e, .slice none 0 0] 45)
  have n3 := new_obj W2 (.cells #[.int .i64 7, .int .i64 0, .slice (some ⟨w.heap.size + 1, 0, none⟩) 2 2] 45)
  have n4 := new_obj W3 (.cells #[.int .i64 x] 3)
  rw [z1] at n2
  rw [z2] at n3
  rw [z3] at n4
  have n1 : G4 w.heap.size (.int .i64 2) (.int .i64 a) (.int .i64 b) (.slice none 0 0) W1 := n1
  have n2 : EP (w.heap.size + 1) e W2 := n2
  have n3 : E3 (w.heap.size + 1 + 1) (.int .i64 7) (.int .i64 0) (.slice (some ⟨w.heap.size + 1, 0, none⟩) 2 2) W3 := n3
  exact ⟨below_trans (below_trans (below_trans b1 b2) b3) b4, ((n1.below b2).below b3).below b4, (n2.below b3).below b4, n3.below b4, n4⟩
theorem edge_boxes3 (w : World) (a b e : Int) :
    let W1 := w.alloc (.cells #[.int .i64 2, .int .i64 a, .int .i64 b, .slice none 0 0] 24)
    let W2 := W1.alloc (.cells #[.int .i64 2, .int .i64 0, .slice none 0 0, .int .i64 1, .int .i64 e, .slice none 0 0] 45)
    let W := W2.alloc (.cells #[.int .i64 7, .int .i64 0, .slice (some ⟨w.heap.size + 1, 0, none⟩) 2 2] 45)
    Below w.heap.size w W ∧ G4 w.heap.size (.int .i64 2) (.int .i64 a) (.int .i64 b) (.slice none 0 0) W ∧ EP (w.heap.size + 1) e W ∧ E3 (w.heap.size + 1 + 1) (.int .i64 7) (.int .i64 0) (.slice (some ⟨w.heap.size + 1, 0, none⟩) 2 2) W := by
  intro W1 W2 W
  have z1 : W1.heap.size = w.heap.size + 1 := by show (World.alloc _ _).heap.size = _; simp
  have z2 : W2.heap.size = w.heap.size + 1 + 1 := by show (World.alloc _ _).heap.size = _; simp [z1]
  have b1 := bel1 w (.cells #[.int .i64 2, .int .i64 a, .int .i64 b, .slice none 0 0] 24)
  have b2 := bel1 W1 (.cells #[.int .i64 2, .int .i64 0, .slice none 0 0, .int .i64 1, .int .i64 e, .slice none 0 0] 45)
  have b3 := bel1 W2 (.cells #[.int .i64 7, .int .i64 0, .slice (some ⟨w.heap.size + 1, 0, none⟩) 2 2] 45)
  have n1 := new_obj w (.cells #[.int .i64 2, .int .i64 a, .int .i64 b, .slice none 0 0] 24)
  have n2 := new_obj W1 (.cells #[.int .i64 2, .int .i64 0, .slice none 0 0, .int .i64 1, .int .i64 e, .slice none 0 0] 45)
  have n3 := new_obj W2 (.cells #[.int .i64 7, .int .i64 0, .slice (some ⟨w.heap.size + 1, 0, none⟩) 2 2] 45)
  rw [z1] at n2
  rw [z2] at n3
  have n1 : G4 w.heap.size (.int .i64 2) (.int .i64 a) (.int .i64 b) (.slice none 0 0) W1 := n1
  have n2 : EP (w.heap.size + 1) e W2 := n2
  have n3 : E3 (w.heap.size + 1 + 1) (.int .i64 7) (.int .i64 0) (.slice (some ⟨w.heap.size + 1, 0, none⟩) 2 2) W := n3
  exact ⟨below_trans (below_trans b1 b2) b3, (n1.below b2).below b3, n2.below b3, n3⟩
end Go.Proofs.YtfpbegagblekiaaDoor.Gens

/- The statements' own 'coin' and 'made'. -/
namespace Go.Proofs.YtfpbegagblekiaaDoor.Gens
open Go.RowKit Lists Ints Vals
set_option linter.unusedVariables false

theorem coin_ok (w : World) : Calls Tryd.prog 33 #[] w fun e w' => e = .returned (.agg #[.int .i64 2, .int .i64 3, .int .i64 4, .slice none 0 0]) ∧ Below w.heap.size w w' := by
  go_enter Tryd.func33, Tryd.ntmps33
  go_wp2_with fail
  refine bodyPost_ret (v := .agg #[.int .i64 2, .int .i64 3, .int .i64 4, .slice none 0 0]) (by simp [results, Tryd.results33, go_sem]) rfl ⟨rfl, ?_⟩
  repeat (first | exact Below.refl _ _ | refine Below.alloc ?_ (Nat.le_refl _) _ | refine Below.setCell ?_ (Nat.le_refl w.heap.size) _)

set_option maxHeartbeats 2000000 in
set_option maxRecDepth 100000 in
theorem made_ok (w : World) : Calls Tryd.prog 10 #[] w fun e w' => e = .returned (.bool true) ∧ Below w.heap.size w w' := by
  have CC := Lib.hid (coin_ok w)
  have RR := Lib.hid (fun (W : World) (hb : Below w.heap.size w W) (L : Option Addr) (lc : Nat) (ha : At W W.heap.size L [1]) (hc : 1 ≤ lc) => replay_prog (n := 1) (g := .node 2 3 4 []) (l := [1]) W (gat_leaf (by decide) (by decide) (by decide)) ha hc (by decide) (by decide))
  rw [show repV (.node 2 3 4 []) [1] = .ok (.node false 4 []) by rfl] at RR
  go_enter Tryd.func10, Tryd.ntmps10
  go_wp2_with fail
  refine CC.out.mono ?_
  rintro e w1 ⟨rfl, hb1⟩
  have B1 := Lib.hid hb1
  have A1 := Lib.hid (At.one_new w1 1)
  have B2 := Lib.hid (hb1.trans ((Below.refl w1.heap.size w1).alloc (Nat.le_refl _) (.cells #[.int .i64 1] 3) |>.mono hb1.size))
  clear hb1 CC
  go_wp2_with fail
  have z1 : (w1.alloc (.cells #[.int .i64 1] 3)).heap.size = w1.heap.size + 1 := by simp
  refine (RR.out (w1.alloc (.cells #[.int .i64 1] 3)) B2.out (some ⟨w1.heap.size, 0, none⟩) 1 (by rw [z1]; exact A1.out) (Nat.le_refl _)).mono ?_
  rintro e w3 ⟨A3, c3, rfl, ht, hn, hb3⟩
  have B3 := Lib.hid (below_trans B2.out hb3)
  clear RR ht hn hb3 z1
  simp only [trOf, errI, tval, Tr.list, Tr.num, Tr.items, List.length_nil, errOf_ok]
  go_wp2_with fail
  go_ret
  exact ⟨rfl, Below.alloc B3.out (by have := B3.out.size; omega) _⟩
end Go.Proofs.YtfpbegagblekiaaDoor.Gens

/- ShrinkNumber: the walk. Conditions: the machine's integers; the program's table. -/
namespace Go.Proofs.YtfpbegagblekiaaDoor.ShNumberLaw
open Go.RowKit Lists Ints Vals Gens Exprs
set_option linter.unusedVariables false

set_option maxHeartbeats 8000000 in
set_option maxRecDepth 100000 in
theorem walk (a b e x : Int) (hbulk : 0 + 0 ≤ 1048576) (w : World) (wa : (Lit.int .i64 a).wf = true) (wb : (Lit.int .i64 b).wf = true) (we : (Lit.int .i64 e).wf = true) (wx : (Lit.int .i64 x).wf = true) (hsub : Subs w) :
    Calls Tryd.prog 5 #[.int .i64 a, .int .i64 b, .int .i64 e, .int .i64 x] w fun e w' => e = .returned (.bool true) ∧ Below w.heap.size w w' := by
  have MC := Lib.hid (fun (w : World) => made_ok w)
  have AC := Lib.hid (fun (W : World) (hb : Below w.heap.size w W) => asked_ok W (hsub.below hb))
  have EC := Lib.hid (fun (W : World) (p q : Nat) (hb : Below w.heap.size w W) hp hq => edge_call (a := a) (b := b) (e := e) (x := x) wa wb we W p q hp hq (hsub.below hb))
  have EB := Lib.hid (fun (W : World) => edge_boxes W a b e x)
  have GC := Lib.hid (fun (W : World) => gcheck (t := gOne a b) (n := 1) (B := 0) W (gat_leaf (show Wf 2 by decide) wa wb) (Nat.zero_le _) (by simp [Gn.size, gsizes]))
  have WB := Lib.hid (And.intro (ewf_b' wa) (And.intro (ewf_b' wb) (And.intro (ewf_b' we) (ewf_b' wx))))
  clear wa wb we wx hsub
  go_enter Tryd.func5, Tryd.ntmps5
  go_wp2_with fail
  refine (MC.out _).mono ?_
  rintro e0 w1 ⟨rfl, hb1⟩
  have B1 := Lib.hid hb1
  clear hb1
  go_wp2_with fail
  refine (AC.out w1 B1.out).mono ?_
  rintro e0 w2 ⟨rfl, hb2⟩
  have B2 := Lib.hid (below_trans B1.out hb2)
  clear hb2
  have BX := Lib.hid (EB.out w2)
  have EK := Lib.hid (EC.out _ _ _ (below_trans B2.out BX.out.1) BX.out.2.2.1 BX.out.2.2.2.2)
  have BN := Lib.hid (below_trans B2.out BX.out.1)
  have GN := Lib.hid BX.out.2.1
  clear BX
  go_wp2_with fail
  generalize (((w2.alloc (.cells #[.int .i64 2, .int .i64 a, .int .i64 b, .slice none 0 0] 24)).alloc (.cells #[.int .i64 2, .int .i64 0, .slice none 0 0, .int .i64 1, .int .i64 e, .slice none 0 0] 45)).alloc (.cells #[.int .i64 7, .int .i64 0, .slice (some ⟨w2.heap.size + 1, 0, none⟩) 2 2] 45)).alloc (.cells #[.int .i64 x] 3) = w3 at *
  ((with_reducible refine EK.out.mono ?_))
  rintro e0 w4 ⟨A4, c4, rfl, ho4, hb4⟩
  have B4 := Lib.hid (below_trans BN.out hb4)
  have G4' := Lib.hid (GN.out.below hb4)
  clear EK
  by_cases hs : startE (gOne a b) (fEdge e) [x] = 0
  · obtain ⟨h0, h1, h2, h3, h4⟩ := edge_told hs
    have hr := one_range h0
    rw [h4] at ho4
    obtain ⟨g, off, rfl, _, hc⟩ := ho4.at_ (by simp)
    have c0 : w4.cell? ⟨g, off, none⟩ = some (.int .i64 (max a e - a)) := by simpa using hc 0 (by simp)
    have WBo := WB.out
    obtain ⟨m, hm⟩ : ∃ m : Int, m = max a e - a := ⟨_, rfl⟩
    have m0 : 0 ≤ m := by omega
    have m1 : m ≤ 1000 := by omega
    have m2 : a + m = max a e := by omega
    rw [← hm] at c0
    rw [hs, h4, errOf_ok]
    clear hs h4 hc ho4 hb4 hm
    go_wp2_with fail
    all_goals
      go_ret
      refine ⟨ret_b ?_, B4.out⟩
      first
        | rfl
        | (simp; omega)
        | (trace_state; sorry)
  · have ND := Lib.hid (edge_not (a := a) (b := b) (e := e) (x := x) hs)
    rw [errOf_no hs]
    generalize startE (gOne a b) (fEdge e) [x] = q at *
    generalize walkV (gOne a b) (fEdge e) [x] = z at *
    obtain ⟨k0, k1, k2, k3⟩ := G4'.out.facts
    have GG := Lib.hid (GC.out w4)
    clear hs ho4 hb4
    by_cases h0 : genV (gOne a b) = 0
    · have hr := one_range h0
      have NE := ND.out h0
      rw [h0, errOf_ok] at GG
      have WBo := WB.out
      clear h0 ND
      go_wp2_with fail
      ((with_reducible refine GG.out.mono ?_))
      rintro e0 w5 ⟨rfl, hb5⟩
      have B5 := Lib.hid (below_trans B4.out hb5)
      clear hb5
      rcases NE with hx | hx | hx
      · go_wp2_with fail
        all_goals
          go_ret
          refine ⟨ret_b ?_, B5.out⟩
          first
            | rfl
            | (simp; omega)
            | (trace_state; sorry)
      · go_wp2_with fail
        all_goals
          go_ret
          refine ⟨ret_b ?_, B5.out⟩
          first
            | rfl
            | (simp; omega)
            | (trace_state; sorry)
      · go_wp2_with fail
        all_goals
          go_ret
          refine ⟨ret_b ?_, B5.out⟩
          first
            | rfl
            | (simp; omega)
            | (trace_state; sorry)
    · rw [errOf_no h0] at GG
      generalize genV (gOne a b) = q2 at *
      clear h0 ND
      go_wp2_with fail
      ((with_reducible refine GG.out.mono ?_))
      rintro e0 w5 ⟨rfl, hb5⟩
      have B5 := Lib.hid (below_trans B4.out hb5)
      clear hb5
      go_wp2_with fail
      go_ret
      exact ⟨ret_b (by simp), B5.out⟩
end Go.Proofs.YtfpbegagblekiaaDoor.ShNumberLaw
