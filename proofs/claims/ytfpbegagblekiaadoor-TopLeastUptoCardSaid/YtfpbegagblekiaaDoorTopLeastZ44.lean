/- TopLeast, part 44 of the proof: Expressions that the statements build, of constants. Conditions: the program's table. · A generator without parts, in memory. · The program's Walk, of one number that fails from an edge on. Conditions: the program's table. · What the statements ask behind a walk: Replay and Fails at a tape of its generator. Conditions: the sizes; the program's table. -/
import Derived.Test.YtfpbegagblekiaaDoorTopLeastZ30
import Derived.Test.YtfpbegagblekiaaDoorTopLeastZ2
import Derived.Test.YtfpbegagblekiaaDoorTopLeastZ43
/- Expressions that the statements build, of constants. Conditions: the program's table. -/
namespace Go.Proofs.YtfpbegagblekiaaDoor.Exprs
open Go.RowKit Go.ChangeShapes Go.WideShapes Lists Gens Rng Vals
set_option linter.unusedVariables false

theorem eat_leaf {w : World} {S : Nat → Prop} {n : Nat} (k a b : Int) (hk : EWf k) (ha : EWf a) (c : Nat) : EAt w S (n + 1) (.agg #[.int .i64 k, .int .i64 a, .slice none 0 c]) (.node k a b []) :=
  ⟨⟨hk, ha⟩, none, c, rfl, Nat.zero_le _, fun hp => by simp [Gn.subs] at hp⟩
/-- a new row of one part, or two -/
theorem eat_one {w : World} {b n : Nat} {x : Gn} {A : Option Addr} {c cc : Nat} {T : TypeId} (k a : Int) (hk : EWf k) (ha : EWf a) (hr : w.heap[b]? = some (.cells #[.int .i64 x.kind, .int .i64 x.a, .slice A x.subs.length c] T (0, 0)))
    (hx : EAt w (EBel w.heap.size) n (ev x A c) x) (hc : 1 ≤ cc) : EAt w (EBel w.heap.size) (n + 1) (.agg #[.int .i64 k, .int .i64 a, .slice (some ⟨b, 0, none⟩) 1 cc]) (.node k a 0 [x]) := by
  refine ⟨⟨hk, ha⟩, some ⟨b, 0, none⟩, cc, rfl, hc, fun _ => ⟨b, 0, rfl, (Array.getElem?_eq_some_iff.1 hr).1, fun j hj => ?_⟩⟩
  obtain rfl : j = 0 := by simp [Gn.subs] at hj; exact hj
  exact ⟨_, _, _, by rw [Lib.cell_of_heap hr]; rfl, by rw [Lib.cell_of_heap hr]; rfl, by rw [Lib.cell_of_heap hr]; rfl, hx⟩
theorem eat_two {w : World} {b n : Nat} {x y : Gn} {A D : Option Addr} {c d cc : Nat} {T : TypeId} (k a : Int) (hk : EWf k) (ha : EWf a) (hr : w.heap[b]? = some (.cells #[.int .i64 x.kind, .int .i64 x.a, .slice A x.subs.length c, .int .i64 y.kind, .int .i64 y.a, .slice D y.subs.length d] T (0, 0)))
    (hx : EAt w (EBel w.heap.size) n (ev x A c) x) (hy : EAt w (EBel w.heap.size) n (ev y D d) y) (hc : 2 ≤ cc) : EAt w (EBel w.heap.size) (n + 1) (.agg #[.int .i64 k, .int .i64 a, .slice (some ⟨b, 0, none⟩) 2 cc]) (.node k a 0 [x, y]) := by
  refine ⟨⟨hk, ha⟩, some ⟨b, 0, none⟩, cc, rfl, hc, fun _ => ⟨b, 0, rfl, (Array.getElem?_eq_some_iff.1 hr).1, fun j hj => ?_⟩⟩
  have : j = 0 ∨ j = 1 := by simp [Gn.subs] at hj; omega
  rcases this with rfl | rfl
  · exact ⟨_, _, _, by rw [Lib.cell_of_heap hr]; rfl, by rw [Lib.cell_of_heap hr]; rfl, by rw [Lib.cell_of_heap hr]; rfl, hx⟩
  · exact ⟨_, _, _, by rw [Lib.cell_of_heap hr]; rfl, by rw [Lib.cell_of_heap hr]; rfl, by rw [Lib.cell_of_heap hr]; rfl, hy⟩
set_option maxHeartbeats 1000000 in
set_option maxRecDepth 100000 in
theorem asked_ok (w : World) (hsub : Subs w) : Calls Tryd.prog 17 #[] w fun e w' => e = .returned (.bool true) ∧ Below w.heap.size w w' := by
  have hb : Below w.heap.size w (w.alloc (.cells #[.int .i64 2, .int .i64 0, .slice none 0 0, .int .i64 1, .int .i64 2, .slice none 0 0] 45)) := (Below.refl _ _).alloc (Nat.le_refl _) _
  have hr := eheap_new w (.cells #[.int .i64 2, .int .i64 0, .slice none 0 0, .int .i64 1, .int .i64 2, .slice none 0 0] 45)
  have hx := eat_two (x := .node 2 0 0 []) (y := .node 1 2 0 []) (n := 1) 5 0 (by decide) (by decide) hr (eat_leaf 2 0 0 (by decide) (by decide) 0) (eat_leaf 1 2 0 (by decide) (by decide) 0) (Nat.le_refl 2)
  have hv : TAt (w.alloc (.cells #[.int .i64 2, .int .i64 0, .slice none 0 0, .int .i64 1, .int .i64 2, .slice none 0 0] 45)) (Bel (w.alloc (.cells #[.int .i64 2, .int .i64 0, .slice none 0 0, .int .i64 1, .int .i64 2, .slice none 0 0] 45)).heap.size) 1 (vv (.node false 3 []) none 0) (.node false 3 []) := ⟨by decide, none, 0, rfl, fun hp => by simp [Tr.items] at hp⟩
  have E1 := eval_any (g := .node 5 0 0 [.node 2 0 0 [], .node 1 2 0 []]) (t := .node false 3 []) _ hx hv (Nat.le_refl _) (by decide) (by decide) (hsub.below hb)
  rw [show evalN (.node 5 0 0 [.node 2 0 0 [], .node 1 2 0 []]) (.node false 3 []) = 5 by decide +kernel, show evalF (.node 5 0 0 [.node 2 0 0 [], .node 1 2 0 []]) (.node false 3 []) = 0 by decide +kernel, errOf_ok] at E1
  have E1 := Lib.hid E1
  have HB := Lib.hid hb
  clear hb hr hx hv hsub
  go_enter Tryd.func17, Tryd.ntmps17
  go_wp2_with fail
  refine E1.out.mono ?_
  rintro e w1 ⟨rfl, b1⟩
  have B1 := Lib.hid (on HB.out b1)
  clear b1
  go_wp2_with fail
  go_ret
  exact ⟨rfl, B1.out⟩
/-- a number of its own, of the value of nothing -/
theorem seven_ok (w : World) (hsub : Subs w) : Calls Tryd.prog 29 #[.agg #[.int .i64 1, .int .i64 7, .slice none 0 0], .agg #[.bool false, .int .i64 0, .slice none 0 0]] w fun e w' => e = .returned (.tuple #[.int .i64 7, .nilIface]) ∧ Below w.heap.size w w' := by
  have hv : TAt w (Bel w.heap.size) 1 (vv (.node false 0 []) none 0) (.node false 0 []) := ⟨by decide, none, 0, rfl, fun hp => by simp [Tr.items] at hp⟩
  have hx : EAt w (EBel w.heap.size) 1 (ev (.node 1 7 0 []) none 0) (.node 1 7 0 []) := eat_leaf 1 7 0 (by decide) (by decide) 0
  have E1 := eval_any (g := .node 1 7 0 []) (t := .node false 0 []) w hx hv (Nat.le_refl _) (by decide) (by decide) hsub
  rw [show evalN (.node 1 7 0 []) (.node false 0 []) = 7 by decide +kernel, show evalF (.node 1 7 0 []) (.node false 0 []) = 0 by decide +kernel, errOf_ok] at E1
  exact E1
end Go.Proofs.YtfpbegagblekiaaDoor.Exprs

/- A generator without parts, in memory. -/
namespace Go.Proofs.YtfpbegagblekiaaDoor.Gens
open Go.RowKit
set_option linter.unusedVariables false
theorem gat_leaf {w : World} {B : Nat} {k a b : Int} (hk : Wf k) (ha : Wf a) (hb : Wf b) : GAt w (GBel B) 1 (.agg #[.int .i64 k, .int .i64 a, .int .i64 b, .slice none 0 0]) (.node k a b []) :=
  ⟨⟨hk, ha, hb⟩, none, 0, rfl, Nat.le_refl _, fun hp => by simp [Gn.subs] at hp⟩
end Go.Proofs.YtfpbegagblekiaaDoor.Gens

/- The program's Walk, of one number that fails from an edge on. Conditions: the program's table. -/
namespace Go.Proofs.YtfpbegagblekiaaDoor.Gens
open Go.RowKit Lists Ints Vals Exprs
set_option linter.unusedVariables false

theorem ewf_b' {x : Int} (h : EWf x) : -9223372036854775808 ≤ x ∧ x ≤ 9223372036854775807 := by have := ei64_wf h; unfold Lists.I64 at this; exact this
theorem at_one' {w : World} {b B : Nat} {x : Int} {T : TypeId} (hB : b < B) (h : w.heap[b]? = some (.cells #[.int .i64 x] T (0, 0))) : At w B (some ⟨b, 0, none⟩) [x] := fun hp => by
  refine ⟨b, 0, rfl, hB, fun j hj => ?_⟩
  have hj : j = 0 := by simpa using hj
  subst hj
  rw [Lib.cell_of_heap h]; rfl
/-- the cells of an edge's two parts -/
def EP (p : Nat) (e : Int) (w : World) : Prop := w.heap[p]? = some (.cells #[.int .i64 2, .int .i64 0, .slice none 0 0, .int .i64 1, .int .i64 e, .slice none 0 0] 45 (0, 0))
theorem EP.lt {p : Nat} {e : Int} {w : World} (h : EP p e w) : p < w.heap.size := (Array.getElem?_eq_some_iff.1 h).1
theorem EP.below {p : Nat} {e : Int} {w w' : World} (h : EP p e w) (hb : Below w.heap.size w w') : EP p e w' := (hb.block p h.lt).trans h
theorem EP.eat {p : Nat} {e : Int} {w : World} (h : EP p e w) (he : EWf e) : EAt w (EBel w.heap.size) 2 (.agg #[.int .i64 7, .int .i64 0, .slice (some ⟨p, 0, none⟩) 2 2]) (fEdge e) :=
  eat_two (x := .node 2 0 0 []) (y := .node 1 e 0 []) (n := 1) 7 0 (by decide) (by decide) h (eat_leaf 2 0 0 (by decide) (by decide) 0) (eat_leaf 1 e 0 (by decide) he 0) (Nat.le_refl 2)
theorem edge_call {a b e x : Int} (ha : Wf a) (hb : Wf b) (he : EWf e) (w : World) (p q : Nat) (hp : EP p e w) (hq : w.heap[q]? = some (.cells #[.int .i64 x] 3 (0, 0))) (hsub : Subs w) :
    Calls Tryd.prog 19 #[.agg #[.int .i64 2, .int .i64 a, .int .i64 b, .slice none 0 0], .agg #[.int .i64 7, .int .i64 0, .slice (some ⟨p, 0, none⟩) 2 2], .slice (some ⟨q, 0, none⟩) 1 1] w (WlPost (gOne a b) (fEdge e) [x] w) :=
  walk_prog (t := gOne a b) (x := fEdge e) (l := [x]) (lc := 1) w (gat_leaf (show Wf 2 by decide) ha hb) (hp.eat he) hsub (at_one' (Array.getElem?_eq_some_iff.1 hq).1 hq) (by simp) (by simp) (by simp [Gn.size, gsizes]) (by simp [Gn.size, gsizes])
/-- the boxes of a statement that builds them -/
theorem edge_boxes (w : World) (a b e x : Int) :
    let W1 := w.alloc (.cells #[.int .i64 2, .int .i64 a, .int .i64 b, .slice none 0 0] 24)
    let W2 := W1.alloc (.cells #[.int .i64 2, .int .i64 0, .slice none 0 0, .int .i64 1, .int .i64 e, .slice none 0 0] 45)
    let W3 := W2.alloc (.cells #[.int .i64 7, .int .i64 0, .slice (some ⟨w.heap.size + 1, 0, none⟩) 2 2] 45)
    let W := W3.alloc (.cells #[.int .i64 x] 3)
    Below w.heap.size w W ∧ G4 w.heap.size (.int .i64 2) (.int .i64 a) (.int .i64 b) (.slice none 0 0) W ∧ EP (w.heap.size + 1) e W ∧ E3 (w.heap.size + 1 + 1) (.int .i64 7) (.int .i64 0) (.slice (some ⟨w.heap.size + 1, 0, none⟩) 2 2) W ∧ W.heap[w.heap.size + 1 + 1 + 1]? = some (.cells #[.int .i64 x] 3 (0, 0)) := by
  intro W1 W2 W3 W
  have z1 : W1.heap.size = w.heap.size + 1 := by show (World.alloc _ _).heap.size = _; simp
  have z2 : W2.heap.size = w.heap.size + 1 + 1 := by show (World.alloc _ _).heap.size = _; simp [z1]
  have z3 : W3.heap.size = w.heap.size + 1 + 1 + 1 := by show (World.alloc _ _).heap.size = _; simp [z2]
  have b1 := bel1 w (.cells #[.int .i64 2, .int .i64 a, .int .i64 b, .slice none 0 0] 24)
  have b2 := bel1 W1 (.cells #[.int .i64 2, .int .i64 0, .slice none 0 0, .int .i64 1, .int .i64 e, .slice none 0 0] 45)
  have b3 := bel1 W2 (.cells #[.int .i64 7, .int .i64 0, .slice (some ⟨w.heap.size + 1, 0, none⟩) 2 2] 45)
  have b4 := bel1 W3 (.cells #[.int .i64 x] 3)
  have n1 := new_obj w (.cells #[.int .i64 2, .int .i64 a, .int .i64 b, .slice none 0 0] 24)
  have n2 := new_obj W1 (.cells #[.int .i64 2, .int .i64 0, .slice none 0 0, .int .i64 1, .int .i64 e, .slice none 0 0] 45)
  have n3 := new_obj W2 (.cells #[.int .i64 7, .int .i64 0, .slice (some ⟨w.heap.size + 1, 0, none⟩) 2 2] 45)
  have n4 := new_obj W3 (.cells #[.int .i64 x] 3)
  rw [z1] at n2
  rw [z2] at n3
  rw [z3] at n4
  have n1 : G4 w.heap.size (.int .i64 2) (.int .i64 a) (.int .i64 b) (.slice none 0 0) W1 := n1
  have n2 : EP (w.heap.size + 1) e W2 := n2
  have n3 : E3 (w.heap.size + 1 + 1) (.int .i64 7) (.int .i64 0) (.slice (some ⟨w.heap.size + 1, 0, none⟩) 2 2) W3 := n3
  exact ⟨below_trans (below_trans (below_trans b1 b2) b3) b4, ((n1.below b2).below b3).below b4, (n2.below b3).below b4, n3.below b4, n4⟩
theorem edge_boxes3 (w : World) (a b e : Int) :
    let W1 := w.alloc (.cells #[.int .i64 2, .int .i64 a, .int .i64 b, .slice none 0 0] 24)
    let W2 := W1.alloc (.cells #[.int .i64 2, .int .i64 0, .slice none 0 0, .int .i64 1, .int .i64 e, .slice none 0 0] 45)
    let W := W2.alloc (.cells #[.int .i64 7, .int .i64 0, .slice (some ⟨w.heap.size + 1, 0, none⟩) 2 2] 45)
    Below w.heap.size w W ∧ G4 w.heap.size (.int .i64 2) (.int .i64 a) (.int .i64 b) (.slice none 0 0) W ∧ EP (w.heap.size + 1) e W ∧ E3 (w.heap.size + 1 + 1) (.int .i64 7) (.int .i64 0) (.slice (some ⟨w.heap.size + 1, 0, none⟩) 2 2) W := by
  intro W1 W2 W
  have z1 : W1.heap.size = w.heap.size + 1 := by show (World.alloc _ _).heap.size = _; simp
  have z2 : W2.heap.size = w.heap.size + 1 + 1 := by show (World.alloc _ _).heap.size = _; simp [z1]
  have b1 := bel1 w (.cells #[.int .i64 2, .int .i64 a, .int .i64 b, .slice none 0 0] 24)
  have b2 := bel1 W1 (.cells #[.int .i64 2, .int .i64 0, .slice none 0 0, .int .i64 1, .int .i64 e, .slice none 0 0] 45)
  have b3 := bel1 W2 (.cells #[.int .i64 7, .int .i64 0, .slice (some ⟨w.heap.size + 1, 0, none⟩) 2 2] 45)
  have n1 := new_obj w (.cells #[.int .i64 2, .int .i64 a, .int .i64 b, .slice none 0 0] 24)
  have n2 := new_obj W1 (.cells #[.int .i64 2, .int .i64 0, .slice none 0 0, .int .i64 1, .int .i64 e, .slice none 0 0] 45)
  have n3 := new_obj W2 (.cells #[.int .i64 7, .int .i64 0, .slice (some ⟨w.heap.size + 1, 0, none⟩) 2 2] 45)
  rw [z1] at n2
  rw [z2] at n3
  have n1 : G4 w.heap.size (.int .i64 2) (.int .i64 a) (.int .i64 b) (.slice none 0 0) W1 := n1
  have n2 : EP (w.heap.size + 1) e W2 := n2
  have n3 : E3 (w.heap.size + 1 + 1) (.int .i64 7) (.int .i64 0) (.slice (some ⟨w.heap.size + 1, 0, none⟩) 2 2) W := n3
  exact ⟨below_trans (below_trans b1 b2) b3, (n1.below b2).below b3, n2.below b3, n3⟩
end Go.Proofs.YtfpbegagblekiaaDoor.Gens

/- What the statements ask behind a walk: Replay and Fails at a tape of its generator. Conditions: the sizes; the program's table. -/
namespace Go.Proofs.YtfpbegagblekiaaDoor.Gens
open Go.RowKit Lists Ints Vals Exprs
set_option linter.unusedVariables false

/-- what Replay hands back of a tape of its generator -/
def RvOk (v : Tr) (n : Nat) (w : World) (e : Ending) (w' : World) : Prop :=
  ∃ (A : Option Addr) (c : Nat), e = .returned (.tuple #[.agg #[.bool v.list, .int .i64 v.num, .slice A v.items.length c], .nilIface]) ∧ TAt w' (fun b => w.heap.size ≤ b ∧ b < w'.heap.size) n (vv v A c) v ∧ Below w.heap.size w w'
theorem rv_ok {n : Nat} {t : Gn} {A L : Option Addr} {c lc : Nat} {l : List Int} {v : Tr} (w : World) (hg : GAt w (GBel w.heap.size) n (gv t A c) t) (hl : At w w.heap.size L l) (hcap : l.length ≤ lc) (hll : l.length ≤ 4294967296) (hsz : t.size ≤ 4294967296) (hv : repV t l = .ok v) :
    Calls Tryd.prog 20 #[gv t A c, .slice L l.length lc] w (RvOk v n w) := by
  have R := replay_prog w hg hl hcap hll hsz
  rw [hv] at R
  refine R.mono ?_
  rintro e w' ⟨A1, c1, rfl, ht, _, hb⟩
  exact ⟨A1, c1, rfl, ht, hb⟩
theorem fv_ok {n nx : Nat} {t x : Gn} {XA A : Option Addr} {xc c : Nat} {l : List Int} {v : Tr} (w : World) (hx : EAt w (EBel w.heap.size) nx (ev x XA xc) x) (hv : TAt w (Bel w.heap.size) n (vv v A c) v) (hf : faultE x = 0) (hsub : Subs w) (hxz : x.size ≤ 4294967296) (hr : repV t l = .ok v) :
    Calls Tryd.prog 21 #[ev x XA xc, .agg #[.bool v.list, .int .i64 v.num, .slice A v.items.length c]] w fun e w' => e = .returned (.tuple #[.bool (badT t x l), .nilIface]) ∧ Below w.heap.size w w' := by
  obtain ⟨vs, vf⟩ := rep_size hr
  have F := fails_any (g := x) (t := v) w hx hv (Nat.le_refl _) hxz (by omega) hsub
  have e1 : failF x v = 0 := by unfold failF; rw [if_pos hf]; exact vf
  have e2 : failB x v = badT t x l := by unfold failB badT; rw [if_pos e1, hr]
  rw [e1, e2, errOf_ok] at F
  exact F
/-- a box written whole -/
theorem box_put {w : World} {p : Nat} {a0 a1 a2 : Value} (h : V3 p a0 a1 a2 w) (y0 y1 y2 : Value) :
    let W := ((w.setCell ⟨p, 0, none⟩ y0).setCell ⟨p, 1, none⟩ y1).setCell ⟨p, 2, none⟩ y2
    V3 p y0 y1 y2 W ∧ Below p w W ∧ ∀ b, b ≠ p → W.heap[b]? = w.heap[b]? := by
  intro W
  refine ⟨?_, ?_, fun b hb => ?_⟩
  · unfold V3 at h ⊢
    show (((w.setCell ⟨p, 0, none⟩ y0).setCell ⟨p, 1, none⟩ y1).setCell ⟨p, 2, none⟩ y2).heap[p]? = _
    simp [World.setCell, Array.getElem?_modify, h]
  · exact Below.setCell (p := ⟨p, 2, none⟩) (Below.setCell (p := ⟨p, 1, none⟩) (Below.setCell (p := ⟨p, 0, none⟩) (Below.refl _ _) (Nat.le_refl _) _) (Nat.le_refl _) _) (Nat.le_refl _) _
  · exact (Below.heap_setCell _ ⟨p, 2, none⟩ _ b hb).trans ((Below.heap_setCell _ ⟨p, 1, none⟩ _ b hb).trans (Below.heap_setCell _ ⟨p, 0, none⟩ _ b hb))
end Go.Proofs.YtfpbegagblekiaaDoor.Gens
