/- ShrinkNumber, part 49 of the proof: One number that fails from an edge on: the mathematics. No program. · Expressions that the statements build, of constants. Conditions: the program's table. · A generator without parts, in memory. -/
import Derived.Test.YtfpbegagblekiaaDoorShrinkNumberZ48
import Derived.Test.YtfpbegagblekiaaDoorShrinkNumberZ35
import Derived.Test.YtfpbegagblekiaaDoorShrinkNumberZ3
/- One number that fails from an edge on: the mathematics. No program. -/
namespace Go.Proofs.YtfpbegagblekiaaDoor.Gens
open Go.RowKit Lists Ints Vals Exprs
set_option linter.unusedVariables false

abbrev gOne (a b : Int) : Gn := .node 2 a b []
abbrev fEdge (e : Int) : Gn := .node 7 0 0 [.node 2 0 0 [], .node 1 e 0 []]
theorem edge_ok (e : Int) : faultE (fEdge e) = 0 := by unfold faultE; rfl
theorem one_range {a b : Int} (h0 : genV (gOne a b) = 0) : -1073741824 ≤ a ∧ a ≤ 1073741824 ∧ -1073741824 ≤ b ∧ b ≤ 1073741824 ∧ 0 ≤ b - a ∧ b - a ≤ 1000 := by
  obtain ⟨h1, h2, h3, _⟩ := right_of (gen_right h0).1
  have h4 := one_bounds h0
  simp [rangeBad, farB, Gn.kind, Gn.a, Gn.b] at h2
  have q := h2.1
  have q1 := of_decide_eq_false q.1.1.1
  have q2 := of_decide_eq_false q.1.1.2
  have q3 := of_decide_eq_false q.1.2.1
  have q4 := of_decide_eq_false q.1.2.2
  omega
theorem rep_in {a b x : Int} (h0 : genV (gOne a b) = 0) (h1 : 0 ≤ x) (h2 : x ≤ b - a) : repV (gOne a b) [x] = .ok (.node false (a + x) []) := by
  have hm : mendL (gOne a b) [x] = [x] := by
    rw [mend_one h0]
    simp [mendX]
    omega
  obtain ⟨v, r, h3, _⟩ := mend_run (t := gOne a b) [x] h0
  have h4 : play mendC (gOne a b) [x] = .ok ([mendX [x] (b - a)], .node false (a + mendX [x] (b - a)) [], []) := by simp [play, mendC]
  have hx : mendX [x] (b - a) = x := by simp [mendX]; omega
  rw [hx] at h4
  have h2 := mend_read (gen_right h0).1 h4 []
  rw [List.append_nil] at h2
  unfold repV repG
  rw [if_pos h0, h2]
  rfl
theorem roseE_in {a b x : Int} (h0 : genV (gOne a b) = 0) (h1 : 0 ≤ x) (h2 : x ≤ b - a) : roseE (gOne a b) [x] = 0 := by
  unfold roseE; rw [rep_in h0 h1 h2]; rfl
theorem num_edge (e y : Int) (h : -9223372036854775808 ≤ y ∧ y ≤ 9223372036854775807) : numE (.node false y []) (fEdge e) = some (one (decide (y < e))) := by
  have h1 : sumT (.node false y []) = y := by
    show wrap64 (0 + y) = y
    unfold wrap64
    omega
  have h2 : numE (.node false y []) (fEdge e) = some (one (decide (sumT (.node false y []) < e))) := rfl
  rw [h2, h1]
theorem bad_edge {a b x : Int} (e : Int) (h0 : genV (gOne a b) = 0) (h1 : 0 ≤ x) (h2 : x ≤ b - a) : badT (gOne a b) (fEdge e) [x] = decide (e ≤ a + x) := by
  have hr := one_range h0
  unfold badT
  rw [rep_in h0 h1 h2]
  show badN (numE (.node false (a + x) []) (fEdge e)) = _
  rw [num_edge e (a + x) (by omega)]
  show (one (decide (a + x < e)) == 0) = _
  by_cases h : a + x < e
  · rw [decide_eq_true h, decide_eq_false (by omega)]; rfl
  · rw [decide_eq_false h, decide_eq_true (by omega)]; rfl
theorem edge_step {a b x : Int} (e : Int) (h0 : genV (gOne a b) = 0) (h1 : 0 ≤ x) (h2 : x ≤ b - a) :
    stepT (gOne a b) (fEdge e) [x] = if x = 0 then none else if e ≤ a then some [0] else if e ≤ a + x / 2 then some [x / 2] else if e ≤ a + (x - 1) then some [x - 1] else none := by
  unfold stepT
  rw [rose_one (roseE_in h0 h1 h2)]
  by_cases hx : x = 0
  · rw [if_pos hx, if_pos hx]; rfl
  · rw [if_neg hx, if_neg hx]
    have b0 := bad_edge (x := 0) e h0 (by omega) (by omega)
    have b1 := bad_edge (x := x / 2) e h0 (by omega) (by omega)
    have b2 := bad_edge (x := x - 1) e h0 (by omega) (by omega)
    rw [show a + 0 = a by omega] at b0
    simp only [List.find?, b0, b1, b2]
    by_cases c0 : e ≤ a
    · simp [c0]
    · by_cases c1 : e ≤ a + x / 2
      · simp [c0, c1]
      · by_cases c2 : e ≤ a + (x - 1)
        · simp [c0, c1, c2]
        · simp [c0, c1, c2]
/-- the edge is found -/
theorem edge_walk {a b : Int} (e : Int) (h0 : genV (gOne a b) = 0) : ∀ (n : Nat) (x : Int), x.toNat ≤ n → 0 ≤ x → x ≤ b - a → e ≤ a + x → (walkT (gOne a b) (fEdge e) [x]).1 = [max a e - a]
  | n, x, hn, h1, h2, h3 => by
    have hz := roseE_in h0 h1 h2
    have hs := edge_step e h0 h1 h2
    have go : ∀ y : Int, 0 ≤ y → y < x → e ≤ a + y → stepT (gOne a b) (fEdge e) [x] = some [y] → (walkT (gOne a b) (fEdge e) [x]).1 = [max a e - a] := fun y hy0 hy1 hy2 hst => by
      rw [walk_step hz hst]
      cases n with
      | zero => omega
      | succ n => exact edge_walk e h0 n y (by omega) hy0 (by omega) hy2
    have stop : stepT (gOne a b) (fEdge e) [x] = none → x = max a e - a → (walkT (gOne a b) (fEdge e) [x]).1 = [max a e - a] := fun hst hx => by
      rw [walk_stop hz hst, ← hx]
    by_cases hx : x = 0
    · rw [if_pos hx] at hs
      exact stop hs (by omega)
    · rw [if_neg hx] at hs
      by_cases c0 : e ≤ a
      · rw [if_pos c0] at hs
        exact go 0 (by omega) (by omega) (by omega) hs
      · rw [if_neg c0] at hs
        by_cases c1 : e ≤ a + x / 2
        · rw [if_pos c1] at hs
          exact go (x / 2) (by omega) (by omega) c1 hs
        · rw [if_neg c1] at hs
          by_cases c2 : e ≤ a + (x - 1)
          · rw [if_pos c2] at hs
            exact go (x - 1) (by omega) (by omega) c2 hs
          · rw [if_neg c2] at hs
            exact stop hs (by omega)
/-- what a walk of one number tells -/
theorem edge_told {a b e x : Int} (hs : startE (gOne a b) (fEdge e) [x] = 0) : genV (gOne a b) = 0 ∧ 0 ≤ x ∧ x ≤ b - a ∧ e ≤ a + x ∧ (walkV (gOne a b) (fEdge e) [x]).1 = [max a e - a] := by
  obtain ⟨h0, _, hz, hb⟩ := start_ok hs
  obtain ⟨_, h1, h2⟩ := one_right hz
  rw [bad_edge e h0 h1 h2, decide_eq_true_eq] at hb
  exact ⟨h0, h1, h2, hb, by rw [walkV_ok hs]; exact edge_walk e h0 _ x (Nat.le_refl _) h1 h2 hb⟩
theorem edge_not {a b e x : Int} (hs : ¬ startE (gOne a b) (fEdge e) [x] = 0) (h0 : genV (gOne a b) = 0) : x < 0 ∨ b - a < x ∨ a + x < e := by
  by_cases h1 : 0 ≤ x
  · by_cases h2 : x ≤ b - a
    · refine .inr (.inr ?_)
      by_cases h3 : e ≤ a + x
      · exact absurd (start_of (edge_ok e) (roseE_in h0 h1 h2) (by rw [bad_edge e h0 h1 h2, decide_eq_true h3])) hs
      · omega
    · exact .inr (.inl (by omega))
  · exact .inl (by omega)
end Go.Proofs.YtfpbegagblekiaaDoor.Gens

/- Expressions that the statements build, of constants. Conditions: the program's table. -/
namespace Go.Proofs.YtfpbegagblekiaaDoor.Exprs
open Go.RowKit Go.ChangeShapes Go.WideShapes Lists Gens Rng Vals
set_option linter.unusedVariables false

theorem eat_leaf {w : World} {S : Nat → Prop} {n : Nat} (k a b : Int) (hk : EWf k) (ha : EWf a) (c : Nat) : EAt w S (n + 1) (.agg #[.int .i64 k, .int .i64 a, .slice none 0 c]) (.node k a b []) :=
  ⟨⟨hk, ha⟩, none, c, rfl, Nat.zero_le _, fun hp => by simp [Gn.subs] at hp⟩
/-- a new row of one part, or two -/
theorem eat_one {w : World} {b n : Nat} {x : Gn} {A : Option Addr} {c cc : Nat} {T : TypeId} (k a : Int) (hk : EWf k) (ha : EWf a) (hr : w.heap[b]? = some (.cells #[.int .i64 x.kind, .int .i64 x.a, .slice A x.subs.length c] T (0, 0)))
    (hx : EAt w (EBel w.heap.size) n (ev x A c) x) (hc : 1 ≤ cc) : EAt w (EBel w.heap.size) (n + 1) (.agg #[.int .i64 k, .int .i64 a, .slice (some ⟨b, 0, none⟩) 1 cc]) (.node k a 0 [x]) := by
  refine ⟨⟨hk, ha⟩, some ⟨b, 0, none⟩, cc, rfl, hc, fun _ => ⟨b, 0, rfl, (Array.getElem?_eq_some_iff.1 hr).1, fun j hj => ?_⟩⟩
  obtain rfl : j = 0 := by simp [Gn.subs] at hj; exact hj
  exact ⟨_, _, _, by rw [Lib.cell_of_heap hr]; rfl, by rw [Lib.cell_of_heap hr]; rfl, by rw [Lib.cell_of_heap hr]; rfl, hx⟩
theorem eat_two {w : World} {b n : Nat} {x y : Gn} {A D : Option Addr} {c d cc : Nat} {T : TypeId} (k a : Int) (hk : EWf k) (ha : EWf a) (hr : w.heap[b]? = some (.cells #[.int .i64 x.kind, .int .i64 x.a, .slice A x.subs.length c, .int .i64 y.kind, .int .i64 y.a, .slice D y.subs.length d] T (0, 0)))
    (hx : EAt w (EBel w.heap.size) n (ev x A c) x) (hy : EAt w (EBel w.heap.size) n (ev y D d) y) (hc : 2 ≤ cc) : EAt w (EBel w.heap.size) (n + 1) (.agg #[.int .i64 k, .int .i64 a, .slice (some ⟨b, 0, none⟩) 2 cc]) (.node k a 0 [x, y]) := by
  refine ⟨⟨hk, ha⟩, some ⟨b, 0, none⟩, cc, rfl, hc, fun _ => ⟨b, 0, rfl, (Array.getElem?_eq_some_iff.1 hr).1, fun j hj => ?_⟩⟩
  have : j = 0 ∨ j = 1 := by simp [Gn.subs] at hj; omega
  rcases this with rfl | rfl
  · exact ⟨_, _, _, by rw [Lib.cell_of_heap hr]; rfl, by rw [Lib.cell_of_heap hr]; rfl, by rw [Lib.cell_of_heap hr]; rfl, hx⟩
  · exact ⟨_, _, _, by rw [Lib.cell_of_heap hr]; rfl, by rw [Lib.cell_of_heap hr]; rfl, by rw [Lib.cell_of_heap hr]; rfl, hy⟩
set_option maxHeartbeats 1000000 in
set_option maxRecDepth 100000 in
theorem asked_ok (w : World) (hsub : Subs w) : Calls Tryd.prog 17 #[] w fun e w' => e = .returned (.bool true) ∧ Below w.heap.size w w' := by
  have hb : Below w.heap.size w (w.alloc (.cells #[.int .i64 2, .int .i64 0, .slice none 0 0, .int .i64 1, .int .i64 2, .slice none 0 0] 45)) := (Below.refl _ _).alloc (Nat.le_refl _) _
  have hr := eheap_new w (.cells #[.int .i64 2, .int .i64 0, .slice none 0 0, .int .i64 1, .int .i64 2, .slice none 0 0] 45)
  have hx := eat_two (x := .node 2 0 0 []) (y := .node 1 2 0 []) (n := 1) 5 0 (by decide) (by decide) hr (eat_leaf 2 0 0 (by decide) (by decide) 0) (eat_leaf 1 2 0 (by decide) (by decide) 0) (Nat.le_refl 2)
  have hv : TAt (w.alloc (.cells #[.int .i64 2, .int .i64 0, .slice none 0 0, .int .i64 1, .int .i64 2, .slice none 0 0] 45)) (Bel (w.alloc (.cells #[.int .i64 2, .int .i64 0, .slice none 0 0, .int .i64 1, .int .i64 2, .slice none 0 0] 45)).heap.size) 1 (vv (.node false 3 []) none 0) (.node false 3 []) := ⟨by decide, none, 0, rfl, fun hp => by simp [Tr.items] at hp⟩
  have E1 := eval_any (g := .node 5 0 0 [.node 2 0 0 [], .node 1 2 0 []]) (t := .node false 3 []) _ hx hv (Nat.le_refl _) (by decide) (by decide) (hsub.below hb)
  rw [show evalN (.node 5 0 0 [.node 2 0 0 [], .node 1 2 0 []]) (.node false 3 []) = 5 by decide +kernel, show evalF (.node 5 0 0 [.node 2 0 0 [], .node 1 2 0 []]) (.node false 3 []) = 0 by decide +kernel, errOf_ok] at E1
  have E1 := Lib.hid E1
  have HB := Lib.hid hb
  clear hb hr hx hv hsub
  go_enter Tryd.func17, Tryd.ntmps17
  go_wp2_with fail
  refine E1.out.mono ?_
  rintro e w1 ⟨rfl, b1⟩
  have B1 := Lib.hid (on HB.out b1)
  clear b1
  go_wp2_with fail
  go_ret
  exact ⟨rfl, B1.out⟩
/-- a number of its own, of the value of nothing -/
theorem seven_ok (w : World) (hsub : Subs w) : Calls Tryd.prog 29 #[.agg #[.int .i64 1, .int .i64 7, .slice none 0 0], .agg #[.bool false, .int .i64 0, .slice none 0 0]] w fun e w' => e = .returned (.tuple #[.int .i64 7, .nilIface]) ∧ Below w.heap.size w w' := by
  have hv : TAt w (Bel w.heap.size) 1 (vv (.node false 0 []) none 0) (.node false 0 []) := ⟨by decide, none, 0, rfl, fun hp => by simp [Tr.items] at hp⟩
  have hx : EAt w (EBel w.heap.size) 1 (ev (.node 1 7 0 []) none 0) (.node 1 7 0 []) := eat_leaf 1 7 0 (by decide) (by decide) 0
  have E1 := eval_any (g := .node 1 7 0 []) (t := .node false 0 []) w hx hv (Nat.le_refl _) (by decide) (by decide) hsub
  rw [show evalN (.node 1 7 0 []) (.node false 0 []) = 7 by decide +kernel, show evalF (.node 1 7 0 []) (.node false 0 []) = 0 by decide +kernel, errOf_ok] at E1
  exact E1
end Go.Proofs.YtfpbegagblekiaaDoor.Exprs

/- A generator without parts, in memory. -/
namespace Go.Proofs.YtfpbegagblekiaaDoor.Gens
open Go.RowKit
set_option linter.unusedVariables false
theorem gat_leaf {w : World} {B : Nat} {k a b : Int} (hk : Wf k) (ha : Wf a) (hb : Wf b) : GAt w (GBel B) 1 (.agg #[.int .i64 k, .int .i64 a, .int .i64 b, .slice none 0 0]) (.node k a b []) :=
  ⟨⟨hk, ha, hb⟩, none, 0, rfl, Nat.le_refl _, fun hp => by simp [Gn.subs] at hp⟩
end Go.Proofs.YtfpbegagblekiaaDoor.Gens
