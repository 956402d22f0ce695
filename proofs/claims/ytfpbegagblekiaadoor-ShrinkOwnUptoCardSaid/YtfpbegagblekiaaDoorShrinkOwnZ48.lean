/- ShrinkOwn, part 48 of the proof: Expressions that the statements build, of constants. Conditions: the program's table. -/
import Derived.Test.YtfpbegagblekiaaDoorShrinkOwnZ34
/- Expressions that the statements build, of constants. Conditions: the program's table. -/
namespace Go.Proofs.YtfpbegagblekiaaDoor.Exprs
open Go.RowKit Go.ChangeShapes Go.WideShapes Lists Gens Rng Vals
set_option linter.unusedVariables false

theorem eat_leaf {w : World} {S : Nat → Prop} {n : Nat} (k a b : Int) (hk : EWf k) (ha : EWf a) (c : Nat) : EAt w S (n + 1) (.agg #[.int .i64 k, .int .i64 a, .slice none 0 c]) (.node k a b []) :=
  ⟨⟨hk, ha⟩, none, c, rfl, Nat.zero_le _, fun hp => by simp [Gn.subs] at hp⟩
/-- a new row of one part, or two -/
theorem eat_one {w : World} {b n : Nat} {x : Gn} {A : Option Addr} {c cc : Nat} {T : TypeId} (k a : Int) (hk : EWf k) (ha : EWf a) (hr : w.heap[b]? = some (.cells #[.int .i64 x.kind, .int .i64 x.a, .slice A x.subs.length c] T (0, 0)))
    (hx : EAt w (EBel w.heap.size) n (ev x A c) x) (hc : 1 ≤ cc) : EAt w (EBel w.heap.size) (n + 1) (.agg #[.int .i64 k, .int .i64 a, .slice (some ⟨b, 0, none⟩) 1 cc]) (.node k a 0 [x]) := by
  refine ⟨⟨hk, ha⟩, some ⟨b, 0, none⟩, cc, rfl, hc, fun _ => ⟨b, 0, rfl, (Array.getElem?_eq_some_iff.1 hr).1, fun j hj => ?_⟩⟩
  obtain rfl : j = 0 := by simp [Gn.subs] at hj; exact hj
  exact ⟨_, _, _, by rw [Lib.cell_of_heap hr]; rfl, by rw [Lib.cell_of_heap hr]; rfl, by rw [Lib.cell_of_heap hr]; rfl, hx⟩
theorem eat_two {w : World} {b n : Nat} {x y : Gn} {A D : Option Addr} {c d cc : Nat} {T : TypeId} (k a : Int) (hk : EWf k) (ha : EWf a) (hr : w.heap[b]? = some (.cells #[.int .i64 x.kind, .int .i64 x.a, .slice A x.subs.length c, .int .i64 y.kind, .int .i64 y.a, .slice D y.subs.length d] T (0, 0)))
    (hx : EAt w (EBel w.heap.size) n (ev x A c) x) (hy : EAt w (EBel w.heap.size) n (ev y D d) y) (hc : 2 ≤ cc) : EAt w (EBel w.heap.size) (n + 1) (.agg #[.int .i64 k, .int .i64 a, .slice (some ⟨b, 0, none⟩) 2 cc]) (.node k a 0 [x, y]) := by
  refine ⟨⟨hk, ha⟩, some ⟨b, 0, none⟩, cc, rfl, hc, fun _ => ⟨b, 0, rfl, (Array.getElem?_eq_some_iff.1 hr).1, fun j hj => ?_⟩⟩
  have : j = 0 ∨ j = 1 := by simp [Gn.subs] at hj; omega
  rcases this with rfl | rfl
  · exact ⟨_, _, _, by rw [Lib.cell_of_heap hr]; rfl, by rw [Lib.cell_of_heap hr]; rfl, by rw [Lib.cell_of_heap hr]; rfl, hx⟩
  · exact ⟨_, _, _, by rw [Lib.cell_of_heap hr]; rfl, by rw [Lib.cell_of_heap hr]; rfl, by rw [Lib.cell_of_heap hr]; rfl, hy⟩
set_option maxHeartbeats 1000000 in
set_option maxRecDepth 100000 in
theorem asked_ok (w : World) (hsub : Subs w) : Calls Tryd.prog 17 #[] w fun e w' => e = .returned (.bool true) ∧ Below w.heap.size w w' := by
  have hb : Below w.heap.size w (w.alloc (.cells #[.int .i64 2, .int .i64 0, .slice none 0 0, .int .i64 1, .int .i64 2, .slice none 0 0] 45)) := (Below.refl _ _).alloc (Nat.le_refl _) _
  have hr := eheap_new w (.cells #[.int .i64 2, .int .i64 0, .slice none 0 0, .int .i64 1, .int .i64 2, .slice none 0 0] 45)
  have hx := eat_two (x := .node 2 0 0 []) (y := .node 1 2 0 []) (n := 1) 5 0 (by decide) (by decide) hr (eat_leaf 2 0 0 (by decide) (by decide) 0) (eat_leaf 1 2 0 (by decide) (by decide) 0) (Nat.le_refl 2)
  have hv : TAt (w.alloc (.cells #[.int .i64 2, .int .i64 0, .slice none 0 0, .int .i64 1, .int .i64 2, .slice none 0 0] 45)) (Bel (w.alloc (.cells #[.int .i64 2, .int .i64 0, .slice none 0 0, .int .i64 1, .int .i64 2, .slice none 0 0] 45)).heap.size) 1 (vv (.node false 3 []) none 0) (.node false 3 []) := ⟨by decide, none, 0, rfl, fun hp => by simp [Tr.items] at hp⟩
  have E1 := eval_any (g := .node 5 0 0 [.node 2 0 0 [], .node 1 2 0 []]) (t := .node false 3 []) _ hx hv (Nat.le_refl _) (by decide) (by decide) (hsub.below hb)
  rw [show evalN (.node 5 0 0 [.node 2 0 0 [], .node 1 2 0 []]) (.node false 3 []) = 5 by decide +kernel, show evalF (.node 5 0 0 [.node 2 0 0 [], .node 1 2 0 []]) (.node false 3 []) = 0 by decide +kernel, errOf_ok] at E1
  have E1 := Lib.hid E1
  have HB := Lib.hid hb
  clear hb hr hx hv hsub
  go_enter Tryd.func17, Tryd.ntmps17
  go_wp2_with fail
  refine E1.out.mono ?_
  rintro e w1 ⟨rfl, b1⟩
  have B1 := Lib.hid (on HB.out b1)
  clear b1
  go_wp2_with fail
  go_ret
  exact ⟨rfl, B1.out⟩
/-- a number of its own, of the value of nothing -/
theorem seven_ok (w : World) (hsub : Subs w) : Calls Tryd.prog 29 #[.agg #[.int .i64 1, .int .i64 7, .slice none 0 0], .agg #[.bool false, .int .i64 0, .slice none 0 0]] w fun e w' => e = .returned (.tuple #[.int .i64 7, .nilIface]) ∧ Below w.heap.size w w' := by
  have hv : TAt w (Bel w.heap.size) 1 (vv (.node false 0 []) none 0) (.node false 0 []) := ⟨by decide, none, 0, rfl, fun hp => by simp [Tr.items] at hp⟩
  have hx : EAt w (EBel w.heap.size) 1 (ev (.node 1 7 0 []) none 0) (.node 1 7 0 []) := eat_leaf 1 7 0 (by decide) (by decide) 0
  have E1 := eval_any (g := .node 1 7 0 []) (t := .node false 0 []) w hx hv (Nat.le_refl _) (by decide) (by decide) hsub
  rw [show evalN (.node 1 7 0 []) (.node false 0 []) = 7 by decide +kernel, show evalF (.node 1 7 0 []) (.node false 0 []) = 0 by decide +kernel, errOf_ok] at E1
  exact E1
end Go.Proofs.YtfpbegagblekiaaDoor.Exprs
