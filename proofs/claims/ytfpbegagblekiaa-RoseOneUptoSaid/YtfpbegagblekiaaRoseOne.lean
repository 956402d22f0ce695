/- RoseOne: the walk. Conditions: none but the machine's integers. -/
import Derived.Test.YtfpbegagblekiaaRoseLaw
import Derived.Test.YtfpbegagblekiaaMade
import Derived.Test.YtfpbegagblekiaaLeaf
namespace Go.Proofs.Ytfpbegagblekiaa.RoOneLaw
open Go.RowKit Lists Ints Vals Gens
set_option linter.unusedVariables false

theorem at_one {w : World} {b B : Nat} {x : Int} {T : TypeId} (hB : b < B) (h : w.heap[b]? = some (.cells #[.int .i64 x] T (0, 0))) : At w B (some ⟨b, 0, none⟩) [x] := fun hp => by
  refine ⟨b, 0, rfl, hB, fun j hj => ?_⟩
  have hj : j = 0 := by simpa using hj
  subst hj
  rw [Lib.cell_of_heap h]; rfl
/-- a row of one number, read -/
theorem row_one {w : World} {b off j B : Nat} {y : Int} {D : Option Addr} {d : Nat} (h : w.cell? ⟨b, off + j, none⟩ = some (.slice D [y].length d)) (h2 : AtP w (· < B) D [y]) :
    ∃ g o, w.cell? ⟨b, off + j, none⟩ = some (.slice (some ⟨g, o, none⟩) 1 d) ∧ w.cell? ⟨g, o, none⟩ = some (.int .i64 y) := by
  obtain ⟨g, o, rfl, _, hc⟩ := h2 (by simp)
  exact ⟨g, o, h, by simpa using hc 0 (by simp)⟩
/-- what Less tells of one number -/
def OneOut (z : List (List Int)) (q : Int) (w : World) (e : Ending) (w' : World) : Prop := ∃ (A : Option Addr) (c : Nat), e = .returned (.tuple #[.slice A z.length c, errOf q]) ∧ RowsAt w' w'.heap.size A z ∧ Below w.heap.size w w'
theorem one_call (a b x : Int) (ha : Wf a) (hb : Wf b) (w : World) (g : Nat) (hg : w.heap[g]? = some (.cells #[.int .i64 x] 3 (0, 0))) :
    Calls Try.prog 8 #[.agg #[.int .i64 2, .int .i64 a, .int .i64 b, .slice none 0 0], .slice (some ⟨g, 0, none⟩) 1 1] w (OneOut (roseV (.node 2 a b []) [x]) (roseE (.node 2 a b []) [x]) w) := by
  have h := rose_prog (n := 1) (t := .node 2 a b []) (L := some ⟨g, 0, none⟩) (l := [x]) (lc := 1) w (gat_leaf (by decide) ha hb) (at_one (Array.getElem?_eq_some_iff.1 hg).1 hg) (by simp) (by simp) (by simp [Gn.size, gsizes])
  refine Calls.mono h ?_
  rintro e w' ⟨A, c, rfl, ho, hb⟩
  exact ⟨A, c, rfl, ho.at_, hb⟩

set_option maxHeartbeats 4000000 in
set_option maxRecDepth 100000 in
theorem walk (a b x : Int) (hbulk : 0 + 0 ≤ 1048576) (w : World) (wa : (Lit.int .i64 a).wf = true) (wb : (Lit.int .i64 b).wf = true) (wx : (Lit.int .i64 x).wf = true) :
    Calls Try.prog 4 #[.int .i64 a, .int .i64 b, .int .i64 x] w fun e w' => e = .returned (.bool true) ∧ Below w.heap.size w w' := by
  have JC := Lib.hid (fun (w : World) => made_ok w)
  have C := Lib.hid (fun (W : World) (g : Nat) hg => one_call a b x wa wb W g hg)
  have FE := Lib.hid (show roseE (.node 2 a b []) [x] = 0 → 0 ≤ x ∧ x ≤ 1000 ∧ roseV (.node 2 a b []) [x] = if x = 0 then [] else [[0], [x / 2], [x - 1], [0]] from fun h => by
    obtain ⟨h0, h1, h2⟩ := one_right h
    have h3 := one_bounds h0
    refine ⟨h1, by omega, ?_⟩
    unfold roseV
    rw [if_pos h, rose_one h])
  have FN := Lib.hid (show ¬ roseE (.node 2 a b []) [x] = 0 → roseV (.node 2 a b []) [x] = [] from fun h => by unfold roseV; rw [if_neg h])
  clear wa wb wx
  generalize roseE (.node 2 a b []) [x] = q at *
  generalize roseV (.node 2 a b []) [x] = z at *
  go_enter Try.func4, Try.ntmps4
  go_wp2_with fail
  refine (JC.out _).mono ?_
  rintro e w1 ⟨rfl, hb1⟩
  have B1 := Lib.hid hb1
  have HN := Lib.hid (show ((w1.alloc (.cells #[.int .i64 2, .int .i64 a, .int .i64 b, .slice none 0 0] 24)).alloc (.cells #[.int .i64 x] 3)).heap[w1.heap.size + 1]? = some (.cells #[.int .i64 x] 3 (0, 0)) by
    have h := new_obj (w1.alloc (.cells #[.int .i64 2, .int .i64 a, .int .i64 b, .slice none 0 0] 24)) (.cells #[.int .i64 x] 3)
    rw [show (w1.alloc (.cells #[.int .i64 2, .int .i64 a, .int .i64 b, .slice none 0 0] 24)).heap.size = w1.heap.size + 1 by simp] at h
    exact h)
  have BN := Lib.hid (show Below w.heap.size w ((w1.alloc (.cells #[.int .i64 2, .int .i64 a, .int .i64 b, .slice none 0 0] 24)).alloc (.cells #[.int .i64 x] 3)) from below_trans hb1 (((Below.refl _ _).alloc (Nat.le_refl _) _).alloc (by simp) _))
  clear hb1
  go_wp2_with fail
  generalize ((w1.alloc (.cells #[.int .i64 2, .int .i64 a, .int .i64 b, .slice none 0 0] 24)).alloc (.cells #[.int .i64 x] 3)) = w2 at *
  refine (C.out _ _ HN.out).mono ?_
  rintro e w3 ⟨A3, c3, rfl, hr3, hb3⟩
  have B3 := Lib.hid (below_trans BN.out hb3)
  have R3 := Lib.hid hr3
  clear hb3 hr3
  by_cases hq : q = 0
  · obtain ⟨x0, x1, ez⟩ := FE.out hq
    rw [hq, errOf_ok]
    clear hq C HN FN FE
    by_cases hx : x = 0
    · rw [if_pos hx] at ez
      subst ez
      subst hx
      go_wp2_with fail
      go_ret
      exact ⟨rfl, B3.out⟩
    · rw [if_neg hx] at ez
      subst ez
      have hx' : (x == 0) = false := by simpa using hx
      obtain ⟨rb, ro, rfl, _, hc⟩ := R3.out (by simp)
      obtain ⟨D0, d0, p0, _, p1⟩ := hc 0 (by simp)
      obtain ⟨D1, d1, q0, _, q1⟩ := hc 1 (by simp)
      obtain ⟨D2, d2, r0, _, r1⟩ := hc 2 (by simp)
      obtain ⟨D3, d3, s0, _, s1⟩ := hc 3 (by simp)
      obtain ⟨g0, o0, k0, l0⟩ := row_one (y := 0) p0 p1
      obtain ⟨g1, o1, k1, l1⟩ := row_one (y := x / 2) q0 q1
      obtain ⟨g2, o2, k2, l2⟩ := row_one (y := x - 1) r0 r1
      obtain ⟨g3, o3, k3, l3⟩ := row_one (y := 0) s0 s1
      simp only [Nat.add_zero] at k0
      clear hc p0 p1 q0 q1 r0 r1 s0 s1 R3 hx
      simp only [List.length_cons, List.length_nil, Nat.zero_add, Nat.reduceAdd]
      go_wp2_with fail
      go_ret
      exact ⟨ret_b (by simp), B3.out⟩
  · have ez := FN.out hq
    subst ez
    rw [errOf_no hq]
    clear hq C HN FE FN
    go_wp2_with fail
    go_ret
    exact ⟨rfl, B3.out⟩
end Go.Proofs.Ytfpbegagblekiaa.RoOneLaw
