/- RunsFail, part 49 of the proof: Expressions that the statements build, of constants. Conditions: the program's table. · A generator without parts, in memory. · The statements' own 'coin' and 'made'. · Contract of assayersame.Ints: it draws its order. Conditions: none but that the slices' cells are known. -/
import Derived.Test.YtabkihellcflhaaDoorRunsFailZ33
import Derived.Test.YtabkihellcflhaaDoorRunsFailZ2
import Derived.Test.YtabkihellcflhaaDoorRunsFailZ35
import Derived.Test.YtabkihellcflhaaDoorRunsFailZ3
import Derived.Test.YtabkihellcflhaaDoorRunsFailZ12
/- Expressions that the statements build, of constants. Conditions: the program's table. -/
namespace Go.Proofs.YtabkihellcflhaaDoor.Exprs
open Go.RowKit Go.ChangeShapes Go.WideShapes Lists Gens Rng Vals
set_option linter.unusedVariables false

theorem eat_leaf {w : World} {S : Nat → Prop} {n : Nat} (k a b : Int) (hk : EWf k) (ha : EWf a) (c : Nat) : EAt w S (n + 1) (.agg #[.int .i64 k, .int .i64 a, .slice none 0 c]) (.node k a b []) :=
  ⟨⟨hk, ha⟩, none, c, rfl, Nat.zero_le _, fun hp => by simp [Gn.subs] at hp⟩
/-- a new row of one part, or two -/
theorem eat_one {w : World} {b n : Nat} {x : Gn} {A : Option Addr} {c cc : Nat} {T : TypeId} (k a : Int) (hk : EWf k) (ha : EWf a) (hr : w.heap[b]? = some (.cells #[.int .i64 x.kind, .int .i64 x.a, .slice A x.subs.length c] T (0, 0)))
    (hx : EAt w (EBel w.heap.size) n (ev x A c) x) (hc : 1 ≤ cc) : EAt w (EBel w.heap.size) (n + 1) (.agg #[.int .i64 k, .int .i64 a, .slice (some ⟨b, 0, none⟩) 1 cc]) (.node k a 0 [x]) := by
  refine ⟨⟨hk, ha⟩, some ⟨b, 0, none⟩, cc, rfl, hc, fun _ => ⟨b, 0, rfl, (Array.getElem?_eq_some_iff.1 hr).1, fun j hj => ?_⟩⟩
  obtain rfl : j = 0 := by simp [Gn.subs] at hj; exact hj
  exact ⟨_, _, _, by rw [Lib.cell_of_heap hr]; rfl, by rw [Lib.cell_of_heap hr]; rfl, by rw [Lib.cell_of_heap hr]; rfl, hx⟩
theorem eat_two {w : World} {b n : Nat} {x y : Gn} {A D : Option Addr} {c d cc : Nat} {T : TypeId} (k a : Int) (hk : EWf k) (ha : EWf a) (hr : w.heap[b]? = some (.cells #[.int .i64 x.kind, .int .i64 x.a, .slice A x.subs.length c, .int .i64 y.kind, .int .i64 y.a, .slice D y.subs.length d] T (0, 0)))
    (hx : EAt w (EBel w.heap.size) n (ev x A c) x) (hy : EAt w (EBel w.heap.size) n (ev y D d) y) (hc : 2 ≤ cc) : EAt w (EBel w.heap.size) (n + 1) (.agg #[.int .i64 k, .int .i64 a, .slice (some ⟨b, 0, none⟩) 2 cc]) (.node k a 0 [x, y]) := by
  refine ⟨⟨hk, ha⟩, some ⟨b, 0, none⟩, cc, rfl, hc, fun _ => ⟨b, 0, rfl, (Array.getElem?_eq_some_iff.1 hr).1, fun j hj => ?_⟩⟩
  have : j = 0 ∨ j = 1 := by simp [Gn.subs] at hj; omega
  rcases this with rfl | rfl
  · exact ⟨_, _, _, by rw [Lib.cell_of_heap hr]; rfl, by rw [Lib.cell_of_heap hr]; rfl, by rw [Lib.cell_of_heap hr]; rfl, hx⟩
  · exact ⟨_, _, _, by rw [Lib.cell_of_heap hr]; rfl, by rw [Lib.cell_of_heap hr]; rfl, by rw [Lib.cell_of_heap hr]; rfl, hy⟩
set_option maxHeartbeats 1000000 in
set_option maxRecDepth 100000 in
theorem asked_ok (w : World) (hsub : Subs w) : Calls Tryd.prog 6 #[] w fun e w' => e = .returned (.bool true) ∧ Below w.heap.size w w' := by
  have hb : Below w.heap.size w (w.alloc (.cells #[.int .i64 2, .int .i64 0, .slice none 0 0, .int .i64 1, .int .i64 2, .slice none 0 0] 27)) := (Below.refl _ _).alloc (Nat.le_refl _) _
  have hr := eheap_new w (.cells #[.int .i64 2, .int .i64 0, .slice none 0 0, .int .i64 1, .int .i64 2, .slice none 0 0] 27)
  have hx := eat_two (x := .node 2 0 0 []) (y := .node 1 2 0 []) (n := 1) 5 0 (by decide) (by decide) hr (eat_leaf 2 0 0 (by decide) (by decide) 0) (eat_leaf 1 2 0 (by decide) (by decide) 0) (Nat.le_refl 2)
  have hv : TAt (w.alloc (.cells #[.int .i64 2, .int .i64 0, .slice none 0 0, .int .i64 1, .int .i64 2, .slice none 0 0] 27)) (Bel (w.alloc (.cells #[.int .i64 2, .int .i64 0, .slice none 0 0, .int .i64 1, .int .i64 2, .slice none 0 0] 27)).heap.size) 1 (vv (.node false 3 []) none 0) (.node false 3 []) := ⟨by decide, none, 0, rfl, fun hp => by simp [Tr.items] at hp⟩
  have E1 := eval_any (g := .node 5 0 0 [.node 2 0 0 [], .node 1 2 0 []]) (t := .node false 3 []) _ hx hv (Nat.le_refl _) (by decide) (by decide) (hsub.below hb)
  rw [show evalN (.node 5 0 0 [.node 2 0 0 [], .node 1 2 0 []]) (.node false 3 []) = 5 by decide +kernel, show evalF (.node 5 0 0 [.node 2 0 0 [], .node 1 2 0 []]) (.node false 3 []) = 0 by decide +kernel, errOf_ok] at E1
  have E1 := Lib.hid E1
  have HB := Lib.hid hb
  clear hb hr hx hv hsub
  go_enter Tryd.func6, Tryd.ntmps6
  go_wp2_with fail
  refine E1.out.mono ?_
  rintro e w1 ⟨rfl, b1⟩
  have B1 := Lib.hid (on HB.out b1)
  clear b1
  go_wp2_with fail
  go_ret
  exact ⟨rfl, B1.out⟩
/-- a number of its own, of the value of nothing -/
theorem seven_ok (w : World) (hsub : Subs w) : Calls Tryd.prog 13 #[.agg #[.int .i64 1, .int .i64 7, .slice none 0 0], .agg #[.bool false, .int .i64 0, .slice none 0 0]] w fun e w' => e = .returned (.tuple #[.int .i64 7, .nilIface]) ∧ Below w.heap.size w w' := by
  have hv : TAt w (Bel w.heap.size) 1 (vv (.node false 0 []) none 0) (.node false 0 []) := ⟨by decide, none, 0, rfl, fun hp => by simp [Tr.items] at hp⟩
  have hx : EAt w (EBel w.heap.size) 1 (ev (.node 1 7 0 []) none 0) (.node 1 7 0 []) := eat_leaf 1 7 0 (by decide) (by decide) 0
  have E1 := eval_any (g := .node 1 7 0 []) (t := .node false 0 []) w hx hv (Nat.le_refl _) (by decide) (by decide) hsub
  rw [show evalN (.node 1 7 0 []) (.node false 0 []) = 7 by decide +kernel, show evalF (.node 1 7 0 []) (.node false 0 []) = 0 by decide +kernel, errOf_ok] at E1
  exact E1
end Go.Proofs.YtabkihellcflhaaDoor.Exprs

/- A generator without parts, in memory. -/
namespace Go.Proofs.YtabkihellcflhaaDoor.Gens
open Go.RowKit
set_option linter.unusedVariables false
theorem gat_leaf {w : World} {B : Nat} {k a b : Int} (hk : Wf k) (ha : Wf a) (hb : Wf b) : GAt w (GBel B) 1 (.agg #[.int .i64 k, .int .i64 a, .int .i64 b, .slice none 0 0]) (.node k a b []) :=
  ⟨⟨hk, ha, hb⟩, none, 0, rfl, Nat.le_refl _, fun hp => by simp [Gn.subs] at hp⟩
end Go.Proofs.YtabkihellcflhaaDoor.Gens

/- The statements' own 'coin' and 'made'. -/
namespace Go.Proofs.YtabkihellcflhaaDoor.Gens
open Go.RowKit Lists Ints Vals
set_option linter.unusedVariables false

theorem coin_ok (w : World) : Calls Tryd.prog 12 #[] w fun e w' => e = .returned (.agg #[.int .i64 2, .int .i64 3, .int .i64 4, .slice none 0 0]) ∧ Below w.heap.size w w' := by
  go_enter Tryd.func12, Tryd.ntmps12
  go_wp2_with fail
  refine bodyPost_ret (v := .agg #[.int .i64 2, .int .i64 3, .int .i64 4, .slice none 0 0]) (by simp [results, Tryd.results12, go_sem]) rfl ⟨rfl, ?_⟩
  repeat (first | exact Below.refl _ _ | refine Below.alloc ?_ (Nat.le_refl _) _ | refine Below.setCell ?_ (Nat.le_refl w.heap.size) _)

set_option maxHeartbeats 2000000 in
set_option maxRecDepth 100000 in
theorem made_ok (w : World) : Calls Tryd.prog 5 #[] w fun e w' => e = .returned (.bool true) ∧ Below w.heap.size w w' := by
  have CC := Lib.hid (coin_ok w)
  have RR := Lib.hid (fun (W : World) (hb : Below w.heap.size w W) (L : Option Addr) (lc : Nat) (ha : At W W.heap.size L [1]) (hc : 1 ≤ lc) => replay_prog (n := 1) (g := .node 2 3 4 []) (l := [1]) W (gat_leaf (by decide) (by decide) (by decide)) ha hc (by decide) (by decide))
  rw [show repV (.node 2 3 4 []) [1] = .ok (.node false 4 []) by rfl] at RR
  go_enter Tryd.func5, Tryd.ntmps5
  go_wp2_with fail
  refine CC.out.mono ?_
  rintro e w1 ⟨rfl, hb1⟩
  have B1 := Lib.hid hb1
  have A1 := Lib.hid (At.one_new w1 1)
  have B2 := Lib.hid (hb1.trans ((Below.refl w1.heap.size w1).alloc (Nat.le_refl _) (.cells #[.int .i64 1] 3) |>.mono hb1.size))
  clear hb1 CC
  go_wp2_with fail
  have z1 : (w1.alloc (.cells #[.int .i64 1] 3)).heap.size = w1.heap.size + 1 := by simp
  refine (RR.out (w1.alloc (.cells #[.int .i64 1] 3)) B2.out (some ⟨w1.heap.size, 0, none⟩) 1 (by rw [z1]; exact A1.out) (Nat.le_refl _)).mono ?_
  rintro e w3 ⟨A3, c3, rfl, ht, hn, hb3⟩
  have B3 := Lib.hid (below_trans B2.out hb3)
  clear RR ht hn hb3 z1
  simp only [trOf, errI, tval, Tr.list, Tr.num, Tr.items, List.length_nil, errOf_ok]
  go_wp2_with fail
  go_ret
  exact ⟨rfl, Below.alloc B3.out (by have := B3.out.size; omega) _⟩
end Go.Proofs.YtabkihellcflhaaDoor.Gens

/- Contract of assayersame.Ints: it draws its order. Conditions: none but that the slices' cells are known. -/
namespace Go.Proofs.YtabkihellcflhaaDoor.Ints
open Go.RowKit Go.WideShapes Go.ChangeShapes Lists
set_option linter.unusedVariables false

/-! assayersame.Ints: it draws its order -/
theorem same_any (l m : List Int) (A B : Option Addr) (c d N : Nat) (hl : l.length ≤ maxLen) (hm : m.length ≤ maxLen) (w : World) (ha : At w N A l) (hb : At w N B m) :
    Calls Tryd.prog 10 #[.slice A l.length c, .slice B m.length d] w fun e w' => e = .returned (.bool (decide (l = m))) ∧ ∃ n, w' = w.drewN n := by
  unfold maxLen at hl hm
  have HA := Lib.hid ha
  have HB := Lib.hid hb
  clear ha hb
  by_cases e : l.length = m.length
  · have ht : (((l.length : Nat) : Int) != ((m.length : Nat) : Int)) = false := by rw [bne_eq_false_iff_eq]; omega
    have hml : m.length ≤ l.length := by omega
    have hlm : l.length ≤ m.length := by omega
    have E := Lib.hid e
    clear e
    go_enter Tryd.func10, Tryd.ntmps10
    go_wp2
    go_loopw [5] (fun i wr => ∃ k n : Nat, k ≤ l.length ∧ i = .int .i64 k ∧ wr = w.drewN n ∧ Hid (l.take k = m.take k)) (fun i _ => l.length - (intOf i).toNat)
    case atStart => exact ⟨0, 0, Nat.zero_le _, rfl, rfl, rfl⟩
    case round =>
      obtain ⟨k, n, hk, rfl, rfl, ht2⟩ := hrel
      by_cases h1 : k < l.length
      · have h2 : k < m.length := by omega
        obtain ⟨b, off, rfl, _, hcell⟩ := HA.out (by omega)
        have c1 := hcell k h1
        clear hcell
        obtain ⟨b2, off2, rfl, _, hcell2⟩ := HB.out (by omega)
        have c2 := hcell2 k h2
        clear hcell2
        have t1 := Lib.hid (take_getD l k h1)
        have t2 := Lib.hid (take_getD m k h2)
        generalize hx : l.getD k 0 = x at c1 t1
        generalize hy : m.getD k 0 = y at c2 t2
        have HX := Lib.hid hx
        have HY := Lib.hid hy
        clear hx hy
        by_cases h : x = y
        · subst h
          have hv := Lib.hid (show l.take (k + 1) = m.take (k + 1) by rw [t1.out, t2.out, ht2.out])
          have h1' : (k : Int) < l.length := by omega
          have h2' : (k : Int) < m.length := by omega
          go_wp2
          go_quiet (fail)
          go_wp2
          go_roundw
          case rel => exact ⟨k + 1, _, by omega, by go_num, rfl, hv.out⟩
          case measure => simp [intOf]; omega
        · have hv := Lib.hid (show decide (l = m) = false by
            rw [decide_eq_false]; intro z; subst z; exact h (HX.out.symm.trans HY.out))
          have ht3 : (x != y) = true := by rw [bne_iff_ne]; exact h
          clear h
          go_wp2
          go_quiet (fail)
          go_wp2
          go_ret
          exact ⟨ret_b hv.out.symm, _, World.drewN_drewN _ _ _⟩
      · have hv := Lib.hid (show decide (l = m) = true by
          rw [decide_eq_true_eq, ← List.take_of_length_le (show l.length ≤ k by omega), ht2.out, List.take_of_length_le (by omega)])
        go_wp2
        go_ret
        exact ⟨ret_b hv.out.symm, _, rfl⟩
  · have ht : (((l.length : Nat) : Int) != ((m.length : Nat) : Int)) = true := by rw [bne_iff_ne]; omega
    have hv := Lib.hid (show decide (l = m) = false by rw [decide_eq_false]; intro z; subst z; exact e rfl)
    clear e
    go_enter Tryd.func10, Tryd.ntmps10
    go_wp2
    go_ret
    exact ⟨ret_b hv.out.symm, 0, rfl⟩
theorem same_below (l m : List Int) (A B : Option Addr) (c d N : Nat) (hl : l.length ≤ maxLen) (hm : m.length ≤ maxLen) (w : World) (ha : At w N A l) (hb : At w N B m) :
    Calls Tryd.prog 10 #[.slice A l.length c, .slice B m.length d] w fun e w' => e = .returned (.bool (decide (l = m))) ∧ Below w.heap.size w w' :=
  (same_any l m A B c d N hl hm w ha hb).mono fun _ _ ⟨h, n, h'⟩ => ⟨h, h' ▸ ⟨rfl, rfl, rfl, Nat.le_refl _, fun _ _ => rfl⟩⟩
end Go.Proofs.YtabkihellcflhaaDoor.Ints
