/- ShrinkLeast, part 49 of the proof: The statements' own 'coin' and 'made'. · Contract of assayersame.Ints: it draws its order. Conditions: none but that the slices' cells are known. -/
import Derived.Test.YtfpbegagblekiaaDoorShrinkLeastZ36
import Derived.Test.YtfpbegagblekiaaDoorShrinkLeastZ48
import Derived.Test.YtfpbegagblekiaaDoorShrinkLeastZ4
import Derived.Test.YtfpbegagblekiaaDoorShrinkLeastZ14
/- The statements' own 'coin' and 'made'. -/
namespace Go.Proofs.YtfpbegagblekiaaDoor.Gens
open Go.RowKit Lists Ints Vals
set_option linter.unusedVariables false

theorem coin_ok (w : World) : Calls Tryd.prog 33 #[] w fun e w' => e = .returned (.agg #[.int .i64 2, .int .i64 3, .int .i64 4, .slice none 0 0]) ∧ Below w.heap.size w w' := by
  go_enter Tryd.func33, Tryd.ntmps33
  go_wp2_with fail
  refine bodyPost_ret (v := .agg #[.int .i64 2, .int .i64 3, .int .i64 4, .slice none 0 0]) (by simp [results, Tryd.results33, go_sem]) rfl ⟨rfl, ?_⟩
  repeat (first | exact Below.refl _ _ | refine Below.alloc ?_ (Nat.le_refl _) _ | refine Below.setCell ?_ (Nat.le_refl w.heap.size) _)

set_option maxHeartbeats 2000000 in
set_option maxRecDepth 100000 in
theorem made_ok (w : World) : Calls Tryd.prog 10 #[] w fun e w' => e = .returned (.bool true) ∧ Below w.heap.size w w' := by
  have CC := Lib.hid (coin_ok w)
  have RR := Lib.hid (fun (W : World) (hb : Below w.heap.size w W) (L : Option Addr) (lc : Nat) (ha : At W W.heap.size L [1]) (hc : 1 ≤ lc) => replay_prog (n := 1) (g := .node 2 3 4 []) (l := [1]) W (gat_leaf (by decide) (by decide) (by decide)) ha hc (by decide) (by decide))
  rw [show repV (.node 2 3 4 []) [1] = .ok (.node false 4 []) by rfl] at RR
  go_enter Tryd.func10, Tryd.ntmps10
  go_wp2_with fail
  refine CC.out.mono ?_
  rintro e w1 ⟨rfl, hb1⟩
  have B1 := Lib.hid hb1
  have A1 := Lib.hid (At.one_new w1 1)
  have B2 := Lib.hid (hb1.trans ((Below.refl w1.heap.size w1).alloc (Nat.le_refl _) (.cells #[.int .i64 1] 3) |>.mono hb1.size))
  clear hb1 CC
  go_wp2_with fail
  have z1 : (w1.alloc (.cells #[.int .i64 1] 3)).heap.size = w1.heap.size + 1 := by simp
  refine (RR.out (w1.alloc (.cells #[.int .i64 1] 3)) B2.out (some ⟨w1.heap.size, 0, none⟩) 1 (by rw [z1]; exact A1.out) (Nat.le_refl _)).mono ?_
  rintro e w3 ⟨A3, c3, rfl, ht, hn, hb3⟩
  have B3 := Lib.hid (below_trans B2.out hb3)
  clear RR ht hn hb3 z1
  simp only [trOf, errI, tval, Tr.list, Tr.num, Tr.items, List.length_nil, errOf_ok]
  go_wp2_with fail
  go_ret
  exact ⟨rfl, Below.alloc B3.out (by have := B3.out.size; omega) _⟩
end Go.Proofs.YtfpbegagblekiaaDoor.Gens

/- Contract of assayersame.Ints: it draws its order. Conditions: none but that the slices' cells are known. -/
namespace Go.Proofs.YtfpbegagblekiaaDoor.Ints
open Go.RowKit Go.WideShapes Go.ChangeShapes Lists
set_option linter.unusedVariables false

/-! assayersame.Ints: it draws its order -/
theorem same_any (l m : List Int) (A B : Option Addr) (c d N : Nat) (hl : l.length ≤ maxLen) (hm : m.length ≤ maxLen) (w : World) (ha : At w N A l) (hb : At w N B m) :
    Calls Tryd.prog 22 #[.slice A l.length c, .slice B m.length d] w fun e w' => e = .returned (.bool (decide (l = m))) ∧ ∃ n, w' = w.drewN n := by
  unfold maxLen at hl hm
  have HA := Lib.hid ha
  have HB := Lib.hid hb
  clear ha hb
  by_cases e : l.length = m.length
  · have ht : (((l.length : Nat) : Int) != ((m.length : Nat) : Int)) = false := by rw [bne_eq_false_iff_eq]; omega
    have hml : m.length ≤ l.length := by omega
    have hlm : l.length ≤ m.length := by omega
    have E := Lib.hid e
    clear e
    go_enter Tryd.func22, Tryd.ntmps22
    go_wp2
    go_loopw [5] (fun i wr => ∃ k n : Nat, k ≤ l.length ∧ i = .int .i64 k ∧ wr = w.drewN n ∧ Hid (l.take k = m.take k)) (fun i _ => l.length - (intOf i).toNat)
    case atStart => exact ⟨0, 0, Nat.zero_le _, rfl, rfl, rfl⟩
    case round =>
      obtain ⟨k, n, hk, rfl, rfl, ht2⟩ := hrel
      by_cases h1 : k < l.length
      · have h2 : k < m.length := by omega
        obtain ⟨b, off, rfl, _, hcell⟩ := HA.out (by omega)
        have c1 := hcell k h1
        clear hcell
        obtain ⟨b2, off2, rfl, _, hcell2⟩ := HB.out (by omega)
        have c2 := hcell2 k h2
        clear hcell2
        have t1 := Lib.hid (take_getD l k h1)
        have t2 := Lib.hid (take_getD m k h2)
        generalize hx : l.getD k 0 = x at c1 t1
        generalize hy : m.getD k 0 = y at c2 t2
        have HX := Lib.hid hx
        have HY := Lib.hid hy
        clear hx hy
        by_cases h : x = y
        · subst h
          have hv := Lib.hid (show l.take (k + 1) = m.take (k + 1) by rw [t1.out, t2.out, ht2.out])
          have h1' : (k : Int) < l.length := by omega
          have h2' : (k : Int) < m.length := by omega
          go_wp2
          go_quiet (fail)
          go_wp2
          go_roundw
          case rel => exact ⟨k + 1, _, by omega, by go_num, rfl, hv.out⟩
          case measure => simp [intOf]; omega
        · have hv := Lib.hid (show decide (l = m) = false by
            rw [decide_eq_false]; intro z; subst z; exact h (HX.out.symm.trans HY.out))
          have ht3 : (x != y) = true := by rw [bne_iff_ne]; exact h
          clear h
          go_wp2
          go_quiet (fail)
          go_wp2
          go_ret
          exact ⟨ret_b hv.out.symm, _, World.drewN_drewN _ _ _⟩
      · have hv := Lib.hid (show decide (l = m) = true by
          rw [decide_eq_true_eq, ← List.take_of_length_le (show l.length ≤ k by omega), ht2.out, List.take_of_length_le (by omega)])
        go_wp2
        go_ret
        exact ⟨ret_b hv.out.symm, _, rfl⟩
  · have ht : (((l.length : Nat) : Int) != ((m.length : Nat) : Int)) = true := by rw [bne_iff_ne]; omega
    have hv := Lib.hid (show decide (l = m) = false by rw [decide_eq_false]; intro z; subst z; exact e rfl)
    clear e
    go_enter Tryd.func22, Tryd.ntmps22
    go_wp2
    go_ret
    exact ⟨ret_b hv.out.symm, 0, rfl⟩
theorem same_below (l m : List Int) (A B : Option Addr) (c d N : Nat) (hl : l.length ≤ maxLen) (hm : m.length ≤ maxLen) (w : World) (ha : At w N A l) (hb : At w N B m) :
    Calls Tryd.prog 22 #[.slice A l.length c, .slice B m.length d] w fun e w' => e = .returned (.bool (decide (l = m))) ∧ Below w.heap.size w w' :=
  (same_any l m A B c d N hl hm w ha hb).mono fun _ _ ⟨h, n, h'⟩ => ⟨h, h' ▸ ⟨rfl, rfl, rfl, Nat.le_refl _, fun _ _ => rfl⟩⟩
end Go.Proofs.YtfpbegagblekiaaDoor.Ints
