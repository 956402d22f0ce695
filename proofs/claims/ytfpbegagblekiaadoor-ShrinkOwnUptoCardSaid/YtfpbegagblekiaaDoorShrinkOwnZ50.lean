/- ShrinkOwn, part 50 of the proof: What a row's list gives of the library's variable errors.errorType. · The statements' own ints, spoil, Told of two. Conditions: the sizes; the library's variable that errors.As reads. · Contract of assayersame.Ints: it draws its order. Conditions: none but that the slices' cells are known. -/
import Derived.Test.YtfpbegagblekiaaDoorShrinkOwnZ49
import Derived.Test.YtfpbegagblekiaaDoorRows
import Derived.LaidHandle
import Derived.Below
import Derived.Test.YtfpbegagblekiaaDoorShrinkOwnZ37
import Derived.Test.YtfpbegagblekiaaDoorShrinkOwnZ22
import Derived.Test.YtfpbegagblekiaaDoorShrinkOwnZ5
import Derived.Test.YtfpbegagblekiaaDoorShrinkOwnZ4
import Derived.Test.YtfpbegagblekiaaDoorShrinkOwnZ14
/- What a row's list gives of the library's variable errors.errorType. -/
namespace Go.Proofs.YtfpbegagblekiaaDoor.Told
open Go.RowKit
theorem et : Tryd.prog.globalNamed "errors.errorType" = some 0 := by kernel_rfl
theorem rt : (Tryd.prog.cutTypes.find? (·.1 == "internal/reflectlite.rtype")).map (·.2) = some 127 := by kernel_rfl
theorem oneRow : ((List.range 189).filter fun t => Tryd.prog.rowNamed t [101, 114, 114, 111, 114]) = [37] := by kernel_rfl
theorem size : Tryd.prog.types.size = 189 := by kernel_rfl
theorem handle_of_met {W : World} (h : handlesMet Tryd.prog [("errors.errorType", Rows.laid_errors_errorType)] W) : Handle W := by
  obtain ⟨name, u, ty, e1, e2, e3, e4, e5⟩ := h _ (List.mem_singleton.2 rfl)
  have en : name = [101, 114, 114, 111, 114] := (Option.some.inj e1).symm
  subst en
  obtain rfl := Option.some.inj (rt.symm.trans e2)
  have hm : ty ∈ (List.range 189).filter fun t => Tryd.prog.rowNamed t [101, 114, 114, 111, 114] := List.mem_filter.2 ⟨List.mem_range.2 (by rw [← size]; exact e3), e4⟩
  rw [oneRow] at hm
  obtain rfl := List.mem_singleton.1 hm
  have hh : typeHandle Tryd.prog 37 = .pointer (some ⟨2, 37, none⟩) := by kernel_rfl
  rw [hh] at e5
  simpa [Handle] using World.var?_cell et e5 0
theorem Handle.below {w w' : World} (h : Handle w) (hb : Below w.heap.size w w') : Handle w' := by
  have hlt : 0 < w.heap.size := World.block_lt_of_cell? _ _ h
  exact (hb.cell (p := ⟨0, 0, none⟩) hlt).trans h
end Go.Proofs.YtfpbegagblekiaaDoor.Told

/- The statements' own ints, spoil, Told of two. Conditions: the sizes; the library's variable that errors.As reads. -/
namespace Go.Proofs.YtfpbegagblekiaaDoor.Owns
open Go.RowKit Ints Vals Gens
set_option linter.unusedVariables false

theorem told_any (p : Int) (w : World) (hg : Told.Handle w) : Calls Tryd.prog 42 #[errOf p] w fun e w' => e = .returned (.int .i64 p) ∧ Below w.heap.size w w' := by
  by_cases h : p = 0
  · subst h; rw [errOf_ok]; exact Told.told_nil w
  · rw [errOf_no h]; exact Told.told_errno p w hg
set_option maxHeartbeats 1000000 in
theorem told_same (p : Int) (w : World) (hg : Told.Handle w) : Calls Tryd.prog 28 #[errOf p, errOf p] w fun e w' => e = .returned (.bool true) ∧ Below w.heap.size w w' := by
  have T1 := Lib.hid (fun (W : World) (hb : Below w.heap.size w W) => told_any p W (hg.below hb))
  clear hg
  generalize errOf p = v at *
  go_enter Tryd.func28, Tryd.ntmps28
  go_wp2_with fail
  ((with_reducible refine (T1.out _ (Below.refl _ _)).mono ?_))
  rintro e w1 ⟨rfl, hb1⟩
  have B1 := Lib.hid hb1
  clear hb1
  go_wp2_with fail
  ((with_reducible refine (T1.out _ B1.out).mono ?_))
  rintro e w2 ⟨rfl, hb2⟩
  have B2 := Lib.hid (below_trans B1.out hb2)
  clear hb2
  go_wp2_with fail
  go_ret
  exact ⟨ret_b (by simp), B2.out⟩
set_option maxHeartbeats 1000000 in
set_option maxRecDepth 100000 in
theorem ints_ok {L : Option Addr} {l : List Int} {lc : Nat} (w : World) (hat : At w w.heap.size L l) (hln : l.length ≤ 4294967296) : Calls Tryd.prog 25 #[.slice L l.length lc] w fun e w' => ∃ (A : Option Addr) (c : Nat), e = .returned (.slice A l.length c) ∧ Own w' w.heap.size A c l ∧ Below w.heap.size w w' := by
  have HR0 := Lib.hid (new_obj w (.cells #[] 3))
  have B0 := Lib.hid (bel1 w (.cells #[] 3))
  have HA := Lib.hid (hat.below B0.out)
  have HN := Lib.hid hln
  clear hat hln
  go_enter Tryd.func25, Tryd.ntmps25
  go_wp2_with (
    at_builtin
    refine wpList_append_ints rfl (.tmp 3) (.tmp 4) rfl w.heap.size 0 (some ⟨w.heap.size, 0, none⟩) [] (Own.empty HR0.out) w.heap.size L lc l HA.out rfl rfl (by have := HN.out; simp; omega) B0.out.size ?_
    intro A5 c5 w5 z5 hz5 own5 g5 r5
    have E5 := Lib.hid (B0.out.grown g5 B0.out.size (by intro k hk; simp [rowOf] at hk; omega))
    have O5 := Lib.hid own5
    clear own5 g5 r5)
  go_ret
  exact ⟨A5, c5, by rw [show l = z5 by rw [hz5.out]; rfl]; rfl, by rw [show l = z5 by rw [hz5.out]; rfl]; exact O5.out, E5.out⟩
theorem row_put {w : World} {g k n : Nat} {t : TypeId} {v : Value} (h : ∃ cur : Array Value, cur.size = n ∧ w.heap[g]? = some (.cells cur t (0, 0))) : ∃ cur : Array Value, cur.size = n ∧ (w.setCell ⟨g, k, none⟩ v).heap[g]? = some (.cells cur t (0, 0)) := by
  obtain ⟨cur, hs, h⟩ := h
  exact ⟨cur.setIfInBounds k v, by simpa using hs, by simp [World.setCell, Array.getElem?_modify, h]⟩
set_option maxHeartbeats 1000000 in
set_option maxRecDepth 100000 in
theorem spoil_ok {A : Option Addr} {z : List Int} {c base : Nat} (w : World) (x : Int) (hown : Own w base A c z) (hln : z.length ≤ 4294967296) : Calls Tryd.prog 27 #[.slice A z.length c, .int .i64 x] w fun e w' => e = .returned (.tuple #[]) ∧ w.grownBy w' (rowOf A) := by
  have HR := Lib.hid (show 0 < z.length → ∃ g, A = some ⟨g, 0, none⟩ ∧ ∃ n, z.length ≤ n ∧ ∃ cur : Array Value, cur.size = n ∧ w.heap[g]? = some (.cells cur 3 (0, 0)) from fun hp => by
    rcases hown.2 with ⟨he, h0⟩ | ⟨g, cap, cur, he, _, hh, hnc, _, hcs, _⟩
    · omega
    · injection he with he _ _
      exact ⟨g, he, cap, hnc, cur, by omega, hh⟩)
  clear hown
  go_enter Tryd.func27, Tryd.ntmps27
  go_wp2_with fail
  go_loopw [4] (fun i wr => ∃ k : Nat, k ≤ z.length ∧ i = .int .i64 k ∧ Hid (w.grownBy wr (rowOf A)) ∧ Hid (0 < z.length → ∃ g, A = some ⟨g, 0, none⟩ ∧ ∃ n, z.length ≤ n ∧ ∃ cur : Array Value, cur.size = n ∧ wr.heap[g]? = some (.cells cur 3 (0, 0)))) (fun i _ => z.length - (intOf i).toNat)
  case atStart => exact ⟨0, Nat.zero_le _, rfl, World.grownBy.refl w _, HR.out⟩
  case round =>
    obtain ⟨k, hk, rfl, HG, HC⟩ := hrel
    by_cases hlt : k < z.length
    · obtain ⟨g, rfl, n, hzn, hrow⟩ := HC.out (by omega)
      obtain ⟨cur, hs, hh⟩ := hrow
      obtain ⟨old, c0⟩ : ∃ old, wr.cell? ⟨g, k, none⟩ = some old := ⟨cur[k]'(by omega), by rw [Lib.cell_of_heap hh]; simp⟩
      have f0 : wr.frozen? ⟨g, k, none⟩ = false := Lib.frozen_of_heap hh k
      have HC2 := Lib.hid (fun (_ : 0 < z.length) => show ∃ g', (some ⟨g, 0, none⟩ : Option Addr) = some ⟨g', 0, none⟩ ∧ ∃ n, z.length ≤ n ∧ ∃ cur : Array Value, cur.size = n ∧ (wr.setCell ⟨g, k, none⟩ (.int .i64 x)).heap[g']? = some (.cells cur 3 (0, 0)) from ⟨g, rfl, n, hzn, row_put ⟨cur, hs, hh⟩⟩)
      have HG2 := Lib.hid (show w.grownBy (wr.setCell ⟨g, k, none⟩ (.int .i64 x)) (rowOf (some ⟨g, 0, none⟩)) from gr_set HG.out k _)
      clear hs hh
      go_wp2_with fail
      go_roundw
      case rel => exact ⟨k + 1, hlt, by go_num, HG2.out, HC2.out⟩
      case measure => simp [intOf]; omega
    · go_wp2_with fail
      go_end0
      exact ⟨rfl, HG.out⟩
end Go.Proofs.YtfpbegagblekiaaDoor.Owns

/- Contract of assayersame.Ints: it draws its order. Conditions: none but that the slices' cells are known. -/
namespace Go.Proofs.YtfpbegagblekiaaDoor.Ints
open Go.RowKit Go.WideShapes Go.ChangeShapes Lists
set_option linter.unusedVariables false

/-! assayersame.Ints: it draws its order -/
theorem same_any (l m : List Int) (A B : Option Addr) (c d N : Nat) (hl : l.length ≤ maxLen) (hm : m.length ≤ maxLen) (w : World) (ha : At w N A l) (hb : At w N B m) :
    Calls Tryd.prog 22 #[.slice A l.length c, .slice B m.length d] w fun e w' => e = .returned (.bool (decide (l = m))) ∧ ∃ n, w' = w.drewN n := by
  unfold maxLen at hl hm
  have HA := Lib.hid ha
  have HB := Lib.hid hb
  clear ha hb
  by_cases e : l.length = m.length
  · have ht : (((l.length : Nat) : Int) != ((m.length : Nat) : Int)) = false := by rw [bne_eq_false_iff_eq]; omega
    have hml : m.length ≤ l.length := by omega
    have hlm : l.length ≤ m.length := by omega
    have E := Lib.hid e
    clear e
    go_enter Tryd.func22, Tryd.ntmps22
    go_wp2
    go_loopw [5] (fun i wr => ∃ k n : Nat, k ≤ l.length ∧ i = .int .i64 k ∧ wr = w.drewN n ∧ Hid (l.take k = m.take k)) (fun i _ => l.length - (intOf i).toNat)
    case atStart => exact ⟨0, 0, Nat.zero_le _, rfl, rfl, rfl⟩
    case round =>
      obtain ⟨k, n, hk, rfl, rfl, ht2⟩ := hrel
      by_cases h1 : k < l.length
      · have h2 : k < m.length := by omega
        obtain ⟨b, off, rfl, _, hcell⟩ := HA.out (by omega)
        have c1 := hcell k h1
        clear hcell
        obtain ⟨b2, off2, rfl, _, hcell2⟩ := HB.out (by omega)
        have c2 := hcell2 k h2
        clear hcell2
        have t1 := Lib.hid (take_getD l k h1)
        have t2 := Lib.hid (take_getD m k h2)
        generalize hx : l.getD k 0 = x at c1 t1
        generalize hy : m.getD k 0 = y at c2 t2
        have HX := Lib.hid hx
        have HY := Lib.hid hy
        clear hx hy
        by_cases h : x = y
        · subst h
          have hv := Lib.hid (show l.take (k + 1) = m.take (k + 1) by rw [t1.out, t2.out, ht2.out])
          have h1' : (k : Int) < l.length := by omega
          have h2' : (k : Int) < m.length := by omega
          go_wp2
          go_quiet (fail)
          go_wp2
          go_roundw
          case rel => exact ⟨k + 1, _, by omega, by go_num, rfl, hv.out⟩
          case measure => simp [intOf]; omega
        · have hv := Lib.hid (show decide (l = m) = false by
            rw [decide_eq_false]; intro z; subst z; exact h (HX.out.symm.trans HY.out))
          have ht3 : (x != y) = true := by rw [bne_iff_ne]; exact h
          clear h
          go_wp2
          go_quiet (fail)
          go_wp2
          go_ret
          exact ⟨ret_b hv.out.symm, _, World.drewN_drewN _ _ _⟩
      · have hv := Lib.hid (show decide (l = m) = true by
          rw [decide_eq_true_eq, ← List.take_of_length_le (show l.length ≤ k by omega), ht2.out, List.take_of_length_le (by omega)])
        go_wp2
        go_ret
        exact ⟨ret_b hv.out.symm, _, rfl⟩
  · have ht : (((l.length : Nat) : Int) != ((m.length : Nat) : Int)) = true := by rw [bne_iff_ne]; omega
    have hv := Lib.hid (show decide (l = m) = false by rw [decide_eq_false]; intro z; subst z; exact e rfl)
    clear e
    go_enter Tryd.func22, Tryd.ntmps22
    go_wp2
    go_ret
    exact ⟨ret_b hv.out.symm, 0, rfl⟩
theorem same_below (l m : List Int) (A B : Option Addr) (c d N : Nat) (hl : l.length ≤ maxLen) (hm : m.length ≤ maxLen) (w : World) (ha : At w N A l) (hb : At w N B m) :
    Calls Tryd.prog 22 #[.slice A l.length c, .slice B m.length d] w fun e w' => e = .returned (.bool (decide (l = m))) ∧ Below w.heap.size w w' :=
  (same_any l m A B c d N hl hm w ha hb).mono fun _ _ ⟨h, n, h'⟩ => ⟨h, h' ▸ ⟨rfl, rfl, rfl, Nat.le_refl _, fun _ _ => rfl⟩⟩
end Go.Proofs.YtfpbegagblekiaaDoor.Ints
