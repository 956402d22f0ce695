/- The statements' own ints, spoil. Conditions: the sizes. -/
import Derived.Test.YtdmoigompmeacaaDoorGrowS
import Derived.Test.YtdmoigompmeacaaDoorHeapN
import Derived.Lib.Builder
import Derived.Lib.SliceRun
namespace Go.Proofs.YtdmoigompmeacaaDoor.Owns
open Go.RowKit Ints
set_option linter.unusedVariables false

theorem new_objP (w : World) (o : Obj) : (w.alloc o).heap[w.heap.size]? = some o := heap_new2 w o
theorem bel1P (w : World) (o : Obj) : Below w.heap.size w (w.alloc o) := (Below.refl _ _).alloc (Nat.le_refl _) _
theorem gr_setP {w w' : World} {rb : Nat} (h : w.grownBy w' (some rb)) (o : Nat) (v : Value) : w.grownBy (w'.setCell ⟨rb, o, none⟩ v) (some rb) :=
  ⟨h.os, h.tape, h.output, Nat.le_trans h.size (by show _ ≤ (World.setCell _ _ _).heap.size; simp [World.setCell]), fun i hi hx => (Below.heap_setCell w' ⟨rb, o, none⟩ v i (fun e => hx (by rw [e]))).trans (h.block i hi hx)⟩
set_option maxHeartbeats 1000000 in
set_option maxRecDepth 100000 in
theorem ints_ok {L : Option Addr} {l : List Int} {lc : Nat} (w : World) (hat : At w w.heap.size L l) (hln : l.length ≤ 4294967296) : Calls Tryd.prog 17 #[.slice L l.length lc] w fun e w' => ∃ (A : Option Addr) (c : Nat), e = .returned (.slice A l.length c) ∧ Own w' w.heap.size A c l ∧ Below w.heap.size w w' := by
  have HR0 := Lib.hid (new_objP w (.cells #[] 3))
  have B0 := Lib.hid (bel1P w (.cells #[] 3))
  have HA := Lib.hid (hat.below B0.out)
  have HN := Lib.hid hln
  clear hat hln
  go_enter Tryd.func17, Tryd.ntmps17
  go_wp2_with (
    at_builtin
    refine wpList_append_ints rfl (.tmp 3) (.tmp 4) rfl w.heap.size 0 (some ⟨w.heap.size, 0, none⟩) [] (Own.empty HR0.out) w.heap.size L lc l HA.out rfl rfl (by have := HN.out; simp; omega) B0.out.size ?_
    intro A5 c5 w5 z5 hz5 own5 g5 r5
    have E5 := Lib.hid (B0.out.grown g5 B0.out.size (by intro k hk; simp [rowOf] at hk; omega))
    have O5 := Lib.hid own5
    clear own5 g5 r5)
  go_ret
  exact ⟨A5, c5, by rw [show l = z5 by rw [hz5.out]; rfl]; rfl, by rw [show l = z5 by rw [hz5.out]; rfl]; exact O5.out, E5.out⟩
theorem row_put {w : World} {g k n : Nat} {t : TypeId} {v : Value} (h : ∃ cur : Array Value, cur.size = n ∧ w.heap[g]? = some (.cells cur t (0, 0))) : ∃ cur : Array Value, cur.size = n ∧ (w.setCell ⟨g, k, none⟩ v).heap[g]? = some (.cells cur t (0, 0)) := by
  obtain ⟨cur, hs, h⟩ := h
  exact ⟨cur.setIfInBounds k v, by simpa using hs, by simp [World.setCell, Array.getElem?_modify, h]⟩
set_option maxHeartbeats 1000000 in
set_option maxRecDepth 100000 in
theorem spoil_ok {A : Option Addr} {z : List Int} {c base : Nat} (w : World) (x : Int) (hown : Own w base A c z) (hln : z.length ≤ 4294967296) : Calls Tryd.prog 19 #[.slice A z.length c, .int .i64 x] w fun e w' => e = .returned (.tuple #[]) ∧ w.grownBy w' (rowOf A) := by
  have HR := Lib.hid (show 0 < z.length → ∃ g, A = some ⟨g, 0, none⟩ ∧ ∃ n, z.length ≤ n ∧ ∃ cur : Array Value, cur.size = n ∧ w.heap[g]? = some (.cells cur 3 (0, 0)) from fun hp => by
    rcases hown.2 with ⟨he, h0⟩ | ⟨g, cap, cur, he, _, hh, hnc, _, hcs, _⟩
    · omega
    · injection he with he _ _
      exact ⟨g, he, cap, hnc, cur, by omega, hh⟩)
  clear hown
  go_enter Tryd.func19, Tryd.ntmps19
  go_wp2_with fail
  go_loopw [4] (fun i wr => ∃ k : Nat, k ≤ z.length ∧ i = .int .i64 k ∧ Hid (w.grownBy wr (rowOf A)) ∧ Hid (0 < z.length → ∃ g, A = some ⟨g, 0, none⟩ ∧ ∃ n, z.length ≤ n ∧ ∃ cur : Array Value, cur.size = n ∧ wr.heap[g]? = some (.cells cur 3 (0, 0)))) (fun i _ => z.length - (intOf i).toNat)
  case atStart => exact ⟨0, Nat.zero_le _, rfl, World.grownBy.refl w _, HR.out⟩
  case round =>
    obtain ⟨k, hk, rfl, HG, HC⟩ := hrel
    by_cases hlt : k < z.length
    · obtain ⟨g, rfl, n, hzn, hrow⟩ := HC.out (by omega)
      obtain ⟨cur, hs, hh⟩ := hrow
      obtain ⟨old, c0⟩ : ∃ old, wr.cell? ⟨g, k, none⟩ = some old := ⟨cur[k]'(by omega), by rw [Lib.cell_of_heap hh]; simp⟩
      have f0 : wr.frozen? ⟨g, k, none⟩ = false := Lib.frozen_of_heap hh k
      have HC2 := Lib.hid (fun (_ : 0 < z.length) => show ∃ g', (some ⟨g, 0, none⟩ : Option Addr) = some ⟨g', 0, none⟩ ∧ ∃ n, z.length ≤ n ∧ ∃ cur : Array Value, cur.size = n ∧ (wr.setCell ⟨g, k, none⟩ (.int .i64 x)).heap[g']? = some (.cells cur 3 (0, 0)) from ⟨g, rfl, n, hzn, row_put ⟨cur, hs, hh⟩⟩)
      have HG2 := Lib.hid (show w.grownBy (wr.setCell ⟨g, k, none⟩ (.int .i64 x)) (rowOf (some ⟨g, 0, none⟩)) from gr_setP HG.out k _)
      clear hs hh
      go_wp2_with fail
      go_roundw
      case rel => exact ⟨k + 1, hlt, by go_num, HG2.out, HC2.out⟩
      case measure => simp [intOf]; omega
    · go_wp2_with fail
      go_end0
      exact ⟨rfl, HG.out⟩
end Go.Proofs.YtdmoigompmeacaaDoor.Owns
