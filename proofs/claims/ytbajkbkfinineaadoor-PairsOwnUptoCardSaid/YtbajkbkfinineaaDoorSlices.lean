/- slices.Clone, slices.Grow of nil, slices.Concat of lists of numbers. Conditions: the sizes. -/
import Derived.Test.YtbajkbkfinineaaDoorGrid
import Derived.Lib.AppendZeros
import Derived.Lib.SliceRun
namespace Go.Proofs.YtbajkbkfinineaaDoor.Ints
open Go.RowKit Go.WideShapes Go.ChangeShapes
set_option linter.unusedVariables false

theorem heap_new2 (w : World) (o : Obj) : (w.alloc o).heap[w.heap.size]? = some o := by
  show (w.heap.push o)[w.heap.size]? = _
  simp
/-- what hands a new list back -/
def NewL (z : List Int) (w : World) (e : Ending) (w' : World) : Prop := ∃ (A : Option Addr) (c : Nat), e = .returned (.slice A z.length c) ∧ Own w' w.heap.size A c z ∧ Below w.heap.size w w'

set_option maxHeartbeats 2000000 in
set_option maxRecDepth 100000 in
theorem clone_ok {L : Option Addr} {l : List Int} {lc N : Nat} (w : World) (hat : At w N L l) (hN : N ≤ w.heap.size) (hln : l.length ≤ 4294967296) :
    Calls Tryd.prog 40 #[.slice L l.length lc] w (NewL l w) := by
  have q : ∀ (w : World) (a : Option Addr) (n c n' c' : Nat), (binOp .eql 22 (.slice a n c) (.slice none n' c')).run Tryd.prog w = .ok (.bool a.isNone) w := fun w a n c n' c' => Lib.run_eql_slice_nil w _ _ a n c n' c' Tryd.underlying22
  cases L with
  | none =>
    have h0 : l = [] := by
      rcases Nat.eq_zero_or_pos l.length with h | h
      · exact List.eq_nil_of_length_eq_zero h
      · obtain ⟨b, off, e, _⟩ := hat h; cases e
    subst h0
    clear hat
    go_enter Tryd.func40, Tryd.ntmps40
    go_wp2
    go_ret
    exact ⟨none, 0, rfl, Own.none, Below.refl _ _⟩
  | some a =>
    have HA := Lib.hid hat
    have HN := Lib.hid hN
    have HB := Lib.hid ((Below.refl w.heap.size w).alloc (Nat.le_refl _) (.cells #[] 3))
    have HE := Lib.hid (heap_new2 w (.cells #[] 3))
    clear hat hN
    go_enter Tryd.func40, Tryd.ntmps40
    go_wp2_with (at_builtin; refine wpList_append_ints rfl (.tmp 5) (.tmp 6) rfl w.heap.size 0 (some ⟨w.heap.size, 0, none⟩) [] (Own.empty HE.out) N (some a) lc l (HA.out.below (HB.out.mono HN.out)) rfl rfl (by simp; omega) HB.out.size ?_; intro A5 c5 w5 z5 hz5 own5 g5 r5)
    go_ret
    have e : z5 = l := hz5.out
    subst e
    exact ⟨A5, c5, rfl, own5, HB.out.grown g5 HB.out.size (by intro k hk; simp [rowOf] at hk; omega)⟩

end Go.Proofs.YtbajkbkfinineaaDoor.Ints
