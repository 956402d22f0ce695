/- slices.Clone, slices.Grow of nil, slices.Concat of lists of numbers. Conditions: the sizes. -/
import Derived.Test.YtcenekjkdnfhkaaGrid
import Derived.Lib.AppendZeros
import Derived.Lib.SliceRun
namespace Go.Proofs.Ytcenekjkdnfhkaa.Ints
open Go.RowKit Go.WideShapes Go.ChangeShapes
set_option linter.unusedVariables false

theorem heap_new2 (w : World) (o : Obj) : (w.alloc o).heap[w.heap.size]? = some o := by
  show (w.heap.push o)[w.heap.size]? = _
  simp
/-- what hands a new list back -/
def NewL (z : List Int) (w : World) (e : Ending) (w' : World) : Prop := ∃ (A : Option Addr) (c : Nat), e = .returned (.slice A z.length c) ∧ Own w' w.heap.size A c z ∧ Below w.heap.size w w'

set_option maxHeartbeats 2000000 in
set_option maxRecDepth 100000 in
theorem clone_ok {L : Option Addr} {l : List Int} {lc N : Nat} (w : World) (hat : At w N L l) (hN : N ≤ w.heap.size) (hln : l.length ≤ 4294967296) :
    Calls Try.prog 11 #[.slice L l.length lc] w (NewL l w) := by
  have q : ∀ (w : World) (a : Option Addr) (n c n' c' : Nat), (binOp .eql 22 (.slice a n c) (.slice none n' c')).run Try.prog w = .ok (.bool a.isNone) w := fun w a n c n' c' => Lib.run_eql_slice_nil w _ _ a n c n' c' Try.underlying22
  cases L with
  | none =>
    have h0 : l = [] := by
      rcases Nat.eq_zero_or_pos l.length with h | h
      · exact List.eq_nil_of_length_eq_zero h
      · obtain ⟨b, off, e, _⟩ := hat h; cases e
    subst h0
    clear hat
    go_enter Try.func11, Try.ntmps11
    go_wp2
    go_ret
    exact ⟨none, 0, rfl, Own.none, Below.refl _ _⟩
  | some a =>
    have HA := Lib.hid hat
    have HN := Lib.hid hN
    have HB := Lib.hid ((Below.refl w.heap.size w).alloc (Nat.le_refl _) (.cells #[] 3))
    have HE := Lib.hid (heap_new2 w (.cells #[] 3))
    clear hat hN
    go_enter Try.func11, Try.ntmps11
    go_wp2_with (at_builtin; refine wpList_append_ints rfl (.tmp 5) (.tmp 6) rfl w.heap.size 0 (some ⟨w.heap.size, 0, none⟩) [] (Own.empty HE.out) N (some a) lc l (HA.out.below (HB.out.mono HN.out)) rfl rfl (by simp; omega) HB.out.size ?_; intro A5 c5 w5 z5 hz5 own5 g5 r5)
    go_ret
    have e : z5 = l := hz5.out
    subst e
    exact ⟨A5, c5, rfl, own5, HB.out.grown g5 HB.out.size (by intro k hk; simp [rowOf] at hk; omega)⟩

set_option maxHeartbeats 2000000 in
set_option maxRecDepth 100000 in
theorem grow_ok (n : Nat) (w : World) (hn : n ≤ 17592186044416) :
    Calls Try.prog 17 #[.slice none 0 0, .int .i64 n] w (NewL [] w) := by
  by_cases h0 : n = 0
  · subst h0
    go_enter Try.func17, Try.ntmps17
    go_wp2
    go_ret
    exact ⟨none, 0, rfl, Own.none, Below.refl _ _⟩
  · obtain ⟨i0, hi, hz, hsz, hby⟩ := info_parts int_info
    have hrz := fun ty => Lib.run_append_nil_zeros (P := Try.prog) w 22 3 ty 3 i0 (.int .i64 0) .i64 .i64 Try.underlying22 Try.underlying3 hi hz n (by omega) (by omega) (by omega) (by rw [hby]; omega)
    have hG := grownCap_ge w n 0 3
    have hG2 := grownCap_le_maxLen w n 0 3 (by unfold maxLen; omega)
    generalize grownCap w n 0 3 = G at hrz hG hG2
    have HO : Own (w.drew.alloc (.cells (Builtin.zeroCells (Value.int .i64 0).cells n ++ Builtin.zeroCells (Value.int .i64 0).cells (G - n)) 3)) w.heap.size (some ⟨w.heap.size, 0, none⟩) G [] := by
      refine ⟨rfl, .inr ⟨w.heap.size, G, _, rfl, Nat.le_refl _, heap_new2 w.drew _, Nat.zero_le _, hG2, ?_, rfl⟩⟩
      simp [Builtin.zeroCells, Value.cells]
      omega
    have HB : Below w.heap.size w (w.drew.alloc (.cells (Builtin.zeroCells (Value.int .i64 0).cells n ++ Builtin.zeroCells (Value.int .i64 0).cells (G - n)) 3)) := (Below.refl _ _).drew.alloc (Nat.le_refl _) _
    have HO := Lib.hid HO
    have HB := Lib.hid HB
    have HG := Lib.hid (And.intro hG hG2)
    have hn' : 0 < n := by omega
    clear hG hG2 hz hsz hby hi h0
    unfold maxLen at HG
    have g63 : G ≤ 9223372036854775807 := HG.out.2
    have gn : n ≤ G := HG.out.1
    generalize w.drew.alloc (.cells (Builtin.zeroCells (Value.int .i64 0).cells n ++ Builtin.zeroCells (Value.int .i64 0).cells (G - n)) 3) = W1 at *
    go_enter Try.func17, Try.ntmps17
    go_wp2_with (at_builtin; refine Lib.wpList_append_run _ rfl _ _ _ _ rfl _ _ rfl rfl _ _ (hrz _) ?_)
    all_goals (go_ret; exact ⟨some ⟨w.heap.size, 0, none⟩, G, rfl, HO.out, HB.out⟩)
end Go.Proofs.Ytcenekjkdnfhkaa.Ints
