/- Parts of a list of numbers: what is ahead of a place, what is behind it. Conditions: the sizes. -/
import Derived.Test.YtdmoigompmeacaaHeapN
import Derived.Lib.SliceRun
import Derived.IntWalk
namespace Go.Proofs.Ytdmoigompmeacaa.Gens
open Go.RowKit Ints
set_option linter.unusedVariables false

theorem rs_take {w : World} {N : Nat} {A : Option Addr} {l : List Int} (h : At w N A l) (k : Nat) : At w N A (l.take k) := fun hp => by
  rw [List.length_take] at hp
  obtain ⟨b, o, e, hb, hc⟩ := h (by omega)
  refine ⟨b, o, e, hb, fun j hj => ?_⟩
  rw [List.length_take] at hj
  rw [hc j (by omega)]
  simp [List.getD, show j < k by omega]
theorem rs_drop {w : World} {N b off : Nat} {l : List Int} (h : At w N (some ⟨b, off, none⟩) l) (k : Nat) : At w N (some ⟨b, off + k, none⟩) (l.drop k) := fun hp => by
  rw [List.length_drop] at hp
  obtain ⟨b', o', e, hb, hc⟩ := h (by omega)
  injection e with e
  injection e with e1 e2
  subst e1; subst e2
  refine ⟨b, off + k, rfl, hb, fun j hj => ?_⟩
  rw [List.length_drop] at hj
  have h1 := hc (k + j) (by omega)
  rw [show off + k + j = off + (k + j) by omega, h1]
  simp [List.getD, List.getElem?_drop]

theorem bel_new (w : World) (o : Obj) : Below w.heap.size w (w.alloc o).drew := ((Below.refl _ _).alloc (Nat.le_refl _) _).drew
theorem heap_new3 (w : World) (o : Obj) : (w.alloc o).drew.heap[w.heap.size]? = some o := heap_new2 w o
theorem lt_new (w : World) (o : Obj) : w.heap.size < (w.alloc o).drew.heap.size := by show w.heap.size < (w.alloc o).heap.size; simp
/-- where what is behind a place lies -/
def tailAt (b off lc i : Nat) : Option Addr := if lc = i + 1 then some ⟨b, off, none⟩ else some ⟨b, off + (i + 1), none⟩
set_option maxRecDepth 100000 in
theorem slice_from (b off m lc i : Nat) (hi : i < m) (hm : m ≤ lc) (w : World) :
    (Instr.slice 24 (.slice (some ⟨b, off, none⟩) m lc) (some (.int .i64 ((i : Int) + 1))) none none).run Try.prog w = .ok (.slice (tailAt b off lc i) (m - (i + 1)) (lc - (i + 1))) w := by
  obtain ⟨i0, h1, h2, h3, h4⟩ := info_parts int_info
  have e1 : ((0 : Int) ≤ (i : Int) + 1 ∧ (i : Int) + 1 ≤ (m : Int)) := by omega
  have e2 : ((i : Int) + 1).toNat = i + 1 := by omega
  unfold tailAt
  by_cases hc : lc = i + 1 <;> simp [Instr.slice, Instr.sliceBounds, Instr.sliceBound, run_underlying Try.underlying24, sizeOf, typeInfo, h1, h3, asIntOf, e1, e2, hc, Addr.add, go_sem]
theorem tail_at {w : World} {N b off lc i : Nat} {l : List Int} (h : At w N (some ⟨b, off, none⟩) l) (hc : l.length ≤ lc) : At w N (tailAt b off lc i) (l.drop (i + 1)) := by
  unfold tailAt
  by_cases e : lc = i + 1
  · intro hp
    rw [List.length_drop] at hp
    omega
  · rw [if_neg e]
    exact rs_drop h (i + 1)
theorem own_stored {w : World} {base c : Nat} {A : Option Addr} {z : List Int} (h : Own w base A c z) (i : Nat) (hi : i < z.length) (x : Int) :
    ∃ g, A = some ⟨g, 0, none⟩ ∧ base ≤ g ∧ g < w.heap.size ∧ w.cell? ⟨g, i, none⟩ = some (.int .i64 (z.getD i 0)) ∧ w.frozen? ⟨g, i, none⟩ = false ∧ Own (w.setCell ⟨g, i, none⟩ (.int .i64 x)) base A c (z.set i x) ∧ w.grownBy (w.setCell ⟨g, i, none⟩ (.int .i64 x)) (some g) := by
  have h0 := h
  unfold Own at h
  rcases h.2 with ⟨he, hn⟩ | ⟨g, cap, cur, he, hb, hh, _⟩
  · omega
  · injection he with e1 e2 e3
    subst e1
    obtain ⟨s1, s2⟩ := h.stored i (.int .i64 x)
    refine ⟨g, rfl, hb, (Array.getElem?_eq_some_iff.1 hh).1, ?_, h.frozenAt i, ?_, s2⟩
    · rw [h.cellAt i (by omega), List.getElem?_map, List.getElem?_eq_getElem hi]
      simp [List.getD, List.getElem?_eq_getElem hi]
    · unfold Own
      rw [List.length_set, List.map_set]
      exact s1
theorem oe_new (w : World) : Own (w.alloc (.cells #[] 3)).drew w.heap.size (some ⟨w.heap.size, 0, none⟩) 0 [] := Own.empty (heap_new2 w _)
end Go.Proofs.Ytdmoigompmeacaa.Gens
