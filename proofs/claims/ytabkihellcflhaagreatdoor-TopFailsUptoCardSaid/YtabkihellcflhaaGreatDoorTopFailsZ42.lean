/- TopFails, part 42 of the proof: Boxes of reports. Conditions: none. · Contracts of package rng's New and Split, and of the statements' own function 'known'. Conditions: none. -/
import Derived.Test.YtabkihellcflhaaGreatDoorTopFailsZ24
import Derived.Test.YtabkihellcflhaaGreatDoorTopFailsZ18
/- Boxes of reports. Conditions: none. -/
namespace Go.Proofs.YtabkihellcflhaaGreatDoor.Gens
open Go.RowKit Lists Ints Vals Exprs
set_option linter.unusedVariables false

/-- a box of a report -/
def R4 (b : Nat) (x0 x1 x2 x3 : Value) (w : World) : Prop := w.heap[b]? = some (.cells #[x0, x1, x2, x3] 34 (0, 0))
theorem R4.facts {b : Nat} {x0 x1 x2 x3 : Value} {w : World} (h : R4 b x0 x1 x2 x3 w) : (w.cell? ⟨b, 0, none⟩ = some x0 ∧ w.cell? ⟨b, 1, none⟩ = some x1 ∧ w.cell? ⟨b, 2, none⟩ = some x2 ∧ w.cell? ⟨b, 3, none⟩ = some x3) ∧ w.frozen? ⟨b, 0, none⟩ = false ∧ w.frozen? ⟨b, 1, none⟩ = false ∧ w.frozen? ⟨b, 2, none⟩ = false ∧ w.frozen? ⟨b, 3, none⟩ = false :=
  ⟨⟨by rw [Lib.cell_of_heap h]; rfl, by rw [Lib.cell_of_heap h]; rfl, by rw [Lib.cell_of_heap h]; rfl, by rw [Lib.cell_of_heap h]; rfl⟩, Lib.frozen_of_heap h 0, Lib.frozen_of_heap h 1, Lib.frozen_of_heap h 2, Lib.frozen_of_heap h 3⟩
theorem R4.lt {b : Nat} {x0 x1 x2 x3 : Value} {w : World} (h : R4 b x0 x1 x2 x3 w) : b < w.heap.size := (Array.getElem?_eq_some_iff.1 h).1
theorem R4.below {b : Nat} {x0 x1 x2 x3 : Value} {w w' : World} (h : R4 b x0 x1 x2 x3 w) (hb : Below w.heap.size w w') : R4 b x0 x1 x2 x3 w' := (hb.block b h.lt).trans h
theorem R4.other {b : Nat} {x0 x1 x2 x3 : Value} {w : World} (h : R4 b x0 x1 x2 x3 w) {c : Nat} (hn : b ≠ c) (o : Nat) (u : Value) : R4 b x0 x1 x2 x3 (w.setCell ⟨c, o, none⟩ u) := (Below.heap_setCell w ⟨c, o, none⟩ u b hn).trans h
theorem R4.put0 {b : Nat} {x0 x1 x2 x3 : Value} {w : World} (h : R4 b x0 x1 x2 x3 w) (y : Value) : R4 b y x1 x2 x3 (w.setCell ⟨b, 0, none⟩ y) := by
  unfold R4 at h ⊢
  simp [World.setCell, Array.getElem?_modify, h]
theorem R4.put1 {b : Nat} {x0 x1 x2 x3 : Value} {w : World} (h : R4 b x0 x1 x2 x3 w) (y : Value) : R4 b x0 y x2 x3 (w.setCell ⟨b, 1, none⟩ y) := by
  unfold R4 at h ⊢
  simp [World.setCell, Array.getElem?_modify, h]
theorem R4.put23 {b : Nat} {x0 x1 x2 x3 : Value} {w : World} (h : R4 b x0 x1 x2 x3 w) (y z : Value) : R4 b x0 x1 y z ((w.setCell ⟨b, 2, none⟩ y).setCell ⟨b, 3, none⟩ z) := by
  unfold R4 at h ⊢
  simp [World.setCell, Array.getElem?_modify, h]
theorem R4.put4 {b : Nat} {x0 x1 x2 x3 : Value} {w : World} (h : R4 b x0 x1 x2 x3 w) (y0 y1 y2 y3 : Value) : R4 b y0 y1 y2 y3 ((((w.setCell ⟨b, 0, none⟩ y0).setCell ⟨b, 1, none⟩ y1).setCell ⟨b, 2, none⟩ y2).setCell ⟨b, 3, none⟩ y3) := by
  unfold R4 at h ⊢
  simp [World.setCell, Array.getElem?_modify, h]
/-- what is told is laid into its box -/
theorem told_box {w : World} {p : Nat} {x0 x1 x2 x3 : Value} (h : R4 p x0 x1 x2 x3 w) (y0 y1 y2 y3 : Value) :
    let W := (((w.setCell ⟨p, 0, none⟩ y0).setCell ⟨p, 1, none⟩ y1).setCell ⟨p, 2, none⟩ y2).setCell ⟨p, 3, none⟩ y3
    R4 p y0 y1 y2 y3 W ∧ Below p w W ∧ ∀ b, b ≠ p → W.heap[b]? = w.heap[b]? := by
  intro W
  refine ⟨h.put4 y0 y1 y2 y3, ?_, fun b hb => ?_⟩
  · exact Below.setCell (p := ⟨p, 3, none⟩) (Below.setCell (p := ⟨p, 2, none⟩) (Below.setCell (p := ⟨p, 1, none⟩) (Below.setCell (p := ⟨p, 0, none⟩) (Below.refl _ _) (Nat.le_refl _) _) (Nat.le_refl _) _) (Nat.le_refl _) _) (Nat.le_refl _) _
  · exact (Below.heap_setCell _ ⟨p, 3, none⟩ _ b hb).trans ((Below.heap_setCell _ ⟨p, 2, none⟩ _ b hb).trans ((Below.heap_setCell _ ⟨p, 1, none⟩ _ b hb).trans (Below.heap_setCell _ ⟨p, 0, none⟩ _ b hb)))
end Go.Proofs.YtabkihellcflhaaGreatDoor.Gens

/- Contracts of package rng's New and Split, and of the statements' own function 'known'. Conditions: none. -/
namespace Go.Proofs.YtabkihellcflhaaGreatDoor.Rng
open Go.RowKit

theorem new_any (n : Int) (w : World) :
    Calls Tryz.prog 30 #[.int .i64 n] w fun e w' => e = .returned (.agg #[.int .u64 (u64of n), .int .u64 gold]) ∧ Below w.heap.size w w' := by
  go_enter Tryz.func30, Tryz.ntmps30
  go_wp2
  exact bodyPost_ret (v := .agg #[.int .u64 (u64of n), .int .u64 gold]) (by simp [results, Tryz.results30, go_sem, u64of, gold]) rfl ⟨rfl, ((Below.refl _ _).alloc (Nat.le_refl _) _)⟩

theorem split_any (a g : Int) (w : World) :
    Calls Tryz.prog 31 #[.agg #[.int .u64 a, .int .u64 g]] w fun e w' => e = .returned (.tuple #[.agg #[.int .u64 (plus (plus a g) g), .int .u64 g], .agg #[.int .u64 (mixI (plus a g)), .int .u64 (odd (mixI (plus (plus a g) g)))]]) ∧ Below w.heap.size w w' := by
  go_enter Tryz.func31, Tryz.ntmps31
  go_wp2_with fail
  refine (next_exact _ _ _).mono ?_
  rintro e w1 ⟨rfl, rfl⟩
  unfold nextW
  go_wp2_with fail
  refine (next_exact _ _ _).mono ?_
  rintro e w2 ⟨rfl, rfl⟩
  unfold nextW
  go_wp2
  exact bodyPost_ret (v := .tuple #[.agg #[.int .u64 (plus (plus a g) g), .int .u64 g], .agg #[.int .u64 (mixI (plus a g)), .int .u64 (odd (mixI (plus (plus a g) g)))]]) (by simp [results, Tryz.results31, go_sem, odd]) rfl
    ⟨rfl, by repeat (first | exact Below.refl _ _ | refine Below.drew ?_ | refine Below.alloc ?_ (by simp <;> omega) _)⟩

end Go.Proofs.YtabkihellcflhaaGreatDoor.Rng
