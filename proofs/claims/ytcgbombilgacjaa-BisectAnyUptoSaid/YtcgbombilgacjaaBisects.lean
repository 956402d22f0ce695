/- What First tells of what is so from a number on (chapter 11). Conditions: none. -/
import Derived.Test.YtcgbombilgacjaaBis
namespace Go.Proofs.Ytcgbombilgacjaa.Bis
open Go.RowKit Vals
set_option linter.unusedVariables false

theorem belv (w : World) (o : Obj) : Below w.heap.size w (w.alloc o) := (Below.refl _ _).alloc (Nat.le_refl _) _
def IB (p : Nat) (x : Int) (w : World) : Prop := w.heap[p]? = some (.cells #[.int .i64 x] 3 (0, 0))
theorem IB.cell {p : Nat} {x : Int} {w : World} (h : IB p x w) : w.cell? ⟨p, 0, none⟩ = some (.int .i64 x) := by rw [Lib.cell_of_heap h]; rfl
theorem IB.free {p : Nat} {x : Int} {w : World} (h : IB p x w) : w.frozen? ⟨p, 0, none⟩ = false := Lib.frozen_of_heap h 0
theorem IB.lt {p : Nat} {x : Int} {w : World} (h : IB p x w) : p < w.heap.size := (Array.getElem?_eq_some_iff.1 h).1
theorem IB.below {p B : Nat} {x : Int} {w w' : World} (h : IB p x w) (hB : p < B) (hb : Below B w w') : IB p x w' := (hb.block p hB).trans h
theorem IB.later {p : Nat} {x : Int} {w w' : World} (h : IB p x w) (hb : Below w.heap.size w w') : IB p x w' := h.below h.lt hb
theorem mv_none {w w' : World} (h : Mv (fun _ => False) w w' (fun _ => False)) : Below w.heap.size w w' := ⟨h.os, h.tape, h.output, h.size, fun b hb => h.block b hb (fun e => e)⟩
/-- a function value that only reads -/
theorem read_bad {k B : Nat} {cap : Array Value} {n : Int} {P : Int → Bool} {J : World → Prop} (hent : ∀ args w, (callFunc k args).run Try.prog w = .ok (.enter k args) w) (hk : ∀ w w', J w → Below B w w' → J w') (hc : ∀ w x, J w → Calls Try.prog k (#[.int .i64 x] ++ cap) w fun e w' => e = .returned (.bool (P x)) ∧ w' = w) : BadF k cap B n P (fun _ => False) (fun _ w => J w) := by
  refine ⟨hent, fun _ h => absurd h (fun e => e), fun _ w w' h hb => hk w w' h hb, fun j w x _ _ _ hI => ?_⟩
  refine (hc w x hI).mono ?_
  rintro e w' ⟨rfl, rfl⟩
  exact ⟨rfl, hI, rfl, rfl, rfl, Nat.le_refl _, fun _ _ _ => rfl, fun _ h => absurd h (fun e => e)⟩
/-- what First tells of what is so from s on -/
theorem since_told {k B : Nat} {cap : Array Value} {n s : Int} {J : World → Prop} (w : World) (hB : B ≤ w.heap.size) (hent : ∀ args w, (callFunc k args).run Try.prog w = .ok (.enter k args) w) (hk : ∀ w w', J w → Below B w w' → J w') (hc : ∀ w x, J w → Calls Try.prog k (#[.int .i64 x] ++ cap) w fun e w' => e = .returned (.bool (decide (s ≤ x))) ∧ w' = w) (hJ : J w) :
    Calls Try.prog 5 #[.int .i64 n, bfv k cap] w fun e w' => ∃ v q : Int, e = .returned (.tuple #[.int .i64 v, errOf q]) ∧ (¬ (0 ≤ n ∧ n ≤ 1073741824) → v = 0 ∧ q = 1) ∧ (0 ≤ n → n ≤ 1073741824 → (n ≤ s ∨ n = 0 → q = 2 ∧ v = 0) ∧ (s < n → ¬ n = 0 → q = 0 ∧ v = max s 0)) ∧ Below w.heap.size w w' := by
  refine (first_prog w (read_bad (n := n) (P := fun x => decide (s ≤ x)) hent hk hc) hJ hB).mono ?_
  rintro e w' ⟨v, q, j, rfl, h, _, _, _, hm⟩
  exact ⟨v, q, rfl, h.range, fun h0 h1 => first_since h h0 h1 (fun _ _ _ => rfl), mv_none hm⟩
theorem four_told (k : Nat) (w : World) (hent : ∀ args w, (callFunc k args).run Try.prog w = .ok (.enter k args) w) (hc : ∀ (w : World) (x : Int), Calls Try.prog k #[.int .i64 x] w fun e w' => e = .returned (.bool (decide (4 ≤ x))) ∧ w' = w) :
    Calls Try.prog 5 #[.int .i64 9, bfv k #[]] w fun e w' => e = .returned (.tuple #[.int .i64 4, .nilIface]) ∧ Below w.heap.size w w' := by
  have H := since_told (k := k) (cap := #[]) (B := 0) (s := 4) (n := 9) (J := fun _ => True) w (Nat.zero_le _) hent (fun _ _ _ _ => trivial) (fun w x _ => hc w x) trivial
  refine H.mono ?_
  rintro e w' ⟨v, q, rfl, _, h, hb⟩
  have h2 := h (by omega) (by omega)
  obtain ⟨hq, hv⟩ := h2.2 (by omega) (by omega)
  subst hq
  obtain rfl : v = 4 := by omega
  rw [errOf_ok]
  exact ⟨rfl, hb⟩
end Go.Proofs.Ytcgbombilgacjaa.Bis
