/- TopFails, part 16 of the proof: The program's Mend: its closure as a source of choices. Conditions: the size of the list. -/
import Derived.Test.YtabkihellcflhaaGreatDoorTopFailsZ11
import Derived.Lib.MinMax
/- The program's Mend: its closure as a source of choices. Conditions: the size of the list. -/
namespace Go.Proofs.YtabkihellcflhaaGreatDoor.Gens
open Go.RowKit Lists Ints Vals
set_option linter.unusedVariables false

/-- the box of a slice of numbers -/
def LB (p : Nat) (A : Option Addr) (n c : Nat) (w : World) : Prop := w.heap[p]? = some (.cells #[.slice A n c] 32 (0, 0))
theorem LB.cell {p n c : Nat} {A : Option Addr} {w : World} (h : LB p A n c w) : w.cell? ⟨p, 0, none⟩ = some (.slice A n c) := by rw [Lib.cell_of_heap h]; rfl
theorem LB.free {p n c : Nat} {A : Option Addr} {w : World} (h : LB p A n c w) : w.frozen? ⟨p, 0, none⟩ = false := Lib.frozen_of_heap h 0
theorem LB.lt {p n c : Nat} {A : Option Addr} {w : World} (h : LB p A n c w) : p < w.heap.size := (Array.getElem?_eq_some_iff.1 h).1
theorem LB.put {p n c : Nat} {A : Option Addr} {w : World} (h : LB p A n c w) (A' : Option Addr) (n' c' : Nat) : LB p A' n' c' (w.setCell ⟨p, 0, none⟩ (.slice A' n' c')) := by
  unfold LB at h ⊢
  simp [World.setCell, Array.getElem?_modify, h]
/-- the state of a source that reads a list out of box p -/
def IL (B p : Nat) (s : List Int) (X : Nat → Prop) (w : World) : Prop := (∀ b, X b ↔ b = p) ∧ B ≤ p ∧ s.length ≤ 4294967296 ∧ B ≤ w.heap.size ∧ ∃ A c, LB p A s.length c w ∧ At w B A s ∧ s.length ≤ c
theorem IL.keep {B p : Nat} {s : List Int} {X : Nat → Prop} {w w' : World} (h : IL B p s X w) (hk : ∀ b, b < B ∨ X b → w'.heap[b]? = w.heap[b]?) (hs : w.heap.size ≤ w'.heap.size) : IL B p s X w' := by
  obtain ⟨h1, h2, h3, h4, A, c, h5, h6, h7⟩ := h
  exact ⟨h1, h2, h3, Nat.le_trans h4 hs, A, c, (hk p (.inr ((h1 p).2 rfl))).trans h5, h6.keep (fun b o hb => World.cell?_of_block (hk b (.inl hb))), h7⟩
theorem IL.lt {B p : Nat} {s : List Int} {X : Nat → Prop} {w : World} (h : IL B p s X w) : B ≤ w.heap.size ∧ ∀ b, X b → B ≤ b ∧ b < w.heap.size := by
  obtain ⟨h1, h2, h3, h4, A, c, h5, h6, h7⟩ := h
  exact ⟨h4, fun b hb => by rw [h1] at hb; subst hb; exact ⟨h2, h5.lt⟩⟩
theorem At.tail {w : World} {B b off : Nat} {x : Int} {r : List Int} (h : At w B (some ⟨b, off, none⟩) (x :: r)) : At w B (some ⟨b, off + 1, none⟩) r := fun hp => by
  obtain ⟨b', o', e, hb, hc⟩ := h (by simp)
  simp only [Option.some.injEq, Addr.mk.injEq, and_true] at e
  obtain ⟨rfl, rfl⟩ := e
  refine ⟨b, off + 1, rfl, hb, fun j hj => ?_⟩
  have := hc (j + 1) (by simpa using hj)
  rw [show off + 1 + j = off + (j + 1) by omega, this]
  rfl

/-- one number further -/
theorem IL.step {B p c c' : Nat} {A A' : Option Addr} {r : List Int} {X : Nat → Prop} {w : World} (hX : ∀ b, X b ↔ b = p) (hBp : B ≤ p) (hsl : r.length + 1 ≤ 4294967296) (hBw : B ≤ w.heap.size) (hbox : LB p A (r.length + 1) c w) (hat : At w B A' r) (hcap : r.length ≤ c') :
    IL B p r X (w.setCell ⟨p, 0, none⟩ (.slice A' r.length c')) ∧ Mv X w (w.setCell ⟨p, 0, none⟩ (.slice A' r.length c')) X := by
  refine ⟨⟨hX, hBp, by omega, by simpa [World.setCell] using hBw, A', c', hbox.put A' r.length c', hat.keep fun b o hb => World.cell?_of_block (Below.heap_setCell _ _ _ _ (by show b ≠ p; omega)), hcap⟩, ?_⟩
  exact ⟨rfl, rfl, rfl, by simp [World.setCell], fun b hb hx => Below.heap_setCell _ _ _ _ (fun e => hx ((hX b).2 e)), fun b hb => .inl hb⟩

set_option maxHeartbeats 1000000 in
set_option maxRecDepth 100000 in
theorem src_mend (B p : Nat) : Src mendC 98 #[.pointer (some ⟨p, 0, none⟩)] B (IL B p) := by
  refine ⟨fun s X w w' h hk hs => h.keep hk hs, fun s X w h => h.lt, mend_bounded, fun args w => ?_, fun s X w m h0 h1 hI _ => ?_⟩
  · rfl
  · have HI := Lib.hid hI
    obtain ⟨hX, hBp, hsl, hBw, A, c, hbox, hat, hcap⟩ := hI
    have f0 := hbox.cell
    have f1 := hbox.free
    have HX := Lib.hid hX
    have HAT := Lib.hid hat
    have HBX := Lib.hid hbox
    have hp := hbox.lt
    clear hat hbox hX
    show Calls Tryz.prog 98 #[.int .i64 m, .pointer (some ⟨p, 0, none⟩)] w _
    cases s with
    | nil =>
      simp only [List.length_nil] at f0 hcap hsl
      go_enter Tryz.func98, Tryz.ntmps98
      go_wp2_with fail
      go_ret
      exact ⟨ret_int (by show (0 : Int) = max 0 (min 0 m); omega), X, HI.out, Mv.refl X w⟩
    | cons x r =>
      obtain ⟨b, off, rfl, hb, hc⟩ := HAT.out (by simp)
      have c0 : w.cell? ⟨b, off, none⟩ = some (.int .i64 x) := hc 0 (by simp)
      clear hc
      have g0 : (((r.length : Int) + 1) == 0) = false := by rw [beq_eq_false_iff_ne]; omega
      simp only [List.length_cons] at f0 hcap hsl
      have HR := Lib.hid (show min (max x 0) m = mendX (x :: r) m by show min (max x 0) m = max 0 (min x m); omega)
      by_cases hc1 : c = 1
      · obtain rfl : r = [] := List.eq_nil_of_length_eq_zero (by omega)
        have ST := Lib.hid (IL.step (A' := some ⟨b, off, none⟩) (c' := 0) HX.out hBp hsl hBw HBX.out (r := []) At.nil (by simp))
        subst hc1
        simp only [List.length_nil] at f0
        go_enter Tryz.func98, Tryz.ntmps98
        go_wp2_with fail
        go_ret
        exact ⟨ret_int HR.out, X, ST.out.1, ST.out.2⟩
      · have ST := Lib.hid (IL.step (A' := some ⟨b, off + 1, none⟩) (c' := c - 1) HX.out hBp hsl hBw HBX.out (r := r) (At.tail HAT.out) (by omega))
        go_enter Tryz.func98, Tryz.ntmps98
        go_wp2_with fail
        go_ret
        exact ⟨ret_int HR.out, X, ST.out.1, ST.out.2⟩
end Go.Proofs.YtabkihellcflhaaGreatDoor.Gens
