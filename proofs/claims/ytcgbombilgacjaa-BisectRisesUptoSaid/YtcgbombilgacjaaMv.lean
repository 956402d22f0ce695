/- What a call leaves as it was, some blocks aside. No program. -/
import Derived.Test.YtcgbombilgacjaaBase
namespace Go.Proofs.Ytcgbombilgacjaa.Vals
open Go.RowKit
set_option linter.unusedVariables false

/-- what was there, X aside, is as it was; and what is new is none of X' but by being new -/
structure Mv (X : Nat → Prop) (w w' : World) (X' : Nat → Prop) : Prop where
  os : w'.os = w.os
  tape : w'.tape = w.tape
  output : w'.output = w.output
  size : w.heap.size ≤ w'.heap.size
  block : ∀ b, b < w.heap.size → ¬ X b → w'.heap[b]? = w.heap[b]?
  new : ∀ b, X' b → X b ∨ w.heap.size ≤ b
end Go.Proofs.Ytcgbombilgacjaa.Vals
namespace Go.Proofs.Ytcgbombilgacjaa.Gens
open Go.RowKit Vals
set_option linter.unusedVariables false
theorem mv_of {X : Nat → Prop} {w w' : World} (hb : Below w.heap.size w w') : Mv X w w' X := ⟨hb.os, hb.tape, hb.output, hb.size, fun b h _ => hb.block b h, fun b h => .inl h⟩
theorem mv_trans {X X1 X2 : Nat → Prop} {w w1 w2 : World} (h : Mv X w w1 X1) (h2 : Mv X1 w1 w2 X2) : Mv X w w2 X2 :=
  ⟨h2.os.trans h.os, h2.tape.trans h.tape, h2.output.trans h.output, Nat.le_trans h.size h2.size, fun b hb hx => (h2.block b (Nat.lt_of_lt_of_le hb h.size) (fun h1 => by rcases h.new b h1 with h1 | h1; exact hx h1; omega)).trans (h.block b hb hx), fun b hb => by
    rcases h2.new b hb with h1 | h1
    · exact h.new b h1
    · exact .inr (Nat.le_trans h.size h1)⟩
theorem mv_below {X X1 : Nat → Prop} {B : Nat} {w w1 : World} (h : Mv X w w1 X1) (hB : B ≤ w.heap.size) (hX : ∀ b, X b → B ≤ b) : Below B w w1 :=
  ⟨h.os, h.tape, h.output, h.size, fun b hb => h.block b (Nat.lt_of_lt_of_le hb hB) (fun hx => by have := hX b hx; omega)⟩
/-- what is new is none of it still -/
theorem mv_off {X X1 : Nat → Prop} {w w1 : World} (h : Mv X w w1 X1) {b : Nat} (hb : b < w.heap.size) (hx : ¬ X b) : ¬ X1 b := fun h1 => by
  rcases h.new b h1 with h1 | h1
  · exact hx h1
  · omega
end Go.Proofs.Ytcgbombilgacjaa.Gens
