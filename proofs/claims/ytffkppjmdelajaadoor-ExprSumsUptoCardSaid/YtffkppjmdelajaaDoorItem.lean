/- An item of a value, read at a later world. No program but the types. -/
import Derived.Test.YtffkppjmdelajaaDoorValL
import Derived.Test.YtffkppjmdelajaaDoorVal
import Derived.Deep.QuietTactic
import Derived.Outline
namespace Go.Proofs.YtffkppjmdelajaaDoor.Vals
open Go.RowKit Lists Ints
set_option linter.unusedVariables false

/-- an item of a value, read at a later world -/
theorem item_at {w wr : World} {B n : Nat} {A : Option Addr} {l : List Tr}
    (hit : 0 < l.length → ∃ b off, A = some ⟨b, off, none⟩ ∧ Bel B b ∧ ∀ j (h : j < l.length), ∃ x0 x1 x2, w.cell? ⟨b, off + j * 3, none⟩ = some x0 ∧ w.cell? ⟨b, off + j * 3 + 1, none⟩ = some x1 ∧ w.cell? ⟨b, off + j * 3 + 2, none⟩ = some x2 ∧ TAt w (Bel B) n (.agg #[x0, x1, x2]) (l[j]'h))
    (hb : Below B w wr) (k : Nat) (h : k < l.length) : ∃ b off x0 x1 x2, A = some ⟨b, off, none⟩ ∧ wr.cell? ⟨b, off + k * 3, none⟩ = some x0 ∧ wr.cell? ⟨b, off + k * 3 + 1, none⟩ = some x1 ∧ wr.cell? ⟨b, off + k * 3 + 2, none⟩ = some x2 ∧ TAt wr (Bel B) n (.agg #[x0, x1, x2]) (l[k]'h) := by
  obtain ⟨b, off, e, hB, hc⟩ := hit (by omega)
  obtain ⟨x0, x1, x2, c0, c1, c2, ht⟩ := hc k h
  exact ⟨b, off, x0, x1, x2, e, (hb.cell (p := ⟨b, _, none⟩) hB).trans c0, (hb.cell (p := ⟨b, _, none⟩) hB).trans c1, (hb.cell (p := ⟨b, _, none⟩) hB).trans c2, ht.below hb⟩

/-- an item of a value, read at a later world, its parts in sight -/
theorem item_as {w wr : World} {B n : Nat} {A : Option Addr} {l : List Tr}
    (hit : 0 < l.length → ∃ b off, A = some ⟨b, off, none⟩ ∧ Bel B b ∧ ∀ j (h : j < l.length), ∃ x0 x1 x2, w.cell? ⟨b, off + j * 3, none⟩ = some x0 ∧ w.cell? ⟨b, off + j * 3 + 1, none⟩ = some x1 ∧ w.cell? ⟨b, off + j * 3 + 2, none⟩ = some x2 ∧ TAt w (Bel B) n (.agg #[x0, x1, x2]) (l[j]'h))
    (hb : Below B w wr) (k : Nat) (h : k < l.length) : ∃ b off D d, A = some ⟨b, off, none⟩ ∧ wr.cell? ⟨b, off + k * 3, none⟩ = some (.bool (l[k]'h).list) ∧ wr.cell? ⟨b, off + k * 3 + 1, none⟩ = some (.int .i64 (l[k]'h).num) ∧ wr.cell? ⟨b, off + k * 3 + 2, none⟩ = some (.slice D (l[k]'h).items.length d) ∧
      TAt wr (Bel B) n (.agg #[.bool (l[k]'h).list, .int .i64 (l[k]'h).num, .slice D (l[k]'h).items.length d]) (l[k]'h) := by
  obtain ⟨b, off, x0, x1, x2, e, c0, c1, c2, ht⟩ := item_at hit hb k h
  obtain ⟨_, D, d, _, _, ev, _⟩ := ht.open_
  simp only [Value.agg.injEq, Array.mk.injEq, List.cons.injEq, and_true] at ev
  obtain ⟨rfl, rfl, rfl⟩ := ev
  exact ⟨b, off, D, d, e, c0, c1, c2, ht⟩

end Go.Proofs.YtffkppjmdelajaaDoor.Vals
