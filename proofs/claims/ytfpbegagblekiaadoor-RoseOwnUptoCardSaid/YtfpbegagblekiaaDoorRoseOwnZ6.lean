/- RoseOwn, part 6 of the proof: A generator's box; small laws. No program but the types. -/
import Derived.Test.YtfpbegagblekiaaDoorRoseOwnZ4
import Derived.Test.YtfpbegagblekiaaDoorRoseOwnZ2
import Derived.Test.YtfpbegagblekiaaDoorRoseOwnZ5
import Derived.Lib.Bytealg
import Derived.Lib.Walk
import Derived.Lib.BufferWrite
/- A generator's box; small laws. No program but the types. -/
namespace Go.Proofs.YtfpbegagblekiaaDoor.Gens
open Go.RowKit Lists Ints
set_option linter.unusedVariables false

abbrev gc (t : Gn) (A : Option Addr) (c : Nat) : Obj := .cells #[.int .i64 t.kind, .int .i64 t.a, .int .i64 t.b, .slice A t.subs.length c] 24
theorem gheap_new (w : World) (o : Obj) : (w.alloc o).heap[w.heap.size]? = some o := by
  show (w.heap.push o)[w.heap.size]? = _
  simp
/-- a box of a generator -/
theorem gbox (w w' : World) (x0 x1 x2 x3 : Value) (h : Below (w.alloc (.cells #[x0, x1, x2, x3] 24)).heap.size (w.alloc (.cells #[x0, x1, x2, x3] 24)) w') :
    w'.cell? ⟨w.heap.size, 0, none⟩ = some x0 ∧ w'.cell? ⟨w.heap.size, 1, none⟩ = some x1 ∧ w'.cell? ⟨w.heap.size, 2, none⟩ = some x2 ∧ w'.cell? ⟨w.heap.size, 3, none⟩ = some x3 := by
  have hb := h.block w.heap.size (by simp)
  rw [gheap_new] at hb
  exact ⟨by rw [Lib.cell_of_heap hb]; rfl, by rw [Lib.cell_of_heap hb]; rfl, by rw [Lib.cell_of_heap hb]; rfl, by rw [Lib.cell_of_heap hb]; rfl⟩
theorem i64_wf {x : Int} (h : Wf x) : I64 x := by
  simp only [Wf, Lit.wf, IntKind.min, IntKind.max, IntKind.signed, IntKind.bits, Bool.and_eq_true] at h
  unfold I64
  simp at h
  omega
theorem ret_p {a b c d : Value} (h : a = c) (h' : b = d) : Ending.returned (.tuple #[a, b]) = .returned (.tuple #[c, d]) := by rw [h, h']
end Go.Proofs.YtfpbegagblekiaaDoor.Gens
