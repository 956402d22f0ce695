/- Generators that a statement builds of others. No program but the types. -/
import Derived.Test.YtppahcjpffbkbaaGCount
import Derived.Test.YtppahcjpffbkbaaSrcL
namespace Go.Proofs.Ytppahcjpffbkbaa.Gens
open Go.RowKit Lists Ints Vals
set_option linter.unusedVariables false

theorem wf0 : Wf 0 := by decide
theorem gat_wf {w : World} {S : Nat → Prop} {n : Nat} {t : Gn} {A : Option Addr} {c : Nat} (h : GAt w S n (gv t A c) t) : Wf t.kind ∧ Wf t.a ∧ Wf t.b := by
  obtain ⟨_, _, _, _, hw, _⟩ := h.open_
  exact hw
theorem gat_sub1 {w : World} {n : Nat} {t : Gn} {A : Option Addr} {c : Nat} {k a : Int} (hk : Wf k) (ha : Wf a) (h : GAt w (GBel w.heap.size) n (gv t A c) t) :
    let W := w.alloc (.cells #[.int .i64 t.kind, .int .i64 t.a, .int .i64 t.b, .slice A t.subs.length c] 24)
    GAt W (GBel W.heap.size) (n + 1) (.agg #[.int .i64 k, .int .i64 a, .int .i64 0, .slice (some ⟨w.heap.size, 0, none⟩) 1 1]) (.node k a 0 [t]) := by
  intro W
  have hz : W.heap.size = w.heap.size + 1 := by show (World.alloc _ _).heap.size = _; simp
  have g := (show G4 w.heap.size (.int .i64 t.kind) (.int .i64 t.a) (.int .i64 t.b) (.slice A t.subs.length c) W from new_obj w _).facts
  have hs : GAt W (GBel W.heap.size) n (gv t A c) t := (h.below (bel1 w _)).more (by omega)
  refine ⟨⟨hk, ha, wf0⟩, some ⟨w.heap.size, 0, none⟩, 1, rfl, fun _ => ⟨w.heap.size, 0, rfl, by show w.heap.size < W.heap.size; omega, fun j hj => ?_⟩⟩
  have hj0 : j = 0 := by simp [Gn.subs] at hj; exact hj
  subst hj0
  exact ⟨_, _, _, _, by simpa using g.1, by simpa using g.2.1, by simpa using g.2.2.1, by simpa using g.2.2.2, hs⟩
/-- of two -/
theorem gat_sub2 {w : World} {n m : Nat} {t u : Gn} {A A' : Option Addr} {c c' : Nat} {k : Int} (hk : Wf k) (h : GAt w (GBel w.heap.size) n (gv t A c) t) (h' : GAt w (GBel w.heap.size) m (gv u A' c') u) :
    let W := w.alloc (.cells #[.int .i64 t.kind, .int .i64 t.a, .int .i64 t.b, .slice A t.subs.length c, .int .i64 u.kind, .int .i64 u.a, .int .i64 u.b, .slice A' u.subs.length c'] 24)
    GAt W (GBel W.heap.size) (n + m + 1) (.agg #[.int .i64 k, .int .i64 0, .int .i64 0, .slice (some ⟨w.heap.size, 0, none⟩) 2 2]) (.node k 0 0 [t, u]) := by
  intro W
  have hz : W.heap.size = w.heap.size + 1 := by show (World.alloc _ _).heap.size = _; simp
  have hn : W.heap[w.heap.size]? = some (.cells #[.int .i64 t.kind, .int .i64 t.a, .int .i64 t.b, .slice A t.subs.length c, .int .i64 u.kind, .int .i64 u.a, .int .i64 u.b, .slice A' u.subs.length c'] 24 (0, 0)) := new_obj w _
  have hs : GAt W (GBel W.heap.size) (n + m) (gv t A c) t := GAt.up (by omega) ((h.below (bel1 w _)).more (by omega))
  have hs' : GAt W (GBel W.heap.size) (n + m) (gv u A' c') u := GAt.up (by omega) ((h'.below (bel1 w _)).more (by omega))
  refine ⟨⟨hk, wf0, wf0⟩, some ⟨w.heap.size, 0, none⟩, 2, rfl, fun _ => ⟨w.heap.size, 0, rfl, by show w.heap.size < W.heap.size; omega, fun j hj => ?_⟩⟩
  have hj2 : j = 0 ∨ j = 1 := by simp [Gn.subs] at hj; omega
  rcases hj2 with rfl | rfl
  · exact ⟨.int .i64 t.kind, .int .i64 t.a, .int .i64 t.b, .slice A t.subs.length c, by rw [Lib.cell_of_heap hn]; rfl, by rw [Lib.cell_of_heap hn]; rfl, by rw [Lib.cell_of_heap hn]; rfl, by rw [Lib.cell_of_heap hn]; rfl, hs⟩
  · exact ⟨.int .i64 u.kind, .int .i64 u.a, .int .i64 u.b, .slice A' u.subs.length c', by rw [Lib.cell_of_heap hn]; rfl, by rw [Lib.cell_of_heap hn]; rfl, by rw [Lib.cell_of_heap hn]; rfl, by rw [Lib.cell_of_heap hn]; rfl, hs'⟩
end Go.Proofs.Ytppahcjpffbkbaa.Gens
