/- Pairwise testing: what Check, Missing and Rows tell. Contracts; no program. -/
import Derived.Test.YtbajkbkfinineaaDoorMissL
import Derived.Test.YtbajkbkfinineaaDoorArr
import Derived.Test.YtbajkbkfinineaaDoorGridD
import Derived.Test.YtbajkbkfinineaaDoorErr
namespace Go.Proofs.YtbajkbkfinineaaDoor.Pair
open Go.RowKit Ints Vals Arr
set_option linter.unusedVariables false

/-- the error of Check -/
def levE (levels : List Int) : Int := if 12 < levels.length then 4 else if levels.all (fun x => decide (1 ≤ x ∧ x ≤ 5)) = true then 0 else 1
theorem lev_ok {levels : List Int} (h : levE levels = 0) : levels.length ≤ 12 ∧ ∀ x ∈ levels, 1 ≤ x ∧ x ≤ 5 := by
  unfold levE at h
  by_cases h1 : 12 < levels.length
  · rw [if_pos h1] at h; cases h
  · rw [if_neg h1] at h
    by_cases h2 : levels.all (fun x => decide (1 ≤ x ∧ x ≤ 5)) = true
    · exact ⟨by omega, fun x hx => by
        have := List.all_eq_true.1 h2 x hx
        exact of_decide_eq_true this⟩
    · rw [if_neg h2] at h; cases h
theorem lev_is {levels : List Int} (h1 : levels.length ≤ 12) (h2 : ∀ x ∈ levels, 1 ≤ x ∧ x ≤ 5) : levE levels = 0 := by
  unfold levE
  rw [if_neg (by omega), if_pos (List.all_eq_true.2 fun x hx => decide_eq_true (h2 x hx))]
theorem lev_no {levels : List Int} (h1 : levels.length ≤ 12) (h2 : ¬ ∀ x ∈ levels, 1 ≤ x ∧ x ≤ 5) : levE levels = 1 := by
  unfold levE
  rw [if_neg (by omega), if_neg (fun h => h2 fun x hx => of_decide_eq_true (List.all_eq_true.1 h x hx))]
/-- is it a row? -/
def rowB (levels r : List Int) : Bool := decide (r.length = levels.length) && (List.range levels.length).all fun i => decide (0 ≤ r.getD i 0 ∧ r.getD i 0 < levels.getD i 0)
theorem row_right {levels r : List Int} (h : rowB levels r = true) : r.length = levels.length ∧ ∀ i, i < levels.length → 0 ≤ r.getD i 0 ∧ r.getD i 0 < levels.getD i 0 := by
  unfold rowB at h
  rw [Bool.and_eq_true, decide_eq_true_eq, List.all_eq_true] at h
  exact ⟨h.1, fun i hi => of_decide_eq_true (h.2 i (by simpa using hi))⟩
def misE (levels : List Int) (rows : List (List Int)) : Int := if levE levels = 0 then (if rows.all (rowB levels) = true then 0 else 3) else levE levels
theorem mis_ok {levels : List Int} {rows : List (List Int)} (h : misE levels rows = 0) : levE levels = 0 ∧ ∀ r ∈ rows, rowB levels r = true := by
  unfold misE at h
  by_cases h1 : levE levels = 0
  · rw [if_pos h1] at h
    by_cases h2 : rows.all (rowB levels) = true
    · exact ⟨h1, List.all_eq_true.1 h2⟩
    · rw [if_neg h2] at h; cases h
  · rw [if_neg h1] at h; exact absurd h h1
def misV (levels : List Int) (rows : List (List Int)) : List Quad := if misE levels rows = 0 then missL levels rows else []
def four (q : Quad) : List Value := [.int .i64 q.a, .int .i64 q.x, .int .i64 q.b, .int .i64 q.y]
theorem even_four : Even 4 four := ⟨by omega, fun x => ⟨rfl, fun u hu => by
  unfold four at hu
  simp only [List.mem_cons, List.not_mem_nil, or_false] at hu
  rcases hu with rfl | rfl | rfl | rfl <;> rfl⟩⟩
/-- the cells of a quadruple -/
theorem four_cells {w : World} {S : Nat → Prop} {A : Option Addr} {zs : List Quad} (h : AtE 4 four w S A zs) (h0 : 0 < zs.length) : ∃ b off, A = some ⟨b, off, none⟩ ∧ S b ∧ ∀ j (hj : j < zs.length), w.cell? ⟨b, off + j * 4, none⟩ = some (.int .i64 zs[j].a) ∧ w.cell? ⟨b, off + j * 4 + 1, none⟩ = some (.int .i64 zs[j].x) ∧ w.cell? ⟨b, off + j * 4 + 2, none⟩ = some (.int .i64 zs[j].b) ∧ w.cell? ⟨b, off + j * 4 + 3, none⟩ = some (.int .i64 zs[j].y) := by
  obtain ⟨b, off, e, hS, hc⟩ := h h0
  exact ⟨b, off, e, hS, fun j hj => ⟨hc j hj 0 (by omega), hc j hj 1 (by omega), hc j hj 2 (by omega), hc j hj 3 (by omega)⟩⟩
/-- what Missing tells -/
def MiPost (z : List Quad) (q : Int) (w : World) (e : Ending) (w' : World) : Prop :=
  ∃ (A : Option Addr) (c : Nat), e = .returned (.tuple #[.slice A z.length c, errOf q]) ∧ AtE 4 four w' (fun b => w.heap.size ≤ b ∧ b < w'.heap.size) A z ∧ Below w.heap.size w w'
/-- what Rows tells -/
def RwPost (z : List (List Int)) (q : Int) (w : World) (e : Ending) (w' : World) : Prop :=
  ∃ (A : Option Addr) (c : Nat), e = .returned (.tuple #[.slice A z.length c, errOf q]) ∧ OwnRowsD w' w.heap.size A c z ∧ Below w.heap.size w w'
end Go.Proofs.YtbajkbkfinineaaDoor.Pair
