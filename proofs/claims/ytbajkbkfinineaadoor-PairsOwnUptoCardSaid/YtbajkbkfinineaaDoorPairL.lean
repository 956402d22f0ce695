/- Pairwise testing: what is missing, how many rows there are at least and at most; the mathematics. No program. -/
import Derived.Test.YtbajkbkfinineaaDoorNodup
namespace Go.Proofs.YtbajkbkfinineaaDoor.Pair
open Nod
set_option linter.unusedVariables false

/-- of factor a level x, of factor b level y -/
structure Quad where
  a : Nat
  x : Nat
  b : Nat
  y : Nat
deriving DecidableEq
/-- the levels of a factor -/
def lv (levels : List Int) (a : Nat) : Nat := (levels.getD a 0).toNat
def metQ (q : Quad) (r : List Int) : Bool := r.getD q.a 0 == (q.x : Int) && r.getD q.b 0 == (q.y : Int)
def hasQ (rows : List (List Int)) (q : Quad) : Bool := rows.any (metQ q)
/-- the quadruples, in their order -/
def quadsB (levels : List Int) (a x b : Nat) : List Quad := (List.range (lv levels b)).map fun y => ⟨a, x, b, y⟩
def quadsX (levels : List Int) (a x : Nat) : List Quad := (List.range' (a + 1) (levels.length - (a + 1))).flatMap fun b => quadsB levels a x b
def quadsA (levels : List Int) (a : Nat) : List Quad := (List.range (lv levels a)).flatMap fun x => quadsX levels a x
def quads (levels : List Int) : List Quad := (List.range levels.length).flatMap fun a => quadsA levels a
def missL (levels : List Int) (rows : List (List Int)) : List Quad := (quads levels).filter fun q => !hasQ rows q
theorem mem_quads {levels : List Int} {q : Quad} : q ∈ quads levels ↔ q.a < q.b ∧ q.b < levels.length ∧ q.x < lv levels q.a ∧ q.y < lv levels q.b := by
  obtain ⟨a, x, b, y⟩ := q
  unfold quads quadsA quadsX quadsB
  simp only [List.mem_flatMap, List.mem_range, List.mem_range'_1, List.mem_map, Quad.mk.injEq]
  constructor
  · rintro ⟨a', h1, x', h2, b', h3, y', h4, rfl, rfl, rfl, rfl⟩
    exact ⟨by omega, by omega, h2, h4⟩
  · rintro ⟨h1, h2, h3, h4⟩
    exact ⟨a, by omega, x, h3, b, by omega, y, h4, rfl, rfl, rfl, rfl⟩
theorem mem_miss {levels : List Int} {rows : List (List Int)} {q : Quad} : q ∈ missL levels rows ↔ q ∈ quads levels ∧ hasQ rows q = false := by
  unfold missL
  rw [List.mem_filter]
  simp
theorem has_append (rows : List (List Int)) (r : List Int) (q : Quad) : hasQ (rows ++ [r]) q = (hasQ rows q || metQ q r) := by
  unfold hasQ
  rw [List.any_append]
  simp
/-- a row more -/
theorem miss_more (levels : List Int) (rows : List (List Int)) (r : List Int) : missL levels (rows ++ [r]) = (missL levels rows).filter fun q => !metQ q r := by
  unfold missL
  rw [List.filter_filter]
  congr 1
  funext q
  rw [has_append]
  cases hasQ rows q <;> cases metQ q r <;> rfl
theorem filter_count {α : Type} (p : α → Bool) (l : List α) : (l.filter fun q => !p q).length + (l.filter p).length = l.length := by
  induction l with
  | nil => rfl
  | cons a l ih => cases h : p a <;> simp [h] <;> omega
theorem more_count (levels : List Int) (rows : List (List Int)) (r : List Int) : (missL levels (rows ++ [r])).length + ((missL levels rows).filter fun q => metQ q r).length = (missL levels rows).length := by
  rw [miss_more]
  exact filter_count (fun q => metQ q r) (missL levels rows)

/-- what Rows may tell -/
structure RowsOk (levels : List Int) (rows : List (List Int)) : Prop where
  right : ∀ r ∈ rows, r.length = levels.length ∧ ∀ i, i < levels.length → 0 ≤ r.getD i 0 ∧ r.getD i 0 < levels.getD i 0
  all : missL levels rows = []
  least : ∀ i, i < rows.length → missL levels (rows.eraseIdx i) ≠ []
theorem RowsOk.has {levels : List Int} {rows : List (List Int)} (h : RowsOk levels rows) {q : Quad} (hq : q ∈ quads levels) : ∃ r ∈ rows, metQ q r = true := by
  have : hasQ rows q = true := by
    apply Classical.byContradiction
    intro hc
    have : q ∈ missL levels rows := mem_miss.2 ⟨hq, Bool.eq_false_iff.2 hc⟩
    rw [h.all] at this
    cases this
  unfold hasQ at this
  exact List.any_eq_true.1 this
/-- at least as many as two factors have together -/
theorem rows_least {levels : List Int} {rows : List (List Int)} (h : RowsOk levels rows) {a b : Nat} (hab : a < b) (hb : b < levels.length) : lv levels a * lv levels b ≤ rows.length := by
  by_cases h0 : lv levels b = 0
  · rw [h0]; simp
  have hb0 : 0 < lv levels b := by omega
  have hn : ((List.range (lv levels a * lv levels b)).map fun k => (((k / lv levels b : Nat) : Int), ((k % lv levels b : Nat) : Int))).Nodup := by
    apply nodup_range_map
    intro i j _ _ e
    simp only [Prod.mk.injEq] at e
    have e1 : i / lv levels b = j / lv levels b := by omega
    have e2 : i % lv levels b = j % lv levels b := by omega
    rw [← Nat.div_add_mod i (lv levels b), ← Nat.div_add_mod j (lv levels b), e1, e2]
  have := nodup_len (m := rows.map fun r => (r.getD a 0, r.getD b 0)) hn (by
    intro p hp
    rw [List.mem_map] at hp
    obtain ⟨k, hk, rfl⟩ := hp
    rw [List.mem_range] at hk
    obtain ⟨r, hr, hm⟩ := h.has (q := ⟨a, k / lv levels b, b, k % lv levels b⟩) (mem_quads.2 ⟨hab, hb, Nat.div_lt_of_lt_mul (by rw [Nat.mul_comm]; exact hk), Nat.mod_lt _ hb0⟩)
    unfold metQ at hm
    simp only [Bool.and_eq_true, beq_iff_eq] at hm
    rw [List.mem_map]
    exact ⟨r, hr, by rw [hm.1, hm.2]⟩)
  simpa using this
/-- a row by itself -/
theorem erase_miss {levels : List Int} {rows : List (List Int)} {i : Nat} {q : Quad} (hq : hasQ (rows.eraseIdx i) q = false) {j : Nat} (hj : j < rows.length) (hne : j ≠ i) : metQ q rows[j] = false := by
  unfold hasQ at hq
  rw [List.any_eq_false] at hq
  have := hq rows[j] (List.mem_eraseIdx_iff_getElem.2 ⟨j, hj, hne, rfl⟩)
  simpa using this
theorem RowsOk.only {levels : List Int} {rows : List (List Int)} (h : RowsOk levels rows) {i j : Nat} (hi : i < rows.length) (hj : j < rows.length) {q : Quad} (h1 : q ∈ missL levels (rows.eraseIdx i)) (h2 : q ∈ missL levels (rows.eraseIdx j)) : i = j := by
  apply Classical.byContradiction
  intro hne
  obtain ⟨hq, e1⟩ := mem_miss.1 h1
  obtain ⟨_, e2⟩ := mem_miss.1 h2
  obtain ⟨r, hr, hm⟩ := h.has hq
  obtain ⟨k, hk, rfl⟩ := List.mem_iff_getElem.1 hr
  by_cases hki : k = i
  · rw [erase_miss (levels := levels) e2 hk (by omega)] at hm; cases hm
  · rw [erase_miss (levels := levels) e1 hk hki] at hm; cases hm
/-- all quadruples, counted another way -/
def allB (levels : List Int) (a : Nat) : Nat → Nat
  | 0 => 0
  | b + 1 => allB levels a b + lv levels a * lv levels b
def allA (levels : List Int) : Nat → Nat
  | 0 => 0
  | a + 1 => allA levels a + allB levels a a
def sideB (levels : List Int) (a b : Nat) : List Quad := (List.range (lv levels a)).flatMap fun x => (List.range (lv levels b)).map fun y => ⟨b, y, a, x⟩
theorem sum_const (n c : Nat) : ((List.range n).map fun _ => c).sum = n * c := by
  rw [List.map_const', List.sum_replicate_nat]
  simp
theorem sideB_len (levels : List Int) (a b : Nat) : (sideB levels a b).length = lv levels a * lv levels b := by
  unfold sideB
  rw [List.length_flatMap]
  simp only [List.length_map, List.length_range]
  exact sum_const _ _
theorem sideA_len (levels : List Int) (a : Nat) : ∀ b, ((List.range b).flatMap fun j => sideB levels a j).length = allB levels a b := by
  intro b
  induction b with
  | zero => rfl
  | succ b ih => rw [List.range_succ, List.flatMap_append, List.length_append, ih, List.flatMap_singleton, sideB_len]; rfl
theorem side_len (levels : List Int) : ∀ n, ((List.range n).flatMap fun a => (List.range a).flatMap fun b => sideB levels a b).length = allA levels n := by
  intro n
  induction n with
  | zero => rfl
  | succ n ih => rw [List.range_succ, List.flatMap_append, List.length_append, ih, List.flatMap_singleton, sideA_len]; rfl
theorem rows_most {levels : List Int} {rows : List (List Int)} (h : RowsOk levels rows) : rows.length ≤ allA levels levels.length := by
  rw [← side_len]
  have hf : ∀ i, i < rows.length → (missL levels (rows.eraseIdx i)).headD ⟨0, 0, 0, 0⟩ ∈ missL levels (rows.eraseIdx i) := fun i hi => by
    have := h.least i hi
    cases hm : missL levels (rows.eraseIdx i) with
    | nil => exact absurd hm this
    | cons q r => simp
  have hn := nodup_range_map (n := rows.length) (fun i => (missL levels (rows.eraseIdx i)).headD ⟨0, 0, 0, 0⟩) (fun i j hi hj e => h.only hi hj (hf i hi) (by rw [e]; exact hf j hj))
  have := nodup_len hn (m := (List.range levels.length).flatMap fun a => (List.range a).flatMap fun b => sideB levels a b) (by
    intro q hq
    rw [List.mem_map] at hq
    obtain ⟨i, hi, rfl⟩ := hq
    have hm := (mem_miss.1 (hf i (by simpa using hi))).1
    generalize (missL levels (rows.eraseIdx i)).headD ⟨0, 0, 0, 0⟩ = q at hm
    obtain ⟨a, x, b, y⟩ := q
    obtain ⟨h1, h2, h3, h4⟩ := mem_quads.1 hm
    unfold sideB
    simp only [List.mem_flatMap, List.mem_range, List.mem_map, Quad.mk.injEq]
    exact ⟨b, h2, a, h1, y, h4, x, h3, rfl, rfl, rfl, rfl⟩)
  simpa using this
/-- no two rows are the same -/
theorem RowsOk.nodup {levels : List Int} {rows : List (List Int)} (h : RowsOk levels rows) : ∀ i j (hi : i < rows.length) (hj : j < rows.length), rows[i] = rows[j] → i = j := by
  intro i j hi hj e
  apply Classical.byContradiction
  intro hne
  have h0 := h.least i hi
  cases hm : missL levels (rows.eraseIdx i) with
  | nil => exact h0 hm
  | cons q t =>
    have hq : q ∈ missL levels (rows.eraseIdx i) := by rw [hm]; simp
    obtain ⟨hq1, hq2⟩ := mem_miss.1 hq
    obtain ⟨r, hr, hmet⟩ := h.has hq1
    obtain ⟨k, hk, rfl⟩ := List.mem_iff_getElem.1 hr
    by_cases hki : k = i
    · subst hki
      rw [e] at hmet
      rw [erase_miss (levels := levels) hq2 hj (by omega)] at hmet
      cases hmet
    · rw [erase_miss (levels := levels) hq2 hk hki] at hmet
      cases hmet
/-- of two factors, and one of one level perhaps -/
theorem two_most {levels : List Int} {rows : List (List Int)} (h : RowsOk levels rows) (hl : levels.length = 2 ∨ (levels.length = 3 ∧ levels.getD 2 0 = 1)) : rows.length ≤ lv levels 0 * lv levels 1 := by
  have hn := nodup_range_map (n := rows.length) (fun i => ((rows.getD i []).getD 0 0, (rows.getD i []).getD 1 0)) (fun i j hi hj e => by
    refine h.nodup i j hi hj ?_
    simp only [Prod.mk.injEq, List.getD_eq_getElem?_getD (l := rows), List.getElem?_eq_getElem hi, List.getElem?_eq_getElem hj, Option.getD_some] at e
    obtain ⟨l1, r1⟩ := h.right rows[i] (List.getElem_mem hi)
    obtain ⟨l2, r2⟩ := h.right rows[j] (List.getElem_mem hj)
    apply List.ext_getElem (by omega)
    intro k hk1 hk2
    have g1 : rows[i].getD k 0 = rows[i][k] := by simp [List.getD_eq_getElem?_getD, hk1]
    have g2 : rows[j].getD k 0 = rows[j][k] := by simp [List.getD_eq_getElem?_getD, hk2]
    rw [← g1, ← g2]
    have hk : k = 0 ∨ k = 1 ∨ (k = 2 ∧ levels.length = 3) := by omega
    rcases hk with rfl | rfl | ⟨rfl, h3⟩
    · exact e.1
    · exact e.2
    · have a1 := r1 2 (by omega)
      have a2 := r2 2 (by omega)
      rcases hl with hl | ⟨_, hl⟩ <;> omega)
  have := nodup_len hn (m := (List.range (lv levels 0)).flatMap fun x : Nat => (List.range (lv levels 1)).map fun y : Nat => ((x : Int), (y : Int))) (by
    intro p hp
    rw [List.mem_map] at hp
    obtain ⟨i, hi, rfl⟩ := hp
    rw [List.mem_range] at hi
    obtain ⟨_, r1⟩ := h.right rows[i] (List.getElem_mem hi)
    have a0 := r1 0 (by omega)
    have a1 := r1 1 (by omega)
    have e : rows.getD i [] = rows[i] := by simp [List.getD_eq_getElem?_getD, hi]
    rw [e]
    simp only [List.mem_flatMap, List.mem_range, List.mem_map, Prod.mk.injEq]
    unfold lv
    exact ⟨(rows[i].getD 0 0).toNat, by omega, (rows[i].getD 1 0).toNat, by omega, by omega, by omega⟩)
  rw [List.length_flatMap] at this
  simp only [List.length_map, List.length_range, sum_const] at this
  exact this
end Go.Proofs.YtbajkbkfinineaaDoor.Pair
