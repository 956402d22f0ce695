/- What is missing, quadruple by quadruple, as four loops make it; the mathematics. No program. -/
import Derived.Test.YtbajkbkfinineaaDoorPairL
namespace Go.Proofs.YtbajkbkfinineaaDoor.Pair
set_option linter.unusedVariables false

def filt (rows : List (List Int)) (l : List Quad) : List Quad := l.filter fun q => !hasQ rows q
theorem filt_append (rows : List (List Int)) (l m : List Quad) : filt rows (l ++ m) = filt rows l ++ filt rows m := by unfold filt; rw [List.filter_append]
def pA (levels : List Int) (rows : List (List Int)) (a : Nat) : List Quad := filt rows ((List.range a).flatMap fun a => quadsA levels a)
def pX (levels : List Int) (rows : List (List Int)) (a x : Nat) : List Quad := pA levels rows a ++ filt rows ((List.range x).flatMap fun x => quadsX levels a x)
def pB (levels : List Int) (rows : List (List Int)) (a x b : Nat) : List Quad := pX levels rows a x ++ filt rows ((List.range' (a + 1) (b - (a + 1))).flatMap fun b => quadsB levels a x b)
def pY (levels : List Int) (rows : List (List Int)) (a x b y : Nat) : List Quad := pB levels rows a x b ++ filt rows ((List.range y).map fun y => ⟨a, x, b, y⟩)
theorem pA_zero (levels : List Int) (rows : List (List Int)) : pA levels rows 0 = [] := rfl
theorem pA_end (levels : List Int) (rows : List (List Int)) : pA levels rows levels.length = missL levels rows := rfl
theorem pX_zero (levels : List Int) (rows : List (List Int)) (a : Nat) : pX levels rows a 0 = pA levels rows a := by unfold pX filt; simp
theorem pX_end (levels : List Int) (rows : List (List Int)) (a : Nat) : pX levels rows a (lv levels a) = pA levels rows (a + 1) := by
  unfold pX pA
  rw [List.range_succ, List.flatMap_append, filt_append, List.flatMap_singleton]
  rfl
theorem pB_zero (levels : List Int) (rows : List (List Int)) (a x : Nat) : pB levels rows a x (a + 1) = pX levels rows a x := by unfold pB filt; simp
theorem pB_end (levels : List Int) (rows : List (List Int)) (a x : Nat) : pB levels rows a x levels.length = pX levels rows a (x + 1) := by
  unfold pB pX
  rw [List.range_succ, List.flatMap_append, filt_append, List.flatMap_singleton, ← List.append_assoc]
  rfl
theorem pY_zero (levels : List Int) (rows : List (List Int)) (a x b : Nat) : pY levels rows a x b 0 = pB levels rows a x b := by unfold pY filt; simp
theorem pY_step (levels : List Int) (rows : List (List Int)) (a x b y : Nat) : pY levels rows a x b (y + 1) = pY levels rows a x b y ++ (if hasQ rows ⟨a, x, b, y⟩ = true then [] else [⟨a, x, b, y⟩]) := by
  unfold pY
  rw [List.range_succ, List.map_append, filt_append, ← List.append_assoc]
  congr 1
  unfold filt
  cases h : hasQ rows ⟨a, x, b, y⟩ <;> simp [h]
theorem pY_end (levels : List Int) (rows : List (List Int)) (a x b : Nat) (h : a + 1 ≤ b) : pY levels rows a x b (lv levels b) = pB levels rows a x (b + 1) := by
  unfold pY pB
  rw [show b + 1 - (a + 1) = (b - (a + 1)) + 1 by omega, List.range'_concat, List.flatMap_append, filt_append, List.flatMap_singleton, ← List.append_assoc]
  congr 2
  rw [show a + 1 + 1 * (b - (a + 1)) = b by omega]
  rfl
/-- has one of the first i rows a pair? -/
def hasK (rows : List (List Int)) (q : Quad) (i : Nat) : Bool := (rows.take i).any (metQ q)
theorem hasK_zero (rows : List (List Int)) (q : Quad) : hasK rows q 0 = false := rfl
theorem hasK_end (rows : List (List Int)) (q : Quad) : hasK rows q rows.length = hasQ rows q := by unfold hasK hasQ; rw [List.take_length]
theorem hasK_step (rows : List (List Int)) (q : Quad) (i : Nat) (h : i < rows.length) : hasK rows q (i + 1) = (hasK rows q i || metQ q rows[i]) := by
  unfold hasK
  rw [List.take_succ_eq_append_getElem h, List.any_append]
  simp
theorem lv_small {levels : List Int} {a : Nat} (h : ∀ x ∈ levels, 1 ≤ x ∧ x ≤ 5) (ha : a < levels.length) : 1 ≤ lv levels a ∧ lv levels a ≤ 5 ∧ (lv levels a : Int) = levels.getD a 0 := by
  have e : levels.getD a 0 = levels[a] := by simp [List.getD_eq_getElem?_getD, ha]
  have := h levels[a] (List.getElem_mem ha)
  unfold lv
  rw [e]
  omega
theorem flat_le {α β : Type} (f : α → List β) (c : Nat) : ∀ (l : List α), (∀ x ∈ l, (f x).length ≤ c) → (l.flatMap f).length ≤ l.length * c := by
  intro l
  induction l with
  | nil => intro _; simp
  | cons a l ih =>
    intro h
    rw [List.flatMap_cons, List.length_append, List.length_cons, Nat.add_mul]
    have h1 := h a (by simp)
    have h2 := ih (fun x hx => h x (by simp [hx]))
    omega
theorem filt_le (rows : List (List Int)) (l : List Quad) : (filt rows l).length ≤ l.length := List.length_filter_le _ _
theorem lv_le {levels : List Int} (h : ∀ x ∈ levels, 1 ≤ x ∧ x ≤ 5) (a : Nat) : lv levels a ≤ 5 := by
  by_cases ha : a < levels.length
  · exact (lv_small h ha).2.1
  · unfold lv
    rw [List.getD_eq_getElem?_getD, List.getElem?_eq_none (by omega)]
    simp
theorem quadsX_le {levels : List Int} (hn : levels.length ≤ 12) (h : ∀ x ∈ levels, 1 ≤ x ∧ x ≤ 5) (a x : Nat) : (quadsX levels a x).length ≤ 60 := by
  unfold quadsX
  have := flat_le (fun b => quadsB levels a x b) 5 (List.range' (a + 1) (levels.length - (a + 1))) (fun b _ => by unfold quadsB; rw [List.length_map, List.length_range]; exact lv_le h b)
  rw [List.length_range'] at this
  omega
theorem quadsA_le {levels : List Int} (hn : levels.length ≤ 12) (h : ∀ x ∈ levels, 1 ≤ x ∧ x ≤ 5) (a : Nat) : (quadsA levels a).length ≤ 300 := by
  unfold quadsA
  have := flat_le (fun x => quadsX levels a x) 60 (List.range (lv levels a)) (fun x _ => quadsX_le hn h a x)
  rw [List.length_range] at this
  have := lv_le h a
  omega
/-- the lists on the way are short -/
theorem pY_le {levels : List Int} (hn : levels.length ≤ 12) (h : ∀ x ∈ levels, 1 ≤ x ∧ x ≤ 5) (rows : List (List Int)) {a x b y : Nat} (ha : a ≤ 12) (hx : x ≤ 5) (hb : b ≤ 12) (hy : y ≤ 5) : (pY levels rows a x b y).length ≤ 4000 := by
  unfold pY pB pX pA
  simp only [List.length_append]
  have h1 := Nat.le_trans (filt_le rows _) (flat_le (fun a => quadsA levels a) 300 (List.range a) (fun a _ => quadsA_le hn h a))
  have h2 := Nat.le_trans (filt_le rows _) (flat_le (fun x => quadsX levels a x) 60 (List.range x) (fun x _ => quadsX_le hn h a x))
  have h3 := Nat.le_trans (filt_le rows _) (flat_le (fun b => quadsB levels a x b) 5 (List.range' (a + 1) (b - (a + 1))) (fun b _ => by unfold quadsB; rw [List.length_map, List.length_range]; exact lv_le h b))
  have h4 := filt_le rows ((List.range y).map fun y => (⟨a, x, b, y⟩ : Quad))
  rw [List.length_range] at h1 h2
  rw [List.length_range'] at h3
  rw [List.length_map, List.length_range] at h4
  omega
theorem miss_le {levels : List Int} (hn : levels.length ≤ 12) (h : ∀ x ∈ levels, 1 ≤ x ∧ x ≤ 5) (rows : List (List Int)) : (missL levels rows).length ≤ 4000 := by
  rw [← pA_end, ← pX_zero, ← pB_zero, ← pY_zero]
  have := pY_le hn h rows (a := levels.length) (x := 0) (b := levels.length) (y := 0) hn (by omega) hn (by omega)
  have e : pY levels rows levels.length 0 (levels.length + 1) 0 = pY levels rows levels.length 0 levels.length 0 := by
    rw [pY_zero, pY_zero, pB_zero]
    unfold pB filt
    rw [show levels.length - (levels.length + 1) = 0 by omega]
    simp
  rw [e]
  exact this
end Go.Proofs.YtbajkbkfinineaaDoor.Pair
