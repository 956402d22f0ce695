/- Boundary values: the edges and the pieces; the mathematics. No program. -/
import Derived.Test.YteaicmjihckbjaaDoorList
namespace Go.Proofs.YteaicmjihckbjaaDoor.Bnd
set_option linter.unusedVariables false

def midN (low high : Int) : Int := low + (high - low) / 2
/-- the edges, in their order, each once -/
def edgesL (low high : Int) : List Int :=
  low :: ((if low + 1 ≤ high then [low + 1] else []) ++ ((if low + 1 < midN low high then [midN low high] else []) ++ ((if low + 1 < high - 1 ∧ midN low high < high - 1 then [high - 1] else []) ++ (if low + 1 < high then [high] else []))))
theorem edges_one (low : Int) : edgesL low low = [low] := by
  unfold edgesL midN
  rw [if_neg (by omega), if_neg (by omega), if_neg (by omega), if_neg (by omega)]
  rfl
theorem edges_two (low : Int) : edgesL low (low + 1) = [low, low + 1] := by
  unfold edgesL midN
  rw [if_pos (by omega), if_neg (by omega), if_neg (by omega), if_neg (by omega)]
  rfl
theorem edges_three (low : Int) : edgesL low (low + 2) = [low, low + 1, low + 2] := by
  unfold edgesL midN
  rw [if_pos (by omega), if_neg (by omega), if_neg (by omega), if_pos (by omega)]
  rfl
theorem edges_four (low : Int) : edgesL low (low + 3) = [low, low + 1, low + 2, low + 3] := by
  unfold edgesL midN
  rw [if_pos (by omega), if_neg (by omega), if_pos (by omega), if_pos (by omega), show low + 3 - 1 = low + 2 by omega]
  rfl
theorem edges_more {low high : Int} (h : low + 4 ≤ high) : edgesL low high = [low, low + 1, midN low high, high - 1, high] := by
  unfold edgesL
  rw [if_pos (by omega), if_pos (by unfold midN; omega), if_pos (by unfold midN; omega), if_pos (by omega)]
  rfl
/-- what the statement wants: first what is no more than low + 2, then the rest -/
def allN (low high : Int) : List Int := [low, low + 1, midN low high, high - 1, high]
def wantA (low high : Int) : Nat → List Int
  | 0 => []
  | k + 1 => wantA low high k ++ (if (allN low high).contains (low - 1 + k) = true ∧ low ≤ low - 1 + k ∧ low - 1 + k ≤ high then [low - 1 + (k : Int)] else [])
def restN (low high : Int) (k : Nat) : Int := if k = 0 then midN low high else if k = 1 then high - 1 else high
def wantB (low high : Int) : Nat → List Int
  | 0 => wantA low high 4
  | k + 1 => wantB low high k ++ (if low + 2 < restN low high k ∧ (wantB low high k).contains (restN low high k) = false then [restN low high k] else [])
theorem in_all (low high x : Int) : (allN low high).contains x = true ↔ x = low ∨ x = low + 1 ∨ x = midN low high ∨ x = high - 1 ∨ x = high := by
  unfold allN
  simp
theorem wantA_pos {low high : Int} {k : Nat} (h : (low - 1 + (k : Int) = low ∨ low - 1 + (k : Int) = low + 1 ∨ low - 1 + (k : Int) = midN low high ∨ low - 1 + (k : Int) = high - 1 ∨ low - 1 + (k : Int) = high) ∧ low ≤ low - 1 + k ∧ low - 1 + k ≤ high) : wantA low high (k + 1) = wantA low high k ++ [low - 1 + (k : Int)] := by
  show _ ++ (if _ then _ else _) = _
  rw [if_pos ⟨(in_all _ _ _).2 h.1, h.2⟩]
theorem wantA_neg {low high : Int} {k : Nat} (h : ¬ ((low - 1 + (k : Int) = low ∨ low - 1 + (k : Int) = low + 1 ∨ low - 1 + (k : Int) = midN low high ∨ low - 1 + (k : Int) = high - 1 ∨ low - 1 + (k : Int) = high) ∧ low ≤ low - 1 + k ∧ low - 1 + k ≤ high)) : wantA low high (k + 1) = wantA low high k := by
  show _ ++ (if _ then _ else _) = _
  rw [if_neg (fun hc => h ⟨(in_all _ _ _).1 hc.1, hc.2⟩), List.append_nil]
theorem want_ahead {low high : Int} (h : low ≤ high) : wantA low high 4 = low :: ((if low + 1 ≤ high then [low + 1] else []) ++ (if low + 2 ≤ high ∧ high ≤ low + 5 then [low + 2] else [])) := by
  have e0 : wantA low high 1 = [] := wantA_neg (k := 0) (by omega)
  have e1 : wantA low high 2 = [low] := by
    rw [wantA_pos (k := 1) (by omega), e0]
    simp
  by_cases h1 : low + 1 ≤ high
  · have e2 : wantA low high 3 = [low, low + 1] := by
      rw [wantA_pos (k := 2) (by omega), e1]
      simp
      omega
    rw [if_pos h1]
    by_cases h2 : low + 2 ≤ high ∧ high ≤ low + 5
    · rw [if_pos h2, wantA_pos (k := 3) (by unfold midN; omega), e2]
      simp
      omega
    · rw [if_neg h2, wantA_neg (k := 3) (by unfold midN; omega), e2]
      simp
  · have e2 : wantA low high 3 = [low] := by rw [wantA_neg (k := 2) (by omega), e1]
    rw [if_neg h1, if_neg (by omega), wantA_neg (k := 3) (by omega), e2]
    simp
theorem wantB_pos {low high : Int} {k : Nat} {z : List Int} (e : wantB low high k = z) {r : Int} (hr : restN low high k = r) (h : low + 2 < r) (h2 : ∀ x ∈ z, ¬ x = r) : wantB low high (k + 1) = z ++ [r] := by
  have hc : z.contains r = false := by
    rw [Bool.eq_false_iff]
    intro hc
    have : r ∈ z := by simpa using hc
    exact h2 r this rfl
  show _ ++ (if _ then _ else _) = _
  rw [e, hr, if_pos ⟨h, hc⟩]
theorem wantB_neg {low high : Int} {k : Nat} {z : List Int} (e : wantB low high k = z) {r : Int} (hr : restN low high k = r) (h : ¬ low + 2 < r) : wantB low high (k + 1) = z := by
  show _ ++ (if _ then _ else _) = _
  rw [e, hr, if_neg (fun hc => h hc.1), List.append_nil]
theorem rest0 (low high : Int) : restN low high 0 = midN low high := rfl
theorem rest1 (low high : Int) : restN low high 1 = high - 1 := rfl
theorem rest2 (low high : Int) : restN low high 2 = high := rfl
/-- what is wanted are the edges -/
theorem want_edges {low high : Int} (h : low ≤ high) : wantB low high 3 = edgesL low high := by
  have e0 : wantB low high 0 = wantA low high 4 := rfl
  rw [want_ahead h] at e0
  by_cases h1 : high = low
  · subst h1
    rw [if_neg (by omega), if_neg (by omega)] at e0
    rw [edges_one]
    exact wantB_neg (wantB_neg (wantB_neg e0 (rest0 _ _) (by unfold midN; omega)) (rest1 _ _) (by omega)) (rest2 _ _) (by omega)
  rw [if_pos (by omega)] at e0
  by_cases h2 : high = low + 1
  · subst h2
    rw [if_neg (by omega)] at e0
    rw [edges_two]
    exact wantB_neg (wantB_neg (wantB_neg e0 (rest0 _ _) (by unfold midN; omega)) (rest1 _ _) (by omega)) (rest2 _ _) (by omega)
  by_cases h5 : high ≤ low + 5
  · rw [if_pos (by omega)] at e0
    have e1 := wantB_neg e0 (rest0 _ _) (by unfold midN; omega)
    by_cases h3 : high = low + 2
    · subst h3
      rw [edges_three]
      exact wantB_neg (wantB_neg e1 (rest1 _ _) (by omega)) (rest2 _ _) (by omega)
    by_cases h4 : high = low + 3
    · subst h4
      rw [edges_four]
      exact wantB_pos (wantB_neg e1 (rest1 _ _) (by omega)) (rest2 _ _) (by omega) (by intro x hx; simp at hx; omega)
    · rw [edges_more (by omega), show midN low high = low + 2 by unfold midN; omega]
      exact wantB_pos (wantB_pos e1 (rest1 _ _) (by omega) (by intro x hx; simp at hx; omega)) (rest2 _ _) (by omega) (by intro x hx; simp at hx; omega)
  · rw [if_neg (by omega)] at e0
    rw [edges_more (by omega)]
    have hm : low + 2 < midN low high ∧ midN low high < high - 1 := by unfold midN; omega
    have r0 := rest0 low high
    generalize midN low high = m at hm r0 ⊢
    exact wantB_pos (wantB_pos (wantB_pos e0 r0 hm.1 (by intro x hx; simp at hx; omega)) (rest1 _ _) (by omega) (by intro x hx; simp at hx; omega)) (rest2 _ _) (by omega) (by intro x hx; simp at hx; omega)
/-- what the edges are -/
theorem edges_five {low high : Int} (h : low ≤ high) : high = low ∨ high = low + 1 ∨ high = low + 2 ∨ high = low + 3 ∨ low + 4 ≤ high := by omega
theorem mid_in {low high : Int} (h : low + 4 ≤ high) : low + 1 < midN low high ∧ midN low high < high - 1 := by unfold midN; omega
structure EdgeOk (low high : Int) (z : List Int) : Prop where
  len : 1 ≤ z.length ∧ z.length ≤ 5
  within : ∀ i, i < z.length → low ≤ z.getD i 0 ∧ z.getD i 0 ≤ high
  rise : ∀ i, 0 < i → i < z.length → z.getD (i - 1) 0 < z.getD i 0
  first : z.getD 0 0 = low
  last : z.getD (z.length - 1) 0 = high
  near : ∀ x, (x = low + 1 ∨ x = high - 1) → low ≤ x → x ≤ high → z.contains x = true
theorem edges_ok {low high : Int} (h : low ≤ high) : EdgeOk low high (edgesL low high) := by
  rcases edges_five h with rfl | rfl | rfl | rfl | h4
  · rw [edges_one]
    refine ⟨by simp, fun i hi => ?_, fun i h0 hi => ?_, rfl, rfl, fun x hx h1 h2 => ?_⟩
    · have : i = 0 := by simpa using hi
      subst this; simp
    · simp at hi; omega
    · omega
  · rw [edges_two]
    refine ⟨by simp, fun i hi => ?_, fun i h0 hi => ?_, rfl, rfl, fun x hx h1 h2 => ?_⟩
    · have hi : i < 2 := hi
      obtain rfl | rfl : i = 0 ∨ i = 1 := by omega
      all_goals simp
      all_goals omega
    · have hi : i < 2 := hi
      obtain rfl : i = 1 := by omega
      simp
      omega
    · have : x = low ∨ x = low + 1 := by omega
      rcases this with rfl | rfl <;> simp
  · rw [edges_three]
    refine ⟨by simp, fun i hi => ?_, fun i h0 hi => ?_, rfl, rfl, fun x hx h1 h2 => ?_⟩
    · have hi : i < 3 := hi
      obtain rfl | rfl | rfl : i = 0 ∨ i = 1 ∨ i = 2 := by omega
      all_goals simp
      all_goals omega
    · have hi : i < 3 := hi
      obtain rfl | rfl : i = 1 ∨ i = 2 := by omega
      all_goals simp
      all_goals omega
    · have : x = low + 1 := by omega
      subst this; simp
  · rw [edges_four]
    refine ⟨by simp, fun i hi => ?_, fun i h0 hi => ?_, rfl, rfl, fun x hx h1 h2 => ?_⟩
    · have hi : i < 4 := hi
      obtain rfl | rfl | rfl | rfl : i = 0 ∨ i = 1 ∨ i = 2 ∨ i = 3 := by omega
      all_goals simp
      all_goals omega
    · have hi : i < 4 := hi
      obtain rfl | rfl | rfl : i = 1 ∨ i = 2 ∨ i = 3 := by omega
      all_goals simp
      all_goals omega
    · have : x = low + 1 ∨ x = low + 2 := by omega
      rcases this with rfl | rfl <;> simp
  · rw [edges_more h4]
    have hm := mid_in h4
    generalize midN low high = m at hm ⊢
    refine ⟨by simp, fun i hi => ?_, fun i h0 hi => ?_, rfl, rfl, fun x hx h1 h2 => ?_⟩
    · have hi : i < 5 := hi
      obtain rfl | rfl | rfl | rfl | rfl : i = 0 ∨ i = 1 ∨ i = 2 ∨ i = 3 ∨ i = 4 := by omega
      all_goals simp
      all_goals omega
    · have hi : i < 5 := hi
      obtain rfl | rfl | rfl | rfl : i = 1 ∨ i = 2 ∨ i = 3 ∨ i = 4 := by omega
      all_goals simp
      all_goals omega
    · rcases hx with rfl | rfl <;> simp
end Go.Proofs.YteaicmjihckbjaaDoor.Bnd
