/- The five numbers, without those outside, sorted, each once: the edges. No program. -/
import Derived.Test.YteaicmjihckbjaaBoundL
import Derived.Lib.SlicesCompact
namespace Go.Proofs.Yteaicmjihckbjaa.Bnd
set_option linter.unusedVariables false

def outB (low high : Int) (x : Int) : Bool := decide (x < low) || decide (high < x)
def fiveL (low high : Int) : List Int := [low, low + 1, midN low high, high - 1, high]
def keptF (low high : Int) : List Int := (fiveL low high).filter fun x => !outB low high x
def sortL (zs : List Int) : List Int := zs.mergeSort fun x y => decide (x ≤ y)
def onceL (zs : List Int) : List Int := Lib.compactUpTo zs.toArray zs.length
theorem sort_perm {a b : List Int} (h : a.Perm b) (hs : b.Pairwise (· ≤ ·)) : sortL a = b := by
  have tr : ∀ x y z : Int, decide (x ≤ y) = true → decide (y ≤ z) = true → decide (x ≤ z) = true := by intro x y z; simp only [decide_eq_true_eq]; omega
  have to : ∀ x y : Int, (decide (x ≤ y) || decide (y ≤ x)) = true := by intro x y; simp only [Bool.or_eq_true, decide_eq_true_eq]; omega
  unfold sortL
  exact List.Perm.eq_of_pairwise (le := fun a b => decide (a ≤ b) = true) (fun a b _ _ h1 h2 => by simp only [decide_eq_true_eq] at h1 h2; omega) (List.pairwise_mergeSort tr to a) (hs.imp fun {a b} h => by simpa using h) ((List.mergeSort_perm a _).trans h)
theorem sort_sorted {a : List Int} (hs : a.Pairwise (· ≤ ·)) : sortL a = a := sort_perm (List.Perm.refl _) hs
theorem sort_len (a : List Int) : (sortL a).length = a.length := by unfold sortL; simp
theorem once3 (a b c : Int) : onceL [a, b, c] = a :: ((if b = a then [] else [b]) ++ if c = b then [] else [c]) := by
  unfold onceL Lib.compactUpTo
  have e0 : Lib.keeps [a, b, c].toArray 0 = true := by simp [Lib.keeps]
  have e1 : Lib.keeps [a, b, c].toArray 1 = !decide (b = a) := by simp [Lib.keeps]
  have e2 : Lib.keeps [a, b, c].toArray 2 = !decide (c = b) := by simp [Lib.keeps]
  rw [show List.range [a, b, c].length = [0, 1, 2] from rfl]
  simp only [List.filter_cons, List.filter_nil, e0, e1, e2]
  clear e0 e1 e2
  by_cases h1 : b = a <;> by_cases h2 : c = b <;> simp_all
theorem once5 (a b c d e : Int) : onceL [a, b, c, d, e] = a :: ((if b = a then [] else [b]) ++ ((if c = b then [] else [c]) ++ ((if d = c then [] else [d]) ++ if e = d then [] else [e]))) := by
  unfold onceL Lib.compactUpTo
  have e0 : Lib.keeps [a, b, c, d, e].toArray 0 = true := by simp [Lib.keeps]
  have e1 : Lib.keeps [a, b, c, d, e].toArray 1 = !decide (b = a) := by simp [Lib.keeps]
  have e2 : Lib.keeps [a, b, c, d, e].toArray 2 = !decide (c = b) := by simp [Lib.keeps]
  have e3 : Lib.keeps [a, b, c, d, e].toArray 3 = !decide (d = c) := by simp [Lib.keeps]
  have e4 : Lib.keeps [a, b, c, d, e].toArray 4 = !decide (e = d) := by simp [Lib.keeps]
  rw [show List.range [a, b, c, d, e].length = [0, 1, 2, 3, 4] from rfl]
  simp only [List.filter_cons, List.filter_nil, e0, e1, e2, e3, e4]
  clear e0 e1 e2 e3 e4
  by_cases h1 : b = a <;> by_cases h2 : c = b <;> by_cases h3 : d = c <;> by_cases h4 : e = d <;> simp_all
theorem out_no {low high x : Int} (h : low ≤ x ∧ x ≤ high) : (!outB low high x) = true := by
  unfold outB
  simp
  omega
theorem out_yes {low high x : Int} (h : x < low ∨ high < x) : (!outB low high x) = false := by
  unfold outB
  simp
  omega
theorem kept_one (low : Int) : keptF low low = [low, low, low] := by
  unfold keptF fiveL
  have hm : midN low low = low := by unfold midN; omega
  have e1 : (!outB low low low) = true := out_no (by omega)
  have e2 : (!outB low low (low + 1)) = false := out_yes (by omega)
  have e3 : (!outB low low (low - 1)) = false := out_yes (by omega)
  rw [hm]
  simp only [List.filter_cons, List.filter_nil, e1, e2, e3]
  rfl
theorem kept_more {low high : Int} (h : low < high) : keptF low high = fiveL low high := by
  unfold keptF
  rw [List.filter_eq_self]
  intro x hx
  apply out_no
  have : low ≤ midN low high ∧ midN low high ≤ high := by unfold midN; omega
  unfold fiveL at hx
  simp only [List.mem_cons, List.not_mem_nil, or_false] at hx
  omega
theorem five_two (low : Int) : (fiveL low (low + 1)).Perm [low, low, low, low + 1, low + 1] := by
  unfold fiveL
  have hm : midN low (low + 1) = low := by unfold midN; omega
  rw [hm, show low + 1 - 1 = low by omega]
  exact .cons _ ((List.Perm.swap low (low + 1) _).trans (.cons _ (List.Perm.swap low (low + 1) _)))
theorem pair_two {low : Int} : [low, low, low, low + 1, low + 1].Pairwise (· ≤ ·) := by
  simp
  omega
theorem five_sorted {low high : Int} (h : low + 2 ≤ high) : (fiveL low high).Pairwise (· ≤ ·) := by
  have : low + 1 ≤ midN low high ∧ midN low high ≤ high - 1 := by unfold midN; omega
  unfold fiveL
  simp
  omega
/-- the edges -/
theorem five_edges {low high : Int} (h : low ≤ high) : onceL (sortL (keptF low high)) = edgesL low high := by
  by_cases h1 : high = low
  · subst h1
    rw [kept_one, sort_sorted (by simp), once3, if_pos rfl, edges_one]
    rfl
  rw [kept_more (by omega)]
  by_cases h2 : high = low + 1
  · subst h2
    rw [sort_perm (five_two low) pair_two, once5, if_pos rfl, if_neg (by omega), if_pos rfl, edges_two]
    rfl
  rw [sort_sorted (five_sorted (by omega))]
  unfold fiveL
  rw [once5]
  have hm : low + 1 ≤ midN low high ∧ midN low high ≤ high - 1 := by unfold midN; omega
  by_cases h3 : high = low + 2
  · subst h3
    rw [show midN low (low + 2) = low + 1 by omega, edges_three, if_neg (by omega), if_pos rfl, if_pos (by omega), if_neg (by omega)]
    rfl
  by_cases h4 : high = low + 3
  · subst h4
    rw [show midN low (low + 3) = low + 1 by unfold midN; omega, edges_four, if_neg (by omega), if_pos rfl, if_neg (by omega), if_neg (by omega), show low + 3 - 1 = low + 2 by omega]
    rfl
  · have hm := mid_in (low := low) (high := high) (by omega)
    rw [edges_more (by omega), if_neg (by omega), if_neg (by omega), if_neg (by omega), if_neg (by omega)]
    rfl
theorem once_len (zs : List Int) : (onceL zs).length ≤ zs.length := by
  unfold onceL Lib.compactUpTo
  rw [List.length_map]
  refine Nat.le_trans (List.length_filter_le _ _) ?_
  simp
end Go.Proofs.Yteaicmjihckbjaa.Bnd
