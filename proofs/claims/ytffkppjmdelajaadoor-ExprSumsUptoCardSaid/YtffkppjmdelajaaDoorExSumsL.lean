/- Plain laws: a list's sum and greatest are those of its items. No program. -/
import Derived.Test.YtffkppjmdelajaaDoorExLawL
namespace Go.Proofs.YtffkppjmdelajaaDoor.Exprs
open Gens Vals Go.RowKit
set_option linter.unusedVariables false

mutual
theorem fault_up : ∀ (t : Tr) (d : Nat), faultV t (d + 1) = 0 → faultV t d = 0
  | .node l n i, d, h => by
    have ih := faults_up i (d + 1)
    rw [faultV_eq] at h ⊢
    split at h
    · cases h
    · rename_i hf
      rw [if_neg hf]
      split at h
      · cases h
      · rename_i h6
        rw [if_neg (by omega)]
        exact ih h
theorem faults_up : ∀ (l : List Tr) (d : Nat), faultVs l (d + 1) = 0 → faultVs l d = 0
  | [], d, h => rfl
  | t :: r, d, h => by
    have h1 := fault_up t d
    have h2 := faults_up r d
    simp only [faultVs] at h ⊢
    by_cases hz : faultV t (d + 1) = 0
    · rw [if_neg (by simpa using hz)] at h
      rw [if_neg (by simpa using h1 hz)]
      exact h2 h
    · rw [if_pos hz] at h; exact absurd h hz
end
theorem faults_mem : ∀ (l : List Tr) (d : Nat), faultVs l d = 0 → ∀ x ∈ l, faultV x d = 0
  | [], d, _, x, hx => by cases hx
  | t :: r, d, h, x, hx => by
    simp only [faultVs] at h
    by_cases hz : faultV t d = 0
    · rw [if_neg (by simpa using hz)] at h
      rcases List.mem_cons.1 hx with rfl | hx
      · exact hz
      · exact faults_mem r d h x hx
    · rw [if_pos hz] at h; exact absurd h hz
theorem fault_list (l : List Tr) : faultV (.node true 0 l) 0 = faultVs l 1 := by rw [faultV_eq]; simp [formBad, Tr.list, Tr.num, Tr.items]
theorem fault_item {l : List Tr} (h : faultV (.node true 0 l) 0 = 0) (k : Nat) (hk : k < l.length) : faultV (l[k]'hk) 0 = 0 := by
  rw [fault_list] at h
  exact fault_up _ 0 (faults_mem l 1 h _ (List.getElem_mem hk))
theorem sumL_shift : ∀ (l : List Int) (s : Int), B64 s → sumL l s = wrap64 (s + sumL l 0)
  | [], s, h => by simp only [sumL]; rw [show s + 0 = s by omega, wrap_in h]
  | x :: r, s, h => by
    simp only [sumL]
    rw [sumL_shift r (wrap64 (s + x)) (wrap_b _), sumL_shift r (wrap64 (0 + x)) (wrap_b _)]
    generalize sumL r 0 = q
    unfold wrap64
    omega
theorem sum_join (l : List Tr) (k : Nat) (hk : k < l.length) : sumL (leavesTs (l.take (k + 1))) 0 = wrap64 (sumL (leavesTs (l.take k)) 0 + sumT (l[k]'hk)) := by
  rw [leaves_take l k hk, sumL_app, sumL_shift _ _ (sumL_b _ 0 (by unfold B64; omega))]
  rfl
theorem topS_some' : ∀ (l : List Int) (m : Int), topS l (some m) = some (match topS l none with | none => m | some p => if m < p then p else m)
  | [], m => rfl
  | y :: r, m => by
    show topS r (some (if m < y then y else m)) = some (match topS r (some y) with | none => m | some p => if m < p then p else m)
    rw [topS_some' r (if m < y then y else m), topS_some' r y]
    simp only []
    cases topS r none with
    | none => simp only []
    | some p =>
      simp only []
      congr 1
      by_cases h1 : m < y
      · rw [if_pos h1]
        by_cases h2 : y < p
        · rw [if_pos h2, if_pos (by omega)]
        · rw [if_neg h2, if_pos h1]
      · rw [if_neg h1]
        by_cases h2 : y < p
        · rw [if_pos h2]
        · rw [if_neg h2, if_neg h1, if_neg (by omega)]
theorem topS_cons (y : Int) (r : List Int) : ∃ p, topS (y :: r) none = some p := ⟨_, topS_some' r y⟩
def joinT (o : Option Int) (x : Int) : Option Int := match o with | none => some x | some m => some (if m < x then x else m)
/-- the greatest so far, one item more -/
theorem top_join (l : List Tr) (k : Nat) (hk : k < l.length) : topS (leavesTs (l.take (k + 1))) none =
    (if leavesT (l[k]'hk) = [] then topS (leavesTs (l.take k)) none else joinT (topS (leavesTs (l.take k)) none) (topT (l[k]'hk))) := by
  rw [leaves_take l k hk, topS_app]
  unfold topT
  generalize topS (leavesTs (l.take k)) none = o
  generalize leavesT (l[k]'hk) = q
  cases q with
  | nil => rw [if_pos rfl]; rfl
  | cons y r =>
    rw [if_neg (by simp)]
    obtain ⟨p, hp⟩ := topS_cons y r
    cases o with
    | none => rw [hp]; rfl
    | some m => rw [topS_some', hp]; rfl
theorem leaf_eval (k : Int) (t : Tr) (h : k = 2 ∨ k = 3 ∨ k = 4) : evalF (.node k 0 0 []) t = faultV t 0 ∧ evalN (.node k 0 0 []) t = if faultV t 0 = 0 then (if k = 2 then sumT t else if k = 3 then topT t else (t.items.length : Int)) else 0 := by
  have hn : numE t (.node k 0 0 []) = some (if k = 2 then sumT t else if k = 3 then topT t else (t.items.length : Int)) := by
    rw [numE_eq]
    rcases h with rfl | rfl | rfl <;> rfl
  have hf : faultE (.node k 0 0 []) = 0 := by rcases h with rfl | rfl | rfl <;> decide
  unfold evalF evalN
  rw [if_pos hf, if_pos hf, hn]
  refine ⟨?_, rfl⟩
  by_cases h0 : faultV t 0 = 0
  · rw [if_pos h0, h0]; rfl
  · rw [if_neg h0]
end Go.Proofs.YtffkppjmdelajaaDoor.Exprs
