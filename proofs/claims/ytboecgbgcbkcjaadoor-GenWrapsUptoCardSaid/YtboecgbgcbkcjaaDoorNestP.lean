/- Plain laws: a value within one list more. No program. -/
import Derived.Test.YtboecgbgcbkcjaaDoorValL
namespace Go.Proofs.YtboecgbgcbkcjaaDoor.Vals
open Lists
set_option linter.unusedVariables false

abbrev wrap (t : Tr) : Tr := .node true 0 [t]
theorem fault_deeper : ∀ (k : Nat) (t : Tr) (d : Nat), d + k = 6 → okB k t = true → faultV t (d + 1) = 0 ∨ faultV t (d + 1) = 4
  | 0, t, d, _, h => by simp [okB] at h
  | k + 1, t, d, hd, h => by
    simp only [okB, Bool.and_eq_true, Bool.not_eq_true', List.all_eq_true] at h
    rw [faultV_eq, if_neg (by rw [h.1]; simp)]
    by_cases h6 : 6 ≤ d + 1
    · rw [if_pos h6]; exact .inr rfl
    · rw [if_neg h6]
      have each : ∀ l : List Tr, (∀ x ∈ l, okB k x = true) → faultVs l (d + 1 + 1) = 0 ∨ faultVs l (d + 1 + 1) = 4 := by
        intro l
        induction l with
        | nil => intro _; exact .inl rfl
        | cons x r ih =>
          intro hx
          have h1 := fault_deeper k x (d + 1) (by omega) (hx x (by simp))
          have h2 := ih (fun y hy => hx y (by simp [hy]))
          simp only [faultVs]
          rcases h1 with h1 | h1
          · rw [h1]; simpa using h2
          · rw [h1]; exact .inr rfl
      exact each t.items h.2
theorem fault_wrap {t : Tr} (h : faultV t 0 = 0) : faultV (wrap t) 0 = 0 ∨ faultV (wrap t) 0 = 4 := by
  have h1 := fault_deeper 6 t 0 rfl ((fault_ok 6 t 0 rfl).1 h)
  have e : faultV (wrap t) 0 = faultV t 1 := by
    rw [faultV_eq]
    have : formBad (wrap t) = false := rfl
    rw [if_neg (by rw [this]; simp), if_neg (by omega)]
    simp only [Tr.items, faultVs]
    by_cases h0 : faultV t 1 = 0
    · rw [if_neg (by simpa using h0)]; exact h0.symm
    · rw [if_pos (by simpa using h0)]
  rw [e]; exact h1
/-- so many lists round about -/
def Deep (i : Nat) (t : Tr) : Prop := ∀ k, okB k t = true → i < k
theorem Deep.zero (t : Tr) : Deep 0 t := fun k h => by
  cases k with
  | zero => simp [okB] at h
  | succ k => omega
theorem Deep.wrap {i : Nat} {t : Tr} (h : Deep i t) : Deep (i + 1) (Vals.wrap t) := fun k hk => by
  cases k with
  | zero => simp [okB] at hk
  | succ k =>
    simp only [okB, Bool.and_eq_true, Tr.items, List.all_cons, List.all_nil] at hk
    have := h k hk.2.1
    omega
theorem Deep.le {i : Nat} {t : Tr} (h : Deep i t) (hf : faultV t 0 = 0) : i ≤ 5 := by
  have := h 6 ((fault_ok 6 t 0 rfl).1 hf)
  omega
theorem text_wrap (t : Tr) : textV (wrap t) = 40 :: (textV t ++ [41]) := by simp [textV, textVs, textTail]
theorem size_wrap (t : Tr) : (wrap t).size = t.size + 1 := by simp [Tr.size, sizes]; omega
end Go.Proofs.YtboecgbgcbkcjaaDoor.Vals
