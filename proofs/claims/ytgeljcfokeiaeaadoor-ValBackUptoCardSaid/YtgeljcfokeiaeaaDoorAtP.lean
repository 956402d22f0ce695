/- Plain laws: the first word of a text, blanks and ')' alone ending it. No program. -/
import Derived.Test.YtgeljcfokeiaeaaDoorReadP
namespace Go.Proofs.YtgeljcfokeiaeaaDoor.Vals
open Go.Lib (itoa)
open Lists
set_option linter.unusedVariables false

def isEnd (c : UInt8) : Bool := c == 32 || c == 41
def wordE (l : List UInt8) : List UInt8 := l.takeWhile (fun c => !isEnd c)
theorem isEnd_iff (c : UInt8) : isEnd c = true ↔ c = 32 ∨ c = 41 := by simp [isEnd]
theorem wordE_rest (l : List UInt8) : wordE l ++ l.drop (wordE l).length = l ∧ Stops (l.drop (wordE l).length) ∧ ∀ j (h : j < (wordE l).length) (h' : j < l.length), l[j]'h' ≠ 32 ∧ l[j]'h' ≠ 41 := by
  induction l with
  | nil => exact ⟨rfl, .inl rfl, fun j h _ => absurd h (by simp [wordE])⟩
  | cons c r ih =>
    unfold wordE at ih ⊢
    rw [List.takeWhile_cons]
    cases hc : isEnd c
    · simp only [Bool.not_false, if_true, List.length_cons, List.drop_succ_cons, List.cons_append]
      refine ⟨by rw [ih.1], ih.2.1, fun j h h' => ?_⟩
      cases j with
      | zero =>
        simp only [List.getElem_cons_zero]
        constructor
        · intro e; rw [(isEnd_iff c).2 (.inl e)] at hc; cases hc
        · intro e; rw [(isEnd_iff c).2 (.inr e)] at hc; cases hc
      | succ j =>
        simp only [List.getElem_cons_succ]
        exact ih.2.2 j (by omega) (by simpa using h')
    · simp only [Bool.not_true, Bool.false_eq_true, if_false, List.length_nil, List.drop_zero, List.nil_append, true_and]
      exact ⟨.inr ⟨c, r, rfl, (isEnd_iff c).1 hc⟩, fun j h => absurd h (by omega)⟩
theorem wordE_eq : ∀ (a r : List UInt8), (∀ c ∈ a, c ≠ 32 ∧ c ≠ 41) → Stops r → wordE (a ++ r) = a
  | [], r, _, hr => by
    rcases hr with rfl | ⟨c, q, rfl, hc⟩
    · rfl
    · have := (isEnd_iff c).2 hc
      simp [wordE, this]
  | x :: a, r, ha, hr => by
    have hx := ha x (by simp)
    have : isEnd x = false := by
      rw [Bool.eq_false_iff]
      intro h
      rcases (isEnd_iff x).1 h with h | h
      · exact hx.1 h
      · exact hx.2 h
    have ih := wordE_eq a r (fun c hc => ha c (by simp [hc])) hr
    unfold wordE at ih ⊢
    rw [List.cons_append, List.takeWhile_cons, this]
    simp [ih]
theorem wordE_itoa {l r : List UInt8} {n : Int} (h : l = itoa n ++ r) (hr : Stops r) : itoa n = wordE l := by
  rw [h]
  exact (wordE_eq _ _ (fun c hc => ⟨(itoa_nostop n c hc).1, (itoa_nostop n c hc).2.1⟩) hr).symm
/-- what is read stands ahead of the next item, the list not ended -/
theorem LI.of_read {d : Nat} {body l r : List UInt8} {acc : List Tr} (h : Read d body acc l) (h1 : ∀ tl, l ≠ 41 :: tl) (h2 : acc ≠ [] → l = 32 :: r) (h3 : acc = [] → r = l) : LI d body acc r := by
  refine ⟨l, h, h1, fun ha => ⟨r, h2 ha⟩, ?_⟩
  unfold next
  split
  · rename_i ha; exact (h3 ha).symm
  · rename_i ha; rw [h2 ha]; rfl
end Go.Proofs.YtgeljcfokeiaeaaDoor.Vals
