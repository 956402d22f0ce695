/- Plain laws on a tape's text. No program. -/
import Derived.Test.YtfpbegagblekiaaList
import Derived.Lib.ItoaNum
import Derived.Lib.ItoaLen
namespace Go.Proofs.Ytfpbegagblekiaa.Lists
open Go.Lib (itoa decDigits nDigits)

def textL : List Int → List UInt8
  | [] => []
  | [n] => itoa n
  | n :: m :: r => itoa n ++ 46 :: textL (m :: r)
def I64 (n : Int) : Prop := -9223372036854775808 ≤ n ∧ n ≤ 9223372036854775807

theorem textL_cons (n : Int) (l : List Int) : textL (n :: l) = itoa n ++ (if l = [] then [] else 46 :: textL l) := by
  cases l with
  | nil => simp [textL]
  | cons m r => simp [textL]
theorem textL_snoc : ∀ (l : List Int) (n : Int), textL (l ++ [n]) = (if l = [] then [] else textL l ++ [46]) ++ itoa n
  | [], n => by simp [textL]
  | [a], n => by simp [textL]
  | a :: b :: r, n => by
    have ih := textL_snoc (b :: r) n
    rw [List.cons_append, textL_cons, if_neg (by simp), ih, textL_cons a (b :: r), if_neg (by simp), if_neg (by simp), if_neg (by simp)]
    simp
theorem decDigits_pos (u : Nat) : 1 ≤ (decDigits u).length := by rw [Lib.decDigits_length]; exact Lib.nDigits_pos u
theorem itoa_pos (n : Int) : 1 ≤ (itoa n).length := by
  unfold itoa
  split
  · simp
  · exact decDigits_pos _
theorem textL_le : ∀ (l : List Int), (∀ n ∈ l, I64 n) → (textL l).length ≤ 22 * l.length
  | [], _ => by simp [textL]
  | [n], h => by
    have := Lib.itoa_length_le n (h n (by simp)).1 (h n (by simp)).2
    simp [textL]; omega
  | n :: m :: r, h => by
    have h1 := Lib.itoa_length_le n (h n (by simp)).1 (h n (by simp)).2
    have h2 := textL_le (m :: r) (fun x hx => h x (by simp at hx ⊢; right; exact hx))
    simp only [textL, List.length_append, List.length_cons] at h2 ⊢
    omega
theorem textL_one (l : List Int) (n : Int) : (textL l).length + 1 ≤ (textL (l ++ [n])).length := by
  rw [textL_snoc]
  have := itoa_pos n
  split
  · rename_i h; subst h; simp [textL]; omega
  · simp only [List.length_append, List.length_cons, List.length_nil]; omega
theorem textL_grow : ∀ (m l : List Int), (textL l).length + m.length ≤ (textL (l ++ m)).length
  | [], l => by simp
  | n :: m, l => by
    have h1 := textL_grow m (l ++ [n])
    have h2 := textL_one l n
    rw [List.append_assoc] at h1
    simp only [List.cons_append, List.nil_append, List.length_cons] at h1 ⊢
    omega
theorem textL_take (l : List Int) (k : Nat) (h : k < l.length) : textL (l.take (k + 1)) = (if k = 0 then [] else textL (l.take k) ++ [46]) ++ itoa (l.getD k 0) := by
  rw [take_getD l k h, textL_snoc]
  by_cases hk : k = 0
  · subst hk; simp
  · rw [if_neg hk, if_neg]
    intro e
    have h2 : (l.take k).length = 0 := by rw [e]; rfl
    rw [List.length_take] at h2
    omega
end Go.Proofs.Ytfpbegagblekiaa.Lists
