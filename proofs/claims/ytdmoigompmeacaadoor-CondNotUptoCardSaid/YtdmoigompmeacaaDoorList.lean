/- Plain laws on lists of numbers: which is less, where both first differ. No program. -/
import Derived.Test.YtdmoigompmeacaaDoorRows
namespace Go.Proofs.YtdmoigompmeacaaDoor.Lists

/-- the sign of the first difference -/
def cmpL : List Int → List Int → Int
  | [], [] => 0
  | [], _ :: _ => -1
  | _ :: _, [] => 1
  | a :: l, b :: m => if a < b then -1 else if b < a then 1 else cmpL l m
def lessL (l m : List Int) : Bool := if l.length = m.length then decide (cmpL l m < 0) else decide (l.length < m.length)

theorem cmpL_refl : ∀ l, cmpL l l = 0
  | [] => rfl
  | a :: l => by simp [cmpL, cmpL_refl l]
theorem cmpL_swap : ∀ l m, cmpL m l = - cmpL l m
  | [], [] => rfl
  | [], _ :: _ => rfl
  | _ :: _, [] => rfl
  | a :: l, b :: m => by
    simp only [cmpL]
    rcases Int.lt_trichotomy a b with h | h | h
    · rw [if_pos h, if_neg (by omega), if_pos h]; rfl
    · subst h; simp [cmpL_swap l m]
    · rw [if_pos h, if_neg (by omega), if_pos h]
theorem cmpL_three : ∀ l m, cmpL l m = -1 ∨ cmpL l m = 0 ∨ cmpL l m = 1
  | [], [] => .inr (.inl rfl)
  | [], _ :: _ => .inl rfl
  | _ :: _, [] => .inr (.inr rfl)
  | a :: l, b :: m => by
    simp only [cmpL]
    split
    · exact .inl rfl
    · split
      · exact .inr (.inr rfl)
      · exact cmpL_three l m
theorem cmpL_zero : ∀ l m, cmpL l m = 0 → l = m
  | [], [], _ => rfl
  | [], _ :: _, h => by simp [cmpL] at h
  | _ :: _, [], h => by simp [cmpL] at h
  | a :: l, b :: m, h => by
    simp only [cmpL] at h
    by_cases h1 : a < b
    · rw [if_pos h1] at h; omega
    · rw [if_neg h1] at h
      by_cases h2 : b < a
      · rw [if_pos h2] at h; omega
      · rw [if_neg h2] at h
        have : a = b := by omega
        rw [this, cmpL_zero l m h]
theorem cmpL_trans : ∀ l m n, cmpL l m < 0 → cmpL m n < 0 → cmpL l n < 0
  | [], [], _, h, _ => by simp [cmpL] at h
  | [], _ :: _, [], _, h => by simp [cmpL] at h
  | [], _ :: _, _ :: _, _, _ => by simp [cmpL]
  | _ :: _, [], _, h, _ => by simp [cmpL] at h
  | _ :: _, _ :: _, [], _, h => by simp [cmpL] at h
  | a :: l, b :: m, c :: n, h, k => by
    simp only [cmpL] at h k ⊢
    by_cases h1 : a < b
    · by_cases k1 : b < c
      · rw [if_pos (by omega)]; omega
      · rw [if_neg k1] at k
        by_cases k2 : c < b
        · rw [if_pos k2] at k; omega
        · rw [if_pos (by omega)]; omega
    · rw [if_neg h1] at h
      by_cases h2 : b < a
      · rw [if_pos h2] at h; omega
      · rw [if_neg h2] at h
        by_cases k1 : b < c
        · rw [if_pos (by omega)]; omega
        · rw [if_neg k1] at k
          by_cases k2 : c < b
          · rw [if_pos k2] at k; omega
          · rw [if_neg k2] at k
            rw [if_neg (by omega), if_neg (by omega)]
            exact cmpL_trans l m n h k
theorem cmpL_append : ∀ l m n, l.length = m.length → cmpL (l ++ n) (m ++ n) = cmpL l m
  | [], [], n, _ => by simp [cmpL, cmpL_refl]
  | [], _ :: _, _, h => by simp at h
  | _ :: _, [], _, h => by simp at h
  | a :: l, b :: m, n, h => by
    simp only [List.cons_append, cmpL]
    rw [cmpL_append l m n (by simpa using h)]
theorem drop_getD (l : List Int) (k : Nat) (h : k < l.length) : l.drop k = l.getD k 0 :: l.drop (k + 1) := by
  rw [List.drop_eq_getElem_cons h]; simp [List.getD, List.getElem?_eq_getElem h]
theorem take_getD (l : List Int) (k : Nat) (h : k < l.length) : l.take (k + 1) = l.take k ++ [l.getD k 0] := by
  rw [List.take_succ_eq_append_getElem h]; simp [List.getD, List.getElem?_eq_getElem h]
theorem cmpL_step (l m : List Int) (k : Nat) (h1 : k < l.length) (h2 : k < m.length) :
    cmpL (l.drop k) (m.drop k) = if l.getD k 0 < m.getD k 0 then -1 else if m.getD k 0 < l.getD k 0 then 1 else cmpL (l.drop (k + 1)) (m.drop (k + 1)) := by
  rw [drop_getD l k h1, drop_getD m k h2]; rfl
theorem cmpL_out (l m : List Int) (k : Nat) (h1 : k < l.length) (h2 : m.length ≤ k) : cmpL (l.drop k) (m.drop k) = 1 := by
  rw [drop_getD l k h1, List.drop_eq_nil_of_le h2]; rfl
theorem cmpL_less (l m : List Int) (k : Nat) (h1 : l.length ≤ k) (h2 : k < m.length) : cmpL (l.drop k) (m.drop k) = -1 := by
  rw [drop_getD m k h2, List.drop_eq_nil_of_le h1]; rfl
theorem cmpL_done (l m : List Int) (k : Nat) (h1 : l.length ≤ k) (h2 : m.length ≤ k) : cmpL (l.drop k) (m.drop k) = 0 := by
  rw [List.drop_eq_nil_of_le h1, List.drop_eq_nil_of_le h2]; rfl

/-! which tape is less -/
theorem lessL_irrefl (l : List Int) : lessL l l = false := by simp [lessL, cmpL_refl]
theorem lessL_one (l m : List Int) (h : l ≠ m) : lessL m l = !lessL l m := by
  unfold lessL
  by_cases e : l.length = m.length
  · rw [if_pos e, if_pos e.symm, cmpL_swap l m]
    have h0 : cmpL l m ≠ 0 := fun z => h (cmpL_zero l m z)
    rcases Int.lt_or_gt_of_ne h0 with g | g
    · rw [decide_eq_false (by omega), decide_eq_true g]; rfl
    · rw [decide_eq_true (by omega), decide_eq_false (by omega)]; rfl
  · rw [if_neg e, if_neg (fun z => e z.symm)]
    by_cases g : l.length < m.length
    · rw [decide_eq_false (by omega), decide_eq_true g]; rfl
    · rw [decide_eq_true (by omega), decide_eq_false g]; rfl
theorem lessL_trans (l m n : List Int) (h : lessL l m = true) (k : lessL m n = true) : lessL l n = true := by
  unfold lessL at *
  by_cases e : l.length = m.length
  · rw [if_pos e] at h
    by_cases f : m.length = n.length
    · rw [if_pos f] at k
      rw [if_pos (by omega)]
      exact decide_eq_true (cmpL_trans l m n (of_decide_eq_true h) (of_decide_eq_true k))
    · rw [if_neg f] at k
      have := of_decide_eq_true k
      rw [if_neg (by omega)]
      exact decide_eq_true (by omega)
  · rw [if_neg e] at h
    have h' := of_decide_eq_true h
    by_cases f : m.length = n.length
    · rw [if_neg (by omega)]; exact decide_eq_true (by omega)
    · rw [if_neg f] at k
      have := of_decide_eq_true k
      rw [if_neg (by omega)]; exact decide_eq_true (by omega)
theorem lessL_append (l m n : List Int) : lessL (l ++ n) (m ++ n) = lessL l m := by
  unfold lessL
  by_cases e : l.length = m.length
  · rw [if_pos (by simp [e]), if_pos e, cmpL_append l m n e]
  · rw [if_neg (by simpa using e), if_neg e]; simp
theorem lessL_longer (l n : List Int) : lessL (l ++ n) l = false := by
  unfold lessL
  by_cases e : n = []
  · subst e; simp [cmpL_refl]
  · have : 0 < n.length := List.length_pos_iff.2 e
    rw [if_neg (by simp; omega)]; simp
theorem lessL_shorter (l n : List Int) : lessL l (l ++ n) = decide (0 < n.length) := by
  unfold lessL
  by_cases e : n = []
  · subst e; simp [cmpL_refl]
  · have : 0 < n.length := List.length_pos_iff.2 e
    rw [if_neg (by simp; omega)]; simp
end Go.Proofs.YtdmoigompmeacaaDoor.Lists
