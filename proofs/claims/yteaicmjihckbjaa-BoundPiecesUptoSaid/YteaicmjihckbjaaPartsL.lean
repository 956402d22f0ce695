/- Pieces of numbers: the mathematics. No program. -/
import Derived.Test.YteaicmjihckbjaaList
namespace Go.Proofs.Yteaicmjihckbjaa.Bnd
set_option linter.unusedVariables false

/-- how many lie ahead of piece i, of m in n pieces -/
def startN (m n i : Nat) : Nat := i * (m / n) + min i (m % n)
/-- the size of piece i -/
def sizeN (m n i : Nat) : Nat := m / n + (if i < m % n then 1 else 0)
theorem start_zero (m n : Nat) : startN m n 0 = 0 := by unfold startN; simp
theorem start_succ (m n i : Nat) : startN m n (i + 1) = startN m n i + sizeN m n i := by
  unfold startN sizeN
  rw [Nat.add_mul]
  split <;> omega
theorem start_end {m n : Nat} (h : 0 < n) : startN m n n = m := by
  unfold startN
  have h1 := Nat.div_add_mod m n
  have h2 := Nat.mod_lt m h
  rw [Nat.min_eq_right (by omega)]
  exact h1
theorem size_pos {m n : Nat} (h : 0 < n) (hm : n ≤ m) (i : Nat) : 1 ≤ sizeN m n i := by
  unfold sizeN
  have : 0 < m / n := Nat.div_pos hm h
  omega
theorem size_falls (m n i : Nat) : sizeN m n (i + 1) ≤ sizeN m n i := by
  unfold sizeN
  split <;> split <;> omega
theorem size_near (m n i : Nat) : sizeN m n 0 ≤ sizeN m n i + 1 := by
  unfold sizeN
  split <;> split <;> omega
theorem start_mono (m n : Nat) : ∀ {i j : Nat}, i ≤ j → startN m n i ≤ startN m n j := by
  intro i j h
  induction j with
  | zero => obtain rfl : i = 0 := by omega
            exact Nat.le_refl _
  | succ j ih =>
    by_cases e : i = j + 1
    · subst e; exact Nat.le_refl _
    · rw [start_succ]; have := ih (by omega); omega
/-- the first and the last number of piece i -/
def fromI (low : Int) (m n i : Nat) : Int := low + startN m n i
def toI (low : Int) (m n i : Nat) : Int := low + startN m n (i + 1) - 1
theorem from_zero (low : Int) (m n : Nat) : fromI low m n 0 = low := by unfold fromI; rw [start_zero]; omega
theorem to_end (low : Int) {m n : Nat} (h : 0 < n) : toI low m n (n - 1) = low + m - 1 := by unfold toI; rw [show n - 1 + 1 = n by omega, start_end h]
theorem from_next (low : Int) (m n i : Nat) : fromI low m n (i + 1) = toI low m n i + 1 := by unfold fromI toI; omega
theorem piece_size (low : Int) (m n i : Nat) : toI low m n i - fromI low m n i = (sizeN m n i : Int) - 1 := by unfold toI fromI; rw [start_succ]; omega
/-- in how many of the first k pieces a number is -/
def inK (low x : Int) (m n k : Nat) : Nat := if low ≤ x ∧ x < low + startN m n k then 1 else 0
theorem in_zero (low x : Int) (m n : Nat) : inK low x m n 0 = 0 := by unfold inK; rw [start_zero, if_neg (by omega)]
theorem in_step {low x : Int} {m n k : Nat} : inK low x m n (k + 1) = inK low x m n k + (if fromI low m n k ≤ x ∧ x ≤ toI low m n k then 1 else 0) := by
  unfold inK fromI toI
  have := start_succ m n k
  by_cases h1 : low ≤ x ∧ x < low + startN m n k
  · rw [if_pos h1, if_pos (by omega), if_neg (by omega)]
  · rw [if_neg h1]
    by_cases h2 : low + startN m n k ≤ x ∧ x ≤ low + startN m n (k + 1) - 1
    · rw [if_pos h2, if_pos (by omega)]
    · rw [if_neg h2, if_neg (by omega)]
theorem in_end {low high x : Int} {m n : Nat} (h : 0 < n) (hm : (m : Int) = high - low + 1) : inK low x m n n = if low ≤ x ∧ x ≤ high then 1 else 0 := by
  unfold inK
  rw [start_end h]
  by_cases hx : low ≤ x ∧ x ≤ high
  · rw [if_pos hx, if_pos (by omega)]
  · rw [if_neg hx, if_neg (by omega)]
/-- as many pieces as numbers -/
theorem one_each {low : Int} {n i : Nat} (h : i < n) : fromI low n n i = low + i ∧ toI low n n i = low + i := by
  have h1 : n / n = 1 := Nat.div_self (by omega)
  have h2 : n % n = 0 := Nat.mod_self n
  unfold fromI toI startN
  rw [h1, h2]
  omega
/-- one piece -/
theorem one_piece (low : Int) (m : Nat) : fromI low m 1 0 = low ∧ toI low m 1 0 = low + m - 1 := by
  unfold fromI toI startN
  simp [Nat.mod_one]
end Go.Proofs.Yteaicmjihckbjaa.Bnd
