/- Plain laws: how many tapes a list's generator has, capped and not. No program. -/
import Derived.Test.YtppahcjpffbkbaaCountL
namespace Go.Proofs.Ytppahcjpffbkbaa.Gens
set_option linter.unusedVariables false

/-- one, k, k times k, and so on: so many of them, together -/
def geo (k : Int) : Nat → Int → Int → Int
  | 0, s, _ => s
  | i + 1, s, p => geo k i (s + p) (p * k)
theorem min_min_add (a b : Int) (ha : 0 ≤ a) (hb : 0 ≤ b) : min 1048577 (min 1048577 a + min 1048577 b) = min 1048577 (a + b) := by omega
theorem min_min_mul (a k : Int) (ha : 0 ≤ a) (hk : 0 ≤ k) : min 1048577 (min 1048577 a * k) = min 1048577 (a * k) := by
  by_cases h : a ≤ 1048577
  · rw [show min 1048577 a = a by omega]
  · rw [show min 1048577 a = 1048577 by omega]
    by_cases hk0 : k = 0
    · subst hk0; simp
    · have h1 : 1048577 * 1 ≤ 1048577 * k := Int.mul_le_mul_of_nonneg_left (by omega) (by omega)
      have h2 : 1048577 * k ≤ a * k := Int.mul_le_mul_of_nonneg_right (by omega) hk
      omega
theorem many_geo (k : Int) (hk : 0 ≤ k) : ∀ (i : Nat) (s p : Int), 0 ≤ s → 0 ≤ p → manyN k i (min 1048577 s) (min 1048577 p) = min 1048577 (geo k i s p)
  | 0, s, p, hs, hp => by rw [manyN, geo]
  | i + 1, s, p, hs, hp => by
    rw [manyN, geo, min_min_add s p hs hp, min_min_mul p k hp hk]
    exact many_geo k hk i (s + p) (p * k) (by omega) (Int.mul_nonneg hp hk)
theorem geo_ge (k : Int) (hk : 0 ≤ k) : ∀ (i : Nat) (s p : Int), 0 ≤ p → s ≤ geo k i s p
  | 0, s, p, hp => by rw [geo]; exact Int.le_refl _
  | i + 1, s, p, hp => by
    rw [geo]
    have := geo_ge k hk i (s + p) (p * k) (Int.mul_nonneg hp hk)
    omega
/-- a round: the next one is small, if all are together -/
theorem geo_step (k : Int) (hk : 0 ≤ k) (i : Nat) (s p : Int) (hs : 0 ≤ s) (hp : 0 ≤ p) (h : geo k (i + 1) s p ≤ 1048576) : s + p ≤ 1048576 ∧ geo k i (s + p) (p * k) = geo k (i + 1) s p := by
  refine ⟨?_, rfl⟩
  have := geo_ge k hk i (s + p) (p * k) (Int.mul_nonneg hp hk)
  rw [geo] at h
  omega
theorem count_two (t u : Gn) : countG (.node 5 0 0 [t, u]) = min 1048577 (min 1048577 (0 + countG t) + countG u) ∧ countG (.node 3 0 0 [t, u]) = min 1048577 (min 1048577 (1 * countG t) * countG u) := by
  refine ⟨by simp [countG, countAny], by simp [countG, countBoth]⟩
theorem count_rep (t : Gn) (n : Int) : countG (.node 4 n 0 [t]) = manyN (countG t) (n + 1).toNat 0 1 := by simp [countG, countHead]
end Go.Proofs.Ytppahcjpffbkbaa.Gens
