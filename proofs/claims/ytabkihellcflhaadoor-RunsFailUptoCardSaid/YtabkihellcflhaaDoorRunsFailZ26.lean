/- RunsFail, part 26 of the proof: The walk to a tape none of whose candidates fails. The mathematics. No program. -/
import Derived.Test.YtabkihellcflhaaDoorRunsFailZ24
import Derived.Test.YtabkihellcflhaaDoorRunsFailZ25
/- The walk to a tape none of whose candidates fails. The mathematics. No program. -/
namespace Go.Proofs.YtabkihellcflhaaDoor.Gens
open Go.RowKit Lists Ints Vals Exprs
set_option linter.unusedVariables false

/-- does what a tape makes fail? -/
def badT (t x : Gn) (l : List Int) : Bool := match repV t l with
  | .ok v => badN (numE v x)
  | .error _ => false
theorem badT_ok {t x : Gn} {l : List Int} (h : badT t x l = true) : roseE t l = 0 := by
  unfold badT at h
  unfold roseE
  cases e : repV t l with
  | ok v => rfl
  | error q => rw [e] at h; cases h
/-- the first candidate that fails -/
def stepT (t x : Gn) (l : List Int) : Option (List Int) := (roseL t l).find? (badT t x)
/-- the walk, of at most so many steps: where it ends, and the steps -/
def walkN (t x : Gn) : Nat → List Int → List Int × Nat
  | 0, l => (l, 0)
  | n + 1, l => match stepT t x l with
    | none => (l, 0)
    | some y => ((walkN t x n y).1, (walkN t x n y).2 + 1)
def walkT (t x : Gn) (l : List Int) : List Int × Nat := walkN t x (measL l) l
theorem step_some {t x : Gn} {l y : List Int} (h : stepT t x l = some y) : y ∈ roseL t l ∧ badT t x y = true := ⟨List.mem_of_find?_eq_some h, List.find?_some h⟩
theorem step_facts {t x : Gn} {l y : List Int} (hl : roseE t l = 0) (h : stepT t x l = some y) : measL y < measL l ∧ roseE t y = 0 ∧ badT t x y = true ∧ lessL y l = true := by
  obtain ⟨h1, h2⟩ := step_some h
  exact ⟨rose_meas (rep_facts hl).1 (fun a ha => ((rep_facts hl).2.2 a ha).1) h1, badT_ok h2, h2, (rose_mem h1).2⟩
/-- more steps than are needed change nothing -/
theorem walkN_more {t x : Gn} : ∀ (n m : Nat) (l : List Int), roseE t l = 0 → measL l ≤ n → measL l ≤ m → walkN t x n l = walkN t x m l
  | 0, 0, l, _, _, _ => rfl
  | 0, m + 1, l, hl, hn, _ => by
    unfold walkN
    cases h : stepT t x l with
    | none => rfl
    | some y => have := (step_facts hl h).1; omega
  | n + 1, 0, l, hl, _, hm => by
    unfold walkN
    cases h : stepT t x l with
    | none => rfl
    | some y => have := (step_facts hl h).1; omega
  | n + 1, m + 1, l, hl, hn, hm => by
    unfold walkN
    cases h : stepT t x l with
    | none => rfl
    | some y =>
      obtain ⟨h1, h2, _⟩ := step_facts hl h
      simp only
      rw [walkN_more n m y h2 (by omega) (by omega)]
theorem walk_stop {t x : Gn} {l : List Int} (hl : roseE t l = 0) (h : stepT t x l = none) : walkT t x l = (l, 0) := by
  rw [walkT, walkN_more (measL l) (measL l + 1) l hl (Nat.le_refl _) (by omega)]
  unfold walkN
  rw [h]
theorem walk_step {t x : Gn} {l y : List Int} (hl : roseE t l = 0) (h : stepT t x l = some y) : walkT t x l = ((walkT t x y).1, (walkT t x y).2 + 1) := by
  obtain ⟨h1, h2, _⟩ := step_facts hl h
  rw [walkT, walkN_more (measL l) (measL l + 1) l hl (Nat.le_refl _) (by omega)]
  conv => lhs; unfold walkN
  rw [h]
  simp only
  rw [walkT, walkN_more (measL l) (measL y) y h2 (by omega) (Nat.le_refl _)]
/-- what the walk comes to -/
theorem walk_facts {t x : Gn} : ∀ (n : Nat) (l : List Int), measL l ≤ n → roseE t l = 0 → badT t x l = true →
    roseE t (walkT t x l).1 = 0 ∧ badT t x (walkT t x l).1 = true ∧ stepT t x (walkT t x l).1 = none ∧ (walkT t x l).2 ≤ measL l ∧ ((walkT t x l).2 = 0 → (walkT t x l).1 = l) ∧ ((walkT t x l).2 ≠ 0 → lessL (walkT t x l).1 l = true)
  | n, l, hn, hl, hb => by
    cases h : stepT t x l with
    | none =>
      rw [walk_stop hl h]
      exact ⟨hl, hb, h, Nat.zero_le _, fun _ => rfl, fun h => absurd rfl h⟩
    | some y =>
      obtain ⟨h1, h2, h3, h4⟩ := step_facts hl h
      cases n with
      | zero => omega
      | succ n =>
        obtain ⟨r1, r2, r3, r4, r5, r6⟩ := walk_facts n y (by omega) h2 h3
        rw [walk_step hl h]
        refine ⟨r1, r2, r3, ?_, fun h => by simp at h, fun _ => ?_⟩
        · show (walkT t x y).2 + 1 ≤ measL l
          omega
        · show lessL (walkT t x y).1 l = true
          by_cases e : (walkT t x y).2 = 0
          · rw [r5 e]; exact h4
          · exact lessL_trans _ _ _ (r6 e) h4
theorem meas_bound {t : Gn} {l : List Int} (hl : roseE t l = 0) : measL l ≤ 1401079680 := by
  obtain ⟨_, h1, h2⟩ := rep_facts hl
  have h3 : ∀ l : List Int, (∀ x ∈ l, 0 ≤ x ∧ x ≤ 1000) → totL l ≤ 1000 * l.length := by
    intro l
    induction l with
    | nil => intro _; simp [totL]
    | cons a l ih =>
      intro h
      have := ih (fun x hx => h x (by simp [hx]))
      have := h a (by simp)
      rw [tot_cons, List.length_cons]
      omega
  have := h3 l h2
  unfold measL
  omega
/-- none of the candidates fails -/
theorem none_fails {t x : Gn} {l : List Int} (h : stepT t x l = none) : ∀ y ∈ roseL t l, badT t x y = false := fun y hy => by
  have := List.find?_eq_none.1 h y hy
  simpa using this
end Go.Proofs.YtabkihellcflhaaDoor.Gens
