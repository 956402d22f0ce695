/- Tests that differ in one condition each are more than the conditions; the mathematics. No program. -/
import Derived.Test.YtdmoigompmeacaaDoorList
namespace Go.Proofs.YtdmoigompmeacaaDoor.Cnd
set_option linter.unusedVariables false

/-- two tests differ in condition i alone -/
def Diff (i t u : Nat) : Prop := ∀ j, t.testBit j ≠ u.testBit j ↔ j = i
/-- a test without a condition -/
def clr (c t : Nat) : Nat := if t.testBit c = true then t ^^^ 2 ^ c else t
theorem clr_bit (c t j : Nat) : (clr c t).testBit j = if j = c then false else t.testBit j := by
  unfold clr
  by_cases h : t.testBit c = true
  · rw [if_pos h, Nat.testBit_xor, Nat.testBit_two_pow]
    by_cases e : j = c
    · subst e; rw [if_pos rfl, h]; simp
    · rw [if_neg e]
      have : decide (c = j) = false := decide_eq_false (fun h => e h.symm)
      rw [this]; simp
  · rw [if_neg h]
    by_cases e : j = c
    · subst e; rw [if_pos rfl]; simpa using h
    · rw [if_neg e]
theorem clr_same {c t u : Nat} (h : Diff c t u) : clr c t = clr c u := by
  apply Nat.eq_of_testBit_eq
  intro j
  rw [clr_bit, clr_bit]
  by_cases e : j = c
  · rw [if_pos e, if_pos e]
  · rw [if_neg e, if_neg e]
    apply Classical.byContradiction
    intro hn
    exact e ((h j).1 hn)
theorem clr_diff {c i t u : Nat} (hi : i ≠ c) (h : Diff i t u) : Diff i (clr c t) (clr c u) := by
  intro j
  rw [clr_bit, clr_bit]
  by_cases e : j = c
  · subst e
    rw [if_pos rfl, if_pos rfl]
    exact ⟨fun h => absurd rfl h, fun h => absurd h.symm hi⟩
  · rw [if_neg e, if_neg e]
    exact h j
theorem Diff.ne {i t u : Nat} (h : Diff i t u) : t ≠ u := fun e => by
  subst e
  exact (h i).2 rfl rfl
/-- one more than conditions -/
theorem more_tests : ∀ (C : List Nat), C.Nodup → ∀ T : List Nat, T ≠ [] → (∀ i ∈ C, ∃ t ∈ T, ∃ u ∈ T, Diff i t u) → C.length + 1 ≤ T.length := by
  intro C
  induction C with
  | nil => intro _ T hT _; exact List.length_pos_iff.2 hT
  | cons c C ih =>
    intro hd T hT hp
    rw [List.nodup_cons] at hd
    obtain ⟨t, ht, u, hu, hdf⟩ := hp c (by simp)
    have hue : u ∈ T.erase t := (List.mem_erase_of_ne hdf.ne.symm).2 hu
    have hin : ∀ x ∈ T, clr c x ∈ (T.erase t).map (clr c) := fun x hx => by
      by_cases e : x = t
      · rw [e, clr_same hdf]; exact List.mem_map_of_mem hue
      · exact List.mem_map_of_mem ((List.mem_erase_of_ne e).2 hx)
    have h1 := ih hd.2 ((T.erase t).map (clr c)) (by
      intro hn
      have := hin u hu
      rw [hn] at this
      cases this) (fun i hi => by
      obtain ⟨t1, h1, u1, h2, h3⟩ := hp i (by simp [hi])
      exact ⟨clr c t1, hin t1 h1, clr c u1, hin u1 h2, clr_diff (fun e => hd.1 (e ▸ hi)) h3⟩)
    rw [List.length_map, List.length_erase_of_mem ht] at h1
    have := List.length_pos_of_mem ht
    simp only [List.length_cons]
    omega
end Go.Proofs.YtdmoigompmeacaaDoor.Cnd
