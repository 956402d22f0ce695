/- Delta debugging: what Min tells, as a function. No program. -/
import Derived.Test.YtcenekjkdnfhkaaDdC
namespace Go.Proofs.Ytcenekjkdnfhkaa.Dd
open Go.RowKit Rng Ints Lists Vals
set_option linter.unusedVariables false

/-- a list without the place i -/
def lackL (l : List Int) (i : Nat) : List Int := l.take i ++ l.drop (i + 1)
theorem lack_len (l : List Int) (i : Nat) : (lackL l i).length ≤ l.length := by
  unfold lackL
  simp only [List.length_append, List.length_take, List.length_drop]
  omega
theorem lack_len' (l : List Int) (i : Nat) (h : i < l.length) : (lackL l i).length + 1 = l.length := by
  unfold lackL
  simp only [List.length_append, List.length_take, List.length_drop]
  omega
/-- one by one: what is left when r stands and a of it are needed -/
def runM (P : List Int → Bool) : Nat → List Int → Nat → List Int
  | 0, r, _ => r
  | f + 1, r, a => if a < r.length then (if P (lackL r a) = true then runM P f (lackL r a) 0 else runM P f r (a + 1)) else r
def minV (P : List Int → Bool) (l : List Int) : List Int := if minE P l = 0 then runM P 400 l 0 else []
theorem lack_erase (l : List Int) (i : Nat) : lackL l i = l.eraseIdx i := by
  unfold lackL
  rw [List.eraseIdx_eq_take_drop_succ]
theorem run_step {P : List Int → Bool} {f : Nat} {r : List Int} {a : Nat} (h : a < r.length) (hf : 15 * r.length - a ≤ f) (h12 : r.length ≤ 12) :
    ∃ g, f = g + 1 ∧ (P (lackL r a) = true → runM P f r a = runM P g (lackL r a) 0 ∧ 15 * (lackL r a).length - 0 ≤ g ∧ (lackL r a).length ≤ 12) ∧ (P (lackL r a) = false → runM P f r a = runM P g r (a + 1) ∧ 15 * r.length - (a + 1) ≤ g) := by
  cases f with
  | zero => omega
  | succ g =>
    have hl := lack_len' r a h
    refine ⟨g, rfl, fun hP => ⟨?_, by omega, by omega⟩, fun hP => ⟨?_, by omega⟩⟩
    · show (if a < r.length then _ else _) = _
      rw [if_pos h, if_pos hP]
    · show (if a < r.length then _ else _) = _
      rw [if_pos h, if_neg (by rw [hP]; decide)]
theorem run_end {P : List Int → Bool} {f : Nat} {r : List Int} {a : Nat} (h : ¬ a < r.length) : runM P f r a = r := by
  cases f with
  | zero => rfl
  | succ g =>
    show (if a < r.length then _ else _) = _
    rw [if_neg h]
theorem run_ok {P : List Int → Bool} {l : List Int} (f : Nat) : ∀ (r : List Int) (a : Nat), r.length ≤ 12 → a ≤ r.length → 15 * r.length - a ≤ f → r.Sublist l → P r = true → (∀ i, i < a → P (r.eraseIdx i) = false) → MinZ P l (runM P f r a) := by
  induction f with
  | zero =>
    intro r a h12 ha hf hs hP hn
    have hr : r = [] := List.eq_nil_of_length_eq_zero (by omega)
    subst hr
    exact ⟨hs, hP, fun i hi => by cases hi⟩
  | succ f ih =>
    intro r a h12 ha hf hs hP hn
    by_cases h : a < r.length
    · show MinZ P l (if a < r.length then _ else _)
      rw [if_pos h]
      have hl := lack_len' r a h
      by_cases hq : P (lackL r a) = true
      · rw [if_pos hq]
        exact ih _ 0 (by omega) (Nat.zero_le _) (by omega) (List.Sublist.trans (by rw [lack_erase]; exact List.eraseIdx_sublist _ _) hs) hq (fun i hi => by omega)
      · rw [if_neg hq]
        refine ih r (a + 1) h12 h (by omega) hs hP (fun i hi => ?_)
        by_cases e : i = a
        · subst e
          rw [← lack_erase]
          exact Bool.eq_false_iff.2 hq
        · exact hn i (by omega)
    · rw [run_end h]
      exact ⟨hs, hP, fun i hi => hn i (by omega)⟩
theorem min_ok {P : List Int → Bool} {l : List Int} (h : minE P l = 0) : MinZ P l (minV P l) := by
  unfold minV
  rw [if_pos h]
  obtain ⟨h1, h2⟩ := minE_ok h
  exact run_ok 400 l 0 h1 (Nat.zero_le _) (by omega) (List.Sublist.refl _) h2 (fun i hi => by omega)
theorem min_no {P : List Int → Bool} {l : List Int} (h : ¬ minE P l = 0) : minV P l = [] := by
  unfold minV
  rw [if_neg h]
theorem minV_is {P : List Int → Bool} {l : List Int} (h : minE P l = 0) : minV P l = runM P 400 l 0 := by
  unfold minV
  rw [if_pos h]
end Go.Proofs.Ytcenekjkdnfhkaa.Dd
