/- Plain laws on plays: of a list, one after the other. No program. -/
import Derived.Test.YtboecgbgcbkcjaaPlay5
namespace Go.Proofs.Ytboecgbgcbkcjaa.Gens
open Vals
set_option linter.unusedVariables false

section
variable {σ : Type} {ch : σ → Int → Except Int (Int × σ)}
theorem all_append_ok : ∀ (l m : List Gn) (s : σ) (c : List Int) (vs : List Tr) (s1 : σ), playAll ch l s = .ok (c, vs, s1) → ∀ c2 vs2 s2, playAll ch m s1 = .ok (c2, vs2, s2) → playAll ch (l ++ m) s = .ok (c ++ c2, vs ++ vs2, s2)
  | [], m, s, c, vs, s1, h, c2, vs2, s2, h2 => by
    simp only [playAll, Except.ok.injEq, Prod.mk.injEq] at h
    obtain ⟨rfl, rfl, rfl⟩ := h
    simpa using h2
  | g :: l, m, s, c, vs, s1, h, c2, vs2, s2, h2 => by
    simp only [playAll] at h
    cases h1 : play ch g s with
    | error e => rw [h1] at h; cases h
    | ok p =>
      obtain ⟨c1, v, s3⟩ := p
      simp only [h1] at h
      cases h3 : playAll ch l s3 with
      | error e => simp only [h3] at h; cases h
      | ok q =>
        obtain ⟨c4, vs4, s4⟩ := q
        simp only [h3, Except.ok.injEq, Prod.mk.injEq] at h
        obtain ⟨rfl, rfl, rfl⟩ := h
        simp only [List.cons_append, playAll, h1, all_append_ok l m s3 c4 vs4 s4 h3 c2 vs2 s2 h2, List.append_assoc]
theorem all_append_bad : ∀ (l m : List Gn) (s : σ) (c : List Int) (vs : List Tr) (s1 : σ), playAll ch l s = .ok (c, vs, s1) → ∀ e, playAll ch m s1 = .error e → playAll ch (l ++ m) s = .error e
  | [], m, s, c, vs, s1, h, e, h2 => by
    simp only [playAll, Except.ok.injEq, Prod.mk.injEq] at h
    obtain ⟨rfl, rfl, rfl⟩ := h
    simpa using h2
  | g :: l, m, s, c, vs, s1, h, e, h2 => by
    simp only [playAll] at h
    cases h1 : play ch g s with
    | error e => rw [h1] at h; cases h
    | ok p =>
      obtain ⟨c1, v, s3⟩ := p
      simp only [h1] at h
      cases h3 : playAll ch l s3 with
      | error e => simp only [h3] at h; cases h
      | ok q =>
        obtain ⟨c4, vs4, s4⟩ := q
        simp only [h3, Except.ok.injEq, Prod.mk.injEq] at h
        obtain ⟨rfl, rfl, rfl⟩ := h
        simp only [List.cons_append, playAll, h1, all_append_bad l m s3 c4 vs4 s4 h3 e h2]
/-- one more -/
theorem all_step {l : List Gn} {j : Nat} (hj : j < l.length) {s s1 s2 : σ} {c c2 : List Int} {vs : List Tr} {v : Tr} (h : playAll ch (l.take j) s = .ok (c, vs, s1)) (h2 : play ch (l[j]'hj) s1 = .ok (c2, v, s2)) : playAll ch (l.take (j + 1)) s = .ok (c ++ c2, vs ++ [v], s2) := by
  rw [List.take_succ_eq_append_getElem hj]
  exact all_append_ok _ _ s c vs s1 h c2 [v] s2 (by simp [playAll, h2])
/-- it stops -/
theorem all_stop {l : List Gn} {j : Nat} (hj : j < l.length) {s s1 : σ} {c : List Int} {vs : List Tr} {e : Int} (h : playAll ch (l.take j) s = .ok (c, vs, s1)) (h2 : play ch (l[j]'hj) s1 = .error e) : playAll ch l s = .error e := by
  have e1 : l = l.take j ++ (l[j]'hj) :: l.drop (j + 1) := by rw [← List.drop_eq_getElem_cons hj, List.take_append_drop]
  rw [e1]
  exact all_append_bad _ _ s c vs s1 h e (by simp [playAll, h2])
end
end Go.Proofs.Ytboecgbgcbkcjaa.Gens
