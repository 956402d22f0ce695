/- Plain laws on tapes in their order. No program. -/
import Derived.Test.YtboecgbgcbkcjaaEnumG
namespace Go.Proofs.Ytboecgbgcbkcjaa.Gens
set_option linter.unusedVariables false

theorem getD_front (p s : List Int) (m : Nat) (h : m < p.length) : (p ++ s).getD m 0 = p.getD m 0 := by
  rw [List.getD_eq_getElem?_getD, List.getD_eq_getElem?_getD, List.getElem?_append_left h]
theorem getD_here (p s : List Int) (x : Int) : (p ++ x :: s).getD p.length 0 = x := by
  rw [List.getD_eq_getElem?_getD, List.getElem?_append_right (Nat.le_refl _)]; simp
theorem ahead_ne {a b : List Int} (h : Ahead a b) {j : Nat} (hp : ∀ m, m < j → a.getD m 0 = b.getD m 0) (hne : a.getD j 0 ≠ b.getD j 0) : a.getD j 0 < b.getD j 0 := by
  obtain ⟨p, x, y, s, t, rfl, rfl, hl⟩ := h
  rcases Nat.lt_trichotomy j p.length with h1 | h1 | h1
  · rw [getD_front _ _ _ h1, getD_front _ _ _ h1] at hne; exact absurd rfl hne
  · subst h1; rw [getD_here, getD_here]; exact hl
  · have := hp _ h1; rw [getD_here, getD_here] at this; omega
theorem ahead_all {a b : List Int} (h : Ahead a b) : ¬ ∀ m, m < a.length → m < b.length → a.getD m 0 = b.getD m 0 := by
  obtain ⟨p, x, y, s, t, rfl, rfl, hl⟩ := h
  intro hp
  have := hp p.length (by simp) (by simp)
  rw [getD_here, getD_here] at this; omega
theorem Good.order {e : En} {T : List Int → Prop} (h : Good e T) {i k : Nat} (hi : i < e.cnt) (hk : k < e.cnt) {j : Nat} (hp : ∀ m, m < j → (e.nth i).getD m 0 = (e.nth k).getD m 0) (hne : (e.nth i).getD j 0 ≠ (e.nth k).getD j 0) : (e.nth i).getD j 0 < (e.nth k).getD j 0 ↔ i < k := by
  rcases Nat.lt_trichotomy i k with h1 | h1 | h1
  · exact ⟨fun _ => h1, fun _ => ahead_ne (h.rises i k h1 hk) hp hne⟩
  · subst h1; exact absurd rfl hne
  · have := ahead_ne (h.rises k i h1 hi) (fun m hm => (hp m hm).symm) (fun e => hne e.symm)
    constructor <;> intro h2 <;> omega
theorem Good.same {e : En} {T : List Int → Prop} (h : Good e T) {i k : Nat} (hi : i < e.cnt) (hk : k < e.cnt) (hp : ∀ m, m < (e.nth i).length → m < (e.nth k).length → (e.nth i).getD m 0 = (e.nth k).getD m 0) : i = k := by
  rcases Nat.lt_trichotomy i k with h1 | h1 | h1
  · exact absurd hp (ahead_all (h.rises i k h1 hk))
  · exact h1
  · exact absurd (fun m h2 h3 => (hp m h3 h2).symm) (ahead_all (h.rises k i h1 hi))
end Go.Proofs.Ytboecgbgcbkcjaa.Gens
