/- ShrinkLeast, part 2 of the proof: Plain laws: what the program's fits counts, against the document's own Large. No program. -/
import Derived.Test.YtfpbegagblekiaaDoorShrinkLeastZ1
/- Plain laws: what the program's fits counts, against the document's own Large. No program. -/
namespace Go.Proofs.YtfpbegagblekiaaDoor.Gens
set_option linter.unusedVariables false

mutual
def fitsG : Gn → Nat → Nat → Bool × Nat
  | .node _ _ _ subs, deep, p => if 30 < p + 1 ∨ 6 ≤ deep then (false, p + 1) else fitsGs subs (deep + 1) (p + 1)
def fitsGs : List Gn → Nat → Nat → Bool × Nat
  | [], _, p => (true, p)
  | g :: r, deep, p => if (fitsG g deep p).1 = true then fitsGs r deep (fitsG g deep p).2 else (false, (fitsG g deep p).2)
end
theorem fitsG_eq (g : Gn) (deep p : Nat) : fitsG g deep p = if 30 < p + 1 ∨ 6 ≤ deep then (false, p + 1) else fitsGs g.subs (deep + 1) (p + 1) := by
  cases g with | node k a b s => simp only [fitsG, Gn.subs]
theorem fitsGs_drop (l : List Gn) (k deep p : Nat) (h : k < l.length) : fitsGs (l.drop k) deep p = if (fitsG (l[k]'h) deep p).1 = true then fitsGs (l.drop (k + 1)) deep (fitsG (l[k]'h) deep p).2 else (false, (fitsG (l[k]'h) deep p).2) := by
  rw [List.drop_eq_getElem_cons h, fitsGs]
mutual
def okD : Gn → Nat → Bool
  | .node _ _ _ subs, deep => decide (deep < 6) && okDs subs (deep + 1)
def okDs : List Gn → Nat → Bool
  | [], _ => true
  | g :: r, deep => okD g deep && okDs r deep
end
mutual
theorem fits_ok : ∀ (g : Gn) (deep p : Nat), (okD g deep = true → p + g.size ≤ 30 → fitsG g deep p = (true, p + g.size)) ∧ (¬ (okD g deep = true ∧ p + g.size ≤ 30) → (fitsG g deep p).1 = false)
  | .node k a b subs, deep, p => by
    have ih := fitss_ok subs (deep + 1) (p + 1)
    refine ⟨fun h1 h2 => ?_, fun h => ?_⟩
    · simp only [okD, Bool.and_eq_true, decide_eq_true_eq] at h1
      rw [Gn.size] at h2 ⊢
      rw [fitsG, if_neg (by omega), ih.1 h1.2 (by omega)]
      simp only [Prod.mk.injEq, true_and]; omega
    · rw [fitsG]
      split
      · rfl
      · rename_i hc
        refine ih.2 (fun h3 => h ⟨?_, ?_⟩) (by omega)
        · simp only [okD, Bool.and_eq_true, decide_eq_true_eq]; exact ⟨by omega, h3.1⟩
        · rw [Gn.size]; omega
theorem fitss_ok : ∀ (l : List Gn) (deep p : Nat), (okDs l deep = true → p + gsizes l ≤ 30 → fitsGs l deep p = (true, p + gsizes l)) ∧ (¬ (okDs l deep = true ∧ p + gsizes l ≤ 30) → p ≤ 30 → (fitsGs l deep p).1 = false)
  | [], deep, p => by
    refine ⟨fun h1 h2 => by simp [fitsGs, gsizes], fun h hp => absurd ⟨by simp [okDs], by simpa [gsizes] using hp⟩ h⟩
  | g :: r, deep, p => by
    have i1 := fits_ok g deep p
    have i2 := fitss_ok r deep (p + g.size)
    refine ⟨fun h1 h2 => ?_, fun h hp => ?_⟩
    · simp only [okDs, Bool.and_eq_true] at h1
      rw [gsizes] at h2
      rw [fitsGs, i1.1 h1.1 (by omega), if_pos rfl, i2.1 h1.2 (by omega), gsizes, Nat.add_assoc]
    · rw [fitsGs]
      by_cases hg : okD g deep = true ∧ p + g.size ≤ 30
      · rw [i1.1 hg.1 hg.2, if_pos rfl]
        refine i2.2 (fun h3 => h ⟨?_, ?_⟩) hg.2
        · simp only [okDs, Bool.and_eq_true]; exact ⟨hg.1, h3.1⟩
        · rw [gsizes]; omega
      · have := i1.2 hg
        rw [if_neg (by rw [this]; simp)]
end
mutual
theorem large_ok : ∀ (g : Gn) (deep : Nat), ((largeG g deep).2 = false ↔ okD g deep = true ∧ g.size ≤ 30)
  | .node k a b subs, deep => by
    have ih := larges_ok subs (deep + 1) 1 (by omega)
    rw [largeG]
    split
    · rename_i h
      simp only [okD, Bool.and_eq_true, decide_eq_true_eq, Gn.size]
      constructor
      · intro h; cases h
      · intro h; omega
    · rename_i h
      rw [ih]
      simp only [okD, Bool.and_eq_true, decide_eq_true_eq, Gn.size]
      constructor
      · intro h3; exact ⟨⟨by omega, h3.1⟩, h3.2⟩
      · intro h3; exact ⟨h3.1.2, h3.2⟩
theorem larges_ok : ∀ (l : List Gn) (deep n : Nat), n ≤ 30 → ((largeGs l deep n).2 = false ↔ okDs l deep = true ∧ n + gsizes l ≤ 30)
  | [], deep, n, hn => by simp [largeGs, okDs, gsizes, hn]
  | g :: r, deep, n, hn => by
    have i1 := large_ok g deep
    rw [largeGs]
    split
    · rename_i hc
      constructor
      · intro h; cases h
      · intro h
        simp only [okDs, Bool.and_eq_true, gsizes] at h
        have h1 : (largeG g deep).2 = false := i1.2 ⟨h.1.1, by omega⟩
        have h2 := large_size g deep h1
        rcases hc with hc | hc
        · rw [h1] at hc; cases hc
        · omega
    · rename_i hc
      have h1 : (largeG g deep).2 = false := by
        cases hb : (largeG g deep).2 with
        | false => rfl
        | true => exact absurd (.inl hb) hc
      have h2 := large_size g deep h1
      have h3 := i1.1 h1
      rw [larges_ok r deep _ (by omega)]
      simp only [okDs, Bool.and_eq_true, gsizes]
      constructor
      · intro h; exact ⟨⟨h3.1, h.1⟩, by omega⟩
      · intro h; exact ⟨h.1.2, by omega⟩
end
/-- the program's measure is the document's -/
theorem fits_large (g : Gn) : (fitsG g 0 0).1 = !(largeG g 0).2 := by
  cases h : (largeG g 0).2 with
  | false =>
    obtain ⟨h1, h2⟩ := (large_ok g 0).1 h
    rw [(fits_ok g 0 0).1 h1 (by omega)]; rfl
  | true =>
    rw [(fits_ok g 0 0).2 (fun h3 => ?_)]; · rfl
    have := (large_ok g 0).2 ⟨h3.1, by omega⟩
    rw [h] at this; cases this
theorem fits_few (g : Gn) (deep p : Nat) (h : (fitsG g deep p).1 = true) : (fitsG g deep p).2 ≤ 30 := by
  by_cases hg : okD g deep = true ∧ p + g.size ≤ 30
  · rw [(fits_ok g deep p).1 hg.1 hg.2]; exact hg.2
  · rw [(fits_ok g deep p).2 hg] at h; cases h
end Go.Proofs.YtfpbegagblekiaaDoor.Gens
