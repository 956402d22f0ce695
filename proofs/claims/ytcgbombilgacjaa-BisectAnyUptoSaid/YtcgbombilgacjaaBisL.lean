/- Bisection: binary digits; what is told; the mathematics. No program. -/
import Derived.Test.YtcgbombilgacjaaList
namespace Go.Proofs.Ytcgbombilgacjaa.Bis
set_option linter.unusedVariables false

/-- binary digits -/
def bitsN (m : Nat) : Nat := if h : m = 0 then 0 else bitsN (m / 2) + 1
termination_by m
decreasing_by omega
theorem bits_zero : bitsN 0 = 0 := by unfold bitsN; simp
theorem bits_step {m : Nat} (h : 0 < m) : bitsN m = bitsN (m / 2) + 1 := by
  rw [bitsN, dif_neg (by omega)]
theorem bits_mono : ∀ {a b : Nat}, a ≤ b → bitsN a ≤ bitsN b := by
  intro a
  induction a using Nat.strongRecOn with
  | ind a ih =>
    intro b h
    by_cases ha : a = 0
    · subst ha; rw [bits_zero]; omega
    · rw [bits_step (show 0 < a by omega), bits_step (show 0 < b by omega)]
      have := ih (a / 2) (by omega) (b := b / 2) (by omega)
      omega
theorem bits_half {m k : Nat} (h : 0 < m) (hk : k ≤ m / 2) : bitsN k + 1 ≤ bitsN m := by
  rw [bits_step h]
  have := bits_mono hk
  omega
theorem bits_pow (k : Nat) : ∀ m, m < 2 ^ k → bitsN m ≤ k := by
  induction k with
  | zero => intro m h; have : m = 0 := by simpa using h
            subst this; rw [bits_zero]; omega
  | succ k ih =>
    intro m h
    by_cases hm : m = 0
    · subst hm; rw [bits_zero]; omega
    · rw [bits_step (by omega)]
      have := ih (m / 2) (by rw [Nat.pow_succ] at h; omega)
      omega
theorem bits_small {m : Nat} (h : m ≤ 9223372036854775807) : bitsN m ≤ 63 := bits_pow 63 m (by omega)
/-- what First may tell of P below n: v, error q -/
structure FirstOk (P : Int → Bool) (n v q : Int) : Prop where
  range : ¬ (0 ≤ n ∧ n ≤ 1073741824) → v = 0 ∧ q = 1
  within : 0 ≤ n → n ≤ 1073741824 → (q = 0 ∧ 0 ≤ v ∧ v < n) ∨ (q = 2 ∧ v = 0)
  since : 0 ≤ n → n ≤ 1073741824 → ∀ s : Int, (∀ x, 0 ≤ x → x < n → P x = decide (s ≤ x)) → if n ≤ s ∨ n = 0 then q = 2 else q = 0 ∧ v = max s 0
theorem first_since {n v q s : Int} {P : Int → Bool} (h : FirstOk P n v q) (h0 : 0 ≤ n) (h1 : n ≤ 1073741824) (hp : ∀ x, 0 ≤ x → x < n → P x = decide (s ≤ x)) : (n ≤ s ∨ n = 0 → q = 2 ∧ v = 0) ∧ (s < n → ¬ n = 0 → q = 0 ∧ v = max s 0) := by
  have h2 := h.since h0 h1 s hp
  have h3 := h.within h0 h1
  refine ⟨fun hs => ?_, fun hs hn => ?_⟩
  · rw [if_pos hs] at h2
    rcases h3 with h3 | h3
    · omega
    · exact h3
  · rw [if_neg (by omega)] at h2
    exact h2
/-- where a search stands: all below lo are not so, all from hi on are; where P is so from one number on, it is between them -/
structure Betw (P : Int → Bool) (n lo hi : Int) : Prop where
  le0 : 0 ≤ lo
  le1 : lo ≤ hi
  le2 : hi ≤ n
  since : ∀ s : Int, (∀ x, 0 ≤ x → x < n → P x = decide (s ≤ x)) → (0 < lo → lo ≤ s) ∧ (hi < n → s ≤ hi)
theorem betw_start (P : Int → Bool) {n : Int} (h : 0 ≤ n) : Betw P n 0 n := ⟨Int.le_refl _, h, Int.le_refl _, fun s hp => ⟨fun h => by omega, fun h => by omega⟩⟩
theorem betw_low {P : Int → Bool} {n lo hi m : Int} (h : Betw P n lo hi) (h0 : lo ≤ m) (h1 : m < hi) (hp : P m = false) : Betw P n (m + 1) hi := by
  have a0 := h.le0; have a1 := h.le1; have a2 := h.le2
  refine ⟨by omega, by omega, a2, fun s hs => ⟨fun _ => ?_, (h.since s hs).2⟩⟩
  have := hs m (by omega) (by omega)
  rw [hp] at this
  have := of_decide_eq_false this.symm
  omega
theorem betw_high {P : Int → Bool} {n lo hi m : Int} (h : Betw P n lo hi) (h0 : lo ≤ m) (h1 : m < hi) (hp : P m = true) : Betw P n lo m := by
  have a0 := h.le0; have a1 := h.le1; have a2 := h.le2
  refine ⟨a0, h0, by omega, fun s hs => ⟨(h.since s hs).1, fun _ => ?_⟩⟩
  have := hs m (by omega) (by omega)
  rw [hp] at this
  exact of_decide_eq_true this.symm
theorem betw_end {P : Int → Bool} {n lo : Int} (h : Betw P n lo lo) (h0 : 0 ≤ n) (h1 : n ≤ 1073741824) : FirstOk P n (if lo = n then 0 else lo) (if lo = n then 2 else 0) := by
  have a0 := h.le0; have a2 := h.le2
  refine ⟨fun h => absurd ⟨h0, h1⟩ h, fun _ _ => ?_, fun _ _ s hs => ?_⟩
  · by_cases e : lo = n
    · rw [if_pos e, if_pos e]; exact .inr ⟨rfl, rfl⟩
    · rw [if_neg e, if_neg e]; exact .inl ⟨rfl, a0, by omega⟩
  · obtain ⟨b1, b2⟩ := h.since s hs
    by_cases e : lo = n
    · rw [if_pos e, if_pos e, if_pos (by by_cases hn : 0 < lo; exact .inl (by have := b1 hn; omega); exact .inr (by omega))]
    · rw [if_neg e, if_neg e]
      have := b2 (by omega)
      rw [if_neg (by omega)]
      refine ⟨rfl, ?_⟩
      by_cases hn : 0 < lo
      · have := b1 hn; omega
      · omega
end Go.Proofs.Ytcgbombilgacjaa.Bis
