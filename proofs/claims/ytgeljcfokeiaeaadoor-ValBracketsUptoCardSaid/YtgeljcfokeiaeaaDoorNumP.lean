/- Plain laws: what strconv.Atoi reads of a number's text; the first word of a text. No program. -/
import Derived.Test.YtgeljcfokeiaeaaDoorValP
import Derived.Lib.IndexAny
namespace Go.Proofs.YtgeljcfokeiaeaaDoor.Vals
open Go.Lib (itoa decDigits atoiAll parseUint10 nDigits)
open Lists

theorem parse_dec2 : ∀ (u acc : Nat) (r : List UInt8), acc * 10 ^ nDigits u + u < 18446744073709551616 → parseUint10 acc (decDigits u ++ r) = parseUint10 (acc * 10 ^ nDigits u + u) r := by
  intro u
  induction u using Nat.strongRecOn with
  | ind u ih =>
    intro acc r h
    by_cases h10 : u < 10
    · rw [Lib.nDigits_small h10] at h ⊢
      rw [Lib.decDigits_one h10]
      simp only [List.cons_append, List.nil_append, parseUint10]
      rw [dig_toNat u h10]
      rw [if_pos ⟨by omega, by omega⟩, if_neg (by omega), if_neg (by omega)]
      have e : acc * 10 + (48 + u - 48) = acc * 10 ^ 1 + u := by omega
      rw [e]
    · rw [Lib.nDigits_big h10] at h ⊢
      have e0 : decDigits u = decDigits (u / 10) ++ [UInt8.ofNat (48 + u % 10)] := by
        rw [decDigits, dif_neg h10]
      have e1 : acc * 10 ^ (nDigits (u / 10) + 1) + u = (acc * 10 ^ nDigits (u / 10) + u / 10) * 10 + u % 10 := by
        rw [Nat.pow_succ, ← Nat.mul_assoc]; omega
      rw [e1] at h ⊢
      rw [e0, List.append_assoc, ih (u / 10) (by omega) acc _ (by omega)]
      simp only [List.cons_append, List.nil_append, parseUint10]
      rw [dig_toNat (u % 10) (by omega)]
      rw [if_pos ⟨by omega, by omega⟩, if_neg (by omega), if_neg (by omega)]
      have e2 : (acc * 10 ^ nDigits (u / 10) + u / 10) * 10 + (48 + u % 10 - 48) = (acc * 10 ^ nDigits (u / 10) + u / 10) * 10 + u % 10 := by omega
      rw [e2]
theorem mag_dec (u : Nat) (h : u < 18446744073709551616) : Lib.parseMag (decDigits u) = .ok u := by
  have hp := parse_dec2 u 0 [] (by omega)
  rw [List.append_nil] at hp
  unfold Lib.parseMag
  rw [if_neg (dec_ne u), hp]
  simp only [parseUint10]
  congr 1
  omega
theorem atoi_itoa (n : Int) (h : I64 n) : atoiAll (itoa n) = .ok n := by
  obtain ⟨h1, h2⟩ := h
  by_cases hn : n < 0
  · have e : itoa n = 45 :: decDigits n.natAbs := by unfold itoa; rw [if_pos hn]
    rw [e]
    unfold atoiAll
    have e2 : ((45 : UInt8).toNat = 43 ∨ (45 : UInt8).toNat = 45) := .inr rfl
    simp only [if_pos e2, mag_dec n.natAbs (by omega)]
    have e3 : (45 : UInt8).toNat = 45 := rfl
    simp only [e3, not_true_eq_false, false_and, if_false, true_and, if_true]
    rw [if_neg (by omega)]
    congr 1
    omega
  · rw [itoa_nat n (by omega), atoi_dec n.toNat (by omega)]
    congr 1
    omega
theorem atoi_i64 {l : List UInt8} {v : Int} (h : atoiAll l = .ok v) : I64 v := by
  unfold atoiAll at h
  split at h
  · cases h
  · rename_i c r
    simp only at h
    split at h
    · cases h
    · cases h
    · rename_i u _
      split at h
      · cases h
      · split at h
        · cases h
        · injection h with h
          subst h
          unfold I64
          split <;> omega

/-! the first word of a text -/
def delL : List UInt8 := [40, 32, 41]
def isDel (c : UInt8) : Bool := delL.contains c
def wordL (l : List UInt8) : List UInt8 := l.takeWhile (fun c => !isDel c)
theorem isDel_iff (c : UInt8) : isDel c = true ↔ c = 32 ∨ c = 41 ∨ c = 40 := by
  simp only [isDel, delL, List.contains_iff_mem, List.mem_cons, List.not_mem_nil, or_false]
  constructor
  · rintro (h | h | h) <;> simp [h]
  · rintro (h | h | h) <;> simp [h]
theorem word_rest (l : List UInt8) : wordL l ++ l.drop (wordL l).length = l ∧ StopsW (l.drop (wordL l).length) := by
  induction l with
  | nil => exact ⟨rfl, .inl rfl⟩
  | cons c r ih =>
    unfold wordL at ih ⊢
    rw [List.takeWhile_cons]
    cases hc : isDel c
    · simp only [Bool.not_false, if_true, List.length_cons, List.drop_succ_cons, List.cons_append]
      exact ⟨by rw [ih.1], ih.2⟩
    · simp only [Bool.not_true, Bool.false_eq_true, if_false, List.length_nil, List.drop_zero, List.nil_append, true_and]
      exact .inr ⟨c, r, rfl, (isDel_iff c).1 hc⟩
theorem word_eq : ∀ (a r : List UInt8), NoStop a → StopsW r → wordL (a ++ r) = a
  | [], r, _, hr => by
    rcases hr with rfl | ⟨c, q, rfl, hc⟩
    · rfl
    · have := (isDel_iff c).2 hc
      simp [wordL, this]
  | x :: a, r, ha, hr => by
    have hx := ha x (by simp)
    have : isDel x = false := by
      rw [Bool.eq_false_iff]
      intro h
      rcases (isDel_iff x).1 h with h | h | h
      · exact hx.1 h
      · exact hx.2.1 h
      · exact hx.2.2 h
    have ih := word_eq a r (fun c hc => ha c (by simp [hc])) hr
    unfold wordL at ih ⊢
    rw [List.cons_append, List.takeWhile_cons, this]
    simp [ih]
theorem any_word : ∀ l : List UInt8, (Lib.indexAny l delL = -1 ∧ wordL l = l) ∨ (Lib.indexAny l delL = (wordL l).length ∧ (wordL l).length < l.length ∧ wordL l = l.take (wordL l).length)
  | [] => .inl ⟨rfl, rfl⟩
  | b :: l => by
    have ih := any_word l
    have e : wordL (b :: l) = if isDel b = true then [] else b :: wordL l := by
      unfold wordL
      rw [List.takeWhile_cons]
      cases isDel b <;> simp
    unfold Lib.indexAny
    change _ ∨ ((if isDel b = true then (0 : Int) else _) = _ ∧ _)
    rw [e]
    cases hb : isDel b
    · have hb' : delL.contains b = false := hb
      simp only [hb', Bool.false_eq_true, if_false]
      rcases ih with ⟨h1, h2⟩ | ⟨h1, h2, h3⟩
      · exact .inl ⟨by rw [h1]; rfl, by rw [h2]⟩
      · refine .inr ⟨?_, by simp; omega, by rw [List.length_cons, List.take_succ_cons, ← h3]⟩
        have : (Lib.indexAny l delL == -1) = false := by rw [beq_eq_false_iff_ne]; omega
        rw [this, h1]
        simp
    · exact .inr ⟨rfl, by simp, by simp⟩
end Go.Proofs.YtgeljcfokeiaeaaDoor.Vals
