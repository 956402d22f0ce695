/- Plain laws on digits: how a number's text is made of its tenth's; no program. -/
import Derived.Test.YtfpbegagblekiaaTapeL
namespace Go.Proofs.Ytfpbegagblekiaa.Lists
open Go.Lib (itoa decDigits nDigits)

theorem dec_step (u : Nat) (h : 10 ≤ u) : decDigits u = decDigits (u / 10) ++ decDigits (u % 10) := by
  rw [decDigits, dif_neg (by omega), Lib.decDigits_one (show u % 10 < 10 by omega)]
theorem itoa_neg_one (n : Int) (h : n < 0) (h10 : n.tdiv 10 = 0) : itoa n = 45 :: itoa (0 - n.tmod 10) := by
  have e1 : n.tmod 10 = n := by have := Int.tmod_add_mul_tdiv n 10; rw [h10] at this; omega
  have hneg : 0 ≤ 0 - n := by omega
  rw [e1, itoa_nat (0 - n) hneg]
  unfold itoa
  rw [if_pos h]
  congr 2
  omega
theorem tdiv_neg (n : Int) (h : n < 0) : (n.tdiv 10).natAbs = n.natAbs / 10 ∧ (n.tmod 10).natAbs = n.natAbs % 10 ∧ n.tdiv 10 ≤ 0 ∧ n.tmod 10 ≤ 0 := by
  have e : n = -((n.natAbs : Nat) : Int) := by omega
  have h1 : n.tdiv 10 = -(((n.natAbs / 10 : Nat) : Int)) := by
    rw [e, Int.neg_tdiv, ← e]
    congr 1
  have h2 : n.tmod 10 = -(((n.natAbs % 10 : Nat) : Int)) := by
    rw [e, Int.neg_tmod, ← e]
    congr 1
  rw [h1, h2]
  omega
theorem itoa_neg_step (n : Int) (h : n < 0) (h10 : n.tdiv 10 ≠ 0) : itoa n = itoa (n.tdiv 10) ++ itoa (0 - n.tmod 10) := by
  obtain ⟨a, b, c, d⟩ := tdiv_neg n h
  have hq : n.tdiv 10 < 0 := by omega
  rw [itoa_nat (0 - n.tmod 10) (by omega)]
  unfold itoa
  rw [if_pos h, if_pos hq, a, dec_step n.natAbs (by omega)]
  have e : (0 - n.tmod 10).toNat = n.natAbs % 10 := by omega
  rw [e]; rfl
theorem itoa_pos_step (n : Int) (h : 10 ≤ n) : itoa n = itoa (n / 10) ++ itoa (n % 10) := by
  rw [itoa_nat n (by omega), itoa_nat (n / 10) (by omega), itoa_nat (n % 10) (by omega), dec_step n.toNat (by omega)]
  have e1 : (n / 10).toNat = n.toNat / 10 := by omega
  have e2 : (n % 10).toNat = n.toNat % 10 := by omega
  rw [e1, e2]
theorem itoa_one (n : Int) (h : 0 ≤ n) (h' : n < 10) : itoa n = [UInt8.ofNat (48 + n.toNat)] := by
  rw [itoa_nat n h, Lib.decDigits_one (by omega)]
end Go.Proofs.Ytfpbegagblekiaa.Lists
