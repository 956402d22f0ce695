/- ShrinkLeast, part 9 of the proof: Plain laws on numbers' texts: what a text of digits is worth. No program. -/
import Derived.Test.YtfpbegagblekiaaDoorShrinkLeastZ8
import Derived.IntWalk
/- Plain laws on numbers' texts: what a text of digits is worth. No program. -/
namespace Go.Proofs.YtfpbegagblekiaaDoor.Lists
open Go.Lib (itoa decDigits nDigits)

def AllDig (d : List UInt8) : Prop := ∀ c ∈ d, 48 ≤ c.toNat ∧ c.toNat ≤ 57
def valD (d : List UInt8) : Int := d.foldl (fun a c => 10 * a + ((c.toNat : Int) - 48)) 0
theorem valD_snoc (d : List UInt8) (c : UInt8) : valD (d ++ [c]) = 10 * valD d + ((c.toNat : Int) - 48) := by
  unfold valD; rw [List.foldl_append]; rfl
theorem valD_dec : ∀ (u : Nat), valD (decDigits u) = u := by
  intro u
  induction u using Nat.strongRecOn with
  | ind u ih =>
    by_cases h10 : u < 10
    · rw [Lib.decDigits_one h10]
      show 10 * 0 + (((UInt8.ofNat (48 + u)).toNat : Int) - 48) = u
      rw [dig_toNat u h10]; omega
    · rw [decDigits, dif_neg h10, valD_snoc, ih (u / 10) (by omega), dig_toNat (u % 10) (by omega)]
      omega
theorem nd_le : ∀ (k u : Nat), u < 10 ^ (k + 1) → nDigits u ≤ k + 1
  | 0, u, h => by rw [Lib.nDigits_small (by omega)]; omega
  | k + 1, u, h => by
    by_cases h10 : u < 10
    · rw [Lib.nDigits_small h10]; omega
    · rw [Lib.nDigits_big h10]
      have h2 : u / 10 < 10 ^ (k + 1) := by rw [Nat.pow_succ] at h; omega
      have := nd_le k (u / 10) h2
      omega
theorem itoa_len20 (v : Int) (h : I64 v) : (itoa v).length ≤ 20 := by
  obtain ⟨h1, h2⟩ := h
  have hp : (10 : Nat) ^ (18 + 1) = 10000000000000000000 := by decide
  unfold itoa
  split
  · rw [List.length_cons, Lib.decDigits_length]
    have := nd_le 18 v.natAbs (by rw [hp]; omega)
    omega
  · rw [Lib.decDigits_length]
    have := nd_le 18 v.toNat (by rw [hp]; omega)
    omega
/-- a text that begins with '-' -/
def isNeg (l : List UInt8) : Bool := match l with | [] => false | c :: _ => c == 45
def startOf (l : List UInt8) : Nat := if isNeg l = true then 1 else 0
def signOf (l : List UInt8) : Int := if isNeg l = true then -1 else 1
theorem dec_head (u : Nat) : isNeg (decDigits u) = false := by
  have hd := dec_digit u
  cases h : decDigits u with
  | nil => rfl
  | cons c r =>
    rw [h] at hd
    have := hd c (by simp)
    show (c == 45) = false
    rw [beq_eq_false_iff_ne]
    intro e
    subst e
    simp at this
theorem itoa_read (v : Int) : AllDig ((itoa v).drop (startOf (itoa v))) ∧ signOf (itoa v) * valD ((itoa v).drop (startOf (itoa v))) = v := by
  by_cases h : v < 0
  · have e : itoa v = 45 :: decDigits v.natAbs := by unfold itoa; rw [if_pos h]
    have hn : isNeg (45 :: decDigits v.natAbs) = true := rfl
    rw [e]
    unfold startOf signOf
    rw [if_pos hn, if_pos hn]
    simp only [List.drop_succ_cons, List.drop_zero]
    refine ⟨dec_digit _, ?_⟩
    rw [valD_dec]; omega
  · have e : itoa v = decDigits v.toNat := itoa_nat v (by omega)
    rw [e]
    unfold startOf signOf
    rw [dec_head]
    simp only [Bool.false_eq_true, if_false, List.drop_zero]
    refine ⟨dec_digit _, ?_⟩
    rw [valD_dec]; omega
theorem itoa_inj {v u : Int} (h : itoa v = itoa u) : v = u := by
  have h1 := (itoa_read v).2
  rw [h, (itoa_read u).2] at h1
  exact h1.symm

/-! with wrap-around -/
def w64 (x : Int) : Int := (x + 9223372036854775808) % 18446744073709551616 - 9223372036854775808
theorem w64_id {x : Int} (h : I64 x) : w64 x = x := by unfold I64 at h; unfold w64; omega
theorem w64_i64 (x : Int) : I64 (w64 x) := by unfold I64 w64; omega
theorem w64_add (x d : Int) : w64 (w64 (10 * w64 x) + d) = w64 (10 * x + d) := by unfold w64; omega
theorem w64_sub (x d : Int) : w64 (w64 (10 * w64 (-x)) - d) = w64 (-(10 * x + d)) := by unfold w64; omega

def NumIs (l : List UInt8) (n : Int) (b : Bool) : Prop := I64 n ∧ (b = true → itoa n = l) ∧ ∀ v, I64 v → itoa v = l → n = v ∧ b = true
theorem num_no {l : List UInt8} (h : ∀ v, I64 v → itoa v ≠ l) : NumIs l 0 false :=
  ⟨by unfold I64; omega, (fun e => by cases e), fun v hv e => absurd e (h v hv)⟩
theorem num_long {l : List UInt8} (h : 20 < l.length) : NumIs l 0 false := num_no fun v hv e => by
  have := itoa_len20 v hv
  rw [e] at this
  omega
theorem num_bad {l : List UInt8} (k : Nat) (h : k < l.length) (hk : startOf l ≤ k) (hc : ¬ (48 ≤ (l[k]'h).toNat ∧ (l[k]'h).toNat ≤ 57)) : NumIs l 0 false := num_no fun v _ e => by
  have h1 := (itoa_read v).1
  rw [e] at h1
  refine hc (h1 _ ?_)
  have h2 : (l.drop (startOf l))[k - startOf l]? = some (l[k]'h) := by
    rw [List.getElem?_drop, List.getElem?_eq_getElem (by omega)]
    congr 2
    omega
  exact List.mem_of_getElem? h2
theorem num_end {l r : List UInt8} {n : Int} (hn : n = w64 (signOf l * valD (l.drop (startOf l)))) (hr : r = itoa n) : NumIs l n (r == l) := by
  refine ⟨by rw [hn]; exact w64_i64 _, fun e => by rw [← hr]; exact beq_iff_eq.1 e, fun v hv e => ?_⟩
  have h1 := (itoa_read v).2
  rw [e] at h1
  have h2 : n = v := by rw [hn, h1, w64_id hv]
  refine ⟨h2, ?_⟩
  rw [hr, h2, e]
  exact beq_self_eq_true l
/-- what a reading has come to behind k bytes -/
def ReadTo (l : List UInt8) (k : Nat) (n : Int) : Prop := startOf l ≤ k ∧ n = w64 (signOf l * valD ((l.take k).drop (startOf l)))
theorem take_drop_snoc (l : List UInt8) (k st : Nat) (h : k < l.length) (hs : st ≤ k) : (l.take (k + 1)).drop st = (l.take k).drop st ++ [l[k]'h] := by
  rw [List.take_succ_eq_append_getElem h, List.drop_append]
  have e : (l.take k).length = k := by rw [List.length_take]; omega
  rw [e, Nat.sub_eq_zero_of_le hs]
  rfl
theorem read_plus {l : List UInt8} {k : Nat} {n : Int} (h : ReadTo l k n) (hk : k < l.length) (hs : signOf l = 1) : ReadTo l (k + 1) (w64 (w64 (10 * n) + (((l[k]'hk).toNat : Int) - 48))) := by
  obtain ⟨h1, h2⟩ := h
  refine ⟨by omega, ?_⟩
  rw [take_drop_snoc l k _ hk h1, valD_snoc, h2, hs]
  simp only [Int.one_mul]
  exact w64_add _ _
theorem read_minus {l : List UInt8} {k : Nat} {n : Int} (h : ReadTo l k n) (hk : k < l.length) (hs : signOf l = -1) : ReadTo l (k + 1) (w64 (w64 (10 * n) - (((l[k]'hk).toNat : Int) - 48))) := by
  obtain ⟨h1, h2⟩ := h
  refine ⟨by omega, ?_⟩
  rw [take_drop_snoc l k _ hk h1, valD_snoc, h2, hs]
  have e1 : ∀ x : Int, (-1) * x = -x := fun x => by omega
  rw [e1, e1]
  exact w64_sub _ _
theorem read_start (l : List UInt8) : ReadTo l (startOf l) 0 := by
  refine ⟨Nat.le_refl _, ?_⟩
  have e : (l.take (startOf l)).drop (startOf l) = [] := List.drop_eq_nil_of_le (by rw [List.length_take]; omega)
  rw [e]
  show (0 : Int) = w64 (signOf l * 0)
  rw [Int.mul_zero]; rfl
theorem read_done {l r : List UInt8} {k : Nat} {n : Int} (h : ReadTo l k n) (hk : l.length ≤ k) (hr : r = itoa n) : NumIs l n (r == l) := by
  obtain ⟨h1, h2⟩ := h
  rw [List.take_of_length_le hk] at h2
  exact num_end h2 hr
end Go.Proofs.YtfpbegagblekiaaDoor.Lists
