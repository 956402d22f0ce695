/- TopFails, part 6 of the proof: Plain laws on texts of tapes: cut at points, read number by number. No program. · Plain laws on digits: how a number's text is made of its tenth's; no program. · Plain laws on numbers' texts: what a text of digits is worth. No program. -/
import Derived.Test.YtabkihellcflhaaGreatDoorTopFailsZ3
import Derived.Lib.AtoiAll
import Derived.Lib.IndexMore
import Derived.IntWalk
/- Plain laws on texts of tapes: cut at points, read number by number. No program. -/
namespace Go.Proofs.YtabkihellcflhaaGreatDoor.Lists
open Go.Lib (itoa decDigits nDigits atoiAll parseUint10 NumEnd)

/-- up to the first point; behind it; is there one? -/
def cutL : List UInt8 → List UInt8 × List UInt8 × Bool
  | [] => ([], [], false)
  | c :: r => if c = 46 then ([], r, true) else (c :: (cutL r).1, (cutL r).2.1, (cutL r).2.2)
def splitL : List UInt8 → List (List UInt8)
  | [] => [[]]
  | c :: r => if c = 46 then [] :: splitL r else match splitL r with
    | [] => [[c]]
    | p :: ps => (c :: p) :: ps

theorem splitL_cut : ∀ l, splitL l = (cutL l).1 :: (if (cutL l).2.2 = true then splitL (cutL l).2.1 else [])
  | [] => by simp [splitL, cutL]
  | c :: r => by
    by_cases h : c = 46
    · simp [splitL, cutL, h]
    · simp only [splitL, cutL, if_neg h]
      rw [splitL_cut r]
theorem cutL_len : ∀ l, (cutL l).1.length ≤ l.length ∧ (cutL l).2.1.length ≤ l.length ∧ ((cutL l).2.2 = true → (cutL l).2.1.length + 1 ≤ l.length) ∧ ((cutL l).2.2 = false → (cutL l).2.1 = [])
  | [] => by simp [cutL]
  | c :: r => by
    by_cases h : c = 46
    · simp [cutL, h]
    · have ih := cutL_len r
      simp only [cutL, if_neg h, List.length_cons]
      exact ⟨by omega, by omega, fun g => by have := ih.2.2.1 g; omega, ih.2.2.2⟩
theorem cut_eq : ∀ l, Lib.cut l [46] = cutL l
  | [] => by simp [Lib.cut, Lib.index, cutL]
  | c :: r => by
    have ih := cut_eq r
    by_cases h : c = 46
    · subst h
      simp [Lib.cut, Lib.index, cutL]
    · have hp : ([46] : List UInt8).isPrefixOf (c :: r) = false := by
        simp only [List.isPrefixOf_cons_cons, List.isPrefixOf_nil_left, Bool.and_true, beq_eq_false_iff_ne]
        exact fun e => h e.symm
      have hi : Lib.index (c :: r) [46] = if Lib.index r [46] == -1 then -1 else Lib.index r [46] + 1 := by
        rw [Lib.index, hp]; rfl
      have hge := Lib.index_ge r [46]
      simp only [cutL, if_neg h]
      rw [← ih]
      unfold Lib.cut
      rw [hi]
      by_cases h0 : Lib.index r [46] = -1
      · simp [h0]
      · have hb : (Lib.index r [46] == -1) = false := by rw [beq_eq_false_iff_ne]; exact h0
        have g0 : 0 ≤ Lib.index r [46] := by omega
        rw [hb]
        simp only [Bool.false_eq_true, if_false]
        rw [if_pos (by omega), if_pos g0]
        have e1 : (Lib.index r [46] + 1).toNat = (Lib.index r [46]).toNat + 1 := by omega
        rw [e1]
        simp only [List.take_succ_cons, List.length_cons, List.length_nil, Nat.zero_add, List.drop_succ_cons]

/-- the number of a part: one of a tape's -/
def numOf (p : List UInt8) : Option Int := match atoiAll p with
  | .ok v => if 0 ≤ v ∧ v ≤ 1000 then some v else none
  | _ => none
def numsOf : List (List UInt8) → Option (List Int)
  | [] => some []
  | p :: ps => match numOf p with
    | none => none
    | some v => (numsOf ps).map (v :: ·)
def numL (l : List UInt8) : Option (List Int) := if l = [] then some [] else numsOf (splitL l)
def parseL (l : List UInt8) : Option (List Int) := match numL l with
  | none => none
  | some t => if textL t = l then some t else none
def Valid (l : List Int) : Prop := ∀ n ∈ l, 0 ≤ n ∧ n ≤ 1000

def validB (l : List Int) : Bool := l.all fun n => decide (0 ≤ n ∧ n ≤ 1000)
theorem validB_iff (l : List Int) : validB l = true ↔ Valid l := by
  unfold validB Valid
  rw [List.all_eq_true]
  exact ⟨fun h n hn => of_decide_eq_true (h n hn), fun h n hn => decide_eq_true (h n hn)⟩
theorem validB_no (l : List Int) : validB l = false ↔ ¬ Valid l := by
  rw [← validB_iff]; simp
theorem numOf_range {p : List UInt8} {v : Int} (h : numOf p = some v) : 0 ≤ v ∧ v ≤ 1000 := by
  unfold numOf at h
  split at h
  · split at h
    · rename_i g; injection h with h; subst h; exact g
    · cases h
  · cases h
theorem numsOf_valid : ∀ (ps : List (List UInt8)) (l : List Int), numsOf ps = some l → Valid l
  | [], l, h => by simp only [numsOf] at h; injection h with h; subst h; intro n hn; cases hn
  | p :: ps, l, h => by
    simp only [numsOf] at h
    split at h
    · cases h
    · rename_i v hv
      rcases hq : numsOf ps with _ | q
      · rw [hq] at h; cases h
      · rw [hq] at h
        simp only [Option.map_some] at h
        injection h with h
        subst h
        intro n hn
        rcases List.mem_cons.1 hn with rfl | hn
        · exact numOf_range hv
        · exact numsOf_valid ps q hq n hn
theorem numL_valid {s : List UInt8} {l : List Int} (h : numL s = some l) : Valid l := by
  unfold numL at h
  split at h
  · injection h with h; subst h; intro n hn; cases hn
  · exact numsOf_valid _ _ h
theorem parseL_sound {s : List UInt8} {l : List Int} (h : parseL s = some l) : textL l = s ∧ Valid l := by
  unfold parseL at h
  split at h
  · cases h
  · rename_i t ht
    split at h
    · rename_i g
      injection h with h
      subst h
      exact ⟨g, numL_valid ht⟩
    · cases h

/-! a number's digits, read again -/
theorem dig_toNat (d : Nat) (h : d < 10) : (UInt8.ofNat (48 + d)).toNat = 48 + d := by
  rw [UInt8.toNat_ofNat']; omega
theorem parse_dec : ∀ (u acc : Nat) (r : List UInt8), acc * 10 ^ nDigits u + u < 9223372036854775808 → parseUint10 acc (decDigits u ++ r) = parseUint10 (acc * 10 ^ nDigits u + u) r := by
  intro u
  induction u using Nat.strongRecOn with
  | ind u ih =>
    intro acc r h
    by_cases h10 : u < 10
    · rw [Lib.nDigits_small h10] at h ⊢
      rw [Lib.decDigits_one h10]
      simp only [List.cons_append, List.nil_append, parseUint10]
      rw [dig_toNat u h10]
      rw [if_pos ⟨by omega, by omega⟩, if_neg (by omega), if_neg (by omega)]
      have e : acc * 10 + (48 + u - 48) = acc * 10 ^ 1 + u := by omega
      rw [e]
    · rw [Lib.nDigits_big h10] at h ⊢
      have e0 : decDigits u = decDigits (u / 10) ++ [UInt8.ofNat (48 + u % 10)] := by
        rw [decDigits, dif_neg h10]
      have e1 : acc * 10 ^ (nDigits (u / 10) + 1) + u = (acc * 10 ^ nDigits (u / 10) + u / 10) * 10 + u % 10 := by
        rw [Nat.pow_succ, ← Nat.mul_assoc]; omega
      rw [e1] at h ⊢
      rw [e0, List.append_assoc, ih (u / 10) (by omega) acc _ (by omega)]
      simp only [List.cons_append, List.nil_append, parseUint10]
      rw [dig_toNat (u % 10) (by omega)]
      rw [if_pos ⟨by omega, by omega⟩, if_neg (by omega), if_neg (by omega)]
      have e2 : (acc * 10 ^ nDigits (u / 10) + u / 10) * 10 + (48 + u % 10 - 48) = (acc * 10 ^ nDigits (u / 10) + u / 10) * 10 + u % 10 := by omega
      rw [e2]
theorem dec_digit : ∀ (u : Nat), ∀ c ∈ decDigits u, 48 ≤ c.toNat ∧ c.toNat ≤ 57 := by
  intro u
  induction u using Nat.strongRecOn with
  | ind u ih =>
    intro c hc
    by_cases h10 : u < 10
    · rw [Lib.decDigits_one h10] at hc
      have : c = UInt8.ofNat (48 + u) := by simpa using hc
      subst this
      rw [dig_toNat u h10]; omega
    · rw [decDigits, dif_neg h10] at hc
      rcases List.mem_append.1 hc with h | h
      · exact ih (u / 10) (by omega) c h
      · have : c = UInt8.ofNat (48 + u % 10) := by simpa using h
        subst this
        rw [dig_toNat (u % 10) (by omega)]; omega
theorem dec_ne (u : Nat) : decDigits u ≠ [] := by
  intro e
  have := decDigits_pos u
  rw [e] at this
  simp at this
theorem atoi_dec (u : Nat) (h : u < 9223372036854775808) : atoiAll (decDigits u) = .ok (u : Int) := by
  have hd := dec_digit u
  have hp := parse_dec u 0 [] (by omega)
  rw [List.append_nil] at hp
  rcases hl : decDigits u with _ | ⟨c, r⟩
  · exact absurd hl (dec_ne u)
  · rw [hl] at hd hp
    have hc := hd c (by simp)
    have n43 : ¬ c.toNat = 43 := by omega
    have n45 : ¬ c.toNat = 45 := by omega
    have hm : Lib.parseMag (c :: r) = .ok u := by
      unfold Lib.parseMag
      rw [if_neg (by simp), hp]
      simp only [parseUint10]
      congr 1
      omega
    have hb : ¬ 9223372036854775808 ≤ u := by omega
    unfold atoiAll
    simp only [n43, n45, or_self, if_false, hm, hb, not_false_eq_true, and_false, false_and]
theorem itoa_nat (n : Int) (h : 0 ≤ n) : itoa n = decDigits n.toNat := by unfold itoa; rw [if_neg (by omega)]
theorem numOf_itoa (n : Int) (h : 0 ≤ n ∧ n ≤ 1000) : numOf (itoa n) = some n := by
  unfold numOf
  rw [itoa_nat n h.1, atoi_dec n.toNat (by omega)]
  simp only
  rw [if_pos ⟨by omega, by omega⟩]
  congr 1
  omega
theorem itoa_nodot (n : Int) : ∀ c ∈ itoa n, c ≠ 46 := by
  intro c hc e
  subst e
  unfold itoa at hc
  split at hc
  · rcases List.mem_cons.1 hc with h | h
    · exact absurd h (by decide)
    · have := dec_digit _ _ h; simp at this
  · have := dec_digit _ _ hc; simp at this
theorem cutL_nodot : ∀ (a r : List UInt8), (∀ c ∈ a, c ≠ 46) → cutL (a ++ 46 :: r) = (a, r, true)
  | [], r, _ => by simp [cutL]
  | c :: a, r, h => by
    simp only [List.cons_append, cutL]
    rw [if_neg (h c (by simp)), cutL_nodot a r (fun x hx => h x (by simp [hx]))]
theorem cutL_none : ∀ (a : List UInt8), (∀ c ∈ a, c ≠ 46) → cutL a = (a, [], false)
  | [], _ => by simp [cutL]
  | c :: a, h => by
    simp only [cutL]
    rw [if_neg (h c (by simp)), cutL_none a (fun x hx => h x (by simp [hx]))]
theorem split_text : ∀ (l : List Int), l ≠ [] → splitL (textL l) = l.map itoa
  | [], h => absurd rfl h
  | [n], _ => by
    rw [splitL_cut, textL, cutL_none _ (itoa_nodot n)]
    simp
  | n :: m :: r, _ => by
    rw [splitL_cut, textL, cutL_nodot _ _ (itoa_nodot n)]
    simp only [if_true]
    rw [split_text (m :: r) (by simp)]
    simp
theorem numsOf_map : ∀ (l : List Int), Valid l → numsOf (l.map itoa) = some l
  | [], _ => rfl
  | n :: l, h => by
    simp only [List.map_cons, numsOf]
    rw [numOf_itoa n (h n (by simp)), numsOf_map l (fun x hx => h x (by simp [hx]))]
    rfl
theorem itoa_ne (n : Int) : itoa n ≠ [] := by
  intro e
  have := itoa_pos n
  rw [e] at this
  simp at this
theorem textL_ne (l : List Int) (h : l ≠ []) : textL l ≠ [] := by
  cases l with
  | nil => exact absurd rfl h
  | cons n r =>
    rw [textL_cons]
    intro e
    exact itoa_ne n (List.append_eq_nil_iff.1 e).1
theorem parse_text (l : List Int) (h : Valid l) : parseL (textL l) = some l := by
  unfold parseL numL
  by_cases e : l = []
  · subst e; simp [textL]
  · rw [if_neg (textL_ne l e), split_text l e, numsOf_map l h]
    simp
end Go.Proofs.YtabkihellcflhaaGreatDoor.Lists

/- Plain laws on digits: how a number's text is made of its tenth's; no program. -/
namespace Go.Proofs.YtabkihellcflhaaGreatDoor.Lists
open Go.Lib (itoa decDigits nDigits)

theorem dec_step (u : Nat) (h : 10 ≤ u) : decDigits u = decDigits (u / 10) ++ decDigits (u % 10) := by
  rw [decDigits, dif_neg (by omega), Lib.decDigits_one (show u % 10 < 10 by omega)]
theorem itoa_neg_one (n : Int) (h : n < 0) (h10 : n.tdiv 10 = 0) : itoa n = 45 :: itoa (0 - n.tmod 10) := by
  have e1 : n.tmod 10 = n := by have := Int.tmod_add_mul_tdiv n 10; rw [h10] at this; omega
  have hneg : 0 ≤ 0 - n := by omega
  rw [e1, itoa_nat (0 - n) hneg]
  unfold itoa
  rw [if_pos h]
  congr 2
  omega
theorem tdiv_neg (n : Int) (h : n < 0) : (n.tdiv 10).natAbs = n.natAbs / 10 ∧ (n.tmod 10).natAbs = n.natAbs % 10 ∧ n.tdiv 10 ≤ 0 ∧ n.tmod 10 ≤ 0 := by
  have e : n = -((n.natAbs : Nat) : Int) := by omega
  have h1 : n.tdiv 10 = -(((n.natAbs / 10 : Nat) : Int)) := by
    rw [e, Int.neg_tdiv, ← e]
    congr 1
  have h2 : n.tmod 10 = -(((n.natAbs % 10 : Nat) : Int)) := by
    rw [e, Int.neg_tmod, ← e]
    congr 1
  rw [h1, h2]
  omega
theorem itoa_neg_step (n : Int) (h : n < 0) (h10 : n.tdiv 10 ≠ 0) : itoa n = itoa (n.tdiv 10) ++ itoa (0 - n.tmod 10) := by
  obtain ⟨a, b, c, d⟩ := tdiv_neg n h
  have hq : n.tdiv 10 < 0 := by omega
  rw [itoa_nat (0 - n.tmod 10) (by omega)]
  unfold itoa
  rw [if_pos h, if_pos hq, a, dec_step n.natAbs (by omega)]
  have e : (0 - n.tmod 10).toNat = n.natAbs % 10 := by omega
  rw [e]; rfl
theorem itoa_pos_step (n : Int) (h : 10 ≤ n) : itoa n = itoa (n / 10) ++ itoa (n % 10) := by
  rw [itoa_nat n (by omega), itoa_nat (n / 10) (by omega), itoa_nat (n % 10) (by omega), dec_step n.toNat (by omega)]
  have e1 : (n / 10).toNat = n.toNat / 10 := by omega
  have e2 : (n % 10).toNat = n.toNat % 10 := by omega
  rw [e1, e2]
theorem itoa_one (n : Int) (h : 0 ≤ n) (h' : n < 10) : itoa n = [UInt8.ofNat (48 + n.toNat)] := by
  rw [itoa_nat n h, Lib.decDigits_one (by omega)]
end Go.Proofs.YtabkihellcflhaaGreatDoor.Lists

/- Plain laws on numbers' texts: what a text of digits is worth. No program. -/
namespace Go.Proofs.YtabkihellcflhaaGreatDoor.Lists
open Go.Lib (itoa decDigits nDigits)

def AllDig (d : List UInt8) : Prop := ∀ c ∈ d, 48 ≤ c.toNat ∧ c.toNat ≤ 57
def valD (d : List UInt8) : Int := d.foldl (fun a c => 10 * a + ((c.toNat : Int) - 48)) 0
theorem valD_snoc (d : List UInt8) (c : UInt8) : valD (d ++ [c]) = 10 * valD d + ((c.toNat : Int) - 48) := by
  unfold valD; rw [List.foldl_append]; rfl
theorem valD_dec : ∀ (u : Nat), valD (decDigits u) = u := by
  intro u
  induction u using Nat.strongRecOn with
  | ind u ih =>
    by_cases h10 : u < 10
    · rw [Lib.decDigits_one h10]
      show 10 * 0 + (((UInt8.ofNat (48 + u)).toNat : Int) - 48) = u
      rw [dig_toNat u h10]; omega
    · rw [decDigits, dif_neg h10, valD_snoc, ih (u / 10) (by omega), dig_toNat (u % 10) (by omega)]
      omega
theorem nd_le : ∀ (k u : Nat), u < 10 ^ (k + 1) → nDigits u ≤ k + 1
  | 0, u, h => by rw [Lib.nDigits_small (by omega)]; omega
  | k + 1, u, h => by
    by_cases h10 : u < 10
    · rw [Lib.nDigits_small h10]; omega
    · rw [Lib.nDigits_big h10]
      have h2 : u / 10 < 10 ^ (k + 1) := by rw [Nat.pow_succ] at h; omega
      have := nd_le k (u / 10) h2
      omega
theorem itoa_len20 (v : Int) (h : I64 v) : (itoa v).length ≤ 20 := by
  obtain ⟨h1, h2⟩ := h
  have hp : (10 : Nat) ^ (18 + 1) = 10000000000000000000 := by decide
  unfold itoa
  split
  · rw [List.length_cons, Lib.decDigits_length]
    have := nd_le 18 v.natAbs (by rw [hp]; omega)
    omega
  · rw [Lib.decDigits_length]
    have := nd_le 18 v.toNat (by rw [hp]; omega)
    omega
/-- a text that begins with '-' -/
def isNeg (l : List UInt8) : Bool := match l with | [] => false | c :: _ => c == 45
def startOf (l : List UInt8) : Nat := if isNeg l = true then 1 else 0
def signOf (l : List UInt8) : Int := if isNeg l = true then -1 else 1
theorem dec_head (u : Nat) : isNeg (decDigits u) = false := by
  have hd := dec_digit u
  cases h : decDigits u with
  | nil => rfl
  | cons c r =>
    rw [h] at hd
    have := hd c (by simp)
    show (c == 45) = false
    rw [beq_eq_false_iff_ne]
    intro e
    subst e
    simp at this
theorem itoa_read (v : Int) : AllDig ((itoa v).drop (startOf (itoa v))) ∧ signOf (itoa v) * valD ((itoa v).drop (startOf (itoa v))) = v := by
  by_cases h : v < 0
  · have e : itoa v = 45 :: decDigits v.natAbs := by unfold itoa; rw [if_pos h]
    have hn : isNeg (45 :: decDigits v.natAbs) = true := rfl
    rw [e]
    unfold startOf signOf
    rw [if_pos hn, if_pos hn]
    simp only [List.drop_succ_cons, List.drop_zero]
    refine ⟨dec_digit _, ?_⟩
    rw [valD_dec]; omega
  · have e : itoa v = decDigits v.toNat := itoa_nat v (by omega)
    rw [e]
    unfold startOf signOf
    rw [dec_head]
    simp only [Bool.false_eq_true, if_false, List.drop_zero]
    refine ⟨dec_digit _, ?_⟩
    rw [valD_dec]; omega
theorem itoa_inj {v u : Int} (h : itoa v = itoa u) : v = u := by
  have h1 := (itoa_read v).2
  rw [h, (itoa_read u).2] at h1
  exact h1.symm

/-! with wrap-around -/
def w64 (x : Int) : Int := (x + 9223372036854775808) % 18446744073709551616 - 9223372036854775808
theorem w64_id {x : Int} (h : I64 x) : w64 x = x := by unfold I64 at h; unfold w64; omega
theorem w64_i64 (x : Int) : I64 (w64 x) := by unfold I64 w64; omega
theorem w64_add (x d : Int) : w64 (w64 (10 * w64 x) + d) = w64 (10 * x + d) := by unfold w64; omega
theorem w64_sub (x d : Int) : w64 (w64 (10 * w64 (-x)) - d) = w64 (-(10 * x + d)) := by unfold w64; omega

def NumIs (l : List UInt8) (n : Int) (b : Bool) : Prop := I64 n ∧ (b = true → itoa n = l) ∧ ∀ v, I64 v → itoa v = l → n = v ∧ b = true
theorem num_no {l : List UInt8} (h : ∀ v, I64 v → itoa v ≠ l) : NumIs l 0 false :=
  ⟨by unfold I64; omega, (fun e => by cases e), fun v hv e => absurd e (h v hv)⟩
theorem num_long {l : List UInt8} (h : 20 < l.length) : NumIs l 0 false := num_no fun v hv e => by
  have := itoa_len20 v hv
  rw [e] at this
  omega
theorem num_bad {l : List UInt8} (k : Nat) (h : k < l.length) (hk : startOf l ≤ k) (hc : ¬ (48 ≤ (l[k]'h).toNat ∧ (l[k]'h).toNat ≤ 57)) : NumIs l 0 false := num_no fun v _ e => by
  have h1 := (itoa_read v).1
  rw [e] at h1
  refine hc (h1 _ ?_)
  have h2 : (l.drop (startOf l))[k - startOf l]? = some (l[k]'h) := by
    rw [List.getElem?_drop, List.getElem?_eq_getElem (by omega)]
    congr 2
    omega
  exact List.mem_of_getElem? h2
theorem num_end {l r : List UInt8} {n : Int} (hn : n = w64 (signOf l * valD (l.drop (startOf l)))) (hr : r = itoa n) : NumIs l n (r == l) := by
  refine ⟨by rw [hn]; exact w64_i64 _, fun e => by rw [← hr]; exact beq_iff_eq.1 e, fun v hv e => ?_⟩
  have h1 := (itoa_read v).2
  rw [e] at h1
  have h2 : n = v := by rw [hn, h1, w64_id hv]
  refine ⟨h2, ?_⟩
  rw [hr, h2, e]
  exact beq_self_eq_true l
/-- what a reading has come to behind k bytes -/
def ReadTo (l : List UInt8) (k : Nat) (n : Int) : Prop := startOf l ≤ k ∧ n = w64 (signOf l * valD ((l.take k).drop (startOf l)))
theorem take_drop_snoc (l : List UInt8) (k st : Nat) (h : k < l.length) (hs : st ≤ k) : (l.take (k + 1)).drop st = (l.take k).drop st ++ [l[k]'h] := by
  rw [List.take_succ_eq_append_getElem h, List.drop_append]
  have e : (l.take k).length = k := by rw [List.length_take]; omega
  rw [e, Nat.sub_eq_zero_of_le hs]
  rfl
theorem read_plus {l : List UInt8} {k : Nat} {n : Int} (h : ReadTo l k n) (hk : k < l.length) (hs : signOf l = 1) : ReadTo l (k + 1) (w64 (w64 (10 * n) + (((l[k]'hk).toNat : Int) - 48))) := by
  obtain ⟨h1, h2⟩ := h
  refine ⟨by omega, ?_⟩
  rw [take_drop_snoc l k _ hk h1, valD_snoc, h2, hs]
  simp only [Int.one_mul]
  exact w64_add _ _
theorem read_minus {l : List UInt8} {k : Nat} {n : Int} (h : ReadTo l k n) (hk : k < l.length) (hs : signOf l = -1) : ReadTo l (k + 1) (w64 (w64 (10 * n) - (((l[k]'hk).toNat : Int) - 48))) := by
  obtain ⟨h1, h2⟩ := h
  refine ⟨by omega, ?_⟩
  rw [take_drop_snoc l k _ hk h1, valD_snoc, h2, hs]
  have e1 : ∀ x : Int, (-1) * x = -x := fun x => by omega
  rw [e1, e1]
  exact w64_sub _ _
theorem read_start (l : List UInt8) : ReadTo l (startOf l) 0 := by
  refine ⟨Nat.le_refl _, ?_⟩
  have e : (l.take (startOf l)).drop (startOf l) = [] := List.drop_eq_nil_of_le (by rw [List.length_take]; omega)
  rw [e]
  show (0 : Int) = w64 (signOf l * 0)
  rw [Int.mul_zero]; rfl
theorem read_done {l r : List UInt8} {k : Nat} {n : Int} (h : ReadTo l k n) (hk : l.length ≤ k) (hr : r = itoa n) : NumIs l n (r == l) := by
  obtain ⟨h1, h2⟩ := h
  rw [List.take_of_length_le hk] at h2
  exact num_end h2 hr
end Go.Proofs.YtabkihellcflhaaGreatDoor.Lists
