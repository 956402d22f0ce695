/- Delta debugging: what is told, and what fails; the mathematics. No program. -/
import Derived.Test.YtcenekjkdnfhkaaMixL
import Derived.Test.YtcenekjkdnfhkaaList
namespace Go.Proofs.Ytcenekjkdnfhkaa.Dd
open Go.RowKit Rng
set_option linter.unusedVariables false

/-- some of l, in its order, of which P is so, but not without any single one -/
structure MinZ (P : List Int → Bool) (l z : List Int) : Prop where
  sub : z.Sublist l
  ok : P z = true
  least : ∀ i, i < z.length → P (z.eraseIdx i) = false
/-- the sum, with its wraparound -/
def sumW (l : List Int) : Int := l.foldl (fun s x => wrap64 (s + x)) 0
theorem sumW_snoc (l : List Int) (x : Int) : sumW (l ++ [x]) = wrap64 (sumW l + x) := by unfold sumW; rw [List.foldl_append]; rfl
theorem sumW_take (l : List Int) (i : Nat) (h : i < l.length) : sumW (l.take (i + 1)) = wrap64 (sumW (l.take i) + l.getD i 0) := by
  rw [List.take_succ_eq_append_getElem h, sumW_snoc]
  simp [List.getD_eq_getElem?_getD, h]
def anyP (l : List Int) : Bool := (mixI (IntKind.u64.wrap (wrap64 (wrap64 (31 * sumW l) + l.length)))).tmod 3 != 0
/-- what fails -/
def faultP (how : Int) (need : List Int) (limit : Int) (l : List Int) : Bool :=
  if how = 0 then decide (limit ≤ l.length) else if how = 1 then need.all (fun x => l.contains x) else if how = 2 then decide (limit ≤ sumW l) else anyP l
theorem fault_need (need : List Int) (limit : Int) (l : List Int) : faultP 1 need limit l = need.all (fun x => l.contains x) := by
  unfold faultP
  rw [if_neg (by decide), if_pos rfl]
theorem need_iff (need l : List Int) : need.all (fun x => l.contains x) = true ↔ ∀ x ∈ need, x ∈ l := by
  simp [List.all_eq_true]
/-- the fact: of 1 and 2 that is told which must be there -/
theorem fact_two {z : List Int} (h : MinZ (fun l => l.contains 2) [1, 2] z) : z = [2] := by
  obtain ⟨h1, h2, h3⟩ := h
  have h2 : (2 : Int) ∈ z := by simpa using h2
  cases h1 with
  | cons _ h1 =>
    cases h1 with
    | cons _ h1 => cases h1; cases h2
    | cons_cons _ h1 => cases h1; rfl
  | cons_cons _ h1 =>
    cases h1 with
    | cons _ h1 =>
      cases h1
      simp at h2
    | cons_cons _ h1 =>
      cases h1
      have := h3 0 (by decide)
      simp at this
/-- so many -/
theorem count_told {n : Int} {l z : List Int} (h : MinZ (fun l => decide (n ≤ l.length)) l z) : (z.length : Int) = max n 0 := by
  obtain ⟨_, h2, h3⟩ := h
  have h2 : n ≤ z.length := by simpa using h2
  cases z with
  | nil => simp only [List.length_nil] at h2 ⊢; omega
  | cons a z =>
    have h4 : decide (n ≤ (z.length : Int)) = false := h3 0 (by simp)
    rw [decide_eq_false_iff_not] at h4
    simp only [List.length_cons] at h2 ⊢
    omega
/-- of unlike ones just those that must be there -/
theorem needs_told {need l z : List Int} {limit : Int} (hd : l.Nodup) (h : MinZ (faultP 1 need limit) l z) : z.length = (l.filter (fun x => need.contains x)).length := by
  obtain ⟨h1, h2, h3⟩ := h
  rw [fault_need, need_iff] at h2
  have zd : z.Nodup := hd.sublist h1
  have hin : ∀ x ∈ z, x ∈ need := fun x hx => by
    obtain ⟨i, hi, rfl⟩ := List.mem_iff_getElem.1 hx
    have h4 := h3 i hi
    rw [fault_need, Bool.eq_false_iff] at h4
    apply Classical.byContradiction
    intro hn
    apply h4
    rw [need_iff]
    intro y hy
    have := h2 y hy
    rw [List.mem_eraseIdx_iff_getElem]
    obtain ⟨j, hj, rfl⟩ := List.mem_iff_getElem.1 this
    refine ⟨j, hj, ?_, rfl⟩
    rintro rfl
    exact hn hy
  have p : z.Perm (l.filter (fun x => need.contains x)) := by
    rw [List.perm_ext_iff_of_nodup zd (hd.sublist List.filter_sublist)]
    intro x
    rw [List.mem_filter]
    constructor
    · intro hx
      exact ⟨h1.subset hx, by simpa using hin x hx⟩
    · rintro ⟨_, hx⟩
      exact h2 x (by simpa using hx)
  exact p.length_eq
theorem needs_in {need l z : List Int} {limit : Int} (h : MinZ (faultP 1 need limit) l z) (x : Int) (hx : need.contains x = true) : z.contains x = true := by
  have h2 := h.ok
  rw [fault_need, need_iff] at h2
  simpa using h2 x (by simpa using hx)
/-- how many are among some, up to a place -/
def manyK (need l : List Int) (i : Nat) : Nat := ((l.take i).filter (fun x => need.contains x)).length
theorem many_zero (need l : List Int) : manyK need l 0 = 0 := rfl
theorem many_step (need l : List Int) (i : Nat) (h : i < l.length) : manyK need l (i + 1) = manyK need l i + (if need.contains (l.getD i 0) = true then 1 else 0) := by
  unfold manyK
  rw [List.take_succ_eq_append_getElem h, List.filter_append, List.length_append]
  have e : l.getD i 0 = l[i] := by simp [List.getD_eq_getElem?_getD, h]
  rw [e]
  by_cases hc : need.contains l[i] = true
  · rw [if_pos hc]; simp only [List.filter_cons, hc, if_true, List.filter_nil, List.length_singleton]
  · rw [if_neg hc]; simp only [List.filter_cons, hc, List.filter_nil]; rfl
theorem many_le (need l : List Int) (i : Nat) : manyK need l i ≤ i := by
  unfold manyK
  have := List.length_filter_le (fun x => need.contains x) (l.take i)
  have := List.length_take_le i l
  omega
theorem nodup_step (l : List Int) (i : Nat) (h : i < l.length) (hd : (l.take i).Nodup) (hn : (l.take i).contains (l.getD i 0) = false) : (l.take (i + 1)).Nodup := by
  rw [List.take_succ_eq_append_getElem h]
  have e : l.getD i 0 = l[i] := by simp [List.getD_eq_getElem?_getD, h]
  rw [e] at hn
  rw [List.nodup_append]
  refine ⟨hd, by simp, ?_⟩
  intro a ha b hb
  simp only [List.mem_singleton] at hb
  subst hb
  rintro rfl
  rw [Bool.eq_false_iff] at hn
  exact hn (by simpa using ha)
theorem needs_all {need l z : List Int} {limit : Int} (hd : (l.take l.length).Nodup) (h : MinZ (faultP 1 need limit) l z) : z.length = manyK need l l.length := by
  unfold manyK
  rw [List.take_length] at hd ⊢
  exact needs_told hd h
/-- on the way through b, k of a are found: the rest of a is some of the rest of b -/
theorem piece_step {a b : List Int} {k i : Nat} (h : (a.drop k).Sublist (b.drop i)) (hk : k < a.length) (hi : i < b.length) : (if b.getD i 0 = a.getD k 0 then (a.drop (k + 1)).Sublist (b.drop (i + 1)) else (a.drop k).Sublist (b.drop (i + 1))) := by
  have ea : a.drop k = a.getD k 0 :: a.drop (k + 1) := by rw [List.drop_eq_getElem_cons hk]; simp [List.getD_eq_getElem?_getD, hk]
  have eb : b.drop i = b.getD i 0 :: b.drop (i + 1) := by rw [List.drop_eq_getElem_cons hi]; simp [List.getD_eq_getElem?_getD, hi]
  rw [ea, eb] at h
  generalize b.getD i 0 = y at *
  generalize a.getD k 0 = x at *
  by_cases e : y = x
  · rw [if_pos e]
    cases h with
    | cons _ h => exact (List.sublist_cons_self _ _).trans h
    | cons_cons _ h => exact h
  · rw [if_neg e, ea]
    cases h with
    | cons _ h => exact h
    | cons_cons _ h => exact absurd rfl e
theorem piece_end {a b : List Int} {k i : Nat} (h : (a.drop k).Sublist (b.drop i)) (hk : k ≤ a.length) (hi : ¬ i < b.length) : k = a.length := by
  rw [List.drop_of_length_le (show b.length ≤ i by omega)] at h
  have := h.length_le
  simp at this
  omega
end Go.Proofs.Ytcenekjkdnfhkaa.Dd
