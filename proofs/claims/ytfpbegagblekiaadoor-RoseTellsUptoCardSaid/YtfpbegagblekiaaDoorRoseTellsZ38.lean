/- RoseTells, part 38 of the proof: What is seen of the candidates until one stops it: the mathematics. No program. -/
import Derived.Test.YtfpbegagblekiaaDoorRoseTellsZ25
/- What is seen of the candidates until one stops it: the mathematics. No program. -/
namespace Go.Proofs.YtfpbegagblekiaaDoor.Gens
open Go.RowKit Lists Ints Vals
set_option linter.unusedVariables false

/-- what is seen: up to the first that stops it, that one too -/
def seenL (stop : List Int → Bool) : List (List Int) → List (List Int)
  | [] => []
  | x :: r => x :: if stop x = true then [] else seenL stop r
theorem seen_all {stop : List Int → Bool} : ∀ {z : List (List Int)}, (∀ a ∈ z, stop a = false) → seenL stop z = z
  | [], _ => rfl
  | x :: z, h => by
    unfold seenL
    rw [if_neg (by rw [h x (by simp)]; decide), seen_all (fun a ha => h a (by simp [ha]))]
theorem seen_stop {stop : List Int → Bool} {x : List Int} {r : List (List Int)} (hx : stop x = true) : ∀ {z : List (List Int)}, (∀ a ∈ z, stop a = false) → seenL stop (z ++ x :: r) = z ++ [x]
  | [], _ => by
    show seenL stop (x :: r) = [x]
    unfold seenL
    rw [if_pos hx]
  | y :: z, h => by
    show seenL stop (y :: (z ++ x :: r)) = y :: (z ++ [x])
    unfold seenL
    rw [if_neg (by rw [h y (by simp)]; decide), seen_stop hx (fun a ha => h a (by simp [ha]))]
/-- the candidates before the i-th try at the place j -/
def partL (t : Gn) (l : List Int) (j i : Nat) : List (List Int) := lessTo t l j ++ ((triesL l j).take i).flatMap (keptL t l)
theorem part_zero (t : Gn) (l : List Int) (j : Nat) : partL t l j 0 = lessTo t l j := by simp [partL]
theorem part_all (t : Gn) (l : List Int) (j : Nat) : partL t l j (triesL l j).length = lessTo t l (j + 1) := by
  rw [lessTo_succ, partL, List.take_of_length_le (Nat.le_refl _)]
  rfl
theorem part_succ (t : Gn) (l : List Int) (j i : Nat) (h : i < (triesL l j).length) : partL t l j (i + 1) = partL t l j i ++ keptL t l ((triesL l j)[i]'h) := by
  rw [partL, partL, List.take_succ_eq_append_getElem h, List.flatMap_append, List.flatMap_singleton, List.append_assoc]
theorem flat_parts {α β : Type} (f : α → List β) (l : List α) (i : Nat) (h : i < l.length) : ∃ r, l.flatMap f = (l.take i).flatMap f ++ (f (l[i]'h) ++ r) := by
  refine ⟨(l.drop (i + 1)).flatMap f, ?_⟩
  conv => lhs; rw [← List.take_append_drop i l, List.flatMap_append, List.drop_eq_getElem_cons h, List.flatMap_cons]
theorem part_rest (t : Gn) (l : List Int) (j i : Nat) (hj : j < l.length) (h : i < (triesL l j).length) : ∃ r, roseL t l = partL t l j i ++ (keptL t l ((triesL l j)[i]'h) ++ r) := by
  obtain ⟨r1, h1⟩ := flat_parts (lessAt t l) (List.range l.length) j (by simpa using hj)
  obtain ⟨r2, h2⟩ := flat_parts (keptL t l) (triesL l j) i h
  refine ⟨r2 ++ r1, ?_⟩
  have e1 : (List.range l.length).take j = List.range j := by rw [List.take_range]; congr 1; omega
  rw [e1, List.getElem_range] at h1
  show (List.range l.length).flatMap (lessAt t l) = _
  rw [h1]
  show lessTo t l j ++ ((triesL l j).flatMap (keptL t l) ++ r1) = _
  rw [h2]
  simp only [partL, List.append_assoc]
/-- where one that is kept stops it -/
theorem part_stop {t : Gn} {l : List Int} {stop : List Int → Bool} {j i : Nat} (hj : j < l.length) (h : i < (triesL l j).length) (hz : ∀ a ∈ partL t l j i, stop a = false) (hk : lessL (mendL t ((triesL l j)[i]'h)) l = true)
    (hs : stop (mendL t ((triesL l j)[i]'h)) = true) : seenL stop (roseL t l) = partL t l j i ++ [mendL t ((triesL l j)[i]'h)] := by
  obtain ⟨r, e⟩ := part_rest t l j i hj h
  rw [keptL, if_pos hk] at e
  rw [e]
  exact seen_stop hs hz
theorem part_mem {t : Gn} {l y : List Int} {j i : Nat} (hj : j < l.length) (h : i < (triesL l j).length) (hy : y ∈ keptL t l ((triesL l j)[i]'h)) : y ∈ roseL t l := by
  obtain ⟨r, e⟩ := part_rest t l j i hj h
  rw [e]
  simp [hy]
theorem rose_end {t : Gn} {l : List Int} {stop : List Int → Bool} (hz : ∀ a ∈ lessTo t l l.length, stop a = false) : seenL stop (roseL t l) = lessTo t l l.length := seen_all hz
theorem tries_four (l : List Int) (j : Nat) : (triesL l j).length ≤ 4 := by unfold triesL; split <;> simp
theorem tries_each {l x : List Int} {j : Nat} (hx : x ∈ triesL l j) : x.length ≤ l.length := by
  unfold triesL at hx
  split at hx
  · simp only [List.mem_cons, List.not_mem_nil, or_false] at hx
    rcases hx with rfl | rfl | rfl | rfl
    · simp
    · simp
    · simp
    · exact lack_len l j
  · simp only [List.mem_cons, List.not_mem_nil, or_false] at hx
    subst hx
    exact lack_len l j
theorem find_seen (p : List Int → Bool) : ∀ z : List (List Int), (seenL p z).find? p = z.find? p
  | [] => rfl
  | x :: z => by
    unfold seenL
    cases h : p x with
    | true => simp [h]
    | false => simp [h, find_seen p z]
end Go.Proofs.YtfpbegagblekiaaDoor.Gens
