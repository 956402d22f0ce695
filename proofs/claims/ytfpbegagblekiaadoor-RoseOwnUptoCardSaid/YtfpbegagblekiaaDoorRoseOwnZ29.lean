/- RoseOwn, part 29 of the proof: What is tried in a tape's place: the mathematics. No program. -/
import Derived.Test.YtfpbegagblekiaaDoorRoseOwnZ28
/- What is tried in a tape's place: the mathematics. No program. -/
namespace Go.Proofs.YtfpbegagblekiaaDoor.Gens
open Go.RowKit Lists Ints Vals
set_option linter.unusedVariables false

/-- a list without the place i -/
def lackL (l : List Int) (i : Nat) : List Int := l.take i ++ l.drop (i + 1)
/-- what is tried at the place i -/
def triesL (l : List Int) (i : Nat) : List (List Int) := if 0 < l.getD i 0 then [l.set i 0, l.set i (l.getD i 0 / 2), l.set i (l.getD i 0 - 1), lackL l i] else [lackL l i]
/-- what is kept of one that is tried -/
def keptL (t : Gn) (l x : List Int) : List (List Int) := if lessL (mendL t x) l = true then [mendL t x] else []
def lessAt (t : Gn) (l : List Int) (i : Nat) : List (List Int) := (triesL l i).flatMap (keptL t l)
def lessTo (t : Gn) (l : List Int) (k : Nat) : List (List Int) := (List.range k).flatMap (lessAt t l)
/-- the candidates -/
def roseL (t : Gn) (l : List Int) : List (List Int) := lessTo t l l.length

theorem lessTo_zero (t : Gn) (l : List Int) : lessTo t l 0 = [] := rfl
theorem lessTo_succ (t : Gn) (l : List Int) (k : Nat) : lessTo t l (k + 1) = lessTo t l k ++ lessAt t l k := by
  unfold lessTo
  rw [List.range_succ, List.flatMap_append, List.flatMap_singleton]
theorem lessAt_four (t : Gn) (l : List Int) (i : Nat) (h : 0 < l.getD i 0) : lessAt t l i = keptL t l (l.set i 0) ++ keptL t l (l.set i (l.getD i 0 / 2)) ++ keptL t l (l.set i (l.getD i 0 - 1)) ++ keptL t l (lackL l i) := by
  unfold lessAt triesL
  rw [if_pos h]
  simp [List.append_assoc]
theorem lessAt_one (t : Gn) (l : List Int) (i : Nat) (h : ¬ 0 < l.getD i 0) : lessAt t l i = keptL t l (lackL l i) := by
  unfold lessAt triesL
  rw [if_neg h]
  simp
theorem kept_len (t : Gn) (l x : List Int) : (keptL t l x).length ≤ 1 := by unfold keptL; split <;> simp
theorem lessAt_len (t : Gn) (l : List Int) (i : Nat) : (lessAt t l i).length ≤ 4 := by
  by_cases h : 0 < l.getD i 0
  · rw [lessAt_four t l i h]
    have a := kept_len t l (l.set i 0)
    have b := kept_len t l (l.set i (l.getD i 0 / 2))
    have c := kept_len t l (l.set i (l.getD i 0 - 1))
    have d := kept_len t l (lackL l i)
    simp only [List.length_append]
    omega
  · rw [lessAt_one t l i h]
    have d := kept_len t l (lackL l i)
    omega
theorem lessTo_len (t : Gn) (l : List Int) : ∀ k, (lessTo t l k).length ≤ 4 * k
  | 0 => by simp [lessTo_zero]
  | k + 1 => by
    rw [lessTo_succ, List.length_append]
    have := lessTo_len t l k
    have := lessAt_len t l k
    omega
theorem rose_len (t : Gn) (l : List Int) : (roseL t l).length ≤ 4 * l.length := lessTo_len t l l.length
theorem kept_mem {t : Gn} {l x y : List Int} (h : y ∈ keptL t l x) : y = mendL t x ∧ lessL y l = true := by
  unfold keptL at h
  split at h
  · rename_i hl
    have : y = mendL t x := by simpa using h
    subst this
    exact ⟨rfl, hl⟩
  · cases h
theorem rose_mem {t : Gn} {l y : List Int} (h : y ∈ roseL t l) : (∃ x, y = mendL t x) ∧ lessL y l = true := by
  unfold roseL lessTo at h
  obtain ⟨i, _, h1⟩ := List.mem_flatMap.1 h
  unfold lessAt at h1
  obtain ⟨x, _, h2⟩ := List.mem_flatMap.1 h1
  obtain ⟨h3, h4⟩ := kept_mem h2
  exact ⟨⟨x, h3⟩, h4⟩
theorem lack_len (l : List Int) (i : Nat) : (lackL l i).length ≤ l.length := by
  unfold lackL
  simp only [List.length_append, List.length_take, List.length_drop]
  omega
theorem lack_len' (l : List Int) (i : Nat) (h : i < l.length) : (lackL l i).length + 1 = l.length := by
  unfold lackL
  simp only [List.length_append, List.length_take, List.length_drop]
  omega
/-- each can be played -/
theorem rep_mend {t : Gn} (h0 : genV t = 0) (x : List Int) : ∃ v, repV t (mendL t x) = .ok v := by
  obtain ⟨v, r, h1, _⟩ := mend_run (t := t) x h0
  refine ⟨v, ?_⟩
  have h2 := mend_read (gen_right h0).1 h1 []
  rw [List.append_nil] at h2
  unfold repV repG
  rw [if_pos h0, h2]
  rfl
theorem rose_facts {t : Gn} (h0 : genV t = 0) (l : List Int) : (roseL t l).length ≤ 4 * l.length ∧ ∀ y ∈ roseL t l, (∃ v, repV t y = .ok v) ∧ lessL y l = true ∧ y.length ≤ 1399680 := by
  refine ⟨rose_len t l, fun y hy => ?_⟩
  obtain ⟨⟨x, rfl⟩, h2⟩ := rose_mem hy
  obtain ⟨_, _, _, hl⟩ := mend_run (t := t) x h0
  exact ⟨rep_mend h0 x, h2, hl⟩
/-- what can be played is mended as it is -/
theorem rep_own {t : Gn} {l : List Int} (h : errI (repV t l) = 0) : genV t = 0 ∧ mendL t l = l := by
  unfold repV at h
  by_cases h0 : genV t = 0
  · rw [if_pos h0] at h
    refine ⟨h0, ?_⟩
    obtain ⟨v, r, h1, _⟩ := mend_run (t := t) l h0
    have h3 := read_own (gen_right h0).1 h1
    refine h3.1 ?_
    unfold repG at h
    cases hp : play readC t l with
    | error e =>
      rw [hp] at h
      have h : e = 0 := h
      rcases play_err t l e hp with h' | h' <;> omega
    | ok p =>
      obtain ⟨c, v', r'⟩ := p
      rw [hp] at h
      by_cases hr' : r' = []
      · subst hr'; exact ⟨c, v', rfl⟩
      · have h : errI (if r' = [] then Except.ok v' else Except.error 3) = 0 := h
        rw [if_neg hr'] at h
        have h : (3 : Int) = 0 := h
        omega
  · rw [if_neg h0] at h
    exact absurd h h0
/-- what Less tells -/
def roseE (t : Gn) (l : List Int) : Int := errI (repV t l)
def roseV (t : Gn) (l : List Int) : List (List Int) := if roseE t l = 0 then roseL t l else []
theorem rep_facts {t : Gn} {l : List Int} (h : roseE t l = 0) : genV t = 0 ∧ l.length ≤ 1399680 ∧ ∀ x ∈ l, 0 ≤ x ∧ x ≤ 1000 := by
  obtain ⟨h0, h1⟩ := rep_own h
  obtain ⟨v, r, h2, h3⟩ := mend_run (t := t) l h0
  have h4 := mend_within (gen_right h0).1 (small30 h0) h2
  rw [h1] at h3 h4
  exact ⟨h0, h3, h4⟩
end Go.Proofs.YtfpbegagblekiaaDoor.Gens
