/- Decisions: the first pair, what covers, the tests that are needed, as functions; the mathematics. No program. -/
import Derived.Test.YtdmoigompmeacaaDoorCondL
namespace Go.Proofs.YtdmoigompmeacaaDoor.Cnd
set_option linter.unusedVariables false

theorem or_bit (t i j : Nat) : (t ||| 2 ^ i).testBit j = if j = i then true else t.testBit j := by
  rw [Nat.testBit_or, Nat.testBit_two_pow]
  by_cases e : j = i
  · subst e; rw [if_pos rfl]; simp
  · rw [if_neg e, decide_eq_false (fun h => e h.symm), Bool.or_false]
theorem or_add {i t : Nat} (h : t.testBit i = false) : t ||| 2 ^ i = t + 2 ^ i := by
  apply Nat.eq_of_testBit_eq
  intro j
  rw [or_bit, bit_add i t h]
theorem or_same {i t : Nat} (h : t.testBit i = true) : t ||| 2 ^ i = t := by
  apply Nat.eq_of_testBit_eq
  intro j
  rw [or_bit]
  by_cases e : j = i
  · subst e; rw [if_pos rfl, h]
  · rw [if_neg e]
theorem or_small {n i t : Nat} (hi : i < n) (ht : t < 2 ^ n) : t ||| 2 ^ i < 2 ^ n := small_of_bits fun j hj => by
  rw [or_bit, if_neg (by omega)]
  exact bits_of_small ht j hj
/-- two admitted tests with different results -/
def pairT (F A : Nat → Bool) (i t : Nat) : Bool := (F t != F (t ||| 2 ^ i)) && A t && A (t ||| 2 ^ i)
theorem pairT_iff {F A : Nat → Bool} {i t : Nat} : pairT F A i t = true ↔ pairAt F i t ∧ A t = true ∧ A (t + 2 ^ i) = true := by
  unfold pairT pairAt
  simp only [Bool.and_eq_true, bne_iff_ne]
  cases h : t.testBit i with
  | true => rw [or_same h]; simp
  | false => rw [or_add h]; simp [and_assoc]
/-- the smaller test of the first pair; -1: there is none -/
def firstP (N : Nat) (F A : Nat → Bool) (i : Nat) : Int := match (List.range N).find? (pairT F A i) with | some t => (t : Int) | none => -1
theorem firstP_none {N : Nat} {F A : Nat → Bool} {i : Nat} (h : ∀ u, u < N → pairT F A i u = false) : firstP N F A i = -1 := by
  unfold firstP
  rw [List.find?_eq_none.2 (fun x hx => by rw [h x (by simpa using hx)]; decide)]
theorem firstP_some {N : Nat} {F A : Nat → Bool} {i t : Nat} (ht : t < N) (hp : pairT F A i t = true) (hb : ∀ u, u < t → pairT F A i u = false) : firstP N F A i = t := by
  unfold firstP
  have e : (List.range N).find? (pairT F A i) = some t := by
    rw [List.find?_eq_some_iff_getElem]
    exact ⟨hp, t, by simpa using ht, by simp, fun j hj => by simp [hb j hj]⟩
  rw [e]
theorem firstP_cases (N : Nat) (F A : Nat → Bool) (i : Nat) : (firstP N F A i = -1 ∧ ∀ u, u < N → pairT F A i u = false) ∨ ∃ t, t < N ∧ firstP N F A i = t ∧ pairT F A i t = true ∧ ∀ u, u < t → pairT F A i u = false := by
  cases h : (List.range N).find? (pairT F A i) with
  | none =>
    have h2 := List.find?_eq_none.1 h
    refine .inl ⟨by unfold firstP; rw [h], fun u hu => ?_⟩
    have := h2 u (by simpa using hu)
    simpa using this
  | some t =>
    obtain ⟨hp, k, hk, e, hb⟩ := List.find?_eq_some_iff_getElem.1 h
    simp only [List.length_range] at hk
    simp only [List.getElem_range] at e
    subst e
    exact .inr ⟨k, hk, by unfold firstP; rw [h], hp, fun u hu => by simpa using hb u hu⟩
theorem firstP_bound (N : Nat) (F A : Nat → Bool) (i : Nat) : -1 ≤ firstP N F A i ∧ firstP N F A i < N := by
  rcases firstP_cases N F A i with ⟨e, _⟩ | ⟨t, h, e, _⟩
  · rw [e]; omega
  · rw [e]; omega
theorem firstP_ne {N : Nat} {F A : Nat → Bool} {i : Nat} : firstP N F A i ≠ -1 ↔ ∃ t, t < N ∧ pairAt F i t ∧ A t = true ∧ A (t + 2 ^ i) = true := by
  rcases firstP_cases N F A i with ⟨e, h⟩ | ⟨t, h, e, hp, _⟩
  · rw [e]
    refine ⟨fun h => absurd rfl h, ?_⟩
    rintro ⟨t, ht, hp⟩
    have := pairT_iff.2 hp
    rw [h t ht] at this
    cases this
  · rw [e]
    exact ⟨fun _ => ⟨t, h, pairT_iff.1 hp⟩, fun _ => by omega⟩
def anyB : Nat → Bool := fun _ => true
theorem matters_iff {n : Nat} {F : Nat → Bool} {i : Nat} : firstP (2 ^ n) F anyB i ≠ -1 ↔ Matters n F i := by
  rw [firstP_ne]
  exact ⟨fun ⟨t, h1, h2, _⟩ => ⟨t, h1, h2⟩, fun ⟨t, h1, h2⟩ => ⟨t, h1, h2, rfl, rfl⟩⟩
/-- the marked tests have a pair for each condition that matters -/
def covP (n : Nat) (F H : Nat → Bool) : Prop := ∀ i, i < n → Matters n F i → ∃ t, t < 2 ^ n ∧ pairAt F i t ∧ H t = true ∧ H (t + 2 ^ i) = true
def lackB (n : Nat) (F H : Nat → Bool) (i : Nat) : Bool := decide (firstP (2 ^ n) F anyB i ≠ -1) && decide (firstP (2 ^ n) F H i = -1)
def covB (n : Nat) (F H : Nat → Bool) : Bool := (List.range n).all fun i => !lackB n F H i
theorem covB_iff {n : Nat} {F H : Nat → Bool} : covB n F H = true ↔ covP n F H := by
  unfold covB covP
  rw [List.all_eq_true]
  refine ⟨fun h i hi hm => ?_, fun h i hi => ?_⟩
  · have := h i (by simpa using hi)
    unfold lackB at this
    rw [decide_eq_true (matters_iff.2 hm), Bool.true_and, Bool.not_eq_true', decide_eq_false_iff_not] at this
    exact firstP_ne.1 this
  · unfold lackB
    by_cases hm : Matters n F i
    · rw [decide_eq_false (p := firstP (2 ^ n) F H i = -1) (firstP_ne.2 (h i (by simpa using hi) hm)), Bool.and_false]
      rfl
    · rw [decide_eq_false (fun e => hm (matters_iff.1 e)), Bool.false_and]
      rfl
theorem covB_lack {n : Nat} {F H : Nat → Bool} {i : Nat} (hi : i < n) (h : lackB n F H i = true) : covB n F H = false := by
  cases hc : covB n F H with
  | false => rfl
  | true =>
    unfold covB at hc
    rw [List.all_eq_true] at hc
    have := hc i (by simpa using hi)
    rw [h] at this
    cases this
theorem covB_full {n : Nat} {F H : Nat → Bool} (h : ∀ i, i < n → lackB n F H i = false) : covB n F H = true := by
  unfold covB
  rw [List.all_eq_true]
  intro i hi
  rw [h i (by simpa using hi)]
  rfl
theorem covP_more {n : Nat} {F H K : Nat → Bool} (h : covP n F H) (hs : ∀ t, t < 2 ^ n → H t = true → K t = true) : covP n F K := fun i hi hm => by
  obtain ⟨t, h1, h2, h3, h4⟩ := h i hi hm
  exact ⟨t, h1, h2, hs t h1 h3, hs _ (add_small hi h1 h2.1) h4⟩
theorem both_of_pairs {n : Nat} {F : Nat → Bool} {T : List Nat} (hp : ∀ i, i < n → Matters n F i → ∃ t ∈ T, pairAt F i t ∧ t + 2 ^ i ∈ T) (hb : Both n F) : (∃ t ∈ T, F t = true) ∧ ∃ t ∈ T, F t = false := by
  obtain ⟨i, hi, hm⟩ := both_matters hb
  obtain ⟨t, h1, h2, h3⟩ := hp i hi hm
  have h4 := h2.2
  cases ht : F t with
  | true =>
    rw [ht] at h4
    exact ⟨⟨t, h1, ht⟩, ⟨_, h3, Bool.eq_false_iff.2 (fun e => h4 e.symm)⟩⟩
  | false =>
    rw [ht] at h4
    exact ⟨⟨_, h3, by cases hu : F (t + 2 ^ i) with | true => rfl | false => exact absurd hu.symm h4⟩, ⟨t, h1, ht⟩⟩
theorem covP_covers {n : Nat} {F H : Nat → Bool} {T : List Nat} (h : ∀ t, t < 2 ^ n → (H t = true ↔ t ∈ T)) (hT : ∀ t ∈ T, t < 2 ^ n) : covP n F H ↔ Covers n F T := by
  constructor
  · intro hc
    have hp : ∀ i, i < n → Matters n F i → ∃ t ∈ T, pairAt F i t ∧ t + 2 ^ i ∈ T := fun i hi hm => by
      obtain ⟨t, h1, h2, h3, h4⟩ := hc i hi hm
      exact ⟨t, (h t h1).1 h3, h2, (h _ (add_small hi h1 h2.1)).1 h4⟩
    exact ⟨hp, both_of_pairs hp⟩
  · intro hc i hi hm
    obtain ⟨t, h1, h2, h3⟩ := hc.pair i hi hm
    exact ⟨t, hT t h1, h2, (h t (hT t h1)).2 h1, (h _ (hT _ h3)).2 h3⟩

/-! the tests that are needed -/
def setH (H : Nat → Bool) (t : Nat) (b : Bool) : Nat → Bool := fun u => if u = t then b else H u
def needG (n : Nat) (F : Nat → Bool) : Nat → Nat → Bool
  | 0 => anyB
  | t + 1 => setH (needG n F t) t (!covB n F (setH (needG n F t) t false))
theorem need_late {n : Nat} {F : Nat → Bool} {u : Nat} : ∀ t, t ≤ u → needG n F t u = true
  | 0, _ => rfl
  | t + 1, h => by
    show (if u = t then _ else needG n F t u) = true
    rw [if_neg (by omega)]
    exact need_late t (by omega)
theorem need_early {n : Nat} {F : Nat → Bool} {u : Nat} : ∀ t, u < t → needG n F t u = needG n F (u + 1) u
  | t + 1, h => by
    by_cases e : u = t
    · rw [e]
    · show (if u = t then _ else needG n F t u) = _
      rw [if_neg e]
      exact need_early t (by omega)
theorem need_less {n : Nat} {F : Nat → Bool} {u t s : Nat} (hts : t ≤ s) (h : needG n F s u = true) : needG n F t u = true := by
  by_cases e : t ≤ u
  · exact need_late t e
  · rw [need_early t (by omega)]
    rw [need_early s (by omega)] at h
    exact h
theorem need_cov (n : Nat) (F : Nat → Bool) : ∀ t, covP n F (needG n F t)
  | 0 => fun i hi ⟨t, h1, h2⟩ => ⟨t, h1, h2, rfl, rfl⟩
  | t + 1 => by
    cases hc : covB n F (setH (needG n F t) t false) with
    | true =>
      refine covP_more (covB_iff.1 hc) fun u _ hu => ?_
      show setH (needG n F t) t (!covB n F (setH (needG n F t) t false)) u = true
      rw [hc]
      exact hu
    | false =>
      refine covP_more (need_cov n F t) fun u _ hu => ?_
      show setH (needG n F t) t (!covB n F (setH (needG n F t) t false)) u = true
      rw [hc]
      unfold setH
      split
      · rfl
      · exact hu
theorem need_needs {n : Nat} {F : Nat → Bool} {u N : Nat} (hu : u < N) (h : needG n F N u = true) : ¬ covP n F (setH (needG n F N) u false) := by
  intro hc
  rw [need_early N hu] at h
  have h2 : (if u = u then !covB n F (setH (needG n F u) u false) else needG n F u u) = true := h
  rw [if_pos rfl] at h2
  have h3 : covP n F (setH (needG n F u) u false) := covP_more hc fun t _ ht => by
    unfold setH at ht ⊢
    split
    · next e => rw [if_pos e] at ht; exact ht
    · next e => rw [if_neg e] at ht; exact need_less (Nat.le_of_lt hu) ht
  rw [covB_iff.2 h3] at h2
  cases h2
def testsL (n : Nat) (F : Nat → Bool) : List Nat := (List.range (2 ^ n)).filter (needG n F (2 ^ n))
structure TestsOk (n : Nat) (F : Nat → Bool) (T : List Nat) : Prop where
  rise : T.Pairwise (· < ·)
  small : ∀ t ∈ T, t < 2 ^ n
  covers : Covers n F T
  needs : ∀ k, k < T.length → ¬ Covers n F (T.eraseIdx k)
theorem mem_tests {n : Nat} {F : Nat → Bool} {t : Nat} : t ∈ testsL n F ↔ t < 2 ^ n ∧ needG n F (2 ^ n) t = true := by
  unfold testsL
  rw [List.mem_filter, List.mem_range]
theorem tests_ok (n : Nat) (F : Nat → Bool) : TestsOk n F (testsL n F) := by
  have hr : (testsL n F).Pairwise (· < ·) := List.Pairwise.sublist List.filter_sublist List.pairwise_lt_range
  have hs : ∀ t ∈ testsL n F, t < 2 ^ n := fun t ht => (mem_tests.1 ht).1
  refine ⟨hr, hs, (covP_covers (fun t ht => ⟨fun h => mem_tests.2 ⟨ht, h⟩, fun h => (mem_tests.1 h).2⟩) hs).1 (need_cov n F _), fun k hk hc => ?_⟩
  have hm := mem_tests.1 (List.getElem_mem hk)
  refine need_needs hm.1 hm.2 (fun i hi hmt => ?_)
  have hone : ∀ t ∈ (testsL n F).eraseIdx k, t < 2 ^ n ∧ setH (needG n F (2 ^ n)) (testsL n F)[k] false t = true := fun t ht => by
    obtain ⟨j, hj, hjk, rfl⟩ := List.mem_eraseIdx_iff_getElem.1 ht
    refine ⟨hs _ (List.getElem_mem hj), ?_⟩
    unfold setH
    rw [if_neg]
    · exact (mem_tests.1 (List.getElem_mem hj)).2
    · intro e
      have hp := List.pairwise_iff_getElem.1 hr
      rcases Nat.lt_or_gt_of_ne hjk with h | h
      · have := hp j k hj hk h; omega
      · have := hp k j hk hj h; omega
  obtain ⟨t, h1, h2, h3⟩ := hc.pair i hi hmt
  exact ⟨t, (hone t h1).1, h2, (hone t h1).2, (hone _ h3).2⟩
theorem TestsOk.nodup {n : Nat} {F : Nat → Bool} {T : List Nat} (h : TestsOk n F T) : T.Nodup := h.rise.imp (fun h => Nat.ne_of_lt h)
theorem TestsOk.most {n : Nat} {F : Nat → Bool} {T : List Nat} (h : TestsOk n F T) : T.length ≤ 2 * n := covers_most h.covers h.nodup h.needs
/-- where no condition matters no test is needed -/
theorem TestsOk.none {n : Nat} {F : Nat → Bool} {T : List Nat} (h : TestsOk n F T) (hm : ∀ i, i < n → ¬ Matters n F i) : T = [] := by
  cases T with
  | nil => rfl
  | cons t T =>
    refine absurd ?_ (h.needs 0 (by simp))
    exact ⟨fun i hi hmt => absurd hmt (hm i hi), fun hb => by
      obtain ⟨i, hi, h2⟩ := both_matters hb
      exact absurd h2 (hm i hi)⟩

/-! all answers turned -/
theorem pair_turn {F : Nat → Bool} {i t : Nat} : pairAt (fun u => !F u) i t ↔ pairAt F i t := by
  unfold pairAt
  simp
theorem firstP_turn (N : Nat) (F A : Nat → Bool) (i : Nat) : firstP N (fun u => !F u) A i = firstP N F A i := by
  unfold firstP
  have : pairT (fun u => !F u) A i = pairT F A i := by
    funext t
    unfold pairT
    simp
  rw [this]
theorem covB_turn (n : Nat) (F H : Nat → Bool) : covB n (fun u => !F u) H = covB n F H := by
  unfold covB lackB
  simp only [firstP_turn]
end Go.Proofs.YtdmoigompmeacaaDoor.Cnd
