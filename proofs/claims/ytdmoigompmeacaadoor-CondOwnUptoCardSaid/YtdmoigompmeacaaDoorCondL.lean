/- Decisions and tests: pairs, what covers; the mathematics. No program. -/
import Derived.Test.YtdmoigompmeacaaDoorCondF
import Derived.Test.YtdmoigompmeacaaDoorNodup
namespace Go.Proofs.YtdmoigompmeacaaDoor.Cnd
set_option linter.unusedVariables false

/-- a bit more -/
theorem bit_add : ∀ (k a : Nat), a.testBit k = false → ∀ j, (a + 2 ^ k).testBit j = if j = k then true else a.testBit j := by
  intro k
  induction k with
  | zero =>
    intro a h j
    rw [Nat.testBit_zero, decide_eq_false_iff_not] at h
    cases j with
    | zero => rw [if_pos rfl, Nat.testBit_zero, decide_eq_true_eq]; simp; omega
    | succ j => rw [if_neg (by omega), Nat.testBit_succ, Nat.testBit_succ]; congr 1; simp; omega
  | succ k ih =>
    intro a h j
    rw [Nat.testBit_succ] at h
    cases j with
    | zero => rw [if_neg (by omega), Nat.testBit_zero, Nat.testBit_zero]; congr 1; rw [Nat.pow_succ]; simp <;> omega
    | succ j =>
      rw [Nat.testBit_succ, show (a + 2 ^ (k + 1)) / 2 = a / 2 + 2 ^ k by rw [Nat.pow_succ]; omega, ih (a / 2) h j, Nat.testBit_succ]
      by_cases e : j = k
      · rw [if_pos e, if_pos (by omega)]
      · rw [if_neg e, if_neg (by omega)]
theorem diff_add {i t : Nat} (h : t.testBit i = false) : Diff i t (t + 2 ^ i) := by
  intro j
  rw [bit_add i t h j]
  by_cases e : j = i
  · subst e; rw [if_pos rfl, h]; simp
  · rw [if_neg e]; exact ⟨fun h => absurd rfl h, fun h => absurd h e⟩
theorem add_diff {i t u : Nat} (h : Diff i t u) (h0 : t.testBit i = false) : u = t + 2 ^ i := by
  apply Nat.eq_of_testBit_eq
  intro j
  rw [bit_add i t h0 j]
  by_cases e : j = i
  · subst e
    rw [if_pos rfl]
    have := (h j).2 rfl
    rw [h0] at this
    cases hu : u.testBit j with
    | true => rfl
    | false => exact absurd hu.symm this
  · rw [if_neg e]
    apply Classical.byContradiction
    intro hn
    exact e ((h j).1 (fun e2 => hn e2.symm))
/-- a pair for condition i -/
def pairAt (F : Nat → Bool) (i t : Nat) : Prop := t.testBit i = false ∧ F t ≠ F (t + 2 ^ i)
def Matters (n : Nat) (F : Nat → Bool) (i : Nat) : Prop := ∃ t, t < 2 ^ n ∧ pairAt F i t
def Both (n : Nat) (F : Nat → Bool) : Prop := (∃ t, t < 2 ^ n ∧ F t = true) ∧ ∃ t, t < 2 ^ n ∧ F t = false
structure Covers (n : Nat) (F : Nat → Bool) (T : List Nat) : Prop where
  pair : ∀ i, i < n → Matters n F i → ∃ t ∈ T, pairAt F i t ∧ t + 2 ^ i ∈ T
  both : Both n F → (∃ t ∈ T, F t = true) ∧ ∃ t ∈ T, F t = false
theorem pair_diff {F : Nat → Bool} {i t : Nat} (h : pairAt F i t) : Diff i t (t + 2 ^ i) := diff_add h.1
/-- of tests that cover there is one more than conditions that matter -/
theorem covers_least {n : Nat} {F : Nat → Bool} {T : List Nat} (h : Covers n F T) {C : List Nat} (hC : C.Nodup) (hm : ∀ i ∈ C, i < n ∧ Matters n F i) (hne : C ≠ []) : C.length + 1 ≤ T.length := by
  refine more_tests C hC T ?_ (fun i hi => ?_)
  · intro hT
    cases C with
    | nil => exact hne rfl
    | cons i C =>
      obtain ⟨t, ht, _⟩ := h.pair i (hm i (by simp)).1 (hm i (by simp)).2
      rw [hT] at ht
      cases ht
  · obtain ⟨t, ht, hp, hu⟩ := h.pair i (hm i hi).1 (hm i hi).2
    exact ⟨t, ht, _, hu, pair_diff hp⟩
/-- the low k bits of u, the others of t -/
def mixB (t u : Nat) : Nat → Nat
  | 0 => t
  | k + 1 => if (mixB t u k).testBit k = u.testBit k then mixB t u k else if u.testBit k = true then mixB t u k + 2 ^ k else mixB t u k - 2 ^ k
theorem sub_bit {k a : Nat} (h : a.testBit k = true) : (a - 2 ^ k).testBit k = false ∧ a - 2 ^ k + 2 ^ k = a := by
  have h1 : 2 ^ k ≤ a := Nat.ge_two_pow_of_testBit h
  have hc : ∀ j, (clr k a).testBit j = if j = k then false else a.testBit j := clr_bit k a
  have h2 : (clr k a).testBit k = false := by rw [hc, if_pos rfl]
  have h3 : clr k a + 2 ^ k = a := by
    apply Nat.eq_of_testBit_eq
    intro j
    rw [bit_add k _ h2 j, hc]
    by_cases e : j = k
    · subst e; rw [if_pos rfl, h]
    · rw [if_neg e, if_neg e]
  have h4 : a - 2 ^ k = clr k a := by omega
  rw [h4]
  exact ⟨h2, h3⟩
theorem mix_bit (t u : Nat) : ∀ k j, (mixB t u k).testBit j = if j < k then u.testBit j else t.testBit j := by
  intro k
  induction k with
  | zero => intro j; rw [if_neg (by omega)]; rfl
  | succ k ih =>
    intro j
    have hk := ih k
    rw [if_neg (by omega)] at hk
    show (if (mixB t u k).testBit k = u.testBit k then mixB t u k else if u.testBit k = true then mixB t u k + 2 ^ k else mixB t u k - 2 ^ k).testBit j = _
    by_cases h1 : (mixB t u k).testBit k = u.testBit k
    · rw [if_pos h1, ih j]
      by_cases e : j = k
      · subst e; rw [if_neg (by omega), if_pos (by omega), ← hk, h1]
      · by_cases e2 : j < k
        · rw [if_pos e2, if_pos (by omega)]
        · rw [if_neg e2, if_neg (by omega)]
    · rw [if_neg h1]
      by_cases hu : u.testBit k = true
      · rw [if_pos hu]
        rw [hu] at h1
        rw [bit_add k _ (by simpa using h1) j]
        by_cases e : j = k
        · subst e; rw [if_pos rfl, if_pos (by omega), hu]
        · rw [if_neg e, ih j]
          by_cases e2 : j < k
          · rw [if_pos e2, if_pos (by omega)]
          · rw [if_neg e2, if_neg (by omega)]
      · rw [if_neg hu]
        have hu' : u.testBit k = false := by simpa using hu
        rw [hu'] at h1
        have h1' : (mixB t u k).testBit k = true := by simpa using h1
        obtain ⟨s1, s2⟩ := sub_bit h1'
        have := bit_add k _ s1 j
        rw [s2, ih j] at this
        by_cases e : j = k
        · subst e; rw [s1, if_pos (by omega), hu']
        · rw [if_neg e] at this
          rw [← this]
          by_cases e2 : j < k
          · rw [if_pos e2, if_pos (by omega)]
          · rw [if_neg e2, if_neg (by omega)]
theorem small_of_bits {n a : Nat} (h : ∀ j, n ≤ j → a.testBit j = false) : a < 2 ^ n := Nat.lt_pow_two_of_testBit a h
theorem bits_of_small {n a : Nat} (h : a < 2 ^ n) (j : Nat) (hj : n ≤ j) : a.testBit j = false := Nat.testBit_lt_two_pow (Nat.lt_of_lt_of_le h (Nat.pow_le_pow_right (by omega) hj))
/-- where both results are, a condition matters -/
theorem both_matters {n : Nat} {F : Nat → Bool} (h : Both n F) : ∃ i, i < n ∧ Matters n F i := by
  obtain ⟨⟨t, ht, h1⟩, ⟨u, hu, h2⟩⟩ := h
  apply Classical.byContradiction
  intro hc
  have hs : ∀ k, mixB t u k < 2 ^ n := fun k => small_of_bits fun j hj => by
    rw [mix_bit]
    split
    · exact bits_of_small hu j hj
    · exact bits_of_small ht j hj
  have hk : ∀ k, k ≤ n → F (mixB t u k) = true := by
    intro k
    induction k with
    | zero => intro _; exact h1
    | succ k ih =>
      intro hkn
      have hF := ih (by omega)
      show F (if (mixB t u k).testBit k = u.testBit k then mixB t u k else if u.testBit k = true then mixB t u k + 2 ^ k else mixB t u k - 2 ^ k) = true
      by_cases e1 : (mixB t u k).testBit k = u.testBit k
      · rw [if_pos e1]; exact hF
      · rw [if_neg e1]
        by_cases e2 : u.testBit k = true
        · rw [if_pos e2]
          rw [e2] at e1
          apply Classical.byContradiction
          intro hn
          exact hc ⟨k, by omega, mixB t u k, hs k, by simpa using e1, fun e => hn (by rw [← e]; exact hF)⟩
        · rw [if_neg e2]
          have e2' : u.testBit k = false := by simpa using e2
          rw [e2'] at e1
          obtain ⟨s1, s2⟩ := sub_bit (a := mixB t u k) (k := k) (by simpa using e1)
          apply Classical.byContradiction
          intro hn
          exact hc ⟨k, by omega, mixB t u k - 2 ^ k, Nat.lt_of_le_of_lt (Nat.sub_le _ _) (hs k), s1, fun e => hn (by rw [e, s2]; exact hF)⟩
  have hu2 : mixB t u n = u := by
    apply Nat.eq_of_testBit_eq
    intro j
    rw [mix_bit]
    by_cases hj : j < n
    · rw [if_pos hj]
    · rw [if_neg hj, bits_of_small ht j (by omega), bits_of_small hu j (by omega)]
  have := hk n (Nat.le_refl _)
  rw [hu2, h2] at this
  cases this
theorem keep_other {T : List Nat} {k x : Nat} (hk : k < T.length) (hx : x ∈ T) (hne : x ≠ T[k]) : x ∈ T.eraseIdx k := by
  obtain ⟨j, hj, rfl⟩ := List.mem_iff_getElem.1 hx
  exact List.mem_eraseIdx_iff_getElem.2 ⟨j, hj, fun e => hne (by subst e; rfl), rfl⟩
/-- tests that cover, and without any single one don't, are no more than two for each condition -/
theorem covers_most {n : Nat} {F : Nat → Bool} {T : List Nat} (h : Covers n F T) (hd : T.Nodup) (hmin : ∀ k, k < T.length → ¬ Covers n F (T.eraseIdx k)) : T.length ≤ 2 * n := by
  have hg : ∀ i, ∃ t, i < n → Matters n F i → t ∈ T ∧ pairAt F i t ∧ t + 2 ^ i ∈ T := fun i => by
    by_cases hc : i < n ∧ Matters n F i
    · obtain ⟨t, h1, h2, h3⟩ := h.pair i hc.1 hc.2
      exact ⟨t, fun _ _ => ⟨h1, h2, h3⟩⟩
    · exact ⟨0, fun h1 h2 => absurd ⟨h1, h2⟩ hc⟩
  have hU : ((List.range n).flatMap fun i => [Classical.choose (hg i), Classical.choose (hg i) + 2 ^ i]).length = 2 * n := by
    rw [List.length_flatMap]
    simp only [List.length_cons, List.length_nil]
    rw [List.map_const', List.sum_replicate_nat]
    simp
    omega
  rw [← hU]
  refine Nod.nodup_len hd fun x hx => ?_
  apply Classical.byContradiction
  intro hn
  obtain ⟨k, hk, rfl⟩ := List.mem_iff_getElem.1 hx
  have hne : ∀ i, i < n → T[k] ≠ Classical.choose (hg i) ∧ T[k] ≠ Classical.choose (hg i) + 2 ^ i := fun i hi => by
    refine ⟨fun e => hn ?_, fun e => hn ?_⟩
    · rw [List.mem_flatMap]; exact ⟨i, by simpa using hi, by rw [e]; simp⟩
    · rw [List.mem_flatMap]; exact ⟨i, by simpa using hi, by rw [e]; simp⟩
  have hp : ∀ i, i < n → Matters n F i → ∃ t ∈ T.eraseIdx k, pairAt F i t ∧ t + 2 ^ i ∈ T.eraseIdx k := fun i hi hm => by
    obtain ⟨h1, h2, h3⟩ := Classical.choose_spec (hg i) hi hm
    exact ⟨_, keep_other hk h1 (hne i hi).1.symm, h2, keep_other hk h3 (hne i hi).2.symm⟩
  refine hmin k hk ⟨hp, fun hb => ?_⟩
  obtain ⟨i, hi, hm⟩ := both_matters hb
  obtain ⟨t, h1, h2, h3⟩ := hp i hi hm
  have h4 := h2.2
  cases ht : F t with
  | true =>
    rw [ht] at h4
    exact ⟨⟨t, h1, ht⟩, ⟨_, h3, Bool.eq_false_iff.2 (fun e => h4 e.symm)⟩⟩
  | false =>
    rw [ht] at h4
    exact ⟨⟨_, h3, by cases hu : F (t + 2 ^ i) with | true => rfl | false => exact absurd hu.symm h4⟩, ⟨t, h1, ht⟩⟩
/-- more tests cover no less; all do -/
theorem covers_more {n : Nat} {F : Nat → Bool} {T T' : List Nat} (h : Covers n F T) (hs : ∀ x ∈ T, x ∈ T') : Covers n F T' :=
  ⟨fun i hi hm => by obtain ⟨t, h1, h2, h3⟩ := h.pair i hi hm; exact ⟨t, hs t h1, h2, hs _ h3⟩, fun hb => by
    obtain ⟨⟨t, h1, h2⟩, ⟨u, h3, h4⟩⟩ := h.both hb
    exact ⟨⟨t, hs t h1, h2⟩, ⟨u, hs u h3, h4⟩⟩⟩
theorem add_small {n i t : Nat} (hi : i < n) (ht : t < 2 ^ n) (h0 : t.testBit i = false) : t + 2 ^ i < 2 ^ n := small_of_bits fun j hj => by
  rw [bit_add i t h0 j, if_neg (by omega)]
  exact bits_of_small ht j hj
theorem covers_all (n : Nat) (F : Nat → Bool) : Covers n F (List.range (2 ^ n)) :=
  ⟨fun i hi hm => by obtain ⟨t, h1, h2⟩ := hm; exact ⟨t, by simpa using h1, h2, by simpa using add_small hi h1 h2.1⟩, fun hb => by
    obtain ⟨⟨t, h1, h2⟩, ⟨u, h3, h4⟩⟩ := hb
    exact ⟨⟨t, by simpa using h1, h2⟩, ⟨u, by simpa using h3, h4⟩⟩⟩
end Go.Proofs.YtdmoigompmeacaaDoor.Cnd
