/- Decisions: what the statements ask of the five answers; the mathematics. No program. -/
import Derived.Test.YtdmoigompmeacaaDoorCondC
namespace Go.Proofs.YtdmoigompmeacaaDoor.Cnd
open Go.RowKit Ints Vals Bools
set_option linter.unusedVariables false

theorem nums_get {T : List Nat} {i : Nat} (h : i < T.length) : (T.map Int.ofNat).getD i 0 = ((T[i]'h : Nat) : Int) := by
  simp [List.getD, h]
theorem cond_in {n : Int} {l : List Bool} (h : condE n l = 0) : 1 ≤ n ∧ n ≤ 6 ∧ l.length ≤ 64 := by
  obtain ⟨m, rfl, h1, h6, hl⟩ := cond_ok h
  have := pow_small h1 h6
  omega
theorem matE_err {n i : Int} {l : List Bool} : matE n l i = 0 → condE n l = 0 := fun h => by
  unfold matE at h
  by_cases hc : condE n l = 0
  · exact hc
  · rw [if_neg hc] at h; exact h
theorem covE_err {n : Int} {l : List Bool} {ts : List Int} : covE n l ts = 0 → condE n l = 0 := fun h => by
  unfold covE at h
  by_cases hc : condE n l = 0
  · exact hc
  · rw [if_neg hc] at h; exact h
theorem covE_in {n : Int} {l : List Bool} {ts : List Int} (h : covE n l ts = 0) : ∀ t ∈ ts, 0 ≤ t ∧ t < l.length := by
  have hc := covE_err h
  unfold covE at h
  rw [if_pos hc] at h
  by_cases ha : ∀ t ∈ ts, 0 ≤ t ∧ t < (l.length : Int)
  · exact ha
  · rw [if_neg ha] at h; cases h
theorem covE_of {n : Int} {l : List Bool} {ts : List Int} (hc : condE n l = 0) (ha : ∀ t ∈ ts, 0 ≤ t ∧ t < l.length) : covE n l ts = 0 := by
  unfold covE
  rw [if_pos hc, if_pos ha]
theorem covV_of {n : Int} {l : List Bool} {ts : List Int} {m : Nat} (hn : n = m) (h : covE n l ts = 0) : covV n l ts = covB m (fOf l) (hasL ts) := by
  unfold covV
  rw [if_pos h, hn, Int.toNat_natCast]
theorem covV_no {n : Int} {l : List Bool} {ts : List Int} (h : ¬ covE n l ts = 0) : covV n l ts = false := if_neg h

theorem map_erase (T : List Nat) (i : Nat) : (T.map Int.ofNat).eraseIdx i = (T.eraseIdx i).map Int.ofNat := by
  rw [List.eraseIdx_eq_take_drop_succ, List.eraseIdx_eq_take_drop_succ, List.map_append, List.map_take, List.map_drop]

/-! the tests that are told -/
structure TFacts (n : Int) (l : List Bool) (z : List Int) : Prop where
  err : covE n l z = 0
  is : covV n l z = true
  len : (z.length : Int) ≤ 2 * n
  less : ∀ i, i < z.length → covE n l (z.eraseIdx i) = 0 ∧ covV n l (z.eraseIdx i) = false
  rise : ∀ i, 0 < i → i < z.length → z.getD (i - 1) 0 < z.getD i 0
theorem t_facts {n : Int} {l : List Bool} (h : condE n l = 0) : TFacts n l (tesV n l) := by
  obtain ⟨m, rfl, h1, h6, hl⟩ := cond_ok h
  have hT := tests_ok m (fOf l)
  have e : tesV m l = (testsL m (fOf l)).map Int.ofNat := by unfold tesV; rw [if_pos h, Int.toNat_natCast]
  rw [e]
  generalize testsL m (fOf l) = T at *
  have hc := covV_iff h hT.small
  refine ⟨hc.1, hc.2.2 hT.covers, ?_, fun i hi => ?_, fun i h0 hi => ?_⟩
  · have := hT.most
    rw [List.length_map]
    omega
  · rw [List.length_map] at hi
    have hs : ∀ t ∈ T.eraseIdx i, t < 2 ^ m := fun t ht => hT.small t (List.mem_of_mem_eraseIdx ht)
    have hc2 := covV_iff h hs
    rw [map_erase]
    refine ⟨hc2.1, ?_⟩
    cases hv : covV (m : Int) l ((T.eraseIdx i).map Int.ofNat) with
    | false => rfl
    | true => exact absurd (hc2.2.1 hv) (hT.needs i hi)
  · rw [List.length_map] at hi
    rw [nums_get (by omega), nums_get hi]
    have := List.pairwise_iff_getElem.1 hT.rise (i - 1) i (by omega) hi (by omega)
    omega

/-! more tests -/
theorem has_more {ts more : List Int} {t : Nat} (h : hasL ts t = true) : hasL (ts ++ more) t = true := by
  unfold hasL at h ⊢
  rw [List.contains_iff_mem] at h ⊢
  exact List.mem_append_left _ h
theorem more_ok {n : Int} {l : List Bool} {ts more : List Int} (h1 : covE n l ts = 0) (h2 : covE n l (ts ++ more) = 0) (h : covV n l ts = true) : covV n l (ts ++ more) = true := by
  obtain ⟨m, hn, _⟩ := cond_ok (covE_err h1)
  rw [covV_of hn h1] at h
  rw [covV_of hn h2]
  exact covB_iff.2 (covP_more (covB_iff.1 h) fun t _ ht => has_more ht)
/-- the first k tests -/
def allN (k : Nat) : List Int := (List.range k).map Int.ofNat
theorem all_len (k : Nat) : (allN k).length = k := by unfold allN; simp
theorem all_step (k : Nat) : allN (k + 1) = allN k ++ [(k : Int)] := by unfold allN; rw [List.range_succ, List.map_append]; rfl
theorem all_ok {n : Int} {l : List Bool} {k : Nat} (hk : k = l.length ∨ k = 64) (hk2 : k ≤ l.length) (h : covE n l (allN k) = 0) : covV n l (allN k) = true := by
  have hc := covE_err h
  obtain ⟨m, rfl, h1, h6, hl⟩ := cond_ok hc
  have hp := pow_small h1 h6
  obtain rfl : k = 2 ^ m := by omega
  refine (covV_iff hc (T := List.range (2 ^ m)) (fun t ht => by simpa using ht)).2.2 (covers_all m (fOf l))

/-! one more than conditions -/
def manyM (n : Int) (l : List Bool) (k : Nat) : Nat := ((List.range k).filter fun i : Nat => matV n l (i : Int)).length
theorem many_step (n : Int) (l : List Bool) (k : Nat) : manyM n l (k + 1) = if matV n l (k : Int) = true then manyM n l k + 1 else manyM n l k := by
  unfold manyM
  rw [List.range_succ, List.filter_append, List.length_append, List.filter_cons, List.filter_nil]
  split <;> rfl
theorem many_le (n : Int) (l : List Bool) (k : Nat) : manyM n l k ≤ k := by
  unfold manyM
  refine Nat.le_trans (List.length_filter_le _ _) (by simp)
theorem mat_ok {m : Nat} {l : List Bool} (h : condE m l = 0) {i : Nat} (hi : i < m) : matE m l i = 0 := by
  unfold matE
  rw [if_pos h, if_pos (by omega)]
theorem mat_iff {m : Nat} {l : List Bool} (h : condE m l = 0) {i : Nat} (hi : i < m) : matV m l (i : Int) = true ↔ Matters m (fOf l) i := by
  obtain ⟨m', e, h1, h6, hl⟩ := cond_ok h
  obtain rfl : m' = m := by omega
  unfold matV parL
  rw [if_pos (mat_ok h hi), decide_eq_true_eq, Int.toNat_natCast, hl]
  exact matters_iff
def onceN (ts : List Int) : Nat → List Int
  | 0 => []
  | k + 1 => if (onceN ts k).contains (ts.getD k 0) = true then onceN ts k else onceN ts k ++ [ts.getD k 0]
theorem once_mem (ts : List Int) (x : Int) : ∀ k, k ≤ ts.length → (x ∈ onceN ts k ↔ x ∈ ts.take k)
  | 0, _ => by simp [onceN]
  | k + 1, h => by
    have ih := once_mem ts x k (by omega)
    have e : ts.getD k 0 = ts[k] := by simp [List.getD, show k < ts.length by omega]
    rw [List.take_succ_eq_append_getElem (by omega), List.mem_append, ← ih, ← e]
    show x ∈ (if (onceN ts k).contains (ts.getD k 0) = true then onceN ts k else onceN ts k ++ [ts.getD k 0]) ↔ _
    split
    · next hc =>
      rw [List.contains_iff_mem] at hc
      refine ⟨.inl, fun h => ?_⟩
      rcases h with h | h
      · exact h
      · rw [List.mem_singleton] at h; rw [h]; exact hc
    · rw [List.mem_append]
theorem once_le (ts : List Int) : ∀ k, (onceN ts k).length ≤ k
  | 0 => Nat.le_refl _
  | k + 1 => by
    have := once_le ts k
    show (if (onceN ts k).contains (ts.getD k 0) = true then onceN ts k else onceN ts k ++ [ts.getD k 0]).length ≤ k + 1
    split
    · omega
    · rw [List.length_append, List.length_singleton]; omega
/-- tests that cover are at least one more than the conditions that matter -/
theorem least_ok {m : Nat} {l : List Bool} {ts : List Int} (h : covE m l ts = 0) (hv : covV m l ts = true) (h0 : ¬ manyM m l m = 0) : manyM m l m < (onceN ts ts.length).length := by
  have hc := covE_err h
  obtain ⟨m', e, h1, h6, hl⟩ := cond_ok hc
  obtain rfl : m' = m := by omega
  rw [covV_of rfl h] at hv
  have hin := covE_in h
  have hon : ∀ x, x ∈ onceN ts ts.length ↔ x ∈ ts := fun x => by rw [once_mem ts x ts.length (Nat.le_refl _), List.take_length]
  have hT : ∀ t ∈ (onceN ts ts.length).map Int.toNat, t < 2 ^ m' := fun t ht => by
    obtain ⟨x, hx, rfl⟩ := List.mem_map.1 ht
    have := hin x ((hon x).1 hx)
    omega
  have hC := (covP_covers (F := fOf l) (H := hasL ts) (T := (onceN ts ts.length).map Int.toNat) (fun t _ => by
    unfold hasL
    rw [List.contains_iff_mem, List.mem_map]
    constructor
    · intro hm
      exact ⟨(t : Int), (hon _).2 hm, Int.toNat_natCast t⟩
    · rintro ⟨x, hx, rfl⟩
      have hx2 := (hon x).1 hx
      have := hin x hx2
      rwa [Int.toNat_of_nonneg this.1]) hT).1 (covB_iff.1 hv)
  have hmm : ∀ i ∈ (List.range m').filter (fun i : Nat => matV (m' : Int) l (i : Int)), i < m' ∧ Matters m' (fOf l) i := fun i hi => by
    rw [List.mem_filter, List.mem_range] at hi
    exact ⟨hi.1, (mat_iff hc hi.1).1 hi.2⟩
  have hnd : ((List.range m').filter (fun i : Nat => matV (m' : Int) l (i : Int))).Nodup := List.Nodup.sublist List.filter_sublist List.nodup_range
  have hne : (List.range m').filter (fun i : Nat => matV (m' : Int) l (i : Int)) ≠ [] := fun he => h0 (by unfold manyM; rw [he]; rfl)
  have := covers_least hC hnd hmm hne
  rw [List.length_map] at this
  unfold manyM
  omega
theorem none_ok {m : Nat} {l : List Bool} (h : condE m l = 0) (h0 : manyM m l m = 0) : tesV m l = [] := by
  have hT := (tests_ok m (fOf l)).none (fun i hi hm => by
    have hv := (mat_iff h hi).2 hm
    unfold manyM at h0
    have : i ∈ (List.range m).filter (fun i : Nat => matV (m : Int) l (i : Int)) := by
      rw [List.mem_filter, List.mem_range]
      exact ⟨hi, hv⟩
    rw [List.eq_nil_of_length_eq_zero h0] at this
    cases this)
  unfold tesV
  rw [if_pos h, Int.toNat_natCast, hT]
  rfl
theorem own_least {m : Nat} {l : List Bool} (h : condE m l = 0) (h0 : ¬ manyM m l m = 0) : manyM m l m < (tesV m l).length := by
  have hf := t_facts h
  have := least_ok hf.err hf.is h0
  have h2 := once_le (tesV m l) (tesV m l).length
  omega

/-! all answers turned -/
theorem pairT_turn {n : Nat} {F G A : Nat → Bool} (h : ∀ t, t < 2 ^ n → G t = !F t) {i t : Nat} (hi : i < n) (ht : t < 2 ^ n) : pairT G A i t = pairT F A i t := by
  unfold pairT
  rw [h t ht, h _ (or_small hi ht)]
  simp
theorem firstP_turns {n : Nat} {F G A : Nat → Bool} (h : ∀ t, t < 2 ^ n → G t = !F t) {i : Nat} (hi : i < n) : firstP (2 ^ n) G A i = firstP (2 ^ n) F A i := by
  rcases firstP_cases (2 ^ n) F A i with ⟨e, hb⟩ | ⟨t, ht, e, hp, hb⟩
  · rw [e, firstP_none fun u hu => by rw [pairT_turn h hi hu]; exact hb u hu]
  · rw [e, firstP_some ht (by rw [pairT_turn h hi ht]; exact hp) fun u hu => by rw [pairT_turn h hi (by omega)]; exact hb u hu]
theorem covB_turns {n : Nat} {F G H : Nat → Bool} (h : ∀ t, t < 2 ^ n → G t = !F t) : covB n G H = covB n F H := by
  have hl : ∀ i, i < n → lackB n G H i = lackB n F H i := fun i hi => by
    unfold lackB
    rw [firstP_turns h hi, firstP_turns h hi]
  cases hc : covB n F H with
  | true =>
    refine covB_full fun i hi => ?_
    rw [hl i hi]
    cases hk : lackB n F H i with
    | false => rfl
    | true => rw [covB_lack hi hk] at hc; cases hc
  | false =>
    cases hd : covB n G H with
    | false => rfl
    | true =>
      rw [covB_full (F := F) (H := H) fun i hi => ?_] at hc
      · cases hc
      · rw [← hl i hi]
        cases hk : lackB n G H i with
        | false => rfl
        | true => rw [covB_lack hi hk] at hd; cases hd
def notL (l : List Bool) : List Bool := l.map fun b => !b
theorem not_len (l : List Bool) : (notL l).length = l.length := by unfold notL; simp
theorem not_get {l : List Bool} {t : Nat} (h : t < l.length) : fOf (notL l) t = !fOf l t := by
  unfold fOf notL
  simp [List.getD, h]
theorem not_cond (n : Int) (l : List Bool) : condE n (notL l) = condE n l := by unfold condE; rw [not_len]
theorem not_mat (n i : Int) (l : List Bool) : matE n (notL l) i = matE n l i := by unfold matE; rw [not_cond]
theorem not_par (n i : Int) (l : List Bool) : parL n (notL l) i = parL n l i := by
  unfold parL
  rw [not_mat]
  by_cases h : matE n l i = 0
  · rw [if_pos h, if_pos h, not_len]
    have hc := matE_err h
    obtain ⟨m, rfl, h1, h6, hl⟩ := cond_ok hc
    have hi : 0 ≤ i ∧ i < m := by
      unfold matE at h
      rw [if_pos hc] at h
      by_cases hi : 0 ≤ i ∧ i < (m : Int)
      · exact hi
      · rw [if_neg hi] at h; cases h
    rw [hl]
    exact firstP_turns (fun t ht => not_get (by omega)) (by omega)
  · rw [if_neg h, if_neg h]
theorem not_pai (n i : Int) (l : List Bool) : paiE n (notL l) i = paiE n l i ∧ paiA n (notL l) i = paiA n l i ∧ paiB n (notL l) i = paiB n l i := by
  unfold paiE paiA paiB
  rw [not_par, not_mat]
  exact ⟨rfl, rfl, rfl⟩
theorem not_cov (n : Int) (l : List Bool) (ts : List Int) : covE n (notL l) ts = covE n l ts ∧ covV n (notL l) ts = covV n l ts := by
  have e : covE n (notL l) ts = covE n l ts := by unfold covE; rw [not_cond, not_len]
  refine ⟨e, ?_⟩
  by_cases h : covE n l ts = 0
  · obtain ⟨m, hn, h1, h6, hl⟩ := cond_ok (covE_err h)
    rw [covV_of hn h, covV_of hn (by rw [e]; exact h)]
    exact covB_turns fun t ht => not_get (by omega)
  · rw [covV_no h, covV_no (by rw [e]; exact h)]
theorem not_step (l : List Bool) (k : Nat) (h : k < l.length) : notL (l.take (k + 1)) = notL (l.take k) ++ [!l.getD k false] := by
  unfold notL
  rw [List.take_succ_eq_append_getElem h, List.map_append]
  simp [List.getD, h]

/-! the fact that the statements ask first -/
theorem pair_fact : paiE 2 [false, false, false, true] 0 = 0 ∧ paiA 2 [false, false, false, true] 0 = 2 ∧ paiB 2 [false, false, false, true] 0 = 3 := by decide
theorem tests_fact : condE 1 [false, true] = 0 ∧ tesV 1 [false, true] = [0, 1] := by decide
end Go.Proofs.YtdmoigompmeacaaDoor.Cnd
