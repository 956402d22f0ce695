/- Pairwise testing: the pairs of a row, the rows that the program chooses; the mathematics. No program. -/
import Derived.Test.YtbajkbkfinineaaDoorMissL
namespace Go.Proofs.YtbajkbkfinineaaDoor.Pair
open Nod
set_option linter.unusedVariables false

/-! the pairs of a row, open levels aside -/
def openB (r : List Int) (a b : Nat) : Bool := decide (¬ r.getD a 0 = -1) && decide (¬ r.getD b 0 = -1)
def prB (r : List Int) (a b : Nat) : List Quad := if openB r a b = true then [⟨a, (r.getD a 0).toNat, b, (r.getD b 0).toNat⟩] else []
def prA (r : List Int) (a : Nat) : List Quad := (List.range' (a + 1) (r.length - (a + 1))).flatMap fun b => prB r a b
def prs (r : List Int) : List Quad := (List.range r.length).flatMap fun a => prA r a
/-- those on the way -/
def qA (r : List Int) (a : Nat) : List Quad := (List.range a).flatMap fun a => prA r a
def qB (r : List Int) (a b : Nat) : List Quad := qA r a ++ (List.range' (a + 1) (b - (a + 1))).flatMap fun b => prB r a b
theorem qA_zero (r : List Int) : qA r 0 = [] := rfl
theorem qA_end (r : List Int) : qA r r.length = prs r := rfl
theorem qB_zero (r : List Int) (a : Nat) : qB r a (a + 1) = qA r a := by unfold qB; simp
theorem qB_end (r : List Int) (a : Nat) : qB r a r.length = qA r (a + 1) := by
  unfold qB qA
  rw [List.range_succ, List.flatMap_append, List.flatMap_singleton]
  rfl
theorem qB_step (r : List Int) {a b : Nat} (h : a + 1 ≤ b) : qB r a (b + 1) = qB r a b ++ prB r a b := by
  unfold qB
  rw [show b + 1 - (a + 1) = (b - (a + 1)) + 1 by omega, List.range'_concat, List.flatMap_append, List.flatMap_singleton, ← List.append_assoc]
  congr 2
  omega
theorem qA_pre (r : List Int) {a b : Nat} (h : a ≤ b) : qA r a <+: qA r b := by
  induction b with
  | zero => obtain rfl : a = 0 := by omega
            exact List.prefix_refl _
  | succ b ih =>
    by_cases e : a = b + 1
    · subst e; exact List.prefix_refl _
    · refine (ih (by omega)).trans ?_
      unfold qA
      rw [List.range_succ, List.flatMap_append]
      exact List.prefix_append _ _
theorem qB_pre' (r : List Int) {a b c : Nat} (hab : a + 1 ≤ b) (h : b ≤ c) : qB r a b <+: qB r a c := by
  induction c with
  | zero => omega
  | succ c ih =>
    by_cases e : b = c + 1
    · subst e; exact List.prefix_refl _
    · refine (ih (by omega)).trans ?_
      rw [qB_step r (by omega)]
      exact List.prefix_append _ _
theorem qB_pre (r : List Int) {a b : Nat} (ha : a < r.length) (hab : a + 1 ≤ b) (hb : b ≤ r.length) : qB r a b <+: prs r := by
  have h1 := qB_pre' r hab hb
  rw [qB_end] at h1
  exact h1.trans (qA_pre r ha)
theorem mem_prs {r : List Int} {q : Quad} : q ∈ prs r ↔ q.a < q.b ∧ q.b < r.length ∧ ¬ r.getD q.a 0 = -1 ∧ ¬ r.getD q.b 0 = -1 ∧ q.x = (r.getD q.a 0).toNat ∧ q.y = (r.getD q.b 0).toNat := by
  obtain ⟨a, x, b, y⟩ := q
  unfold prs prA prB openB
  simp only [List.mem_flatMap, List.mem_range, List.mem_range'_1, Bool.and_eq_true, decide_eq_true_eq]
  constructor
  · rintro ⟨a', h1, b', h2, h3⟩
    split at h3
    · rename_i ho
      simp only [List.mem_singleton, Quad.mk.injEq] at h3
      obtain ⟨rfl, rfl, rfl, rfl⟩ := h3
      exact ⟨by omega, by omega, ho.1, ho.2, rfl, rfl⟩
    · cases h3
  · rintro ⟨h1, h2, h3, h4, rfl, rfl⟩
    exact ⟨a, by omega, b, by omega, by rw [if_pos ⟨h3, h4⟩]; simp⟩
theorem prB_ab {r : List Int} {a b : Nat} {q : Quad} (h : q ∈ prB r a b) : q.a = a ∧ q.b = b := by
  unfold prB at h
  split at h
  · rw [List.mem_singleton] at h; subst h; exact ⟨rfl, rfl⟩
  · cases h
theorem prA_a {r : List Int} {a : Nat} {q : Quad} (h : q ∈ prA r a) : q.a = a := by
  unfold prA at h
  obtain ⟨b, _, hb⟩ := List.mem_flatMap.1 h
  exact (prB_ab hb).1
theorem prs_nodup (r : List Int) : (prs r).Nodup := by
  unfold prs
  unfold List.Nodup
  rw [List.pairwise_flatMap]
  refine ⟨fun a _ => ?_, ?_⟩
  · unfold prA
    rw [List.pairwise_flatMap]
    refine ⟨fun b _ => ?_, ?_⟩
    · unfold prB; split <;> simp
    · refine List.Pairwise.imp (R := fun x y => x ≠ y) ?_ (List.nodup_range' (step := 1))
      intro b1 b2 hne x hx y hy e
      subst e
      exact hne ((prB_ab hx).2.symm.trans (prB_ab hy).2)
  · refine List.Pairwise.imp (R := fun x y => x ≠ y) ?_ List.nodup_range
    intro b1 b2 hne x hx y hy e
    subst e
    exact hne ((prA_a hx).symm.trans (prA_a hy))
theorem count_le {l : List Quad} (h : l.Nodup) (q : Quad) : l.count q ≤ 1 := List.nodup_iff_count.1 h q
theorem count_prs (r : List Int) (q : Quad) : (prs r).count q ≤ 1 := count_le (prs_nodup r) q
theorem prs_len {r : List Int} (h : r.length ≤ 12) : (prs r).length ≤ 144 := by
  unfold prs
  have := flat_le (fun a => prA r a) 12 (List.range r.length) (fun a _ => by
    unfold prA
    have := flat_le (fun b => prB r a b) 1 (List.range' (a + 1) (r.length - (a + 1))) (fun b _ => by unfold prB; split <;> simp)
    rw [List.length_range'] at this
    omega)
  rw [List.length_range] at this
  omega

/-! the counts -/
def addF (f : Quad → Int) (l : List Quad) : Quad → Int := fun q => f q + (l.count q : Int)
def subF (f : Quad → Int) (l : List Quad) : Quad → Int := fun q => f q - (l.count q : Int)
theorem addF_step (f : Quad → Int) (l : List Quad) (q : Quad) : addF f (l ++ [q]) = fun p => if p = q then addF f l q + 1 else addF f l p := by
  funext p
  unfold addF
  rw [List.count_append, List.count_singleton]
  by_cases h : p = q
  · subst h
    simp
    omega
  · rw [if_neg h, beq_eq_false_iff_ne.2 (fun e => h e.symm)]
    simp
theorem subF_step (f : Quad → Int) (l : List Quad) (q : Quad) : subF f (l ++ [q]) = fun p => if p = q then subF f l q - 1 else subF f l p := by
  funext p
  unfold subF
  rw [List.count_append, List.count_singleton]
  by_cases h : p = q
  · subst h
    simp
    omega
  · rw [if_neg h, beq_eq_false_iff_ne.2 (fun e => h e.symm)]
    simp
theorem addF_nil (f : Quad → Int) : addF f [] = f := by funext q; simp [addF]
theorem subF_nil (f : Quad → Int) : subF f [] = f := by funext q; simp [subF]

/-! the program's row -/
def freshN (f : Quad → Int) (l : List Quad) : Nat := l.countP fun q => decide (f q = 0)
def bestN (f : Quad → Int) (r : List Int) (a : Nat) : Nat → Nat × Int
  | 0 => (0, -1)
  | n + 1 => if (bestN f r a n).2 < (freshN f (prs (r.set a (n : Int))) : Int) then (n, (freshN f (prs (r.set a (n : Int))) : Int)) else bestN f r a n
theorem best_lt (f : Quad → Int) (r : List Int) (a : Nat) : ∀ n, (bestN f r a n).1 < n ∨ (n = 0 ∧ (bestN f r a n).1 = 0)
  | 0 => .inr ⟨rfl, rfl⟩
  | n + 1 => by
    unfold bestN
    split
    · exact .inl (Nat.lt_succ_self n)
    · rcases best_lt f r a n with h | ⟨h, h'⟩
      · exact .inl (by omega)
      · exact .inl (by omega)
def row0 (levels : List Int) (p : Quad) : List Int := ((List.replicate levels.length (-1)).set p.a (p.x : Int)).set p.b (p.y : Int)
def rowN (levels : List Int) (f : Quad → Int) (p : Quad) : Nat → List Int
  | 0 => row0 levels p
  | i + 1 => if (rowN levels f p i).getD i 0 = -1 then (rowN levels f p i).set i ((bestN f (rowN levels f p i) i (lv levels i)).1 : Int) else rowN levels f p i
def rowW (levels : List Int) (f : Quad → Int) (p : Quad) : List Int := rowN levels f p levels.length
theorem rowN_len (levels : List Int) (f : Quad → Int) (p : Quad) : ∀ i, (rowN levels f p i).length = levels.length
  | 0 => by simp [rowN, row0]
  | i + 1 => by
    unfold rowN
    split
    · rw [List.length_set]; exact rowN_len levels f p i
    · exact rowN_len levels f p i
theorem getD_set (l : List Int) (i j : Nat) (v : Int) (h : i < l.length) : (l.set i v).getD j 0 = if j = i then v else l.getD j 0 := by
  rw [List.getD_eq_getElem?_getD, List.getD_eq_getElem?_getD, List.getElem?_set]
  by_cases e : i = j
  · subst e; simp [h]
  · rw [if_neg e, if_neg (fun e' => e e'.symm)]
/-- a row, whole -/
def Full (levels r : List Int) : Prop := r.length = levels.length ∧ ∀ i, i < levels.length → 0 ≤ r.getD i 0 ∧ r.getD i 0 < levels.getD i 0
/-- a row on its way: each level is right, or open -/
def Half (levels r : List Int) (n : Nat) : Prop := r.length = levels.length ∧ ∀ i, i < levels.length → (r.getD i 0 = -1 ∧ n ≤ i) ∨ (0 ≤ r.getD i 0 ∧ r.getD i 0 < levels.getD i 0)
theorem getD_rep (n j : Nat) (h : j < n) : (List.replicate n (-1 : Int)).getD j 0 = -1 := by
  rw [List.getD_eq_getElem?_getD, List.getElem?_replicate, if_pos h]; rfl
theorem row0_half {levels : List Int} {p : Quad} (hp : p ∈ quads levels) : Half levels (row0 levels p) 0 := by
  obtain ⟨h1, h2, h3, h4⟩ := mem_quads.1 hp
  refine ⟨by simp [row0], fun i hi => ?_⟩
  unfold row0
  rw [getD_set _ _ _ _ (by simp; exact h2), getD_set _ _ _ _ (by simp; omega), getD_rep _ _ hi]
  by_cases e : i = p.b
  · subst e
    rw [if_pos rfl]
    unfold lv at h4
    exact .inr ⟨by omega, by omega⟩
  · rw [if_neg e]
    by_cases e2 : i = p.a
    · subst e2
      rw [if_pos rfl]
      unfold lv at h3
      exact .inr ⟨by omega, by omega⟩
    · rw [if_neg e2]
      exact .inl ⟨rfl, Nat.zero_le _⟩
theorem rowN_half {levels : List Int} (hl : ∀ x ∈ levels, 1 ≤ x ∧ x ≤ 5) (f : Quad → Int) {p : Quad} (hp : p ∈ quads levels) : ∀ n, n ≤ levels.length → Half levels (rowN levels f p n) n
  | 0, _ => row0_half hp
  | n + 1, hn => by
    obtain ⟨e, h⟩ := rowN_half hl f hp n (by omega)
    have hb := best_lt f (rowN levels f p n) n (lv levels n)
    have hs := lv_small hl (show n < levels.length by omega)
    unfold rowN
    split
    · rename_i ho
      refine ⟨by rw [List.length_set]; exact e, fun i hi => ?_⟩
      rw [getD_set _ _ _ _ (by rw [e]; omega)]
      by_cases e2 : i = n
      · subst e2
        rw [if_pos rfl, ← hs.2.2]
        exact .inr ⟨by omega, by omega⟩
      · rw [if_neg e2]
        rcases h i hi with ⟨h1, h2⟩ | h1
        · exact .inl ⟨h1, by omega⟩
        · exact .inr h1
    · rename_i ho
      refine ⟨e, fun i hi => ?_⟩
      rcases h i hi with ⟨h1, h2⟩ | h1
      · by_cases e2 : i = n
        · subst e2; exact absurd h1 ho
        · exact .inl ⟨h1, by omega⟩
      · exact .inr h1
theorem rowW_full {levels : List Int} (hl : ∀ x ∈ levels, 1 ≤ x ∧ x ≤ 5) (f : Quad → Int) {p : Quad} (hp : p ∈ quads levels) : Full levels (rowW levels f p) := by
  obtain ⟨e, h⟩ := rowN_half hl f hp levels.length (Nat.le_refl _)
  refine ⟨e, fun i hi => ?_⟩
  rcases h i hi with ⟨_, h2⟩ | h1
  · omega
  · exact h1
/-- what is chosen stays -/
theorem rowN_keep {levels : List Int} (f : Quad → Int) (p : Quad) {j : Nat} {v : Int} (hv : ¬ v = -1) (h : (row0 levels p).getD j 0 = v) : ∀ n, n ≤ levels.length → (rowN levels f p n).getD j 0 = v
  | 0, _ => h
  | n + 1, hn => by
    have ih := rowN_keep f p hv h n (by omega)
    unfold rowN
    split
    · rename_i ho
      rw [getD_set _ _ _ _ (by rw [rowN_len]; omega)]
      by_cases e : j = n
      · subst e; rw [ih] at ho; exact absurd ho hv
      · rw [if_neg e]; exact ih
    · exact ih
theorem rowW_has {levels : List Int} (f : Quad → Int) {p : Quad} (hp : p ∈ quads levels) : metQ p (rowW levels f p) = true := by
  obtain ⟨h1, h2, h3, h4⟩ := mem_quads.1 hp
  have g1 := rowN_keep (levels := levels) f p (j := p.a) (v := (p.x : Int)) (by omega) (by
    unfold row0
    rw [getD_set _ _ _ _ (by simp; exact h2), if_neg (by omega), getD_set _ _ _ _ (by simp; omega), if_pos rfl]) levels.length (Nat.le_refl _)
  have g2 := rowN_keep (levels := levels) f p (j := p.b) (v := (p.y : Int)) (by omega) (by
    unfold row0
    rw [getD_set _ _ _ _ (by simp; exact h2), if_pos rfl]) levels.length (Nat.le_refl _)
  unfold metQ rowW
  rw [g1, g2]
  simp
/-- the pairs of a whole row -/
theorem full_prs {levels r : List Int} (h : Full levels r) {q : Quad} : q ∈ prs r ↔ q ∈ quads levels ∧ metQ q r = true := by
  rw [mem_prs, mem_quads]
  unfold metQ lv
  rw [Bool.and_eq_true, beq_iff_eq, beq_iff_eq, h.1]
  constructor
  · rintro ⟨h1, h2, h3, h4, h5, h6⟩
    have ga := h.2 q.a (by omega)
    have gb := h.2 q.b (by omega)
    exact ⟨⟨h1, h2, by omega, by omega⟩, by omega, by omega⟩
  · rintro ⟨⟨h1, h2, h3, h4⟩, h5, h6⟩
    have ga := h.2 q.a (by omega)
    have gb := h.2 q.b (by omega)
    exact ⟨h1, h2, by omega, by omega, by omega, by omega⟩

/-! all rows -/
def totC (rows : List (List Int)) (q : Quad) : Nat := (rows.map fun r => (prs r).count q).sum
theorem totC_append (rows : List (List Int)) (r : List Int) (q : Quad) : totC (rows ++ [r]) q = totC rows q + (prs r).count q := by
  unfold totC; simp
theorem totC_cons (rows : List (List Int)) (r : List Int) (q : Quad) : totC (r :: rows) q = (prs r).count q + totC rows q := by
  unfold totC; simp
theorem totC_app (a b : List (List Int)) (q : Quad) : totC (a ++ b) q = totC a q + totC b q := by
  unfold totC; simp
theorem totC_pos {rows : List (List Int)} {q : Quad} (h : 0 < totC rows q) : ∃ r ∈ rows, q ∈ prs r := by
  induction rows with
  | nil => simp [totC] at h
  | cons r rows ih =>
    rw [totC_cons] at h
    by_cases hr : 0 < (prs r).count q
    · exact ⟨r, by simp, List.count_pos_iff.1 hr⟩
    · obtain ⟨r', h1, h2⟩ := ih (by omega)
      exact ⟨r', by simp [h1], h2⟩
theorem totC_zero {rows : List (List Int)} {q : Quad} (h : totC rows q = 0) : ∀ r ∈ rows, q ∉ prs r := by
  induction rows with
  | nil => simp
  | cons r rows ih =>
    rw [totC_cons] at h
    intro r' hr' hq
    rcases List.mem_cons.1 hr' with rfl | hr'
    · have := List.count_pos_iff.2 hq
      omega
    · exact ih (by omega) r' hr' hq
def stepR (levels : List Int) (s : List (List Int) × (Quad → Int)) (p : Quad) : List (List Int) × (Quad → Int) :=
  if s.2 p = 0 then (s.1 ++ [rowW levels s.2 p], addF s.2 (prs (rowW levels s.2 p))) else s
def madeN (levels : List Int) (n : Nat) : List (List Int) × (Quad → Int) := ((quads levels).take n).foldl (stepR levels) ([], fun _ => 0)
theorem made_zero (levels : List Int) : madeN levels 0 = ([], fun _ => 0) := rfl
theorem made_step (levels : List Int) (n : Nat) (h : n < (quads levels).length) : madeN levels (n + 1) = stepR levels (madeN levels n) (quads levels)[n] := by
  unfold madeN
  rw [List.take_succ_eq_append_getElem h, List.foldl_append]
  rfl
structure Made (levels : List Int) (n : Nat) : Prop where
  full : ∀ r ∈ (madeN levels n).1, Full levels r
  tot : ∀ q, (madeN levels n).2 q = (totC (madeN levels n).1 q : Int)
  has : ∀ j (h : j < (quads levels).length), j < n → 0 < totC (madeN levels n).1 (quads levels)[j]
  len : (madeN levels n).1.length ≤ n
theorem made_ok {levels : List Int} (hl : ∀ x ∈ levels, 1 ≤ x ∧ x ≤ 5) : ∀ n, n ≤ (quads levels).length → Made levels n
  | 0, _ => ⟨by simp [made_zero], fun q => by simp [made_zero, totC], fun j h hj => by omega, by simp [made_zero]⟩
  | n + 1, hn => by
    obtain ⟨h1, h2, h3, h4⟩ := made_ok hl n (by omega)
    have hq : (quads levels)[n] ∈ quads levels := List.getElem_mem (by omega)
    rw [show Made levels (n + 1) ↔ Made levels (n + 1) from Iff.rfl]
    have e := made_step levels n (by omega)
    unfold stepR at e
    by_cases h0 : (madeN levels n).2 (quads levels)[n] = 0
    · rw [if_pos h0] at e
      have hF := rowW_full hl (madeN levels n).2 hq
      refine ⟨?_, ?_, ?_, ?_⟩
      · rw [e]
        intro r hr
        rcases List.mem_append.1 hr with hr | hr
        · exact h1 r hr
        · rw [List.mem_singleton] at hr; subst hr; exact hF
      · rw [e]
        intro q
        simp only [addF, totC_append, h2 q]
        omega
      · rw [e]
        intro j hj hjn
        simp only [totC_append]
        by_cases ej : j = n
        · subst ej
          have := List.count_pos_iff.2 ((full_prs hF).2 ⟨hq, rowW_has (madeN levels j).2 hq⟩)
          omega
        · have := h3 j hj (by omega)
          omega
      · rw [e]
        simp
        omega
    · rw [if_neg h0] at e
      refine ⟨by rw [e]; exact h1, by rw [e]; exact h2, ?_, by rw [e]; omega⟩
      rw [e]
      intro j hj hjn
      by_cases ej : j = n
      · subst ej
        have := h2 (quads levels)[j]
        omega
      · exact h3 j hj (by omega)
def stepD (s : List (List Int) × (Quad → Int)) (r : List Int) : List (List Int) × (Quad → Int) :=
  if (prs r).all (fun q => decide (¬ s.2 q = 1)) = true then (s.1, subF s.2 (prs r)) else (s.1 ++ [r], s.2)
def needN (rows : List (List Int)) (f : Quad → Int) (n : Nat) : List (List Int) × (Quad → Int) := (rows.take n).foldl stepD ([], f)
theorem need_zero (rows : List (List Int)) (f : Quad → Int) : needN rows f 0 = ([], f) := rfl
theorem need_step (rows : List (List Int)) (f : Quad → Int) (n : Nat) (h : n < rows.length) : needN rows f (n + 1) = stepD (needN rows f n) rows[n] := by
  unfold needN
  rw [List.take_succ_eq_append_getElem h, List.foldl_append]
  rfl
structure Need (levels : List Int) (rows : List (List Int)) (f : Quad → Int) (n : Nat) : Prop where
  sub : ∀ r ∈ (needN rows f n).1, r ∈ rows
  len : (needN rows f n).1.length ≤ n
  tot : ∀ q, (needN rows f n).2 q = (totC ((needN rows f n).1 ++ rows.drop n) q : Int)
  has : ∀ q ∈ quads levels, 0 < totC ((needN rows f n).1 ++ rows.drop n) q
  own : ∀ r ∈ (needN rows f n).1, ∃ q ∈ prs r, totC ((needN rows f n).1 ++ rows.drop n) q = 1
theorem need_ok {levels : List Int} {rows : List (List Int)} {f : Quad → Int} (hF : ∀ r ∈ rows, Full levels r) (ht : ∀ q, f q = (totC rows q : Int)) (hh : ∀ q ∈ quads levels, 0 < totC rows q) : ∀ n, n ≤ rows.length → Need levels rows f n
  | 0, _ => ⟨by simp [need_zero], by simp [need_zero], by simpa [need_zero] using ht, by simpa [need_zero] using hh, by simp [need_zero]⟩
  | n + 1, hn => by
    obtain ⟨h1, h2, h3, h4, h5⟩ := need_ok hF ht hh n (by omega)
    have hr : rows[n] ∈ rows := List.getElem_mem (by omega)
    have hd : rows.drop n = rows[n] :: rows.drop (n + 1) := List.drop_eq_getElem_cons (by omega)
    have e := need_step rows f n (by omega)
    unfold stepD at e
    by_cases hs : (prs rows[n]).all (fun q => decide (¬ (needN rows f n).2 q = 1)) = true
    · rw [if_pos hs] at e
      have hsplit : ∀ q, totC ((needN rows f n).1 ++ rows.drop n) q = totC ((needN rows f n).1 ++ rows.drop (n + 1)) q + (prs rows[n]).count q := fun q => by
        rw [hd, totC_app, totC_app, totC_cons]; omega
      have hpos : ∀ q ∈ quads levels, 0 < totC ((needN rows f n).1 ++ rows.drop (n + 1)) q := fun q hq => by
        have g1 := h4 q hq
        have g2 := hsplit q
        have g3 := count_prs rows[n] q
        by_cases hc : q ∈ prs rows[n]
        · have := of_decide_eq_true (List.all_eq_true.1 hs q hc)
          have := h3 q
          omega
        · have : (prs rows[n]).count q = 0 := List.count_eq_zero.2 hc
          omega
      refine ⟨by rw [e]; exact h1, by rw [e]; simp only; omega, ?_, by rw [e]; exact hpos, ?_⟩
      · rw [e]
        intro q
        simp only [subF]
        have := h3 q
        have := hsplit q
        omega
      · rw [e]
        intro r hr'
        obtain ⟨q, hq, hq1⟩ := h5 r hr'
        refine ⟨q, hq, ?_⟩
        have := hpos q ((full_prs (hF r (h1 r hr'))).1 hq).1
        have := hsplit q
        simp only
        omega
    · rw [if_neg hs] at e
      have he : ∀ q, totC (((needN rows f n).1 ++ [rows[n]]) ++ rows.drop (n + 1)) q = totC ((needN rows f n).1 ++ rows.drop n) q := fun q => by
        rw [hd, List.append_assoc]; rfl
      refine ⟨?_, by rw [e]; simp; omega, ?_, ?_, ?_⟩
      · rw [e]
        intro r hr'
        rcases List.mem_append.1 hr' with hr' | hr'
        · exact h1 r hr'
        · rw [List.mem_singleton] at hr'; subst hr'; exact hr
      · rw [e]; intro q; simp only [he]; exact h3 q
      · rw [e]; intro q hq; simp only [he]; exact h4 q hq
      · rw [e]
        intro r hr'
        simp only [he]
        rcases List.mem_append.1 hr' with hr' | hr'
        · exact h5 r hr'
        · rw [List.mem_singleton] at hr'
          subst hr'
          rw [Bool.not_eq_true, List.all_eq_false] at hs
          obtain ⟨q, hq, hq1⟩ := hs
          refine ⟨q, hq, ?_⟩
          have := h3 q
          have hq2 : (needN rows f n).2 q = 1 := by
            apply Classical.byContradiction
            intro hc
            exact hq1 (decide_eq_true hc)
          omega
def rowsG (levels : List Int) : List (List Int) := (needN (madeN levels (quads levels).length).1 (madeN levels (quads levels).length).2 (madeN levels (quads levels).length).1.length).1
theorem rowsG_ok {levels : List Int} (hl : ∀ x ∈ levels, 1 ≤ x ∧ x ≤ 5) : RowsOk levels (rowsG levels) := by
  have hm := made_ok hl (quads levels).length (Nat.le_refl _)
  have hhas : ∀ q ∈ quads levels, 0 < totC (madeN levels (quads levels).length).1 q := fun q hq => by
    obtain ⟨j, hj, rfl⟩ := List.mem_iff_getElem.1 hq
    exact hm.has j hj hj
  have hd := need_ok hm.full hm.tot hhas (madeN levels (quads levels).length).1.length (Nat.le_refl _)
  have hd4 := hd.has
  have hd5 := hd.own
  rw [List.drop_length, List.append_nil] at hd4 hd5
  have hfull : ∀ r ∈ rowsG levels, Full levels r := fun r hr => hm.full r (hd.sub r hr)
  refine ⟨hfull, ?_, ?_⟩
  · rw [List.eq_nil_iff_forall_not_mem]
    intro q hq
    obtain ⟨hq1, hq2⟩ := mem_miss.1 hq
    obtain ⟨r, hr, hqr⟩ := totC_pos (hd4 q hq1)
    have := ((full_prs (hfull r hr)).1 hqr).2
    unfold hasQ at hq2
    rw [List.any_eq_false] at hq2
    exact hq2 r hr this
  · intro i hi hnil
    obtain ⟨q, hq, hq1⟩ := hd5 (rowsG levels)[i] (List.getElem_mem hi)
    change totC (rowsG levels) q = 1 at hq1
    have hql := ((full_prs (hfull _ (List.getElem_mem hi))).1 hq).1
    have : q ∈ missL levels ((rowsG levels).eraseIdx i) := by
      refine mem_miss.2 ⟨hql, ?_⟩
      unfold hasQ
      rw [List.any_eq_false]
      intro r hr hm
      have hrm : r ∈ rowsG levels := List.mem_of_mem_eraseIdx hr
      have hqr : q ∈ prs r := (full_prs (hfull r hrm)).2 ⟨hql, hm⟩
      have hsum : totC (rowsG levels) q = totC ((rowsG levels).eraseIdx i) q + (prs (rowsG levels)[i]).count q := by
        rw [List.eraseIdx_eq_take_drop_succ, totC_app]
        have e : rowsG levels = (rowsG levels).take i ++ (rowsG levels)[i] :: (rowsG levels).drop (i + 1) := by
          rw [← List.drop_eq_getElem_cons hi, List.take_append_drop]
        have e2 := congrArg (fun l => totC l q) e
        simp only [totC_app, totC_cons] at e2
        omega
      have := List.count_pos_iff.2 hq
      have h0 : totC ((rowsG levels).eraseIdx i) q = 0 := by omega
      exact totC_zero h0 r hr hqr
    rw [hnil] at this
    cases this
end Go.Proofs.YtbajkbkfinineaaDoor.Pair
