/- TopFails, part 20 of the proof: What the statements on candidates say, plainly. No program. · A walk to a tape none of whose candidates fails: it ends. The mathematics. No program. -/
import Derived.Test.YtabkihellcflhaaGreatDoorTopFailsZ19
/- What the statements on candidates say, plainly. No program. -/
namespace Go.Proofs.YtabkihellcflhaaGreatDoor.Gens
open Go.RowKit Lists Ints Vals
set_option linter.unusedVariables false

/-! one number -/
theorem mend_one {a b : Int} {l : List Int} (h0 : genV (.node 2 a b []) = 0) : mendL (.node 2 a b []) l = [mendX l (b - a)] := by
  refine mendL_of (v := .node false (a + mendX l (b - a)) []) (r := l.tail) h0 ?_
  simp [play, mendC]
theorem one_bounds {a b : Int} (h0 : genV (.node 2 a b []) = 0) : 0 ≤ b - a ∧ b - a ≤ 1000 := (right_max (gen_right h0).1).1 rfl
theorem one_right {a b x : Int} (h : errI (repV (.node 2 a b []) [x]) = 0) : genV (.node 2 a b []) = 0 ∧ 0 ≤ x ∧ x ≤ b - a := by
  obtain ⟨h0, h1⟩ := rep_own h
  rw [mend_one h0] at h1
  have hb := one_bounds h0
  simp only [List.cons.injEq, and_true, mendX] at h1
  exact ⟨h0, by omega, by omega⟩
theorem lessL_one1 (x y : Int) : lessL [x] [y] = decide (x < y) := by
  have h1 : lessL [x] [y] = decide (cmpL [x] [y] < 0) := by unfold lessL; rw [if_pos (show [x].length = [y].length from rfl)]
  have h2 : cmpL [x] [y] = if x < y then -1 else if y < x then 1 else 0 := rfl
  rw [h1, decide_eq_decide, h2]
  by_cases h : x < y
  · rw [if_pos h]; simp [h]
  · rw [if_neg h]
    by_cases h3 : y < x
    · rw [if_pos h3]; simp [h]
    · rw [if_neg h3]; simp [h]
theorem kept_one {a b x y : Int} {l : List Int} (h0 : genV (.node 2 a b []) = 0) (hy : mendX l (b - a) = y) : keptL (.node 2 a b []) [x] l = if y < x then [[y]] else [] := by
  unfold keptL
  rw [mend_one h0, hy, lessL_one1]
  simp
theorem rose_one {a b x : Int} (h : errI (repV (.node 2 a b []) [x]) = 0) : roseL (.node 2 a b []) [x] = if x = 0 then [] else [[0], [x / 2], [x - 1], [0]] := by
  obtain ⟨h0, hx0, hx1⟩ := one_right h
  show lessTo _ _ 1 = _
  rw [lessTo_succ, lessTo_zero, List.nil_append]
  by_cases hx : x = 0
  · subst hx
    rw [lessAt_one _ _ _ (by simp), kept_one (y := 0) h0 (by simp [lackL, mendX]; omega)]
    simp
  · rw [lessAt_four _ _ _ (by simp; omega), if_neg hx]
    rw [kept_one (y := 0) h0 (by simp [mendX]; omega), kept_one (y := x / 2) h0 (by simp [mendX]; omega), kept_one (y := x - 1) h0 (by simp [mendX]; omega), kept_one (y := 0) h0 (by simp [lackL, mendX]; omega)]
    rw [if_pos (by omega), if_pos (by omega), if_pos (by omega)]
    rfl

/-! noughts -/
theorem mend_zeros {t : Gn} (h0 : genV t = 0) {l : List Int} (hl : ∀ x ∈ l, x = 0) : mendL t l = mendL t [] := by
  obtain ⟨v1, r1, h1, _⟩ := mend_run (t := t) l h0
  obtain ⟨v2, r2, h2, _⟩ := mend_run (t := t) [] h0
  have hr := (gen_right h0).1
  have hz := small30 h0
  have z1 : ∀ x ∈ mendL t l, x = 0 := (play_inv (P := fun s => ∀ x ∈ s, x = 0) (Q := fun x => x = 0) mend_bounded (fun s m x s' h0 _ hs hc => by
    simp only [mendC, Except.ok.injEq, Prod.mk.injEq] at hc
    obtain ⟨rfl, rfl⟩ := hc
    refine ⟨?_, fun y hy => hs y (List.mem_of_mem_tail hy)⟩
    cases s with
    | nil => simp only [mendX]; omega
    | cons y s => have := hs y (by simp); simp only [mendX]; omega) hr hz h1 hl).1
  have z2 := mend_noughts hr hz h2
  refine mend_alike hr h1 h2 fun i hi hj => ?_
  simp only [List.getD, List.getElem?_eq_getElem hi, List.getElem?_eq_getElem hj, Option.getD_some]
  rw [z1 _ (List.getElem_mem hi), z2 _ (List.getElem_mem hj)]
theorem rose_noughts {t : Gn} (h0 : genV t = 0) : roseL t (mendL t []) = [] := by
  obtain ⟨v2, r2, h2, _⟩ := mend_run (t := t) [] h0
  have z := mend_noughts (gen_right h0).1 (small30 h0) h2
  have all : ∀ k, k ≤ (mendL t []).length → lessTo t (mendL t []) k = [] := by
    intro k
    induction k with
    | zero => intro _; rfl
    | succ k ih =>
      intro hk
      rw [lessTo_succ, ih (by omega), List.nil_append]
      have hg : (mendL t []).getD k 0 = 0 := by
        simp only [List.getD, List.getElem?_eq_getElem (show k < (mendL t []).length by omega), Option.getD_some]
        exact z _ (List.getElem_mem _)
      rw [lessAt_one _ _ _ (by rw [hg]; omega)]
      unfold keptL
      rw [mend_zeros h0 (l := lackL (mendL t []) k) (fun x hx => z x ?_), lessL_irrefl]
      · rfl
      · unfold lackL at hx
        rcases List.mem_append.1 hx with h | h
        · exact List.mem_of_mem_take h
        · exact List.mem_of_mem_drop h
  exact all _ (Nat.le_refl _)
/-- what is mended can be played -/
theorem rep_mend0 {t : Gn} (h0 : genV t = 0) (l : List Int) : errI (repV t (mendL t l)) = 0 := by
  obtain ⟨v, h⟩ := rep_mend h0 l
  rw [h]; rfl
theorem roseE_mend {t : Gn} (h0 : genV t = 0) (l : List Int) : roseE t (mendL t l) = 0 := rep_mend0 h0 l
theorem mend_len {t : Gn} (h0 : genV t = 0) (l : List Int) : (mendL t l).length ≤ 1399680 := by
  obtain ⟨v, r, _, h⟩ := mend_run (t := t) l h0
  exact h
end Go.Proofs.YtabkihellcflhaaGreatDoor.Gens

/- A walk to a tape none of whose candidates fails: it ends. The mathematics. No program. -/
namespace Go.Proofs.YtabkihellcflhaaGreatDoor.Gens
open Go.RowKit Lists Ints Vals
set_option linter.unusedVariables false

/-! what is mended is nowhere more than what it was made of -/
def Le (y x : List Int) : Prop := ∀ k, k < y.length → 0 ≤ y.getD k 0 ∧ y.getD k 0 ≤ x.getD k 0
def totL (l : List Int) : Nat := (l.map Int.toNat).sum
theorem le_nil (x : List Int) : Le [] x := fun k h => by simp at h
theorem getD_pos {s : List Int} (hs : ∀ x ∈ s, 0 ≤ x) (k : Nat) : 0 ≤ s.getD k 0 := by
  by_cases h : k < s.length
  · simp only [List.getD, List.getElem?_eq_getElem h, Option.getD_some]; exact hs _ (List.getElem_mem h)
  · simp [List.getD, List.getElem?_eq_none (Nat.le_of_not_lt h)]
theorem mendX_le {s : List Int} (hs : ∀ x ∈ s, 0 ≤ x) {m : Int} (hm : 0 ≤ m) : 0 ≤ mendX s m ∧ mendX s m ≤ s.getD 0 0 := by
  cases s with
  | nil => simp [mendX]; omega
  | cons a s => have := hs a (by simp); simp [mendX]; omega
theorem le_cons {s : List Int} (hs : ∀ x ∈ s, 0 ≤ x) {m : Int} (hm : 0 ≤ m) {c : List Int} (h : Le c s.tail) : Le (mendX s m :: c) s := by
  intro k hk
  cases k with
  | zero => simpa using mendX_le hs hm
  | succ k =>
    have := h k (by simpa using hk)
    cases s with
    | nil => simpa using this
    | cons a s => simpa using this
theorem le_app {s c c2 : List Int} (h : Le c s) (h2 : Le c2 (s.drop c.length)) : Le (c ++ c2) s := by
  intro k hk
  by_cases hc : k < c.length
  · have := h k hc
    simpa [List.getD, List.getElem?_append_left hc] using this
  · have h3 := h2 (k - c.length) (by simp at hk; omega)
    simp only [List.getD, List.getElem?_append_right (Nat.le_of_not_lt hc), List.getElem?_drop] at h3 ⊢
    rw [show c.length + (k - c.length) = k by omega] at h3
    exact h3
theorem mend_le {g : Gn} (hg : Right g) {s c r : List Int} {v : Tr} (h : play mendC g s = .ok (c, v, r)) (hs : ∀ x ∈ s, 0 ≤ x) : Le c s ∧ r = s.drop c.length := by
  refine play_ind (M := fun g s c v s' => (∀ x ∈ s, 0 ≤ x) → Le c s ∧ s' = s.drop c.length) (ML := fun l s c vs s' => (∀ x ∈ s, 0 ≤ x) → Le c s ∧ s' = s.drop c.length) mend_bounded ⟨?_, ?_, ?_, ?_, ?_, ?_, ?_⟩ g hg s c v r h hs
  · intro a b subs s _ _
    exact ⟨le_nil _, rfl⟩
  · intro a b subs s x s1 hr _ _ h1 hs
    simp only [mendC, Except.ok.injEq, Prod.mk.injEq] at h1
    obtain ⟨rfl, rfl⟩ := h1
    exact ⟨le_cons hs ((right_max hr).1 rfl).1 (le_nil _), by cases s <;> rfl⟩
  · intro a b subs s x s1 c v s2 hlt hr _ h1 ih hs
    have hm := (right_max hr).2.1 rfl
    simp only [mendC, Except.ok.injEq, Prod.mk.injEq] at h1
    obtain ⟨rfl, rfl⟩ := h1
    obtain ⟨i1, i2⟩ := ih (fun y hy => hs y (List.mem_of_mem_tail hy))
    exact ⟨le_cons hs hm i1, by rw [i2]; cases s <;> simp⟩
  · intro a b subs s c vs s1 hr ih hs
    exact ih hs
  · intro a b g s x s1 c vs s2 hr h0 hx ha h1 ih hs
    have hm := ((right_max hr).2.2.1 rfl).1
    simp only [mendC, Except.ok.injEq, Prod.mk.injEq] at h1
    obtain ⟨rfl, rfl⟩ := h1
    obtain ⟨i1, i2⟩ := ih (fun y hy => hs y (List.mem_of_mem_tail hy))
    exact ⟨le_cons hs hm i1, by rw [i2]; cases s <;> simp⟩
  · intro s _
    exact ⟨le_nil _, rfl⟩
  · intro g r s c v s1 c2 vs s2 ih1 ih2 hs
    obtain ⟨q1, rfl⟩ := ih1 hs
    obtain ⟨r1, rfl⟩ := ih2 (fun x hx => hs x (List.mem_of_mem_drop hx))
    exact ⟨le_app q1 r1, by rw [List.length_append, List.drop_drop]⟩
theorem tot_cons (a : Int) (l : List Int) : totL (a :: l) = a.toNat + totL l := by simp [totL]
theorem le_tail {a : Int} {y x : List Int} (h : Le (a :: y) x) : 0 ≤ a ∧ a ≤ x.getD 0 0 ∧ Le y x.tail := by
  refine ⟨by simpa using (h 0 (by simp)).1, by simpa using (h 0 (by simp)).2, fun k hk => ?_⟩
  have := h (k + 1) (by simpa using hk)
  cases x with
  | nil => simpa using this
  | cons b x => simpa using this
theorem tot_le : ∀ (y x : List Int), Le y x → totL y ≤ totL x
  | [], x, _ => by simp [totL]
  | a :: y, [], h => by
    obtain ⟨h1, h2, h3⟩ := le_tail h
    have := tot_le y [] h3
    rw [tot_cons]
    simp at h2
    omega
  | a :: y, b :: x, h => by
    obtain ⟨h1, h2, h3⟩ := le_tail h
    have := tot_le y x h3
    rw [tot_cons, tot_cons]
    simp at h2
    omega
theorem tot_same : ∀ (x y : List Int), Le y x → y.length = x.length + 1 → totL y = totL x → (∀ b ∈ x, 0 ≤ b) → y = x ++ [0]
  | [], [], _, hl, _, _ => by simp at hl
  | [], [a], h, _, _, _ => by
    obtain ⟨h1, h2, _⟩ := le_tail h
    simp at h2
    have : a = 0 := by omega
    rw [this]; rfl
  | [], _ :: _ :: _, _, hl, _, _ => by simp at hl
  | _ :: _, [], _, hl, _, _ => by simp at hl
  | b :: x, a :: y, h, hl, ht, hp => by
    obtain ⟨h1, h2, h3⟩ := le_tail h
    have h4 := tot_le y x h3
    rw [tot_cons, tot_cons] at ht
    simp at h2
    have hb := hp b (by simp)
    have e1 : a = b := by omega
    have e2 := tot_same x y h3 (by simpa using hl) (by omega) (fun c hc => hp c (by simp [hc]))
    rw [e1, e2]; rfl
theorem cmp_shift : ∀ (m : List Int), (∀ b ∈ m, 0 ≤ b) → ¬ cmpL (m ++ [0]) (0 :: m) < 0
  | [], _ => by simp [cmpL]
  | a :: m, h => by
    have ha := h a (by simp)
    have ih := cmp_shift m (fun b hb => h b (by simp [hb]))
    simp only [List.cons_append, cmpL]
    rw [if_neg (by omega)]
    by_cases h0 : 0 < a
    · rw [if_pos h0]; omega
    · rw [if_neg h0]
      have : a = 0 := by omega
      subst this
      exact ih
theorem cmp_front (p l m : List Int) : cmpL (p ++ l) (p ++ m) = cmpL l m := by
  induction p with
  | nil => rfl
  | cons a p ih => simp [cmpL, ih]
theorem lessL_len {l m : List Int} (h : lessL l m = true) : l.length ≤ m.length := by
  unfold lessL at h
  by_cases e : l.length = m.length
  · omega
  · rw [if_neg e] at h
    have := of_decide_eq_true h
    omega
theorem tot_app (l m : List Int) : totL (l ++ m) = totL l + totL m := by simp [totL]
theorem tot_split (l : List Int) (i : Nat) (h : i < l.length) : totL l = totL (l.take i) + (l.getD i 0).toNat + totL (l.drop (i + 1)) := by
  have h1 := congrArg totL (List.take_append_drop i l)
  rw [tot_app, drop_getD l i h, tot_cons] at h1
  omega
theorem tot_set (l : List Int) (i : Nat) (h : i < l.length) (x : Int) : totL (l.set i x) = totL (l.take i) + x.toNat + totL (l.drop (i + 1)) := by
  have e : l.set i x = l.take i ++ x :: l.drop (i + 1) := List.set_eq_take_append_cons_drop.trans (if_pos h)
  rw [e, tot_app, tot_cons]
  omega
theorem tot_lack (l : List Int) (i : Nat) : totL (lackL l i) = totL (l.take i) + totL (l.drop (i + 1)) := by unfold lackL; rw [tot_app]

/-- how much there is of a tape -/
def measL (l : List Int) : Nat := l.length + totL l
/-- each candidate is less than the tape -/
theorem rose_meas {t : Gn} (h0 : genV t = 0) {l y : List Int} (hl : ∀ x ∈ l, 0 ≤ x) (hy : y ∈ roseL t l) : measL y < measL l := by
  unfold roseL lessTo at hy
  obtain ⟨i, hi, h1⟩ := List.mem_flatMap.1 hy
  have hi : i < l.length := List.mem_range.1 hi
  unfold lessAt at h1
  obtain ⟨x, hx, h2⟩ := List.mem_flatMap.1 h1
  obtain ⟨rfl, h4⟩ := kept_mem h2
  have hlen := lessL_len h4
  obtain ⟨v, r, hp, _⟩ := mend_run (t := t) x h0
  have hg := (gen_right h0).1
  have sp := tot_split l i hi
  unfold measL
  have hx0 : ∀ b ∈ x, 0 ≤ b := by
    have hi0 := hl _ (List.getElem_mem hi)
    have hgd : l.getD i 0 = l[i]'hi := by simp [List.getD, List.getElem?_eq_getElem hi]
    intro b hb
    unfold triesL at hx
    have hlack : ∀ b ∈ lackL l i, 0 ≤ b := fun b hb => by
      rcases List.mem_append.1 hb with h | h
      · exact hl b (List.mem_of_mem_take h)
      · exact hl b (List.mem_of_mem_drop h)
    split at hx
    · rename_i hpos
      simp only [List.mem_cons, List.not_mem_nil, or_false] at hx
      rcases hx with rfl | rfl | rfl | rfl
      · rcases List.mem_or_eq_of_mem_set hb with h | h
        · exact hl b h
        · omega
      · rcases List.mem_or_eq_of_mem_set hb with h | h
        · exact hl b h
        · omega
      · rcases List.mem_or_eq_of_mem_set hb with h | h
        · exact hl b h
        · omega
      · exact hlack b hb
    · simp only [List.mem_cons, List.not_mem_nil, or_false] at hx
      subst hx
      exact hlack b hb
  have hle := (mend_le hg hp hx0).1
  have ht := tot_le _ _ hle
  have lack : x = lackL l i → (mendL t x).length + totL (mendL t x) < l.length + totL l := by
    rintro rfl
    have tl := tot_lack l i
    by_cases hs : (mendL t (lackL l i)).length = l.length
    · by_cases he : totL (mendL t (lackL l i)) = totL l
      · have z : (l.getD i 0).toNat = 0 := by omega
        have z2 : l.getD i 0 = 0 := by have := getD_pos hl i; omega
        have e := tot_same (lackL l i) (mendL t (lackL l i)) hle (by rw [hs, ← lack_len' l i hi]) (by omega) hx0
        unfold lessL at h4
        rw [if_pos hs, e] at h4
        have h5 := of_decide_eq_true h4
        have el : l = l.take i ++ 0 :: l.drop (i + 1) := by
          have := (List.take_append_drop i l).symm
          rw [drop_getD l i hi, z2] at this
          exact this
        unfold lackL at h5
        rw [List.append_assoc] at h5
        have h6 : cmpL (l.take i ++ (l.drop (i + 1) ++ [0])) (l.take i ++ 0 :: l.drop (i + 1)) < 0 := by rw [← el]; exact h5
        rw [cmp_front] at h6
        exact absurd h6 (cmp_shift _ (fun b hb => hl b (List.mem_of_mem_drop hb)))
      · omega
    · omega
  unfold triesL at hx
  split at hx
  · rename_i hpos
    simp only [List.mem_cons, List.not_mem_nil, or_false] at hx
    rcases hx with h | h | h | h
    · have := tot_set l i hi 0
      rw [h] at ht ⊢
      rw [h] at hlen
      omega
    · have := tot_set l i hi (l.getD i 0 / 2)
      rw [h] at ht ⊢
      rw [h] at hlen
      omega
    · have := tot_set l i hi (l.getD i 0 - 1)
      rw [h] at ht ⊢
      rw [h] at hlen
      omega
    · exact lack h
  · simp only [List.mem_cons, List.not_mem_nil, or_false] at hx
    exact lack hx
end Go.Proofs.YtabkihellcflhaaGreatDoor.Gens
