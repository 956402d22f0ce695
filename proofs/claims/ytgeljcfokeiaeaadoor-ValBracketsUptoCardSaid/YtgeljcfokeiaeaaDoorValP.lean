/- Plain laws on values' texts: there is but one value at the head of a text. No program. -/
import Derived.Test.YtgeljcfokeiaeaaDoorValL
namespace Go.Proofs.YtgeljcfokeiaeaaDoor.Vals
open Go.Lib (itoa decDigits)
open Lists

/- 'Stops', 'Fits': a blank or a ')' behind a number, or nothing; 'StopsW', 'FitsW': a '(' too. -/
def Stops (r : List UInt8) : Prop := r = [] ∨ ∃ c r', r = c :: r' ∧ (c = 32 ∨ c = 41)
def StopsW (r : List UInt8) : Prop := r = [] ∨ ∃ c r', r = c :: r' ∧ (c = 32 ∨ c = 41 ∨ c = 40)
def Fits (t : Tr) (r : List UInt8) : Prop := t.list = false → Stops r
def FitsW (t : Tr) (r : List UInt8) : Prop := t.list = false → StopsW r
def NoStop (a : List UInt8) : Prop := ∀ c ∈ a, c ≠ 32 ∧ c ≠ 41 ∧ c ≠ 40
theorem Stops.w {r : List UInt8} (h : Stops r) : StopsW r := by
  rcases h with h | ⟨c, r', e, h | h⟩
  · exact .inl h
  · exact .inr ⟨c, r', e, .inl h⟩
  · exact .inr ⟨c, r', e, .inr (.inl h)⟩
theorem Fits.w {t : Tr} {r : List UInt8} (h : Fits t r) : FitsW t r := fun hl => (h hl).w
theorem span_eq : ∀ (a b r r' : List UInt8), NoStop a → NoStop b → StopsW r → StopsW r' → a ++ r = b ++ r' → a = b ∧ r = r'
  | [], [], r, r', _, _, _, _, h => ⟨rfl, h⟩
  | [], y :: b, r, r', _, hb, hr, _, h => by
    rcases hr with rfl | ⟨c, q, rfl, hc⟩
    · simp at h
    · simp only [List.nil_append, List.cons_append, List.cons.injEq] at h
      have := hb y (by simp)
      rw [← h.1] at this
      rcases hc with rfl | rfl | rfl
      · exact absurd rfl this.1
      · exact absurd rfl this.2.1
      · exact absurd rfl this.2.2
  | x :: a, [], r, r', ha, _, _, hr', h => by
    rcases hr' with rfl | ⟨c, q, rfl, hc⟩
    · simp at h
    · simp only [List.nil_append, List.cons_append, List.cons.injEq] at h
      have := ha x (by simp)
      rw [h.1] at this
      rcases hc with rfl | rfl | rfl
      · exact absurd rfl this.1
      · exact absurd rfl this.2.1
      · exact absurd rfl this.2.2
  | x :: a, y :: b, r, r', ha, hb, hr, hr', h => by
    simp only [List.cons_append, List.cons.injEq] at h
    obtain ⟨e1, e2⟩ := span_eq a b r r' (fun c hc => ha c (by simp [hc])) (fun c hc => hb c (by simp [hc])) hr hr' h.2
    exact ⟨by rw [h.1, e1], e2⟩
theorem itoa_chars (n : Int) : ∀ c ∈ itoa n, c = 45 ∨ (48 ≤ c.toNat ∧ c.toNat ≤ 57) := by
  intro c hc
  unfold itoa at hc
  split at hc
  · rcases List.mem_cons.1 hc with h | h
    · exact .inl h
    · exact .inr (dec_digit _ c h)
  · exact .inr (dec_digit _ c hc)
theorem itoa_nostop (n : Int) : NoStop (itoa n) := by
  intro c hc
  rcases itoa_chars n c hc with rfl | h
  · exact ⟨by decide, by decide, by decide⟩
  · exact ⟨fun e => by subst e; simp at h, fun e => by subst e; simp at h, fun e => by subst e; simp at h⟩
theorem itoa_head (n : Int) : ∃ c r, itoa n = c :: r ∧ c ≠ 40 ∧ c ≠ 32 ∧ c ≠ 41 := by
  cases h : itoa n with
  | nil => exact absurd h (itoa_ne n)
  | cons c r =>
    have h1 := itoa_chars n c (by rw [h]; simp)
    refine ⟨c, r, rfl, ?_, ?_, ?_⟩
    all_goals
      intro e
      subst e
      rcases h1 with h1 | h1
      · exact absurd h1 (by decide)
      · simp at h1
theorem textV_head (t : Tr) : ∃ c r, textV t = c :: r ∧ c ≠ 32 ∧ c ≠ 41 := by
  cases hl : t.list with
  | false =>
    obtain ⟨c, r, h, _, h2, h3⟩ := itoa_head t.num
    exact ⟨c, r, by rw [textV_num t hl, h], h2, h3⟩
  | true => exact ⟨40, _, textV_list t hl, by decide, by decide⟩
theorem fits_tail (t : Tr) (l : List Tr) (r : List UInt8) : Fits t (textTail l ++ 41 :: r) := by
  intro _
  cases l with
  | nil => exact .inr ⟨41, r, rfl, .inr rfl⟩
  | cons x l => exact .inr ⟨32, _, rfl, .inl rfl⟩
theorem tr_ext {t u : Tr} (h1 : t.list = u.list) (h2 : t.num = u.num) (h3 : t.items = u.items) : t = u := by
  cases t with | node l n i =>
  cases u with | node l' n' i' =>
  simp only [Tr.list, Tr.num, Tr.items] at h1 h2 h3
  subst h1 h2 h3; rfl

theorem tails_eq (P : Tr → Prop) (hP : ∀ x y r r', P x → P y → FitsW x r → FitsW y r' → textV x ++ r = textV y ++ r' → x = y ∧ r = r') :
    ∀ (l m : List Tr) (r r' : List UInt8), (∀ x ∈ l, P x) → (∀ x ∈ m, P x) → textTail l ++ 41 :: r = textTail m ++ 41 :: r' → l = m ∧ r = r'
  | [], [], r, r', _, _, h => by simpa [textTail] using h
  | [], y :: m, r, r', _, _, h => by simp [textTail] at h
  | x :: l, [], r, r', _, _, h => by simp [textTail] at h
  | x :: l, y :: m, r, r', hl, hm, h => by
    simp only [textTail, List.cons_append, List.append_assoc, List.cons.injEq, true_and] at h
    obtain ⟨e1, e2⟩ := hP x y _ _ (hl x (by simp)) (hm y (by simp)) (fits_tail x l r).w (fits_tail y m r').w h
    obtain ⟨e3, e4⟩ := tails_eq P hP l m r r' (fun z hz => hl z (by simp [hz])) (fun z hz => hm z (by simp [hz])) e2
    exact ⟨by rw [e1, e3], e4⟩
theorem lists_eq (P : Tr → Prop) (hP : ∀ x y r r', P x → P y → FitsW x r → FitsW y r' → textV x ++ r = textV y ++ r' → x = y ∧ r = r') :
    ∀ (l m : List Tr) (r r' : List UInt8), (∀ x ∈ l, P x) → (∀ x ∈ m, P x) → textVs l ++ 41 :: r = textVs m ++ 41 :: r' → l = m ∧ r = r'
  | [], [], r, r', _, _, h => by simpa [textVs] using h
  | [], y :: m, r, r', _, _, h => by
    obtain ⟨c, q, e, _, h2⟩ := textV_head y
    simp only [textVs, List.nil_append, e, List.cons_append, List.cons.injEq] at h
    exact absurd h.1.symm h2
  | x :: l, [], r, r', _, _, h => by
    obtain ⟨c, q, e, _, h2⟩ := textV_head x
    simp only [textVs, List.nil_append, e, List.cons_append, List.cons.injEq] at h
    exact absurd h.1 h2
  | x :: l, y :: m, r, r', hl, hm, h => by
    simp only [textVs, List.append_assoc] at h
    obtain ⟨e1, e2⟩ := hP x y _ _ (hl x (by simp)) (hm y (by simp)) (fits_tail x l r).w (fits_tail y m r').w h
    obtain ⟨e3, e4⟩ := tails_eq P hP l m r r' (fun z hz => hl z (by simp [hz])) (fun z hz => hm z (by simp [hz])) e2
    exact ⟨by rw [e1, e3], e4⟩
/-- one value at the head of a text -/
theorem text_uniq : ∀ (d : Nat) (t u : Tr) (r r' : List UInt8), okB d t = true → okB d u = true → FitsW t r → FitsW u r' → textV t ++ r = textV u ++ r' → t = u ∧ r = r'
  | 0, t, _, _, _, h, _, _, _, _ => by simp [okB] at h
  | d + 1, t, u, r, r', ht, hu, ft, fu, h => by
    simp only [okB, Bool.and_eq_true, Bool.not_eq_true', List.all_eq_true] at ht hu
    cases hl : t.list with
    | false =>
      cases hl' : u.list with
      | false =>
        rw [textV_num t hl, textV_num u hl'] at h
        obtain ⟨e1, e2⟩ := span_eq _ _ _ _ (itoa_nostop _) (itoa_nostop _) (ft hl) (fu hl') h
        exact ⟨tr_ext (hl.trans hl'.symm) (itoa_inj e1) ((formBad_num ht.1 hl).trans (formBad_num hu.1 hl').symm), e2⟩
      | true =>
        obtain ⟨c, q, e, h1, _⟩ := itoa_head t.num
        rw [textV_num t hl, textV_list u hl', e] at h
        simp only [List.cons_append, List.cons.injEq] at h
        exact absurd h.1 h1
    | true =>
      cases hl' : u.list with
      | false =>
        obtain ⟨c, q, e, h1, _⟩ := itoa_head u.num
        rw [textV_list t hl, textV_num u hl', e] at h
        simp only [List.cons_append, List.cons.injEq] at h
        exact absurd h.1.symm h1
      | true =>
        rw [textV_list t hl, textV_list u hl'] at h
        simp only [List.cons_append, List.append_assoc, List.cons.injEq, true_and, List.nil_append] at h
        obtain ⟨e1, e2⟩ := lists_eq (fun x => okB d x = true) (fun x y q q' hx hy fx fy e => text_uniq d x y q q' hx hy fx fy e) _ _ _ _ ht.2 hu.2 h
        exact ⟨tr_ext (hl.trans hl'.symm) ((formBad_list ht.1 hl).trans (formBad_list hu.1 hl').symm) e1, e2⟩
theorem okB_up : ∀ (d : Nat) (t : Tr), okB d t = true → okB (d + 1) t = true
  | 0, t, h => by simp [okB] at h
  | d + 1, t, h => by
    rw [okB] at h ⊢
    simp only [Bool.and_eq_true, Bool.not_eq_true', List.all_eq_true] at h ⊢
    exact ⟨h.1, fun x hx => okB_up d x (h.2 x hx)⟩
theorem text_inj {d : Nat} {t u : Tr} (ht : okB d t = true) (hu : okB d u = true) (h : textV t = textV u) : t = u :=
  (text_uniq d t u [] [] ht hu (fun _ => .inl rfl) (fun _ => .inl rfl) (by rw [h])).1

/-- right, of d levels at most, its numbers ints -/
def Good (d : Nat) (t : Tr) : Prop := okB d t = true ∧ t.i64

/-! what a reading of a list has come to: 'acc' is read of the body, 'rest' is left -/
def Read (d : Nat) (body : List UInt8) (acc : List Tr) (rest : List UInt8) : Prop :=
  body = textVs acc ++ rest ∧ (∀ x ∈ acc, Good d x) ∧
  ∀ its r, (∀ x ∈ its, Good d x) → body = textVs its ++ 41 :: r → ∃ more, its = acc ++ more ∧ rest = (if acc = [] then textVs more else textTail more) ++ 41 :: r
theorem read_nil (d : Nat) (body : List UInt8) : Read d body [] body :=
  ⟨by simp [textVs], (fun x hx => by cases hx), fun its r _ h => ⟨its, by simp, by simpa using h⟩⟩
/-- nothing is left: no list is there -/
theorem read_end {d : Nat} {body : List UInt8} {acc : List Tr} (h : Read d body acc []) : ∀ its r, (∀ x ∈ its, Good d x) → body ≠ textVs its ++ 41 :: r := by
  intro its r hi e
  obtain ⟨more, _, h2⟩ := h.2.2 its r hi e
  have := congrArg List.length h2
  simp at this
/-- no blank behind an item: no list is there -/
theorem read_blank {d : Nat} {body rest : List UInt8} {acc : List Tr} {c : UInt8} (h : Read d body acc (c :: rest)) (ha : acc ≠ []) (h1 : c ≠ 41) (h2 : c ≠ 32) : ∀ its r, (∀ x ∈ its, Good d x) → body ≠ textVs its ++ 41 :: r := by
  intro its r hi e
  obtain ⟨more, _, h3⟩ := h.2.2 its r hi e
  rw [if_neg ha] at h3
  cases more with
  | nil => simp only [textTail, List.nil_append, List.cons.injEq] at h3; exact h1 h3.1
  | cons x m => simp only [textTail, List.cons_append, List.cons.injEq] at h3; exact h2 h3.1
/-- what is left where the next item begins -/
def next (acc : List Tr) (rest : List UInt8) : List UInt8 := if acc = [] then rest else rest.drop 1
/-- no item is there: no list is -/
theorem read_no {d : Nat} {body rest : List UInt8} {acc : List Tr} {c : UInt8} (h : Read d body acc (c :: rest)) (h1 : c ≠ 41) (hn : ∀ t r, Good d t → Fits t r → next acc (c :: rest) ≠ textV t ++ r) : ∀ its r, (∀ x ∈ its, Good d x) → body ≠ textVs its ++ 41 :: r := by
  intro its r hi e
  obtain ⟨more, rfl, h3⟩ := h.2.2 its r hi e
  cases more with
  | nil =>
    have h4 : c :: rest = 41 :: r := by split at h3 <;> simpa [textVs, textTail] using h3
    exact h1 (by injection h4)
  | cons x m =>
    refine hn x (textTail m ++ 41 :: r) (hi x (by simp)) (fits_tail x m r) ?_
    unfold next
    split at h3
    · rename_i ha
      rw [if_pos ha, h3]; simp [textVs]
    · rename_i ha
      rw [if_neg ha, h3]; simp [textTail]
/-- an item is read -/
theorem read_item {d : Nat} {body rest r' : List UInt8} {acc : List Tr} {c : UInt8} {t : Tr} (h : Read d body acc (c :: rest)) (h1 : c ≠ 41) (hb : acc ≠ [] → c = 32) (ht : Good d t) (hf : FitsW t r') (e : next acc (c :: rest) = textV t ++ r') : Read d body (acc ++ [t]) r' := by
  obtain ⟨g1, g2, g3⟩ := h
  refine ⟨?_, ?_, ?_⟩
  · rw [g1, textVs_snoc]
    unfold next at e
    split at e
    · rename_i ha
      rw [if_pos ha, e]; simp
    · rename_i ha
      rw [if_neg ha, hb ha]
      simp only [List.drop_succ_cons, List.drop_zero] at e
      rw [e]; simp
  · intro x hx
    rcases List.mem_append.1 hx with hx | hx
    · exact g2 x hx
    · have : x = t := by simpa using hx
      subst this; exact ht
  · intro its r hi e2
    obtain ⟨more, rfl, h3⟩ := g3 its r hi e2
    cases more with
    | nil =>
      have h4 : c :: rest = 41 :: r := by split at h3 <;> simpa [textVs, textTail] using h3
      exact absurd (by injection h4) h1
    | cons x m =>
      have h5 : next acc (c :: rest) = textV x ++ (textTail m ++ 41 :: r) := by
        unfold next
        split at h3
        · rename_i ha
          rw [if_pos ha, h3]; simp [textVs]
        · rename_i ha
          rw [if_neg ha, h3]; simp [textTail]
      obtain ⟨rfl, e3⟩ := text_uniq d x t _ _ (hi x (by simp)).1 ht.1 (fits_tail x m r).w hf (h5.symm.trans e)
      refine ⟨m, by simp, ?_⟩
      rw [if_neg (by simp), ← e3]
end Go.Proofs.YtgeljcfokeiaeaaDoor.Vals
