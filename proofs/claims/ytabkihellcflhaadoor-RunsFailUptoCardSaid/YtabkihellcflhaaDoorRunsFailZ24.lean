/- RunsFail, part 24 of the proof: A walk to a tape none of whose candidates fails: it ends. The mathematics. No program. · Plain laws on expressions: what is wrong with one; the numbers of a value; the number of an expression. No program. -/
import Derived.Test.YtabkihellcflhaaDoorRunsFailZ23
import Derived.Test.YtabkihellcflhaaDoorRunsFailZ1
import Derived.Test.YtabkihellcflhaaDoorRunsFailZ8
/- A walk to a tape none of whose candidates fails: it ends. The mathematics. No program. -/
namespace Go.Proofs.YtabkihellcflhaaDoor.Gens
open Go.RowKit Lists Ints Vals
set_option linter.unusedVariables false

/-! what is mended is nowhere more than what it was made of -/
def Le (y x : List Int) : Prop := ∀ k, k < y.length → 0 ≤ y.getD k 0 ∧ y.getD k 0 ≤ x.getD k 0
def totL (l : List Int) : Nat := (l.map Int.toNat).sum
theorem le_nil (x : List Int) : Le [] x := fun k h => by simp at h
theorem getD_pos {s : List Int} (hs : ∀ x ∈ s, 0 ≤ x) (k : Nat) : 0 ≤ s.getD k 0 := by
  by_cases h : k < s.length
  · simp only [List.getD, List.getElem?_eq_getElem h, Option.getD_some]; exact hs _ (List.getElem_mem h)
  · simp [List.getD, List.getElem?_eq_none (Nat.le_of_not_lt h)]
theorem mendX_le {s : List Int} (hs : ∀ x ∈ s, 0 ≤ x) {m : Int} (hm : 0 ≤ m) : 0 ≤ mendX s m ∧ mendX s m ≤ s.getD 0 0 := by
  cases s with
  | nil => simp [mendX]; omega
  | cons a s => have := hs a (by simp); simp [mendX]; omega
theorem le_cons {s : List Int} (hs : ∀ x ∈ s, 0 ≤ x) {m : Int} (hm : 0 ≤ m) {c : List Int} (h : Le c s.tail) : Le (mendX s m :: c) s := by
  intro k hk
  cases k with
  | zero => simpa using mendX_le hs hm
  | succ k =>
    have := h k (by simpa using hk)
    cases s with
    | nil => simpa using this
    | cons a s => simpa using this
theorem le_app {s c c2 : List Int} (h : Le c s) (h2 : Le c2 (s.drop c.length)) : Le (c ++ c2) s := by
  intro k hk
  by_cases hc : k < c.length
  · have := h k hc
    simpa [List.getD, List.getElem?_append_left hc] using this
  · have h3 := h2 (k - c.length) (by simp at hk; omega)
    simp only [List.getD, List.getElem?_append_right (Nat.le_of_not_lt hc), List.getElem?_drop] at h3 ⊢
    rw [show c.length + (k - c.length) = k by omega] at h3
    exact h3
theorem mend_le {g : Gn} (hg : Right g) {s c r : List Int} {v : Tr} (h : play mendC g s = .ok (c, v, r)) (hs : ∀ x ∈ s, 0 ≤ x) : Le c s ∧ r = s.drop c.length := by
  refine play_ind (M := fun g s c v s' => (∀ x ∈ s, 0 ≤ x) → Le c s ∧ s' = s.drop c.length) (ML := fun l s c vs s' => (∀ x ∈ s, 0 ≤ x) → Le c s ∧ s' = s.drop c.length) mend_bounded ⟨?_, ?_, ?_, ?_, ?_, ?_, ?_⟩ g hg s c v r h hs
  · intro a b subs s _ _
    exact ⟨le_nil _, rfl⟩
  · intro a b subs s x s1 hr _ _ h1 hs
    simp only [mendC, Except.ok.injEq, Prod.mk.injEq] at h1
    obtain ⟨rfl, rfl⟩ := h1
    exact ⟨le_cons hs ((right_max hr).1 rfl).1 (le_nil _), by cases s <;> rfl⟩
  · intro a b subs s x s1 c v s2 hlt hr _ h1 ih hs
    have hm := (right_max hr).2.1 rfl
    simp only [mendC, Except.ok.injEq, Prod.mk.injEq] at h1
    obtain ⟨rfl, rfl⟩ := h1
    obtain ⟨i1, i2⟩ := ih (fun y hy => hs y (List.mem_of_mem_tail hy))
    exact ⟨le_cons hs hm i1, by rw [i2]; cases s <;> simp⟩
  · intro a b subs s c vs s1 hr ih hs
    exact ih hs
  · intro a b g s x s1 c vs s2 hr h0 hx ha h1 ih hs
    have hm := ((right_max hr).2.2.1 rfl).1
    simp only [mendC, Except.ok.injEq, Prod.mk.injEq] at h1
    obtain ⟨rfl, rfl⟩ := h1
    obtain ⟨i1, i2⟩ := ih (fun y hy => hs y (List.mem_of_mem_tail hy))
    exact ⟨le_cons hs hm i1, by rw [i2]; cases s <;> simp⟩
  · intro s _
    exact ⟨le_nil _, rfl⟩
  · intro g r s c v s1 c2 vs s2 ih1 ih2 hs
    obtain ⟨q1, rfl⟩ := ih1 hs
    obtain ⟨r1, rfl⟩ := ih2 (fun x hx => hs x (List.mem_of_mem_drop hx))
    exact ⟨le_app q1 r1, by rw [List.length_append, List.drop_drop]⟩
theorem tot_cons (a : Int) (l : List Int) : totL (a :: l) = a.toNat + totL l := by simp [totL]
theorem le_tail {a : Int} {y x : List Int} (h : Le (a :: y) x) : 0 ≤ a ∧ a ≤ x.getD 0 0 ∧ Le y x.tail := by
  refine ⟨by simpa using (h 0 (by simp)).1, by simpa using (h 0 (by simp)).2, fun k hk => ?_⟩
  have := h (k + 1) (by simpa using hk)
  cases x with
  | nil => simpa using this
  | cons b x => simpa using this
theorem tot_le : ∀ (y x : List Int), Le y x → totL y ≤ totL x
  | [], x, _ => by simp [totL]
  | a :: y, [], h => by
    obtain ⟨h1, h2, h3⟩ := le_tail h
    have := tot_le y [] h3
    rw [tot_cons]
    simp at h2
    omega
  | a :: y, b :: x, h => by
    obtain ⟨h1, h2, h3⟩ := le_tail h
    have := tot_le y x h3
    rw [tot_cons, tot_cons]
    simp at h2
    omega
theorem tot_same : ∀ (x y : List Int), Le y x → y.length = x.length + 1 → totL y = totL x → (∀ b ∈ x, 0 ≤ b) → y = x ++ [0]
  | [], [], _, hl, _, _ => by simp at hl
  | [], [a], h, _, _, _ => by
    obtain ⟨h1, h2, _⟩ := le_tail h
    simp at h2
    have : a = 0 := by omega
    rw [this]; rfl
  | [], _ :: _ :: _, _, hl, _, _ => by simp at hl
  | _ :: _, [], _, hl, _, _ => by simp at hl
  | b :: x, a :: y, h, hl, ht, hp => by
    obtain ⟨h1, h2, h3⟩ := le_tail h
    have h4 := tot_le y x h3
    rw [tot_cons, tot_cons] at ht
    simp at h2
    have hb := hp b (by simp)
    have e1 : a = b := by omega
    have e2 := tot_same x y h3 (by simpa using hl) (by omega) (fun c hc => hp c (by simp [hc]))
    rw [e1, e2]; rfl
theorem cmp_shift : ∀ (m : List Int), (∀ b ∈ m, 0 ≤ b) → ¬ cmpL (m ++ [0]) (0 :: m) < 0
  | [], _ => by simp [cmpL]
  | a :: m, h => by
    have ha := h a (by simp)
    have ih := cmp_shift m (fun b hb => h b (by simp [hb]))
    simp only [List.cons_append, cmpL]
    rw [if_neg (by omega)]
    by_cases h0 : 0 < a
    · rw [if_pos h0]; omega
    · rw [if_neg h0]
      have : a = 0 := by omega
      subst this
      exact ih
theorem cmp_front (p l m : List Int) : cmpL (p ++ l) (p ++ m) = cmpL l m := by
  induction p with
  | nil => rfl
  | cons a p ih => simp [cmpL, ih]
theorem lessL_len {l m : List Int} (h : lessL l m = true) : l.length ≤ m.length := by
  unfold lessL at h
  by_cases e : l.length = m.length
  · omega
  · rw [if_neg e] at h
    have := of_decide_eq_true h
    omega
theorem tot_app (l m : List Int) : totL (l ++ m) = totL l + totL m := by simp [totL]
theorem tot_split (l : List Int) (i : Nat) (h : i < l.length) : totL l = totL (l.take i) + (l.getD i 0).toNat + totL (l.drop (i + 1)) := by
  have h1 := congrArg totL (List.take_append_drop i l)
  rw [tot_app, drop_getD l i h, tot_cons] at h1
  omega
theorem tot_set (l : List Int) (i : Nat) (h : i < l.length) (x : Int) : totL (l.set i x) = totL (l.take i) + x.toNat + totL (l.drop (i + 1)) := by
  have e : l.set i x = l.take i ++ x :: l.drop (i + 1) := List.set_eq_take_append_cons_drop.trans (if_pos h)
  rw [e, tot_app, tot_cons]
  omega
theorem tot_lack (l : List Int) (i : Nat) : totL (lackL l i) = totL (l.take i) + totL (l.drop (i + 1)) := by unfold lackL; rw [tot_app]

/-- how much there is of a tape -/
def measL (l : List Int) : Nat := l.length + totL l
/-- each candidate is less than the tape -/
theorem rose_meas {t : Gn} (h0 : genV t = 0) {l y : List Int} (hl : ∀ x ∈ l, 0 ≤ x) (hy : y ∈ roseL t l) : measL y < measL l := by
  unfold roseL lessTo at hy
  obtain ⟨i, hi, h1⟩ := List.mem_flatMap.1 hy
  have hi : i < l.length := List.mem_range.1 hi
  unfold lessAt at h1
  obtain ⟨x, hx, h2⟩ := List.mem_flatMap.1 h1
  obtain ⟨rfl, h4⟩ := kept_mem h2
  have hlen := lessL_len h4
  obtain ⟨v, r, hp, _⟩ := mend_run (t := t) x h0
  have hg := (gen_right h0).1
  have sp := tot_split l i hi
  unfold measL
  have hx0 : ∀ b ∈ x, 0 ≤ b := by
    have hi0 := hl _ (List.getElem_mem hi)
    have hgd : l.getD i 0 = l[i]'hi := by simp [List.getD, List.getElem?_eq_getElem hi]
    intro b hb
    unfold triesL at hx
    have hlack : ∀ b ∈ lackL l i, 0 ≤ b := fun b hb => by
      rcases List.mem_append.1 hb with h | h
      · exact hl b (List.mem_of_mem_take h)
      · exact hl b (List.mem_of_mem_drop h)
    split at hx
    · rename_i hpos
      simp only [List.mem_cons, List.not_mem_nil, or_false] at hx
      rcases hx with rfl | rfl | rfl | rfl
      · rcases List.mem_or_eq_of_mem_set hb with h | h
        · exact hl b h
        · omega
      · rcases List.mem_or_eq_of_mem_set hb with h | h
        · exact hl b h
        · omega
      · rcases List.mem_or_eq_of_mem_set hb with h | h
        · exact hl b h
        · omega
      · exact hlack b hb
    · simp only [List.mem_cons, List.not_mem_nil, or_false] at hx
      subst hx
      exact hlack b hb
  have hle := (mend_le hg hp hx0).1
  have ht := tot_le _ _ hle
  have lack : x = lackL l i → (mendL t x).length + totL (mendL t x) < l.length + totL l := by
    rintro rfl
    have tl := tot_lack l i
    by_cases hs : (mendL t (lackL l i)).length = l.length
    · by_cases he : totL (mendL t (lackL l i)) = totL l
      · have z : (l.getD i 0).toNat = 0 := by omega
        have z2 : l.getD i 0 = 0 := by have := getD_pos hl i; omega
        have e := tot_same (lackL l i) (mendL t (lackL l i)) hle (by rw [hs, ← lack_len' l i hi]) (by omega) hx0
        unfold lessL at h4
        rw [if_pos hs, e] at h4
        have h5 := of_decide_eq_true h4
        have el : l = l.take i ++ 0 :: l.drop (i + 1) := by
          have := (List.take_append_drop i l).symm
          rw [drop_getD l i hi, z2] at this
          exact this
        unfold lackL at h5
        rw [List.append_assoc] at h5
        have h6 : cmpL (l.take i ++ (l.drop (i + 1) ++ [0])) (l.take i ++ 0 :: l.drop (i + 1)) < 0 := by rw [← el]; exact h5
        rw [cmp_front] at h6
        exact absurd h6 (cmp_shift _ (fun b hb => hl b (List.mem_of_mem_drop hb)))
      · omega
    · omega
  unfold triesL at hx
  split at hx
  · rename_i hpos
    simp only [List.mem_cons, List.not_mem_nil, or_false] at hx
    rcases hx with h | h | h | h
    · have := tot_set l i hi 0
      rw [h] at ht ⊢
      rw [h] at hlen
      omega
    · have := tot_set l i hi (l.getD i 0 / 2)
      rw [h] at ht ⊢
      rw [h] at hlen
      omega
    · have := tot_set l i hi (l.getD i 0 - 1)
      rw [h] at ht ⊢
      rw [h] at hlen
      omega
    · exact lack h
  · simp only [List.mem_cons, List.not_mem_nil, or_false] at hx
    exact lack hx
end Go.Proofs.YtabkihellcflhaaDoor.Gens

/- Plain laws on expressions: what is wrong with one; the numbers of a value; the number of an expression. No program. -/
namespace Go.Proofs.YtabkihellcflhaaDoor.Exprs
open Gens Vals
set_option linter.unusedVariables false

/-! what is wrong with an expression -/
def subsE (k : Int) : Int := if k < 1 ∨ 11 < k then -1 else if k ≤ 4 then 0 else if k = 9 then 1 else 2
mutual
def formE : Gn → Bool
  | .node k _ _ s => decide (subsE k = (s.length : Int)) && formEs s
def formEs : List Gn → Bool
  | [] => true
  | g :: r => formE g && formEs r
end
theorem formE_eq (t : Gn) : formE t = (decide (subsE t.kind = (t.subs.length : Int)) && formEs t.subs) := by cases t with | node k a b s => rw [formE]; rfl
theorem formEs_app (l m : List Gn) : formEs (l ++ m) = (formEs l && formEs m) := by
  induction l with
  | nil => simp [formEs]
  | cons g r ih => simp only [List.cons_append, formEs, ih, Bool.and_assoc]
theorem form_step0 (l : List Gn) (k : Nat) (hk : k < l.length) (hz : formEs (l.take k) = true) (h : formE (l[k]'hk) = true) : formEs (l.take (k + 1)) = true := by
  rw [List.take_succ_eq_append_getElem hk, formEs_app, hz]; simp [formEs, h]
theorem form_step1 (l : List Gn) (k : Nat) (hk : k < l.length) (h : formE (l[k]'hk) = false) : formEs l = false := by
  have h2 := formEs_app (l.take k) (l.drop k)
  rw [List.take_append_drop, List.drop_eq_getElem_cons hk, formEs, h] at h2
  rw [h2]; simp
def faultE (t : Gn) : Int := if (largeG t 0).2 = true then 4 else if formE t = true then 0 else 3
theorem fault_ok {t : Gn} (h : faultE t = 0) : (largeG t 0).2 = false ∧ formE t = true := by
  unfold faultE at h
  by_cases hl : (largeG t 0).2 = true
  · rw [if_pos hl] at h; cases h
  · rw [if_neg hl] at h
    by_cases hf : formE t = true
    · exact ⟨by simpa using hl, hf⟩
    · rw [if_neg hf] at h; cases h
theorem forms_mem : ∀ (l : List Gn), formEs l = true → ∀ x ∈ l, formE x = true
  | [], _, x, hx => by cases hx
  | g :: r, h, x, hx => by
    simp only [formEs, Bool.and_eq_true] at h
    rcases List.mem_cons.1 hx with rfl | hx
    · exact h.1
    · exact forms_mem r h.2 x hx
theorem form_subs {t : Gn} (h : formE t = true) : subsE t.kind = (t.subs.length : Int) ∧ ∀ x ∈ t.subs, formE x = true := by
  rw [formE_eq, Bool.and_eq_true] at h
  exact ⟨of_decide_eq_true h.1, forms_mem _ h.2⟩
theorem form_kind {t : Gn} (h : formE t = true) : 1 ≤ t.kind ∧ t.kind ≤ 11 := by
  have h1 := (form_subs h).1
  unfold subsE at h1
  split at h1
  · have : (0 : Int) ≤ t.subs.length := Int.natCast_nonneg _
    omega
  · omega

/-! the numbers of a value -/
mutual
def leavesT : Tr → List Int
  | .node l n its => if l = true then leavesTs its else [n]
def leavesTs : List Tr → List Int
  | [] => []
  | t :: r => leavesT t ++ leavesTs r
end
theorem leavesT_eq (t : Tr) : leavesT t = if t.list = true then leavesTs t.items else [t.num] := by cases t with | node l n i => rw [leavesT]; rfl
theorem leavesTs_app (l m : List Tr) : leavesTs (l ++ m) = leavesTs l ++ leavesTs m := by
  induction l with
  | nil => simp [leavesTs]
  | cons t r ih => simp only [List.cons_append, leavesTs, ih, List.append_assoc]
theorem leaves_take (l : List Tr) (k : Nat) (hk : k < l.length) : leavesTs (l.take (k + 1)) = leavesTs (l.take k) ++ leavesT (l[k]'hk) := by
  rw [List.take_succ_eq_append_getElem hk, leavesTs_app]; simp [leavesTs]
mutual
theorem leaves_len : ∀ t : Tr, (leavesT t).length ≤ t.size
  | .node l n i => by
    have := leavess_len i
    simp only [leavesT, Tr.size]
    split
    · omega
    · simp
theorem leavess_len : ∀ l : List Tr, (leavesTs l).length ≤ sizes l
  | [] => by simp [leavesTs, sizes]
  | t :: r => by
    have := leaves_len t
    have := leavess_len r
    simp only [leavesTs, sizes, List.length_append]
    omega
end
/-- their sum, as it wraps -/
def sumL : List Int → Int → Int
  | [], s => s
  | x :: r, s => sumL r (Go.RowKit.wrap64 (s + x))
theorem sumL_app (l m : List Int) (s : Int) : sumL (l ++ m) s = sumL m (sumL l s) := by
  induction l generalizing s with
  | nil => rfl
  | cons x r ih => simp only [List.cons_append, sumL, ih]
/-- the greatest one so far -/
def topS (l : List Int) : Option Int → Option Int
  | o => l.foldl (fun o x => match o with | none => some x | some m => some (if m < x then x else m)) o
theorem topS_app (l m : List Int) (o : Option Int) : topS (l ++ m) o = topS m (topS l o) := by simp [topS, List.foldl_append]
def sumT (t : Tr) : Int := sumL (leavesT t) 0
def topT (t : Tr) : Int := (topS (leavesT t) none).getD 0

/-! the number of an expression; none: it has none -/
def one (b : Bool) : Int := if b = true then 1 else 0
def bin (k x y : Int) : Option Int :=
  if k = 5 then some (Go.RowKit.wrap64 (x + y)) else if k = 6 then (if y = 0 then none else some (x.tmod y)) else if k = 7 then some (one (decide (x < y))) else if k = 8 then some (one (decide (x = y))) else some y
def comb (k a : Int) (v : Tr) (ns : List (Option Int)) : Option Int :=
  if k = 1 then some a else if k = 2 then some (sumT v) else if k = 3 then some (topT v) else if k = 4 then some (v.items.length : Int)
  else match ns.getD 0 none with
    | none => none
    | some x => if k = 9 then some (one (decide (x = 0))) else if k = 10 ∧ x = 0 then some x else if k = 11 ∧ ¬ x = 0 then some x
      else match ns.getD 1 none with
        | none => none
        | some y => bin k x y
mutual
def numE (v : Tr) : Gn → Option Int
  | .node k a _ s => comb k a v (numEs v s)
def numEs (v : Tr) : List Gn → List (Option Int)
  | [] => []
  | g :: r => numE v g :: numEs v r
end
theorem numEs_map (v : Tr) : ∀ l : List Gn, numEs v l = l.map (numE v)
  | [] => rfl
  | g :: r => by rw [numEs, numEs_map v r]; rfl
theorem numE_eq (v : Tr) (t : Gn) : numE v t = comb t.kind t.a v (t.subs.map (numE v)) := by cases t with | node k a b s => rw [numE, numEs_map]; rfl
end Go.Proofs.YtabkihellcflhaaDoor.Exprs
