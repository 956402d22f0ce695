/- TopLeast, part 45 of the proof: Plain laws on how many tapes a generator has. No program. -/
import Derived.Test.YtfpbegagblekiaaDoorTopLeastZ10
/- Plain laws on how many tapes a generator has. No program. -/
namespace Go.Proofs.YtfpbegagblekiaaDoor.Gens
set_option linter.unusedVariables false

def manyN (k : Int) : Nat → Int → Int → Int
  | 0, n, _ => n
  | i + 1, n, p => manyN k i (min 1048577 (n + p)) (min 1048577 (p * k))
mutual
def countG : Gn → Int
  | .node k a b subs => if k = 1 then 1 else if k = 2 then b - a + 1 else if k = 5 then countAny subs 0 else if k = 3 then countBoth subs 1 else manyN (countHead subs) (a + 1).toNat 0 1
def countAny : List Gn → Int → Int
  | [], n => n
  | g :: r, n => countAny r (min 1048577 (n + countG g))
def countBoth : List Gn → Int → Int
  | [], n => n
  | g :: r, n => countBoth r (min 1048577 (n * countG g))
def countHead : List Gn → Int
  | [] => 0
  | g :: _ => countG g
end
abbrev Few (n : Int) : Prop := 0 ≤ n ∧ n ≤ 1048577
theorem few_add {n m : Int} (h : Few n) (h' : Few m) : Few (min 1048577 (n + m)) := by
  obtain ⟨a, b⟩ := h
  obtain ⟨c, d⟩ := h'
  exact ⟨by omega, by omega⟩
theorem few_mul {n m : Int} (h : Few n) (h' : Few m) : Few (min 1048577 (n * m)) := by
  obtain ⟨a, b⟩ := h
  obtain ⟨c, d⟩ := h'
  have := Int.mul_nonneg a c
  exact ⟨by omega, by omega⟩
theorem mul_fits {n m : Int} (h : Few n) (h' : Few m) : 0 ≤ n * m ∧ n * m ≤ 1099513724929 := by
  obtain ⟨a, b⟩ := h
  obtain ⟨c, d⟩ := h'
  refine ⟨Int.mul_nonneg a c, ?_⟩
  have := Int.mul_le_mul b d c (by omega)
  omega
theorem few_many {k : Int} (hk : Few k) : ∀ i n p, Few n → Few p → Few (manyN k i n p)
  | 0, n, p, hn, hp => by rw [manyN]; exact hn
  | i + 1, n, p, hn, hp => by rw [manyN]; exact few_many hk i _ _ (few_add hn hp) (few_mul hp hk)
mutual
theorem count_few : ∀ (g : Gn), Right g → Few (countG g)
  | .node k a b subs, hg => by
    have hm := right_max hg
    have hs : ∀ x ∈ subs, Right x := hg.subs
    simp only [countG]
    split
    · exact ⟨by omega, by omega⟩
    · split
      · rename_i hk
        have := hm.1 hk
        exact ⟨by omega, by omega⟩
      · split
        · exact any_few subs hs 0 ⟨by omega, by omega⟩
        · split
          · exact both_few subs hs 1 ⟨by omega, by omega⟩
          · exact few_many (head_few subs hs) _ 0 1 ⟨by omega, by omega⟩ ⟨by omega, by omega⟩
theorem any_few : ∀ (l : List Gn), (∀ x ∈ l, Right x) → ∀ n, Few n → Few (countAny l n)
  | [], _, n, hn => by rw [countAny]; exact hn
  | g :: l, hl, n, hn => by
    rw [countAny]
    exact any_few l (fun x hx => hl x (by simp [hx])) _ (few_add hn (count_few g (hl g (by simp))))
theorem both_few : ∀ (l : List Gn), (∀ x ∈ l, Right x) → ∀ n, Few n → Few (countBoth l n)
  | [], _, n, hn => by rw [countBoth]; exact hn
  | g :: l, hl, n, hn => by
    rw [countBoth]
    exact both_few l (fun x hx => hl x (by simp [hx])) _ (few_mul hn (count_few g (hl g (by simp))))
theorem head_few : ∀ (l : List Gn), (∀ x ∈ l, Right x) → Few (countHead l)
  | [], _ => by rw [countHead]; exact ⟨by omega, by omega⟩
  | g :: l, hl => by rw [countHead]; exact count_few g (hl g (by simp))
end
theorem any_drop (l : List Gn) (k : Nat) (n : Int) (h : k < l.length) : countAny (l.drop k) n = countAny (l.drop (k + 1)) (min 1048577 (n + countG (l[k]'h))) := by
  rw [List.drop_eq_getElem_cons h, countAny]
theorem both_drop (l : List Gn) (k : Nat) (n : Int) (h : k < l.length) : countBoth (l.drop k) n = countBoth (l.drop (k + 1)) (min 1048577 (n * countG (l[k]'h))) := by
  rw [List.drop_eq_getElem_cons h, countBoth]
theorem head_get (l : List Gn) (h : 0 < l.length) : countHead l = countG (l[0]'h) := by
  cases l with
  | nil => simp at h
  | cons x r => rw [countHead]; rfl
end Go.Proofs.YtfpbegagblekiaaDoor.Gens
