/- Plain laws: the brackets of a value's text. No program. -/
import Derived.Test.YtgeljcfokeiaeaaDoorReadP
namespace Go.Proofs.YtgeljcfokeiaeaaDoor.Vals
open Go.Lib (itoa)
open Lists
set_option linter.unusedVariables false

def OkC (c : UInt8) : Prop := c = 40 ∨ c = 41 ∨ c = 32 ∨ c = 45 ∨ (48 ≤ c.toNat ∧ c.toNat ≤ 57)
theorem okc_itoa (n : Int) : ∀ c ∈ itoa n, OkC c := fun c hc => by
  rcases itoa_chars n c hc with h | h
  · exact .inr (.inr (.inr (.inl h)))
  · exact .inr (.inr (.inr (.inr h)))
mutual
theorem okc_V : ∀ t : Tr, ∀ c ∈ textV t, OkC c
  | .node l n its, c, h => by
    simp only [textV] at h
    split at h
    · simp only [List.mem_cons, List.mem_append, List.not_mem_nil, or_false] at h
      rcases h with h | h | h
      · exact .inl h
      · exact okc_Vs its c h
      · exact .inr (.inl h)
    · exact okc_itoa n c h
theorem okc_Vs : ∀ l : List Tr, ∀ c ∈ textVs l, OkC c
  | [], c, h => by simp [textVs] at h
  | t :: r, c, h => by
    simp only [textVs, List.mem_append] at h
    rcases h with h | h
    · exact okc_V t c h
    · exact okc_T r c h
theorem okc_T : ∀ l : List Tr, ∀ c ∈ textTail l, OkC c
  | [], c, h => by simp [textTail] at h
  | t :: r, c, h => by
    simp only [textTail, List.mem_cons, List.mem_append] at h
    rcases h with h | h | h
    · exact .inr (.inr (.inl h))
    · exact okc_V t c h
    · exact okc_T r c h
end
/-- no more are shut than are open, and at the end as many -/
def Bal (l : List UInt8) : Prop := l.count 41 = l.count 40 ∧ ∀ k, (l.take k).count 41 ≤ (l.take k).count 40
theorem Bal.nil : Bal [] := ⟨rfl, fun k => by simp⟩
theorem Bal.append {l m : List UInt8} (h : Bal l) (h' : Bal m) : Bal (l ++ m) := by
  refine ⟨by rw [List.count_append, List.count_append, h.1, h'.1], fun k => ?_⟩
  rw [List.take_append, List.count_append, List.count_append]
  have := h.2 k; have := h'.2 (k - l.length); omega
theorem Bal.nest {l : List UInt8} (h : Bal l) : Bal (40 :: (l ++ [41])) := by
  refine ⟨?_, fun k => ?_⟩
  · simp [List.count_append, h.1]
  · cases k with
    | zero => simp
    | succ k =>
      rw [List.take_succ_cons, List.take_append]
      have h1 := h.2 k
      have h2 : ((([41] : List UInt8).take (k - l.length)).count 41) ≤ 1 := by
        refine Nat.le_trans List.count_le_length ?_
        rw [List.length_take]; simp; omega
      have h3 : (([41] : List UInt8).take (k - l.length)).count 40 = 0 := by
        cases k - l.length <;> simp
      simp only [List.count_cons, List.count_append, h3]
      simp
      omega
theorem count_none {l : List UInt8} {c : UInt8} (h : ∀ x ∈ l, x ≠ c) : l.count c = 0 := List.count_eq_zero.2 fun hm => h c hm rfl
theorem bal_none {l : List UInt8} (h : ∀ x ∈ l, x ≠ 40 ∧ x ≠ 41) : Bal l := by
  refine ⟨by rw [count_none fun x hx => (h x hx).1, count_none fun x hx => (h x hx).2], fun k => ?_⟩
  rw [count_none fun x hx => (h x (List.mem_of_mem_take hx)).2]
  omega
theorem itoa_none (n : Int) : ∀ x ∈ itoa n, x ≠ 40 ∧ x ≠ 41 := fun x hx => ⟨(itoa_nostop n x hx).2.2, (itoa_nostop n x hx).2.1⟩
theorem bal_blank : Bal [32] := bal_none fun x hx => by
  have : x = 32 := by simpa using hx
  subst this; exact ⟨by decide, by decide⟩
mutual
theorem bal_V : ∀ t : Tr, Bal (textV t)
  | .node l n its => by
    simp only [textV]
    split
    · exact (bal_Vs its).nest
    · exact bal_none (itoa_none n)
theorem bal_Vs : ∀ l : List Tr, Bal (textVs l)
  | [] => Bal.nil
  | t :: r => (bal_V t).append (bal_T r)
theorem bal_T : ∀ l : List Tr, Bal (textTail l)
  | [] => Bal.nil
  | t :: r => bal_blank.append ((bal_V t).append (bal_T r))
end
mutual
def listsN : Tr → Nat
  | .node l _ its => (if l = true then 1 else 0) + listsNs its
def listsNs : List Tr → Nat
  | [] => 0
  | t :: r => listsN t + listsNs r
end
theorem listsN_eq (t : Tr) : listsN t = (if t.list = true then 1 else 0) + listsNs t.items := by cases t with | node l n its => rfl
theorem listsNs_app (l m : List Tr) : listsNs (l ++ m) = listsNs l + listsNs m := by
  induction l with
  | nil => simp [listsNs]
  | cons t r ih => simp only [List.cons_append, listsNs, ih]; omega
theorem listsNs_take (l : List Tr) (k : Nat) (h : k < l.length) : listsNs (l.take (k + 1)) = listsNs (l.take k) + listsN (l[k]'h) := by
  rw [List.take_succ_eq_append_getElem h, listsNs_app]; simp [listsNs]
mutual
theorem listsN_le : ∀ t : Tr, listsN t ≤ t.size
  | .node l n its => by
    simp only [listsN, Tr.size]
    have := listsNs_le its
    split <;> omega
theorem listsNs_le : ∀ l : List Tr, listsNs l ≤ sizes l
  | [] => by simp [listsNs]
  | t :: r => by
    have := listsN_le t
    have := listsNs_le r
    simp only [listsNs, sizes]
    omega
end
/-- as many as lists -/
theorem count_T (P : Tr → Prop) (hP : ∀ x, P x → (textV x).count 40 = listsN x) : ∀ l : List Tr, (∀ x ∈ l, P x) → (textTail l).count 40 = listsNs l
  | [], _ => by simp [textTail, listsNs]
  | x :: r, h => by
    have h1 := hP x (h x (by simp))
    have h2 := count_T P hP r (fun y hy => h y (by simp [hy]))
    simp only [textTail, listsNs, List.count_cons, List.count_append, h1, h2]
    simp
theorem count_Vs (P : Tr → Prop) (hP : ∀ x, P x → (textV x).count 40 = listsN x) : ∀ l : List Tr, (∀ x ∈ l, P x) → (textVs l).count 40 = listsNs l
  | [], _ => by simp [textVs, listsNs]
  | x :: r, h => by
    have h1 := hP x (h x (by simp))
    have h2 := count_T P hP r (fun y hy => h y (by simp [hy]))
    simp only [textVs, listsNs, List.count_append, h1, h2]
theorem count_V : ∀ (d : Nat) (t : Tr), okB d t = true → (textV t).count 40 = listsN t
  | 0, t, h => by simp [okB] at h
  | d + 1, t, h => by
    simp only [okB, Bool.and_eq_true, Bool.not_eq_true', List.all_eq_true] at h
    rw [listsN_eq]
    cases hl : t.list with
    | false =>
      rw [formBad_num h.1 hl, textV_num t hl, count_none fun x hx => (itoa_none t.num x hx).1]
      simp [listsNs]
    | true =>
      rw [textV_list t hl]
      have := count_Vs (fun x => okB d x = true) (fun x hx => count_V d x hx) t.items h.2
      simp only [List.count_cons, List.count_append, this]
      simp
      omega
end Go.Proofs.YtgeljcfokeiaeaaDoor.Vals
