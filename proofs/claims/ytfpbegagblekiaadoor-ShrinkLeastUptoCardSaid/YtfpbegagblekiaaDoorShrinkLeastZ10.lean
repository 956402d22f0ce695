/- ShrinkLeast, part 10 of the proof: Plain laws on values as trees: what is wrong with one, its text, sameness. No program. -/
import Derived.Test.YtfpbegagblekiaaDoorShrinkLeastZ7
import Derived.Test.YtfpbegagblekiaaDoorShrinkLeastZ9
/- Plain laws on values as trees: what is wrong with one, its text, sameness. No program. -/
namespace Go.Proofs.YtfpbegagblekiaaDoor.Vals
open Go.Lib (itoa)
open Lists

/-! what is wrong with a value that lies in so many lists -/
def formBad (t : Tr) : Bool := (t.list && (t.num != 0)) || (!t.list && !t.items.isEmpty)
mutual
def faultV : Tr → Nat → Int
  | .node l n its, deep => if formBad (.node l n its) = true then 3 else if 6 ≤ deep then 4 else faultVs its (deep + 1)
def faultVs : List Tr → Nat → Int
  | [], _ => 0
  | t :: r, deep => if faultV t deep ≠ 0 then faultV t deep else faultVs r deep
end
theorem faultV_eq (t : Tr) (deep : Nat) : faultV t deep = if formBad t = true then 3 else if 6 ≤ deep then 4 else faultVs t.items (deep + 1) := by
  cases t with | node l n its => simp only [faultV, Tr.items]
theorem faultVs_app (l m : List Tr) (d : Nat) : faultVs (l ++ m) d = if faultVs l d ≠ 0 then faultVs l d else faultVs m d := by
  induction l with
  | nil => simp [faultVs]
  | cons t r ih =>
    simp only [List.cons_append, faultVs, ih]
    by_cases h : faultV t d = 0 <;> simp [h]
theorem fault_step0 (l : List Tr) (k d : Nat) (hk : k < l.length) (hz : faultVs (l.take k) d = 0) (h : faultV (l[k]'hk) d = 0) : faultVs (l.take (k + 1)) d = 0 := by
  rw [List.take_succ_eq_append_getElem hk, faultVs_app, hz]; simp [faultVs, h]
theorem fault_step1 (l : List Tr) (k d : Nat) (hk : k < l.length) (hz : faultVs (l.take k) d = 0) (h : faultV (l[k]'hk) d ≠ 0) : faultV (l[k]'hk) d = faultVs l d := by
  have h1 : faultVs (l.take (k + 1)) d = faultV (l[k]'hk) d := by
    rw [List.take_succ_eq_append_getElem hk, faultVs_app, hz]; simp [faultVs, h]
  have h2 := faultVs_app (l.take (k + 1)) (l.drop (k + 1)) d
  rw [List.take_append_drop, h1, if_pos h] at h2
  exact h2.symm
/-! right: of d levels at most -/
def okB : Nat → Tr → Bool
  | 0, _ => false
  | d + 1, t => !formBad t && t.items.all (okB d)
theorem formBad_list {t : Tr} (h : formBad t = false) (hl : t.list = true) : t.num = 0 := by
  unfold formBad at h; rw [hl] at h; simpa using h
theorem formBad_num {t : Tr} (h : formBad t = false) (hl : t.list = false) : t.items = [] := by
  unfold formBad at h; rw [hl] at h; simpa using h
theorem fault_ok : ∀ (k : Nat) (t : Tr) (deep : Nat), deep + k = 6 → (faultV t deep = 0 ↔ okB k t = true)
  | 0, t, deep, h => by
    rw [faultV_eq]
    by_cases hf : formBad t = true
    · simp [hf, okB]
    · rw [if_neg hf, if_pos (by omega)]; simp [okB]
  | k + 1, t, deep, h => by
    rw [faultV_eq]
    by_cases hf : formBad t = true
    · simp [hf, okB]
    · have hf' : formBad t = false := by simpa using hf
      rw [if_neg hf, if_neg (by omega)]
      have hs : ∀ its : List Tr, faultVs its (deep + 1) = 0 ↔ its.all (okB k) = true := by
        intro its
        induction its with
        | nil => simp [faultVs]
        | cons x r ih =>
          simp only [faultVs, List.all_cons, Bool.and_eq_true]
          have := fault_ok k x (deep + 1) (by omega)
          by_cases hx : faultV x (deep + 1) = 0
          · rw [if_neg (by simpa using hx), ih]; simp [this.1 hx]
          · rw [if_pos hx]
            exact ⟨fun e => absurd e hx, fun e => absurd (this.2 e.1) hx⟩
      simp only [okB, hf', Bool.not_false, Bool.true_and]
      exact hs t.items

/-! its text -/
mutual
def textV : Tr → List UInt8
  | .node l n its => if l = true then 40 :: (textVs its ++ [41]) else itoa n
def textVs : List Tr → List UInt8
  | [] => []
  | t :: r => textV t ++ textTail r
def textTail : List Tr → List UInt8
  | [] => []
  | t :: r => 32 :: (textV t ++ textTail r)
end
theorem textV_num (t : Tr) (h : t.list = false) : textV t = itoa t.num := by
  cases t with | node l n its => simp only [Tr.list] at h; subst h; simp [textV, Tr.num]
theorem textV_list (t : Tr) (h : t.list = true) : textV t = 40 :: (textVs t.items ++ [41]) := by
  cases t with | node l n its => simp only [Tr.list] at h; subst h; simp [textV, Tr.items]
theorem textTail_snoc (l : List Tr) (t : Tr) : textTail (l ++ [t]) = textTail l ++ 32 :: textV t := by
  induction l with
  | nil => simp [textTail]
  | cons x r ih => simp [textTail, ih]
theorem textVs_snoc (l : List Tr) (t : Tr) : textVs (l ++ [t]) = textVs l ++ (if l = [] then [] else [32]) ++ textV t := by
  cases l with
  | nil => simp [textVs, textTail]
  | cons x r => simp [textVs, textTail_snoc]
theorem textVs_take (l : List Tr) (k : Nat) (h : k < l.length) : textVs (l.take (k + 1)) = textVs (l.take k) ++ (if k = 0 then [] else [32]) ++ textV (l[k]'h) := by
  rw [List.take_succ_eq_append_getElem h, textVs_snoc]
  by_cases hk : k = 0
  · subst hk; simp
  · have : l.take k ≠ [] := by
      intro e
      have h2 : (l.take k).length = 0 := by rw [e]; rfl
      rw [List.length_take] at h2
      omega
    rw [if_neg hk, if_neg this]
mutual
def Tr.i64 : Tr → Prop
  | .node _ n its => I64 n ∧ i64s its
def i64s : List Tr → Prop
  | [] => True
  | t :: r => t.i64 ∧ i64s r
end
theorem i64s_iff (l : List Tr) : i64s l ↔ ∀ x ∈ l, x.i64 := by
  induction l with
  | nil => simp [i64s]
  | cons t r ih => simp [i64s, ih]
theorem Tr.i64_num {t : Tr} (h : t.i64) : I64 t.num := by cases t with | node l n its => exact h.1
theorem Tr.i64_items {t : Tr} (h : t.i64) : ∀ x ∈ t.items, x.i64 := by cases t with | node l n its => exact (i64s_iff its).1 h.2
mutual
theorem textV_le : ∀ t : Tr, t.i64 → (textV t).length + 1 ≤ 24 * t.size
  | .node l n its, h => by
    simp only [Tr.i64] at h
    simp only [textV, Tr.size]
    split
    · have := textVs_le its h.2
      simp only [List.length_cons, List.length_append, List.length_nil]
      omega
    · have := Lib.itoa_length_le n h.1.1 h.1.2
      omega
theorem textVs_le : ∀ l : List Tr, i64s l → (textVs l).length ≤ 24 * sizes l
  | [], _ => by simp [textVs]
  | t :: r, h => by
    simp only [i64s] at h
    have h1 := textV_le t h.1
    have h2 := textTail_le r h.2
    simp only [textVs, sizes, List.length_append]
    omega
theorem textTail_le : ∀ l : List Tr, i64s l → (textTail l).length ≤ 24 * sizes l
  | [], _ => by simp [textTail]
  | t :: r, h => by
    simp only [i64s] at h
    have h1 := textV_le t h.1
    have h2 := textTail_le r h.2
    simp only [textTail, sizes, List.length_cons, List.length_append]
    omega
end
theorem size_items (t : Tr) : t.size = 1 + sizes t.items := by cases t with | node l n its => rfl
theorem size_mem : ∀ (l : List Tr) (x : Tr), x ∈ l → x.size ≤ sizes l
  | [], x, h => by cases h
  | t :: r, x, h => by
    simp only [sizes]
    rcases List.mem_cons.1 h with rfl | h
    · omega
    · have := size_mem r x h; omega
theorem sizes_take : ∀ (l : List Tr) (k : Nat), sizes (l.take k) ≤ sizes l
  | [], k => by simp
  | t :: r, 0 => by simp [sizes]
  | t :: r, k + 1 => by
    have := sizes_take r k
    simp only [List.take_succ_cons, sizes]
    omega
theorem len_sizes : ∀ l : List Tr, l.length ≤ sizes l
  | [] => by simp
  | t :: r => by
    have := len_sizes r
    have h := size_items t
    simp only [sizes, List.length_cons]
    omega
theorem i64_of_wf {x : Int} (h : (Lit.int .i64 x).wf = true) : I64 x := by
  simp only [Lit.wf, IntKind.min, IntKind.max, IntKind.signed, IntKind.bits, Bool.and_eq_true] at h
  unfold I64
  simp at h
  omega
theorem TAt.i64 {w : World} {S : Nat → Prop} : ∀ {n : Nat} {v : Value} {t : Tr}, TAt w S n v t → t.i64
  | 0, _, _, h => h.elim
  | n + 1, v, t, h => by
    obtain ⟨hw, A, c, rfl, h⟩ := h
    have hi : i64s t.items := by
      rw [i64s_iff]
      intro x hx
      obtain ⟨j, hj, rfl⟩ := List.mem_iff_getElem.1 hx
      obtain ⟨b, off, _, _, hc⟩ := h (by omega)
      obtain ⟨x0, x1, x2, _, _, _, ht⟩ := hc j hj
      exact TAt.i64 ht
    cases t with | node l m its => exact ⟨i64_of_wf hw, hi⟩

/-! the same -/
mutual
def sameV : Tr → Tr → Bool
  | .node l n i, .node l' n' i' => l == l' && n == n' && sameVs i i'
def sameVs : List Tr → List Tr → Bool
  | [], [] => true
  | [], _ :: _ => false
  | _ :: _, [] => false
  | t :: r, t' :: r' => sameV t t' && sameVs r r'
end
mutual
theorem sameV_iff : ∀ t u : Tr, sameV t u = true ↔ t = u
  | .node l n i, .node l' n' i' => by
    simp only [sameV, Bool.and_eq_true, beq_iff_eq, sameVs_iff i i', Tr.node.injEq, and_assoc]
theorem sameVs_iff : ∀ l m : List Tr, sameVs l m = true ↔ l = m
  | [], [] => by simp [sameVs]
  | [], _ :: _ => by simp [sameVs]
  | _ :: _, [] => by simp [sameVs]
  | t :: r, t' :: r' => by simp only [sameVs, Bool.and_eq_true, sameV_iff t t', sameVs_iff r r', List.cons.injEq]
end
theorem sameV_at {l l' : Bool} {x x' : Int} {i i' : List Tr} (k : Nat) (h : k < i.length) (h' : k < i'.length) (hs : ¬ sameV (i[k]'h) (i'[k]'h') = true) : sameV (.node l x i) (.node l' x' i') = false := by
  rw [Bool.eq_false_iff]
  intro e
  have h2 := (sameV_iff _ _).1 e
  simp only [Tr.node.injEq] at h2
  obtain ⟨_, _, rfl⟩ := h2
  exact hs ((sameV_iff _ _).2 rfl)
end Go.Proofs.YtfpbegagblekiaaDoor.Vals
