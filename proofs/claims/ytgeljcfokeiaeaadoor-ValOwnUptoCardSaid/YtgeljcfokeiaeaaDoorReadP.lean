/- Plain laws on what a reading of a list has come to, where nothing may be left. No program. -/
import Derived.Test.YtgeljcfokeiaeaaDoorNumP
namespace Go.Proofs.YtgeljcfokeiaeaaDoor.Vals
open Go.Lib (itoa)
open Lists

theorem textV_ne (t : Tr) : textV t ≠ [] := by
  obtain ⟨c, r, e, _⟩ := textV_head t
  rw [e]; simp
theorem next_nil (acc : List Tr) : next acc [] = [] := by unfold next; split <;> rfl
/-- Where the reading of a list stands ahead of an item: 'acc' is read, behind it is 'l'. -/
def LI (d : Nat) (body : List UInt8) (acc : List Tr) (l : List UInt8) : Prop :=
  ∃ rest, Read d body acc rest ∧ (∀ tl, rest ≠ 41 :: tl) ∧ (acc ≠ [] → ∃ tl, rest = 32 :: tl) ∧ next acc rest = l
theorem LI.start {d : Nat} {body : List UInt8} (h : ∀ tl, body ≠ 41 :: tl) : LI d body [] body :=
  ⟨body, read_nil d body, h, fun e => absurd rfl e, by simp [next]⟩
/-- no item is there: no list is -/
theorem LI.no {d : Nat} {body l : List UInt8} {acc : List Tr} (h : LI d body acc l) (hn : ∀ t r, Good d t → Fits t r → l ≠ textV t ++ r) : ∀ its r, (∀ x ∈ its, Good d x) → body ≠ textVs its ++ 41 :: r := by
  obtain ⟨rest, h1, h2, _, rfl⟩ := h
  cases rest with
  | nil => exact read_end h1
  | cons c q => exact read_no h1 (fun e => h2 q (by rw [e])) hn
/-- an item is read -/
theorem LI.item {d : Nat} {body l r' : List UInt8} {acc : List Tr} {t : Tr} (h : LI d body acc l) (ht : Good d t) (hf : FitsW t r') (e : l = textV t ++ r') : Read d body (acc ++ [t]) r' := by
  obtain ⟨rest, h1, h2, h3, h4⟩ := h
  cases rest with
  | nil =>
    rw [next_nil] at h4
    rw [e] at h4
    exact absurd (List.append_eq_nil_iff.1 h4.symm).1 (textV_ne t)
  | cons c q => exact read_item h1 (fun e => h2 q (by rw [e])) (fun ha => by obtain ⟨tl, e2⟩ := h3 ha; exact (List.cons.injEq _ _ _ _ ▸ e2).1) ht hf (h4.trans e)
/-- a blank behind it: the next item -/
theorem LI.blank {d : Nat} {body l : List UInt8} {acc : List Tr} (h : Read d body acc (32 :: l)) (ha : acc ≠ []) : LI d body acc l :=
  ⟨32 :: l, h, (fun tl e => by simp at e), fun _ => ⟨l, rfl⟩, by unfold next; rw [if_neg ha]; rfl⟩
/-- neither: no list is there -/
theorem read_none {d : Nat} {body l : List UInt8} {acc : List Tr} (h : Read d body acc l) (ha : acc ≠ []) (h1 : ∀ tl, l ≠ 41 :: tl) (h2 : ∀ tl, l ≠ 32 :: tl) : ∀ its r, (∀ x ∈ its, Good d x) → body ≠ textVs its ++ 41 :: r := by
  cases l with
  | nil => exact read_end h
  | cons c q => exact read_blank h ha (fun e => h1 q (by rw [e])) (fun e => h2 q (by rw [e]))
theorem good_num {k : Nat} {n : Int} (hn : I64 n) : Good (k + 1) (.node false n []) := by
  refine ⟨?_, hn, trivial⟩
  simp [okB, formBad, Tr.list, Tr.num, Tr.items]
theorem good_list {k : Nat} {its : List Tr} (h : ∀ x ∈ its, Good k x) : Good (k + 1) (.node true 0 its) := by
  refine ⟨?_, by unfold I64; omega, (i64s_iff its).2 fun x hx => (h x hx).2⟩
  simp only [okB, formBad, Tr.list, Tr.num, Tr.items]
  simpa using fun x hx => (h x hx).1
theorem good_items {k : Nat} {t : Tr} (h : Good (k + 1) t) : ∀ x ∈ t.items, Good k x := by
  obtain ⟨h1, h2⟩ := h
  simp only [okB, Bool.and_eq_true, List.all_eq_true] at h1
  exact fun x hx => ⟨h1.2 x hx, Tr.i64_items h2 x hx⟩
theorem good_zero {t : Tr} (h : Good 0 t) : False := by
  have := h.1
  simp [okB] at this
/-- the length of a text bounds its value -/
theorem sizes_tail (P : Tr → Prop) (hP : ∀ x, P x → x.size ≤ (textV x).length) : ∀ l : List Tr, (∀ x ∈ l, P x) → sizes l ≤ (textTail l).length
  | [], _ => by simp [sizes]
  | x :: r, h => by
    have h1 := hP x (h x (by simp))
    have h2 := sizes_tail P hP r (fun y hy => h y (by simp [hy]))
    simp only [sizes, textTail, List.length_cons, List.length_append]
    omega
theorem sizes_text (P : Tr → Prop) (hP : ∀ x, P x → x.size ≤ (textV x).length) : ∀ l : List Tr, (∀ x ∈ l, P x) → sizes l ≤ (textVs l).length
  | [], _ => by simp [sizes]
  | x :: r, h => by
    have h1 := hP x (h x (by simp))
    have h2 := sizes_tail P hP r (fun y hy => h y (by simp [hy]))
    simp only [sizes, textVs, List.length_append]
    omega
theorem size_text : ∀ (d : Nat) (t : Tr), okB d t = true → t.size ≤ (textV t).length
  | 0, t, h => by simp [okB] at h
  | d + 1, t, h => by
    simp only [okB, Bool.and_eq_true, Bool.not_eq_true', List.all_eq_true] at h
    have hs := size_items t
    cases hl : t.list with
    | false =>
      rw [hs, formBad_num h.1 hl, textV_num t hl]
      have := List.length_pos_iff.2 (itoa_ne t.num)
      simp only [sizes]
      omega
    | true =>
      rw [hs, textV_list t hl]
      have := sizes_text (fun x => okB d x = true) (fun x hx => size_text d x hx) t.items h.2
      simp only [List.length_cons, List.length_append, List.length_nil]
      omega
theorem good_size {d : Nat} {t : Tr} (h : Good d t) : t.size ≤ (textV t).length := size_text d t h.1
end Go.Proofs.YtgeljcfokeiaeaaDoor.Vals
