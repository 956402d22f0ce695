/- Plain laws on texts cut at points. No program. -/
import Derived.Test.YtjajjadhnfhofaaDoorNumL
namespace Go.Proofs.YtjajjadhnfhofaaDoor.Lists
open Go.Lib (itoa)

theorem splitL_ne (l : List UInt8) : splitL l ≠ [] := by rw [splitL_cut]; simp
theorem splitL_snoc : ∀ (l : List UInt8) (c : UInt8) (ps : List (List UInt8)) (q : List UInt8), splitL l = ps ++ [q] → splitL (l ++ [c]) = if c = 46 then (ps ++ [q]) ++ [[]] else ps ++ [q ++ [c]]
  | [], c, ps, q, h => by
    have h2 : ps = [] ∧ q = [] := by
      cases ps with
      | nil => simp [splitL] at h; exact ⟨rfl, h⟩
      | cons a b => simp [splitL] at h
    obtain ⟨rfl, rfl⟩ := h2
    by_cases e : c = 46 <;> simp [splitL, e]
  | a :: l, c, ps, q, h => by
    by_cases e : a = 46
    · simp only [List.cons_append, splitL, if_pos e] at h ⊢
      cases ps with
      | nil =>
        simp only [List.nil_append, List.cons.injEq] at h
        exact absurd h.2 (splitL_ne l)
      | cons x ps' =>
        simp only [List.cons_append, List.cons.injEq] at h
        obtain ⟨rfl, h2⟩ := h
        rw [splitL_snoc l c ps' q h2]
        by_cases e2 : c = 46 <;> simp [e2]
    · simp only [List.cons_append, splitL, if_neg e] at h ⊢
      cases hs : splitL l with
      | nil => exact absurd hs (splitL_ne l)
      | cons p ps'' =>
        rw [hs] at h
        simp only at h
        cases ps with
        | nil =>
          simp only [List.nil_append, List.cons.injEq] at h
          obtain ⟨h1, h2⟩ := h
          subst h1 h2
          rw [splitL_snoc l c [] p (by rw [hs]; rfl)]
          by_cases e2 : c = 46 <;> simp [e2]
        | cons x ps1 =>
          simp only [List.cons_append, List.cons.injEq] at h
          obtain ⟨h1, h2⟩ := h
          subst h1 h2
          rw [splitL_snoc l c (p :: ps1) q (by rw [hs]; rfl)]
          by_cases e2 : c = 46 <;> simp [e2]
def joinP : List (List UInt8) → List UInt8
  | [] => []
  | [p] => p
  | p :: q :: r => p ++ 46 :: joinP (q :: r)
theorem joinP_cons (p : List UInt8) (ps : List (List UInt8)) (h : ps ≠ []) : joinP (p :: ps) = p ++ 46 :: joinP ps := by
  cases ps with
  | nil => exact absurd rfl h
  | cons q r => rfl
theorem join_split : ∀ l, joinP (splitL l) = l
  | [] => rfl
  | c :: r => by
    have ih := join_split r
    by_cases e : c = 46
    · subst e
      simp only [splitL, if_true]
      rw [joinP_cons _ _ (splitL_ne r), ih]; rfl
    · simp only [splitL, if_neg e]
      cases hs : splitL r with
      | nil => exact absurd hs (splitL_ne r)
      | cons p ps =>
        rw [hs] at ih
        simp only
        cases ps with
        | nil => simp only [joinP] at ih ⊢; rw [ih]
        | cons q t =>
          rw [joinP_cons _ _ (by simp)] at ih ⊢
          rw [List.cons_append, ih]
theorem textL_join : ∀ l : List Int, textL l = joinP (l.map itoa)
  | [] => rfl
  | [n] => rfl
  | n :: m :: r => by
    have ih := textL_join (m :: r)
    simp only [textL, List.map_cons, joinP] at ih ⊢
    rw [ih]
theorem splitL_len : ∀ (l p : List UInt8), p ∈ splitL l → p.length ≤ l.length
  | [], p, h => by simp [splitL] at h; subst h; simp
  | c :: r, p, h => by
    by_cases e : c = 46
    · simp only [splitL, if_pos e] at h
      rcases List.mem_cons.1 h with rfl | h
      · simp
      · have := splitL_len r p h; simp; omega
    · simp only [splitL, if_neg e] at h
      cases hs : splitL r with
      | nil => exact absurd hs (splitL_ne r)
      | cons q qs =>
        rw [hs] at h
        simp only at h
        rcases List.mem_cons.1 h with rfl | h
        · have := splitL_len r q (by rw [hs]; simp); simp; omega
        · have := splitL_len r p (by rw [hs]; simp [h]); simp; omega
theorem map_itoa_inj : ∀ (l m : List Int), l.map itoa = m.map itoa → l = m
  | [], [], _ => rfl
  | [], _ :: _, h => by simp at h
  | _ :: _, [], h => by simp at h
  | a :: l, b :: m, h => by
    simp only [List.map_cons, List.cons.injEq] at h
    rw [itoa_inj h.1, map_itoa_inj l m h.2]
theorem split_of_parse {s : List UInt8} {l : List Int} (hs : s ≠ []) (h : parseL s = some l) : splitL s = l.map itoa ∧ Valid l := by
  obtain ⟨h1, h2⟩ := parseL_sound h
  have hl : l ≠ [] := by
    intro e; subst e; exact hs h1.symm
  exact ⟨by rw [← h1]; exact split_text l hl, h2⟩
theorem parse_of_split {s : List UInt8} {l : List Int} (h : splitL s = l.map itoa) (hv : Valid l) : parseL s = some l := by
  have h1 : textL l = s := by rw [textL_join, ← h, join_split]
  rw [← h1]
  exact parse_text l hv
theorem parse_fault {s : List UInt8} {l : List Int} (hs : s ≠ []) (h : splitL s = l.map itoa) (hv : ¬ Valid l) : parseL s = none := by
  cases hp : parseL s with
  | none => rfl
  | some m =>
    obtain ⟨h1, h2⟩ := split_of_parse hs hp
    rw [h] at h1
    rw [map_itoa_inj l m h1] at hv
    exact absurd h2 hv
theorem parse_bad {s p : List UInt8} (hs : s ≠ []) (hp : p ∈ splitL s) (hn : ∀ v, I64 v → itoa v ≠ p) : parseL s = none := by
  cases hq : parseL s with
  | none => rfl
  | some m =>
    obtain ⟨h1, h2⟩ := split_of_parse hs hq
    rw [h1] at hp
    obtain ⟨v, hv, e⟩ := List.mem_map.1 hp
    have := h2 v hv
    exact absurd e (hn v (by unfold I64; omega))
end Go.Proofs.YtjajjadhnfhofaaDoor.Lists
