/- Plain laws on plays: of a list of numbers, read or mended. No program. -/
import Derived.Test.YtboecgbgcbkcjaaPlay
namespace Go.Proofs.Ytboecgbgcbkcjaa.Gens
open Vals
set_option linter.unusedVariables false

/-- read: too short 5, out of range 1 -/
def readC (l : List Int) (m : Int) : Except Int (Int × List Int) := match l with
  | [] => .error 5
  | x :: r => if 0 ≤ x ∧ x ≤ m then .ok (x, r) else .error 1
/-- mended -/
def mendX (l : List Int) (m : Int) : Int := match l with
  | [] => max 0 (min 0 m)
  | x :: _ => max 0 (min x m)
def mendC (l : List Int) (m : Int) : Except Int (Int × List Int) := .ok (mendX l m, l.tail)
theorem read_bounded : Bounded readC := by
  intro s m x s' hm h
  unfold readC at h
  split at h
  · cases h
  · split at h
    · rename_i hx
      simp only [Except.ok.injEq, Prod.mk.injEq] at h
      obtain ⟨rfl, _⟩ := h
      exact hx
    · cases h
theorem mend_bounded : Bounded mendC := by
  intro s m x s' hm h
  unfold mendC at h
  simp only [Except.ok.injEq, Prod.mk.injEq] at h
  obtain ⟨rfl, _⟩ := h
  unfold mendX
  split <;> omega
theorem read_reads : Reads readC := by
  intro x m r h1 h2
  unfold readC
  simp only
  rw [if_pos ⟨h1, h2⟩]
theorem mend_reads : Reads mendC := by
  intro x m r h1 h2
  unfold mendC mendX
  simp only [List.tail_cons]
  congr 2
  omega

/-! what is read is what was chosen -/
theorem rep_took {f : List Int → Except Int (List Int × Tr × List Int)} (hf : ∀ l c v r, f l = .ok (c, v, r) → l = c ++ r) : ∀ n l c vs r, rep f n l = .ok (c, vs, r) → l = c ++ r
  | 0, l, c, vs, r, h => by
    simp only [rep, Except.ok.injEq, Prod.mk.injEq] at h
    obtain ⟨rfl, _, rfl⟩ := h
    rfl
  | n + 1, l, c, vs, r, h => by
    simp only [rep] at h
    cases h1 : f l with
    | error e => rw [h1] at h; cases h
    | ok p =>
      obtain ⟨c1, v, s1⟩ := p
      rw [h1] at h
      cases h2 : rep f n s1 with
      | error e => simp only [h2] at h; cases h
      | ok q =>
        obtain ⟨c2, vs2, s2⟩ := q
        simp only [h2, Except.ok.injEq, Prod.mk.injEq] at h
        obtain ⟨rfl, _, rfl⟩ := h
        rw [hf l c1 v s1 h1, rep_took hf n s1 c2 vs2 s2 h2, List.append_assoc]
theorem read_took {l : List Int} {m x : Int} {r : List Int} (h : readC l m = .ok (x, r)) : l = x :: r := by
  unfold readC at h
  split at h
  · cases h
  · split at h
    · simp only [Except.ok.injEq, Prod.mk.injEq] at h
      obtain ⟨rfl, rfl⟩ := h
      rfl
    · cases h
mutual
theorem play_took : ∀ (g : Gn) l c v r, play readC g l = .ok (c, v, r) → l = c ++ r
  | .node k a b subs, l, c, v, r, h => by
    simp only [play] at h
    split at h
    · simp only [Except.ok.injEq, Prod.mk.injEq] at h
      obtain ⟨rfl, _, rfl⟩ := h
      rfl
    · split at h
      · cases h1 : readC l (b - a) with
        | error e => rw [h1] at h; cases h
        | ok p =>
          obtain ⟨x, s1⟩ := p
          simp only [h1, Except.ok.injEq, Prod.mk.injEq] at h
          obtain ⟨rfl, _, rfl⟩ := h
          exact read_took h1
      · split at h
        · cases h1 : readC l (subs.length - 1) with
          | error e => rw [h1] at h; cases h
          | ok p =>
            obtain ⟨x, s1⟩ := p
            simp only [h1] at h
            cases h2 : playAt readC subs x.toNat s1 with
            | error e => simp only [h2] at h; cases h
            | ok q =>
              obtain ⟨c2, v2, s2⟩ := q
              simp only [h2, Except.ok.injEq, Prod.mk.injEq] at h
              obtain ⟨rfl, _, rfl⟩ := h
              rw [read_took h1, at_took subs x.toNat s1 c2 v2 s2 h2]; rfl
        · split at h
          · cases h1 : playAll readC subs l with
            | error e => rw [h1] at h; cases h
            | ok q =>
              obtain ⟨c2, vs, s2⟩ := q
              simp only [h1, Except.ok.injEq, Prod.mk.injEq] at h
              obtain ⟨rfl, _, rfl⟩ := h
              exact all_took subs l c2 vs s2 h1
          · cases h1 : readC l a with
            | error e => rw [h1] at h; cases h
            | ok p =>
              obtain ⟨x, s1⟩ := p
              simp only [h1] at h
              cases h2 : playRep readC subs x.toNat s1 with
              | error e => simp only [h2] at h; cases h
              | ok q =>
                obtain ⟨c2, vs, s2⟩ := q
                simp only [h2, Except.ok.injEq, Prod.mk.injEq] at h
                obtain ⟨rfl, _, rfl⟩ := h
                rw [read_took h1, rep_took' subs x.toNat s1 c2 vs s2 h2]; rfl
theorem at_took : ∀ (l : List Gn) n s c v r, playAt readC l n s = .ok (c, v, r) → s = c ++ r
  | [], n, s, c, v, r, h => by
    simp only [playAt, Except.ok.injEq, Prod.mk.injEq] at h
    obtain ⟨rfl, _, rfl⟩ := h
    rfl
  | g :: l, 0, s, c, v, r, h => by
    simp only [playAt] at h
    exact play_took g s c v r h
  | g :: l, n + 1, s, c, v, r, h => by
    simp only [playAt] at h
    exact at_took l n s c v r h
theorem all_took : ∀ (l : List Gn) s c vs r, playAll readC l s = .ok (c, vs, r) → s = c ++ r
  | [], s, c, vs, r, h => by
    simp only [playAll, Except.ok.injEq, Prod.mk.injEq] at h
    obtain ⟨rfl, _, rfl⟩ := h
    rfl
  | g :: l, s, c, vs, r, h => by
    simp only [playAll] at h
    cases h1 : play readC g s with
    | error e => rw [h1] at h; cases h
    | ok p =>
      obtain ⟨c1, v, s1⟩ := p
      simp only [h1] at h
      cases h2 : playAll readC l s1 with
      | error e => simp only [h2] at h; cases h
      | ok q =>
        obtain ⟨c2, vs2, s2⟩ := q
        simp only [h2, Except.ok.injEq, Prod.mk.injEq] at h
        obtain ⟨rfl, _, rfl⟩ := h
        rw [play_took g s c1 v s1 h1, all_took l s1 c2 vs2 s2 h2, List.append_assoc]
theorem rep_took' : ∀ (l : List Gn) n s c vs r, playRep readC l n s = .ok (c, vs, r) → s = c ++ r
  | [], n, s, c, vs, r, h => by
    simp only [playRep, Except.ok.injEq, Prod.mk.injEq] at h
    obtain ⟨rfl, _, rfl⟩ := h
    rfl
  | g :: l, n, s, c, vs, r, h => by
    simp only [playRep] at h
    exact rep_took (fun l c v r h => play_took g l c v r h) n s c vs r h
end

/-! mending does not fail -/
theorem rep_total {σ : Type} {f : σ → Except Int (List Int × Tr × σ)} (hf : ∀ s, ∃ c v r, f s = .ok (c, v, r)) : ∀ n s, ∃ c vs r, rep f n s = .ok (c, vs, r)
  | 0, s => ⟨[], [], s, rfl⟩
  | n + 1, s => by
    obtain ⟨c, v, r, h⟩ := hf s
    obtain ⟨c2, vs, r2, h2⟩ := rep_total hf n r
    exact ⟨c ++ c2, v :: vs, r2, by simp only [rep, h, h2]⟩
section
variable {σ : Type} {ch : σ → Int → Except Int (Int × σ)}
/-- a source that always answers -/
def Total (ch : σ → Int → Except Int (Int × σ)) : Prop := ∀ s m, 0 ≤ m → ∃ x r, ch s m = .ok (x, r)
mutual
theorem play_total (ht : Total ch) : ∀ (g : Gn), Right g → ∀ s, ∃ c v r, play ch g s = .ok (c, v, r)
  | .node k a b subs, hg, s => by
    have hm := right_max hg
    have hs : ∀ x ∈ subs, Right x := hg.subs
    simp only [play]
    split
    · exact ⟨_, _, _, rfl⟩
    · split
      · rename_i hk
        obtain ⟨x, r, h⟩ := ht s (b - a) (hm.1 hk).1
        exact ⟨[x], .node false (a + x) [], r, by rw [h]⟩
      · split
        · rename_i hk
          obtain ⟨x, r, h⟩ := ht s (subs.length - 1) (hm.2.1 hk)
          obtain ⟨c2, v2, r2, h2⟩ := at_total ht subs hs x.toNat r
          exact ⟨x :: c2, v2, r2, by rw [h]; simp only [h2]⟩
        · split
          · obtain ⟨c2, vs, r2, h2⟩ := all_total ht subs hs s
            exact ⟨c2, .node true 0 vs, r2, by rw [h2]⟩
          · obtain ⟨x, r, h⟩ := ht s a (hm.2.2.1 (by omega)).1
            obtain ⟨c2, vs, r2, h2⟩ := rep_total' ht subs hs x.toNat r
            exact ⟨x :: c2, .node true 0 vs, r2, by rw [h]; simp only [h2]⟩
theorem at_total (ht : Total ch) : ∀ (l : List Gn), (∀ x ∈ l, Right x) → ∀ n s, ∃ c v r, playAt ch l n s = .ok (c, v, r)
  | [], _, n, s => ⟨_, _, _, by rw [playAt]⟩
  | g :: l, hl, 0, s => by
    obtain ⟨c, v, r, h⟩ := play_total ht g (hl g (by simp)) s
    exact ⟨c, v, r, by rw [playAt]; exact h⟩
  | g :: l, hl, n + 1, s => by
    obtain ⟨c, v, r, h⟩ := at_total ht l (fun x hx => hl x (by simp [hx])) n s
    exact ⟨c, v, r, by rw [playAt]; exact h⟩
theorem all_total (ht : Total ch) : ∀ (l : List Gn), (∀ x ∈ l, Right x) → ∀ s, ∃ c vs r, playAll ch l s = .ok (c, vs, r)
  | [], _, s => ⟨_, _, _, by rw [playAll]⟩
  | g :: l, hl, s => by
    obtain ⟨c, v, r, h⟩ := play_total ht g (hl g (by simp)) s
    obtain ⟨c2, vs, r2, h2⟩ := all_total ht l (fun x hx => hl x (by simp [hx])) r
    exact ⟨c ++ c2, v :: vs, r2, by simp only [playAll, h, h2]⟩
theorem rep_total' (ht : Total ch) : ∀ (l : List Gn), (∀ x ∈ l, Right x) → ∀ n s, ∃ c vs r, playRep ch l n s = .ok (c, vs, r)
  | [], _, n, s => ⟨_, _, _, by rw [playRep]⟩
  | g :: l, hl, n, s => by
    obtain ⟨c, vs, r, h⟩ := rep_total (f := fun s => play ch g s) (fun s => play_total ht g (hl g (by simp)) s) n s
    exact ⟨c, vs, r, by rw [playRep]; exact h⟩
end
end
theorem mend_total : Total mendC := fun s m _ => ⟨_, _, rfl⟩

/-! torn it is short -/
theorem prefix_cases {α : Type} : ∀ (p q c1 c2 : List α), p ++ q = c1 ++ c2 → (∃ q', c1 = p ++ q' ∧ q' ≠ []) ∨ (∃ p', p = c1 ++ p' ∧ c2 = p' ++ q)
  | [], q, c1, c2, h => by
    cases c1 with
    | nil => exact .inr ⟨[], rfl, by simpa using h.symm⟩
    | cons x c1 => exact .inl ⟨x :: c1, rfl, by simp⟩
  | x :: p, q, [], c2, h => .inr ⟨x :: p, rfl, by simpa using h.symm⟩
  | x :: p, q, y :: c1, c2, h => by
    simp only [List.cons_append, List.cons.injEq] at h
    obtain ⟨rfl, h⟩ := h
    rcases prefix_cases p q c1 c2 h with ⟨q', e, hq⟩ | ⟨p', e1, e2⟩
    · exact .inl ⟨q', by rw [e]; rfl, hq⟩
    · exact .inr ⟨p', by rw [e1]; rfl, e2⟩
theorem read_ok {l : List Int} {m x : Int} {r : List Int} (h : readC l m = .ok (x, r)) (p : List Int) : readC (x :: p) m = .ok (x, p) := by
  unfold readC at h
  split at h
  · cases h
  · split at h
    · rename_i hx
      simp only [Except.ok.injEq, Prod.mk.injEq] at h
      obtain ⟨rfl, _⟩ := h
      unfold readC
      simp only [if_pos hx]
    · cases h
theorem cons_cases {α : Type} {x : α} {c p q : List α} (h : x :: c = p ++ q) : (p = [] ∧ q = x :: c) ∨ ∃ p', p = x :: p' ∧ c = p' ++ q := by
  cases p with
  | nil => exact .inl ⟨rfl, h.symm⟩
  | cons y p =>
    simp only [List.cons_append, List.cons.injEq] at h
    obtain ⟨rfl, h⟩ := h
    exact .inr ⟨p, rfl, h⟩
theorem rep_torn {f : List Int → Except Int (List Int × Tr × List Int)} (hf : ∀ l c v r, f l = .ok (c, v, r) → ∀ p q, c = p ++ q → q ≠ [] → f p = .error 5) (ha : ∀ l c v r, f l = .ok (c, v, r) → ∀ m, f (c ++ m) = .ok (c, v, m)) :
    ∀ n l c vs r, rep f n l = .ok (c, vs, r) → ∀ p q, c = p ++ q → q ≠ [] → rep f n p = .error 5
  | 0, l, c, vs, r, h, p, q, e, hq => by
    simp only [rep, Except.ok.injEq, Prod.mk.injEq] at h
    obtain ⟨rfl, _, _⟩ := h
    exact absurd (List.append_eq_nil_iff.1 e.symm).2 hq
  | n + 1, l, c, vs, r, h, p, q, e, hq => by
    simp only [rep] at h ⊢
    cases h1 : f l with
    | error e => rw [h1] at h; cases h
    | ok z =>
      obtain ⟨c1, v, s1⟩ := z
      rw [h1] at h
      cases h2 : rep f n s1 with
      | error e => simp only [h2] at h; cases h
      | ok y =>
        obtain ⟨c2, vs2, s2⟩ := y
        simp only [h2, Except.ok.injEq, Prod.mk.injEq] at h
        obtain ⟨rfl, _, _⟩ := h
        rcases prefix_cases p q c1 c2 e.symm with ⟨q', e1, hq'⟩ | ⟨p', rfl, e2⟩
        · simp only [hf l c1 v s1 h1 p q' e1 hq']
        · simp only [ha l c1 v s1 h1 p', rep_torn hf ha n s1 c2 vs2 s2 h2 p' q e2 hq]
mutual
theorem play_torn : ∀ (g : Gn), Right g → ∀ l c v r, play readC g l = .ok (c, v, r) → ∀ p q, c = p ++ q → q ≠ [] → play readC g p = .error 5
  | .node k a b subs, hg, l, c, v, r, h, p, q, e, hq => by
    have hs : ∀ x ∈ subs, Right x := hg.subs
    simp only [play] at h ⊢
    split at h
    · simp only [Except.ok.injEq, Prod.mk.injEq] at h
      obtain ⟨rfl, _, _⟩ := h
      exact absurd (List.append_eq_nil_iff.1 e.symm).2 hq
    · rename_i hk1
      rw [if_neg hk1]
      split at h
      · rename_i hk
        rw [if_pos hk]
        cases h1 : readC l (b - a) with
        | error e => rw [h1] at h; cases h
        | ok z =>
          obtain ⟨x, s1⟩ := z
          simp only [h1, Except.ok.injEq, Prod.mk.injEq] at h
          obtain ⟨rfl, _, _⟩ := h
          rcases cons_cases e with ⟨rfl, _⟩ | ⟨p', rfl, e2⟩
          · rfl
          · exact absurd (List.append_eq_nil_iff.1 e2.symm).2 hq
      · rename_i hk2
        rw [if_neg hk2]
        split at h
        · rename_i hk
          rw [if_pos hk]
          cases h1 : readC l (subs.length - 1) with
          | error e => rw [h1] at h; cases h
          | ok z =>
            obtain ⟨x, s1⟩ := z
            simp only [h1] at h
            cases h2 : playAt readC subs x.toNat s1 with
            | error e => simp only [h2] at h; cases h
            | ok y =>
              obtain ⟨c2, v2, s2⟩ := y
              simp only [h2, Except.ok.injEq, Prod.mk.injEq] at h
              obtain ⟨rfl, _, _⟩ := h
              rcases cons_cases e with ⟨rfl, _⟩ | ⟨p', rfl, e2⟩
              · rfl
              · simp only [read_ok h1 p', at_torn subs hs x.toNat s1 c2 v2 s2 h2 p' q e2 hq]
        · rename_i hk5
          rw [if_neg hk5]
          split at h
          · rename_i hk
            rw [if_pos hk]
            cases h1 : playAll readC subs l with
            | error e => rw [h1] at h; cases h
            | ok y =>
              obtain ⟨c2, vs, s2⟩ := y
              simp only [h1, Except.ok.injEq, Prod.mk.injEq] at h
              obtain ⟨rfl, _, _⟩ := h
              simp only [all_torn subs hs l c2 vs s2 h1 p q e hq]
          · rename_i hk3
            rw [if_neg hk3]
            cases h1 : readC l a with
            | error e => rw [h1] at h; cases h
            | ok z =>
              obtain ⟨x, s1⟩ := z
              simp only [h1] at h
              cases h2 : playRep readC subs x.toNat s1 with
              | error e => simp only [h2] at h; cases h
              | ok y =>
                obtain ⟨c2, vs, s2⟩ := y
                simp only [h2, Except.ok.injEq, Prod.mk.injEq] at h
                obtain ⟨rfl, _, _⟩ := h
                rcases cons_cases e with ⟨rfl, _⟩ | ⟨p', rfl, e2⟩
                · rfl
                · simp only [read_ok h1 p', rep_torn' subs hs x.toNat s1 c2 vs s2 h2 p' q e2 hq]
theorem at_torn : ∀ (l : List Gn), (∀ x ∈ l, Right x) → ∀ n s c v r, playAt readC l n s = .ok (c, v, r) → ∀ p q, c = p ++ q → q ≠ [] → playAt readC l n p = .error 5
  | [], _, n, s, c, v, r, h, p, q, e, hq => by
    simp only [playAt, Except.ok.injEq, Prod.mk.injEq] at h
    obtain ⟨rfl, _, _⟩ := h
    exact absurd (List.append_eq_nil_iff.1 e.symm).2 hq
  | g :: l, hl, 0, s, c, v, r, h, p, q, e, hq => by
    simp only [playAt] at h ⊢
    exact play_torn g (hl g (by simp)) s c v r h p q e hq
  | g :: l, hl, n + 1, s, c, v, r, h, p, q, e, hq => by
    simp only [playAt] at h ⊢
    exact at_torn l (fun x hx => hl x (by simp [hx])) n s c v r h p q e hq
theorem all_torn : ∀ (l : List Gn), (∀ x ∈ l, Right x) → ∀ s c vs r, playAll readC l s = .ok (c, vs, r) → ∀ p q, c = p ++ q → q ≠ [] → playAll readC l p = .error 5
  | [], _, s, c, vs, r, h, p, q, e, hq => by
    simp only [playAll, Except.ok.injEq, Prod.mk.injEq] at h
    obtain ⟨rfl, _, _⟩ := h
    exact absurd (List.append_eq_nil_iff.1 e.symm).2 hq
  | g :: l, hl, s, c, vs, r, h, p, q, e, hq => by
    simp only [playAll] at h ⊢
    cases h1 : play readC g s with
    | error e => rw [h1] at h; cases h
    | ok z =>
      obtain ⟨c1, v, s1⟩ := z
      simp only [h1] at h
      cases h2 : playAll readC l s1 with
      | error e => simp only [h2] at h; cases h
      | ok y =>
        obtain ⟨c2, vs2, s2⟩ := y
        simp only [h2, Except.ok.injEq, Prod.mk.injEq] at h
        obtain ⟨rfl, _, _⟩ := h
        rcases prefix_cases p q c1 c2 e.symm with ⟨q', e1, hq'⟩ | ⟨p', rfl, e2⟩
        · simp only [play_torn g (hl g (by simp)) s c1 v s1 h1 p q' e1 hq']
        · simp only [play_again read_bounded read_reads g (hl g (by simp)) s c1 v s1 h1 p', all_torn l (fun x hx => hl x (by simp [hx])) s1 c2 vs2 s2 h2 p' q e2 hq]
theorem rep_torn' : ∀ (l : List Gn), (∀ x ∈ l, Right x) → ∀ n s c vs r, playRep readC l n s = .ok (c, vs, r) → ∀ p q, c = p ++ q → q ≠ [] → playRep readC l n p = .error 5
  | [], _, n, s, c, vs, r, h, p, q, e, hq => by
    simp only [playRep, Except.ok.injEq, Prod.mk.injEq] at h
    obtain ⟨rfl, _, _⟩ := h
    exact absurd (List.append_eq_nil_iff.1 e.symm).2 hq
  | g :: l, hl, n, s, c, vs, r, h, p, q, e, hq => by
    simp only [playRep] at h ⊢
    exact rep_torn (fun l c v r h p q e hq => play_torn g (hl g (by simp)) l c v r h p q e hq) (fun l c v r h m => play_again read_bounded read_reads g (hl g (by simp)) l c v r h m) n s c vs r h p q e hq
end

/-! what the layer's functions come to -/
/-- the tape of what is mended, its value -/
theorem mend_ex {g : Gn} (hg : Right g) (l : List Int) : ∃ c v r, play mendC g l = .ok (c, v, r) := play_total mend_total g hg l
/-- what is mended is read: it makes a value, and what stands behind is left -/
theorem mend_read {g : Gn} (hg : Right g) {l c r : List Int} {v : Tr} (h : play mendC g l = .ok (c, v, r)) (m : List Int) : play readC g (c ++ m) = .ok (c, v, m) :=
  play_again mend_bounded read_reads g hg l c v r h m
/-- mended again it is the same -/
theorem mend_mend {g : Gn} (hg : Right g) {l c r : List Int} {v : Tr} (h : play mendC g l = .ok (c, v, r)) (m : List Int) : play mendC g (c ++ m) = .ok (c, v, m) :=
  play_again mend_bounded mend_reads g hg l c v r h m
/-- what can be read to its end is its own mending, and the other way round -/
theorem read_own {g : Gn} (hg : Right g) {l c r : List Int} {v : Tr} (h : play mendC g l = .ok (c, v, r)) : (∃ c' v', play readC g l = .ok (c', v', [])) ↔ c = l := by
  constructor
  · rintro ⟨c', v', h'⟩
    have h1 := play_took g l c' v' [] h'
    rw [List.append_nil] at h1
    subst h1
    have h2 := play_again read_bounded mend_reads g hg l l v' [] h' []
    rw [List.append_nil, h] at h2
    simp only [Except.ok.injEq, Prod.mk.injEq] at h2
    exact h2.1
  · rintro rfl
    have := mend_read hg h []
    rw [List.append_nil] at this
    exact ⟨c, v, this⟩
end Go.Proofs.Ytboecgbgcbkcjaa.Gens
