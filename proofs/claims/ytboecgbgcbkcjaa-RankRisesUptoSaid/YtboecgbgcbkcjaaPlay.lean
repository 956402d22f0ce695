/- Plain laws on what generators make of choices, whatever the source of the choices is. No program. -/
import Derived.Test.YtboecgbgcbkcjaaGenL
import Derived.Test.YtboecgbgcbkcjaaValL
namespace Go.Proofs.Ytboecgbgcbkcjaa.Gens
open Vals
set_option linter.unusedVariables false

/-- so many times, one behind the other -/
def rep {σ : Type} (f : σ → Except Int (List Int × Tr × σ)) : Nat → σ → Except Int (List Int × List Tr × σ)
  | 0, s => .ok ([], [], s)
  | n + 1, s => match f s with
    | .error e => .error e
    | .ok (c, v, s1) => match rep f n s1 with
      | .error e => .error e
      | .ok (c2, vs, s2) => .ok (c ++ c2, v :: vs, s2)
section
variable {σ : Type} (ch : σ → Int → Except Int (Int × σ))
mutual
/-- the choices, the value, and what is left of the source -/
def play : Gn → σ → Except Int (List Int × Tr × σ)
  | .node k a b subs, s =>
    if k = 1 then .ok ([], .node false a [], s)
    else if k = 2 then match ch s (b - a) with
      | .error e => .error e
      | .ok (x, s1) => .ok ([x], .node false (a + x) [], s1)
    else if k = 5 then match ch s (subs.length - 1) with
      | .error e => .error e
      | .ok (x, s1) => match playAt subs x.toNat s1 with
        | .error e => .error e
        | .ok (c, v, s2) => .ok (x :: c, v, s2)
    else if k = 3 then match playAll subs s with
      | .error e => .error e
      | .ok (c, vs, s1) => .ok (c, .node true 0 vs, s1)
    else match ch s a with
      | .error e => .error e
      | .ok (x, s1) => match playRep subs x.toNat s1 with
        | .error e => .error e
        | .ok (c, vs, s2) => .ok (x :: c, .node true 0 vs, s2)
def playAt : List Gn → Nat → σ → Except Int (List Int × Tr × σ)
  | [], _, s => .ok ([], .node false 0 [], s)
  | g :: _, 0, s => play g s
  | _ :: r, n + 1, s => playAt r n s
def playAll : List Gn → σ → Except Int (List Int × List Tr × σ)
  | [], s => .ok ([], [], s)
  | g :: r, s => match play g s with
    | .error e => .error e
    | .ok (c, v, s1) => match playAll r s1 with
      | .error e => .error e
      | .ok (c2, vs, s2) => .ok (c ++ c2, v :: vs, s2)
def playRep : List Gn → Nat → σ → Except Int (List Int × List Tr × σ)
  | [], _, s => .ok ([], [], s)
  | g :: _, n, s => rep (fun s => play g s) n s
end
end

/-- a source whose choices are what was asked for -/
def Bounded {σ : Type} (ch : σ → Int → Except Int (Int × σ)) : Prop := ∀ s m x s', 0 ≤ m → ch s m = .ok (x, s') → 0 ≤ x ∧ x ≤ m
/-- a source that takes a right choice off a list -/
def Reads (ch : List Int → Int → Except Int (Int × List Int)) : Prop := ∀ x m r, 0 ≤ x → x ≤ m → ch (x :: r) m = .ok (x, r)
theorem rep_again {σ : Type} {f : σ → Except Int (List Int × Tr × σ)} {f' : List Int → Except Int (List Int × Tr × List Int)}
    (hf : ∀ s c v s', f s = .ok (c, v, s') → ∀ r, f' (c ++ r) = .ok (c, v, r)) : ∀ n s c vs s', rep f n s = .ok (c, vs, s') → ∀ r, rep f' n (c ++ r) = .ok (c, vs, r)
  | 0, s, c, vs, s', h, r => by
    simp only [rep, Except.ok.injEq, Prod.mk.injEq] at h
    obtain ⟨rfl, rfl, _⟩ := h
    rfl
  | n + 1, s, c, vs, s', h, r => by
    simp only [rep] at h ⊢
    cases h1 : f s with
    | error e => rw [h1] at h; cases h
    | ok p =>
      obtain ⟨c1, v, s1⟩ := p
      rw [h1] at h
      cases h2 : rep f n s1 with
      | error e => simp only [h2] at h; cases h
      | ok q =>
        obtain ⟨c2, vs2, s2⟩ := q
        simp only [h2, Except.ok.injEq, Prod.mk.injEq] at h
        obtain ⟨rfl, rfl, _⟩ := h
        rw [List.append_assoc, hf s c1 v s1 h1 (c2 ++ r)]
        simp only [rep_again hf n s1 c2 vs2 s2 h2 r]
section
variable {σ : Type} {ch : σ → Int → Except Int (Int × σ)} {ch' : List Int → Int → Except Int (Int × List Int)}
theorem right_max {k a b : Int} {subs : List Gn} (h : Right (.node k a b subs)) : (k = 2 → 0 ≤ b - a ∧ b - a ≤ 1000) ∧ (k = 5 → 0 ≤ (subs.length : Int) - 1) ∧ (k = 4 → 0 ≤ a ∧ a ≤ 5 ∧ subs.length = 1) ∧ 1 ≤ k ∧ k ≤ 5 := by
  obtain ⟨h1, h2, h3, _⟩ := right_of h
  simp [kindBad, rangeBad, subsBad, Gn.kind, Gn.a, Gn.b, Gn.subs] at h1 h2 h3
  have k1 := of_decide_eq_false h1.1
  have k2 := of_decide_eq_false h1.2
  refine ⟨fun e => ?_, fun e => ?_, fun e => ?_, by omega, by omega⟩
  · have q1 := of_decide_eq_false (h2.1.2 e).1.2
    have q2 := of_decide_eq_false (h2.1.2 e).2
    omega
  · cases subs with
    | nil => exact absurd rfl (h3.2 e)
    | cons x r => simp only [List.length_cons]; omega
  · have q1 := of_decide_eq_false (h2.2 e).1
    have q2 := of_decide_eq_false (h2.2 e).2
    exact ⟨by omega, by omega, h3.1.2 e⟩
mutual
/-- the choices that were made make the same of any source that reads them -/
theorem play_again (hb : Bounded ch) (hr : Reads ch') : ∀ (g : Gn), Right g → ∀ s c v s', play ch g s = .ok (c, v, s') → ∀ r, play ch' g (c ++ r) = .ok (c, v, r)
  | .node k a b subs, hg, s, c, v, s', h, r => by
    have hm := right_max hg
    have hs : ∀ x ∈ subs, Right x := hg.subs
    simp only [play] at h ⊢
    split at h
    · rename_i hk
      simp only [Except.ok.injEq, Prod.mk.injEq] at h
      obtain ⟨rfl, rfl, _⟩ := h
      rw [if_pos hk]; rfl
    · rename_i hk1
      rw [if_neg hk1]
      split at h
      · rename_i hk
        rw [if_pos hk]
        cases h1 : ch s (b - a) with
        | error e => rw [h1] at h; cases h
        | ok p =>
          obtain ⟨x, s1⟩ := p
          simp only [h1, Except.ok.injEq, Prod.mk.injEq] at h
          obtain ⟨rfl, rfl, _⟩ := h
          obtain ⟨b1, b2⟩ := hb s _ x s1 (hm.1 hk).1 h1
          simp only [List.cons_append, List.nil_append, hr x _ r b1 b2]
      · rename_i hk2
        rw [if_neg hk2]
        split at h
        · rename_i hk
          rw [if_pos hk]
          cases h1 : ch s (subs.length - 1) with
          | error e => rw [h1] at h; cases h
          | ok p =>
            obtain ⟨x, s1⟩ := p
            simp only [h1] at h
            cases h2 : playAt ch subs x.toNat s1 with
            | error e => simp only [h2] at h; cases h
            | ok q =>
              obtain ⟨c2, v2, s2⟩ := q
              simp only [h2, Except.ok.injEq, Prod.mk.injEq] at h
              obtain ⟨rfl, rfl, _⟩ := h
              obtain ⟨b1, b2⟩ := hb s _ x s1 (hm.2.1 hk) h1
              simp only [List.cons_append, hr x _ (c2 ++ r) b1 b2, at_again hb hr subs hs x.toNat s1 c2 v2 s2 h2 r]
        · rename_i hk5
          rw [if_neg hk5]
          split at h
          · rename_i hk
            rw [if_pos hk]
            cases h1 : playAll ch subs s with
            | error e => rw [h1] at h; cases h
            | ok q =>
              obtain ⟨c2, vs, s2⟩ := q
              simp only [h1, Except.ok.injEq, Prod.mk.injEq] at h
              obtain ⟨rfl, rfl, _⟩ := h
              simp only [all_again hb hr subs hs s c2 vs s2 h1 r]
          · rename_i hk3
            rw [if_neg hk3]
            cases h1 : ch s a with
            | error e => rw [h1] at h; cases h
            | ok p =>
              obtain ⟨x, s1⟩ := p
              simp only [h1] at h
              cases h2 : playRep ch subs x.toNat s1 with
              | error e => simp only [h2] at h; cases h
              | ok q =>
                obtain ⟨c2, vs, s2⟩ := q
                simp only [h2, Except.ok.injEq, Prod.mk.injEq] at h
                obtain ⟨rfl, rfl, _⟩ := h
                obtain ⟨b1, b2⟩ := hb s _ x s1 (hm.2.2.1 (by omega)).1 h1
                simp only [List.cons_append, hr x _ (c2 ++ r) b1 b2, rep_again' hb hr subs hs x.toNat s1 c2 vs s2 h2 r]
theorem at_again (hb : Bounded ch) (hr : Reads ch') : ∀ (l : List Gn), (∀ x ∈ l, Right x) → ∀ n s c v s', playAt ch l n s = .ok (c, v, s') → ∀ r, playAt ch' l n (c ++ r) = .ok (c, v, r)
  | [], _, n, s, c, v, s', h, r => by
    simp only [playAt, Except.ok.injEq, Prod.mk.injEq] at h ⊢
    obtain ⟨rfl, rfl, _⟩ := h
    exact ⟨rfl, rfl, rfl⟩
  | g :: l, hl, 0, s, c, v, s', h, r => by
    simp only [playAt] at h ⊢
    exact play_again hb hr g (hl g (by simp)) s c v s' h r
  | g :: l, hl, n + 1, s, c, v, s', h, r => by
    simp only [playAt] at h ⊢
    exact at_again hb hr l (fun x hx => hl x (by simp [hx])) n s c v s' h r
theorem all_again (hb : Bounded ch) (hr : Reads ch') : ∀ (l : List Gn), (∀ x ∈ l, Right x) → ∀ s c vs s', playAll ch l s = .ok (c, vs, s') → ∀ r, playAll ch' l (c ++ r) = .ok (c, vs, r)
  | [], _, s, c, vs, s', h, r => by
    simp only [playAll, Except.ok.injEq, Prod.mk.injEq] at h ⊢
    obtain ⟨rfl, rfl, _⟩ := h
    exact ⟨rfl, rfl, rfl⟩
  | g :: l, hl, s, c, vs, s', h, r => by
    simp only [playAll] at h ⊢
    cases h1 : play ch g s with
    | error e => rw [h1] at h; cases h
    | ok p =>
      obtain ⟨c1, v, s1⟩ := p
      simp only [h1] at h
      cases h2 : playAll ch l s1 with
      | error e => simp only [h2] at h; cases h
      | ok q =>
        obtain ⟨c2, vs2, s2⟩ := q
        simp only [h2, Except.ok.injEq, Prod.mk.injEq] at h
        obtain ⟨rfl, rfl, _⟩ := h
        rw [List.append_assoc, play_again hb hr g (hl g (by simp)) s c1 v s1 h1 (c2 ++ r)]
        simp only [all_again hb hr l (fun x hx => hl x (by simp [hx])) s1 c2 vs2 s2 h2 r]
theorem rep_again' (hb : Bounded ch) (hr : Reads ch') : ∀ (l : List Gn), (∀ x ∈ l, Right x) → ∀ n s c vs s', playRep ch l n s = .ok (c, vs, s') → ∀ r, playRep ch' l n (c ++ r) = .ok (c, vs, r)
  | [], _, n, s, c, vs, s', h, r => by
    simp only [playRep, Except.ok.injEq, Prod.mk.injEq] at h ⊢
    obtain ⟨rfl, rfl, _⟩ := h
    exact ⟨rfl, rfl, rfl⟩
  | g :: l, hl, n, s, c, vs, s', h, r => by
    simp only [playRep] at h ⊢
    exact rep_again (fun s c v s' h r => play_again hb hr g (hl g (by simp)) s c v s' h r) n s c vs s' h r
end
end
end Go.Proofs.Ytboecgbgcbkcjaa.Gens
