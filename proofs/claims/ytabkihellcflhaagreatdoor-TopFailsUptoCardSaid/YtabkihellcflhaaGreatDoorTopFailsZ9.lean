/- TopFails, part 9 of the proof: Play: merged of Play, Play2, Play3, Play4, Play5, Play6. -/
import Derived.Test.YtabkihellcflhaaGreatDoorTopFailsZ1
import Derived.Test.YtabkihellcflhaaGreatDoorTopFailsZ7
/- Play: merged of Play, Play2, Play3, Play4, Play5, Play6. -/
/- Plain laws on what generators make of choices, whatever the source of the choices is. No program. -/
namespace Go.Proofs.YtabkihellcflhaaGreatDoor.Gens
open Vals
set_option linter.unusedVariables false

/-- so many times, one behind the other -/
def rep {σ : Type} (f : σ → Except Int (List Int × Tr × σ)) : Nat → σ → Except Int (List Int × List Tr × σ)
  | 0, s => .ok ([], [], s)
  | n + 1, s => match f s with
    | .error e => .error e
    | .ok (c, v, s1) => match rep f n s1 with
      | .error e => .error e
      | .ok (c2, vs, s2) => .ok (c ++ c2, v :: vs, s2)
section
variable {σ : Type} (ch : σ → Int → Except Int (Int × σ))
mutual
/-- the choices, the value, and what is left of the source -/
def play : Gn → σ → Except Int (List Int × Tr × σ)
  | .node k a b subs, s =>
    if k = 1 then .ok ([], .node false a [], s)
    else if k = 2 then match ch s (b - a) with
      | .error e => .error e
      | .ok (x, s1) => .ok ([x], .node false (a + x) [], s1)
    else if k = 5 then match ch s (subs.length - 1) with
      | .error e => .error e
      | .ok (x, s1) => match playAt subs x.toNat s1 with
        | .error e => .error e
        | .ok (c, v, s2) => .ok (x :: c, v, s2)
    else if k = 3 then match playAll subs s with
      | .error e => .error e
      | .ok (c, vs, s1) => .ok (c, .node true 0 vs, s1)
    else match ch s a with
      | .error e => .error e
      | .ok (x, s1) => match playRep subs x.toNat s1 with
        | .error e => .error e
        | .ok (c, vs, s2) => .ok (x :: c, .node true 0 vs, s2)
def playAt : List Gn → Nat → σ → Except Int (List Int × Tr × σ)
  | [], _, s => .ok ([], .node false 0 [], s)
  | g :: _, 0, s => play g s
  | _ :: r, n + 1, s => playAt r n s
def playAll : List Gn → σ → Except Int (List Int × List Tr × σ)
  | [], s => .ok ([], [], s)
  | g :: r, s => match play g s with
    | .error e => .error e
    | .ok (c, v, s1) => match playAll r s1 with
      | .error e => .error e
      | .ok (c2, vs, s2) => .ok (c ++ c2, v :: vs, s2)
def playRep : List Gn → Nat → σ → Except Int (List Int × List Tr × σ)
  | [], _, s => .ok ([], [], s)
  | g :: _, n, s => rep (fun s => play g s) n s
end
end

/-- a source whose choices are what was asked for -/
def Bounded {σ : Type} (ch : σ → Int → Except Int (Int × σ)) : Prop := ∀ s m x s', 0 ≤ m → ch s m = .ok (x, s') → 0 ≤ x ∧ x ≤ m
/-- a source that takes a right choice off a list -/
def Reads (ch : List Int → Int → Except Int (Int × List Int)) : Prop := ∀ x m r, 0 ≤ x → x ≤ m → ch (x :: r) m = .ok (x, r)
theorem rep_again {σ : Type} {f : σ → Except Int (List Int × Tr × σ)} {f' : List Int → Except Int (List Int × Tr × List Int)}
    (hf : ∀ s c v s', f s = .ok (c, v, s') → ∀ r, f' (c ++ r) = .ok (c, v, r)) : ∀ n s c vs s', rep f n s = .ok (c, vs, s') → ∀ r, rep f' n (c ++ r) = .ok (c, vs, r)
  | 0, s, c, vs, s', h, r => by
    simp only [rep, Except.ok.injEq, Prod.mk.injEq] at h
    obtain ⟨rfl, rfl, _⟩ := h
    rfl
  | n + 1, s, c, vs, s', h, r => by
    simp only [rep] at h ⊢
    cases h1 : f s with
    | error e => rw [h1] at h; cases h
    | ok p =>
      obtain ⟨c1, v, s1⟩ := p
      rw [h1] at h
      cases h2 : rep f n s1 with
      | error e => simp only [h2] at h; cases h
      | ok q =>
        obtain ⟨c2, vs2, s2⟩ := q
        simp only [h2, Except.ok.injEq, Prod.mk.injEq] at h
        obtain ⟨rfl, rfl, _⟩ := h
        rw [List.append_assoc, hf s c1 v s1 h1 (c2 ++ r)]
        simp only [rep_again hf n s1 c2 vs2 s2 h2 r]
section
variable {σ : Type} {ch : σ → Int → Except Int (Int × σ)} {ch' : List Int → Int → Except Int (Int × List Int)}
theorem right_max {k a b : Int} {subs : List Gn} (h : Right (.node k a b subs)) : (k = 2 → 0 ≤ b - a ∧ b - a ≤ 1000) ∧ (k = 5 → 0 ≤ (subs.length : Int) - 1) ∧ (k = 4 → 0 ≤ a ∧ a ≤ 5 ∧ subs.length = 1) ∧ 1 ≤ k ∧ k ≤ 5 := by
  obtain ⟨h1, h2, h3, _⟩ := right_of h
  simp [kindBad, rangeBad, subsBad, Gn.kind, Gn.a, Gn.b, Gn.subs] at h1 h2 h3
  have k1 := of_decide_eq_false h1.1
  have k2 := of_decide_eq_false h1.2
  refine ⟨fun e => ?_, fun e => ?_, fun e => ?_, by omega, by omega⟩
  · have q1 := of_decide_eq_false (h2.1.2 e).1.2
    have q2 := of_decide_eq_false (h2.1.2 e).2
    omega
  · cases subs with
    | nil => exact absurd rfl (h3.2 e)
    | cons x r => simp only [List.length_cons]; omega
  · have q1 := of_decide_eq_false (h2.2 e).1
    have q2 := of_decide_eq_false (h2.2 e).2
    exact ⟨by omega, by omega, h3.1.2 e⟩
mutual
/-- the choices that were made make the same of any source that reads them -/
theorem play_again (hb : Bounded ch) (hr : Reads ch') : ∀ (g : Gn), Right g → ∀ s c v s', play ch g s = .ok (c, v, s') → ∀ r, play ch' g (c ++ r) = .ok (c, v, r)
  | .node k a b subs, hg, s, c, v, s', h, r => by
    have hm := right_max hg
    have hs : ∀ x ∈ subs, Right x := hg.subs
    simp only [play] at h ⊢
    split at h
    · rename_i hk
      simp only [Except.ok.injEq, Prod.mk.injEq] at h
      obtain ⟨rfl, rfl, _⟩ := h
      rw [if_pos hk]; rfl
    · rename_i hk1
      rw [if_neg hk1]
      split at h
      · rename_i hk
        rw [if_pos hk]
        cases h1 : ch s (b - a) with
        | error e => rw [h1] at h; cases h
        | ok p =>
          obtain ⟨x, s1⟩ := p
          simp only [h1, Except.ok.injEq, Prod.mk.injEq] at h
          obtain ⟨rfl, rfl, _⟩ := h
          obtain ⟨b1, b2⟩ := hb s _ x s1 (hm.1 hk).1 h1
          simp only [List.cons_append, List.nil_append, hr x _ r b1 b2]
      · rename_i hk2
        rw [if_neg hk2]
        split at h
        · rename_i hk
          rw [if_pos hk]
          cases h1 : ch s (subs.length - 1) with
          | error e => rw [h1] at h; cases h
          | ok p =>
            obtain ⟨x, s1⟩ := p
            simp only [h1] at h
            cases h2 : playAt ch subs x.toNat s1 with
            | error e => simp only [h2] at h; cases h
            | ok q =>
              obtain ⟨c2, v2, s2⟩ := q
              simp only [h2, Except.ok.injEq, Prod.mk.injEq] at h
              obtain ⟨rfl, rfl, _⟩ := h
              obtain ⟨b1, b2⟩ := hb s _ x s1 (hm.2.1 hk) h1
              simp only [List.cons_append, hr x _ (c2 ++ r) b1 b2, at_again hb hr subs hs x.toNat s1 c2 v2 s2 h2 r]
        · rename_i hk5
          rw [if_neg hk5]
          split at h
          · rename_i hk
            rw [if_pos hk]
            cases h1 : playAll ch subs s with
            | error e => rw [h1] at h; cases h
            | ok q =>
              obtain ⟨c2, vs, s2⟩ := q
              simp only [h1, Except.ok.injEq, Prod.mk.injEq] at h
              obtain ⟨rfl, rfl, _⟩ := h
              simp only [all_again hb hr subs hs s c2 vs s2 h1 r]
          · rename_i hk3
            rw [if_neg hk3]
            cases h1 : ch s a with
            | error e => rw [h1] at h; cases h
            | ok p =>
              obtain ⟨x, s1⟩ := p
              simp only [h1] at h
              cases h2 : playRep ch subs x.toNat s1 with
              | error e => simp only [h2] at h; cases h
              | ok q =>
                obtain ⟨c2, vs, s2⟩ := q
                simp only [h2, Except.ok.injEq, Prod.mk.injEq] at h
                obtain ⟨rfl, rfl, _⟩ := h
                obtain ⟨b1, b2⟩ := hb s _ x s1 (hm.2.2.1 (by omega)).1 h1
                simp only [List.cons_append, hr x _ (c2 ++ r) b1 b2, rep_again' hb hr subs hs x.toNat s1 c2 vs s2 h2 r]
theorem at_again (hb : Bounded ch) (hr : Reads ch') : ∀ (l : List Gn), (∀ x ∈ l, Right x) → ∀ n s c v s', playAt ch l n s = .ok (c, v, s') → ∀ r, playAt ch' l n (c ++ r) = .ok (c, v, r)
  | [], _, n, s, c, v, s', h, r => by
    simp only [playAt, Except.ok.injEq, Prod.mk.injEq] at h ⊢
    obtain ⟨rfl, rfl, _⟩ := h
    exact ⟨rfl, rfl, rfl⟩
  | g :: l, hl, 0, s, c, v, s', h, r => by
    simp only [playAt] at h ⊢
    exact play_again hb hr g (hl g (by simp)) s c v s' h r
  | g :: l, hl, n + 1, s, c, v, s', h, r => by
    simp only [playAt] at h ⊢
    exact at_again hb hr l (fun x hx => hl x (by simp [hx])) n s c v s' h r
theorem all_again (hb : Bounded ch) (hr : Reads ch') : ∀ (l : List Gn), (∀ x ∈ l, Right x) → ∀ s c vs s', playAll ch l s = .ok (c, vs, s') → ∀ r, playAll ch' l (c ++ r) = .ok (c, vs, r)
  | [], _, s, c, vs, s', h, r => by
    simp only [playAll, Except.ok.injEq, Prod.mk.injEq] at h ⊢
    obtain ⟨rfl, rfl, _⟩ := h
    exact ⟨rfl, rfl, rfl⟩
  | g :: l, hl, s, c, vs, s', h, r => by
    simp only [playAll] at h ⊢
    cases h1 : play ch g s with
    | error e => rw [h1] at h; cases h
    | ok p =>
      obtain ⟨c1, v, s1⟩ := p
      simp only [h1] at h
      cases h2 : playAll ch l s1 with
      | error e => simp only [h2] at h; cases h
      | ok q =>
        obtain ⟨c2, vs2, s2⟩ := q
        simp only [h2, Except.ok.injEq, Prod.mk.injEq] at h
        obtain ⟨rfl, rfl, _⟩ := h
        rw [List.append_assoc, play_again hb hr g (hl g (by simp)) s c1 v s1 h1 (c2 ++ r)]
        simp only [all_again hb hr l (fun x hx => hl x (by simp [hx])) s1 c2 vs2 s2 h2 r]
theorem rep_again' (hb : Bounded ch) (hr : Reads ch') : ∀ (l : List Gn), (∀ x ∈ l, Right x) → ∀ n s c vs s', playRep ch l n s = .ok (c, vs, s') → ∀ r, playRep ch' l n (c ++ r) = .ok (c, vs, r)
  | [], _, n, s, c, vs, s', h, r => by
    simp only [playRep, Except.ok.injEq, Prod.mk.injEq] at h ⊢
    obtain ⟨rfl, rfl, _⟩ := h
    exact ⟨rfl, rfl, rfl⟩
  | g :: l, hl, n, s, c, vs, s', h, r => by
    simp only [playRep] at h ⊢
    exact rep_again (fun s c v s' h r => play_again hb hr g (hl g (by simp)) s c v s' h r) n s c vs s' h r
end
end
end Go.Proofs.YtabkihellcflhaaGreatDoor.Gens

/- Plain laws on plays: of a list of numbers, read or mended. No program. -/
namespace Go.Proofs.YtabkihellcflhaaGreatDoor.Gens
open Vals
set_option linter.unusedVariables false

/-- read: too short 5, out of range 1 -/
def readC (l : List Int) (m : Int) : Except Int (Int × List Int) := match l with
  | [] => .error 5
  | x :: r => if 0 ≤ x ∧ x ≤ m then .ok (x, r) else .error 1
/-- mended -/
def mendX (l : List Int) (m : Int) : Int := match l with
  | [] => max 0 (min 0 m)
  | x :: _ => max 0 (min x m)
def mendC (l : List Int) (m : Int) : Except Int (Int × List Int) := .ok (mendX l m, l.tail)
theorem read_bounded : Bounded readC := by
  intro s m x s' hm h
  unfold readC at h
  split at h
  · cases h
  · split at h
    · rename_i hx
      simp only [Except.ok.injEq, Prod.mk.injEq] at h
      obtain ⟨rfl, _⟩ := h
      exact hx
    · cases h
theorem mend_bounded : Bounded mendC := by
  intro s m x s' hm h
  unfold mendC at h
  simp only [Except.ok.injEq, Prod.mk.injEq] at h
  obtain ⟨rfl, _⟩ := h
  unfold mendX
  split <;> omega
theorem read_reads : Reads readC := by
  intro x m r h1 h2
  unfold readC
  simp only
  rw [if_pos ⟨h1, h2⟩]
theorem mend_reads : Reads mendC := by
  intro x m r h1 h2
  unfold mendC mendX
  simp only [List.tail_cons]
  congr 2
  omega

/-! what is read is what was chosen -/
theorem rep_took {f : List Int → Except Int (List Int × Tr × List Int)} (hf : ∀ l c v r, f l = .ok (c, v, r) → l = c ++ r) : ∀ n l c vs r, rep f n l = .ok (c, vs, r) → l = c ++ r
  | 0, l, c, vs, r, h => by
    simp only [rep, Except.ok.injEq, Prod.mk.injEq] at h
    obtain ⟨rfl, _, rfl⟩ := h
    rfl
  | n + 1, l, c, vs, r, h => by
    simp only [rep] at h
    cases h1 : f l with
    | error e => rw [h1] at h; cases h
    | ok p =>
      obtain ⟨c1, v, s1⟩ := p
      rw [h1] at h
      cases h2 : rep f n s1 with
      | error e => simp only [h2] at h; cases h
      | ok q =>
        obtain ⟨c2, vs2, s2⟩ := q
        simp only [h2, Except.ok.injEq, Prod.mk.injEq] at h
        obtain ⟨rfl, _, rfl⟩ := h
        rw [hf l c1 v s1 h1, rep_took hf n s1 c2 vs2 s2 h2, List.append_assoc]
theorem read_took {l : List Int} {m x : Int} {r : List Int} (h : readC l m = .ok (x, r)) : l = x :: r := by
  unfold readC at h
  split at h
  · cases h
  · split at h
    · simp only [Except.ok.injEq, Prod.mk.injEq] at h
      obtain ⟨rfl, rfl⟩ := h
      rfl
    · cases h
mutual
theorem play_took : ∀ (g : Gn) l c v r, play readC g l = .ok (c, v, r) → l = c ++ r
  | .node k a b subs, l, c, v, r, h => by
    simp only [play] at h
    split at h
    · simp only [Except.ok.injEq, Prod.mk.injEq] at h
      obtain ⟨rfl, _, rfl⟩ := h
      rfl
    · split at h
      · cases h1 : readC l (b - a) with
        | error e => rw [h1] at h; cases h
        | ok p =>
          obtain ⟨x, s1⟩ := p
          simp only [h1, Except.ok.injEq, Prod.mk.injEq] at h
          obtain ⟨rfl, _, rfl⟩ := h
          exact read_took h1
      · split at h
        · cases h1 : readC l (subs.length - 1) with
          | error e => rw [h1] at h; cases h
          | ok p =>
            obtain ⟨x, s1⟩ := p
            simp only [h1] at h
            cases h2 : playAt readC subs x.toNat s1 with
            | error e => simp only [h2] at h; cases h
            | ok q =>
              obtain ⟨c2, v2, s2⟩ := q
              simp only [h2, Except.ok.injEq, Prod.mk.injEq] at h
              obtain ⟨rfl, _, rfl⟩ := h
              rw [read_took h1, at_took subs x.toNat s1 c2 v2 s2 h2]; rfl
        · split at h
          · cases h1 : playAll readC subs l with
            | error e => rw [h1] at h; cases h
            | ok q =>
              obtain ⟨c2, vs, s2⟩ := q
              simp only [h1, Except.ok.injEq, Prod.mk.injEq] at h
              obtain ⟨rfl, _, rfl⟩ := h
              exact all_took subs l c2 vs s2 h1
          · cases h1 : readC l a with
            | error e => rw [h1] at h; cases h
            | ok p =>
              obtain ⟨x, s1⟩ := p
              simp only [h1] at h
              cases h2 : playRep readC subs x.toNat s1 with
              | error e => simp only [h2] at h; cases h
              | ok q =>
                obtain ⟨c2, vs, s2⟩ := q
                simp only [h2, Except.ok.injEq, Prod.mk.injEq] at h
                obtain ⟨rfl, _, rfl⟩ := h
                rw [read_took h1, rep_took' subs x.toNat s1 c2 vs s2 h2]; rfl
theorem at_took : ∀ (l : List Gn) n s c v r, playAt readC l n s = .ok (c, v, r) → s = c ++ r
  | [], n, s, c, v, r, h => by
    simp only [playAt, Except.ok.injEq, Prod.mk.injEq] at h
    obtain ⟨rfl, _, rfl⟩ := h
    rfl
  | g :: l, 0, s, c, v, r, h => by
    simp only [playAt] at h
    exact play_took g s c v r h
  | g :: l, n + 1, s, c, v, r, h => by
    simp only [playAt] at h
    exact at_took l n s c v r h
theorem all_took : ∀ (l : List Gn) s c vs r, playAll readC l s = .ok (c, vs, r) → s = c ++ r
  | [], s, c, vs, r, h => by
    simp only [playAll, Except.ok.injEq, Prod.mk.injEq] at h
    obtain ⟨rfl, _, rfl⟩ := h
    rfl
  | g :: l, s, c, vs, r, h => by
    simp only [playAll] at h
    cases h1 : play readC g s with
    | error e => rw [h1] at h; cases h
    | ok p =>
      obtain ⟨c1, v, s1⟩ := p
      simp only [h1] at h
      cases h2 : playAll readC l s1 with
      | error e => simp only [h2] at h; cases h
      | ok q =>
        obtain ⟨c2, vs2, s2⟩ := q
        simp only [h2, Except.ok.injEq, Prod.mk.injEq] at h
        obtain ⟨rfl, _, rfl⟩ := h
        rw [play_took g s c1 v s1 h1, all_took l s1 c2 vs2 s2 h2, List.append_assoc]
theorem rep_took' : ∀ (l : List Gn) n s c vs r, playRep readC l n s = .ok (c, vs, r) → s = c ++ r
  | [], n, s, c, vs, r, h => by
    simp only [playRep, Except.ok.injEq, Prod.mk.injEq] at h
    obtain ⟨rfl, _, rfl⟩ := h
    rfl
  | g :: l, n, s, c, vs, r, h => by
    simp only [playRep] at h
    exact rep_took (fun l c v r h => play_took g l c v r h) n s c vs r h
end

/-! mending does not fail -/
theorem rep_total {σ : Type} {f : σ → Except Int (List Int × Tr × σ)} (hf : ∀ s, ∃ c v r, f s = .ok (c, v, r)) : ∀ n s, ∃ c vs r, rep f n s = .ok (c, vs, r)
  | 0, s => ⟨[], [], s, rfl⟩
  | n + 1, s => by
    obtain ⟨c, v, r, h⟩ := hf s
    obtain ⟨c2, vs, r2, h2⟩ := rep_total hf n r
    exact ⟨c ++ c2, v :: vs, r2, by simp only [rep, h, h2]⟩
section
variable {σ : Type} {ch : σ → Int → Except Int (Int × σ)}
/-- a source that always answers -/
def Total (ch : σ → Int → Except Int (Int × σ)) : Prop := ∀ s m, 0 ≤ m → ∃ x r, ch s m = .ok (x, r)
mutual
theorem play_total (ht : Total ch) : ∀ (g : Gn), Right g → ∀ s, ∃ c v r, play ch g s = .ok (c, v, r)
  | .node k a b subs, hg, s => by
    have hm := right_max hg
    have hs : ∀ x ∈ subs, Right x := hg.subs
    simp only [play]
    split
    · exact ⟨_, _, _, rfl⟩
    · split
      · rename_i hk
        obtain ⟨x, r, h⟩ := ht s (b - a) (hm.1 hk).1
        exact ⟨[x], .node false (a + x) [], r, by rw [h]⟩
      · split
        · rename_i hk
          obtain ⟨x, r, h⟩ := ht s (subs.length - 1) (hm.2.1 hk)
          obtain ⟨c2, v2, r2, h2⟩ := at_total ht subs hs x.toNat r
          exact ⟨x :: c2, v2, r2, by rw [h]; simp only [h2]⟩
        · split
          · obtain ⟨c2, vs, r2, h2⟩ := all_total ht subs hs s
            exact ⟨c2, .node true 0 vs, r2, by rw [h2]⟩
          · obtain ⟨x, r, h⟩ := ht s a (hm.2.2.1 (by omega)).1
            obtain ⟨c2, vs, r2, h2⟩ := rep_total' ht subs hs x.toNat r
            exact ⟨x :: c2, .node true 0 vs, r2, by rw [h]; simp only [h2]⟩
theorem at_total (ht : Total ch) : ∀ (l : List Gn), (∀ x ∈ l, Right x) → ∀ n s, ∃ c v r, playAt ch l n s = .ok (c, v, r)
  | [], _, n, s => ⟨_, _, _, by rw [playAt]⟩
  | g :: l, hl, 0, s => by
    obtain ⟨c, v, r, h⟩ := play_total ht g (hl g (by simp)) s
    exact ⟨c, v, r, by rw [playAt]; exact h⟩
  | g :: l, hl, n + 1, s => by
    obtain ⟨c, v, r, h⟩ := at_total ht l (fun x hx => hl x (by simp [hx])) n s
    exact ⟨c, v, r, by rw [playAt]; exact h⟩
theorem all_total (ht : Total ch) : ∀ (l : List Gn), (∀ x ∈ l, Right x) → ∀ s, ∃ c vs r, playAll ch l s = .ok (c, vs, r)
  | [], _, s => ⟨_, _, _, by rw [playAll]⟩
  | g :: l, hl, s => by
    obtain ⟨c, v, r, h⟩ := play_total ht g (hl g (by simp)) s
    obtain ⟨c2, vs, r2, h2⟩ := all_total ht l (fun x hx => hl x (by simp [hx])) r
    exact ⟨c ++ c2, v :: vs, r2, by simp only [playAll, h, h2]⟩
theorem rep_total' (ht : Total ch) : ∀ (l : List Gn), (∀ x ∈ l, Right x) → ∀ n s, ∃ c vs r, playRep ch l n s = .ok (c, vs, r)
  | [], _, n, s => ⟨_, _, _, by rw [playRep]⟩
  | g :: l, hl, n, s => by
    obtain ⟨c, vs, r, h⟩ := rep_total (f := fun s => play ch g s) (fun s => play_total ht g (hl g (by simp)) s) n s
    exact ⟨c, vs, r, by rw [playRep]; exact h⟩
end
end
theorem mend_total : Total mendC := fun s m _ => ⟨_, _, rfl⟩

/-! torn it is short -/
theorem prefix_cases {α : Type} : ∀ (p q c1 c2 : List α), p ++ q = c1 ++ c2 → (∃ q', c1 = p ++ q' ∧ q' ≠ []) ∨ (∃ p', p = c1 ++ p' ∧ c2 = p' ++ q)
  | [], q, c1, c2, h => by
    cases c1 with
    | nil => exact .inr ⟨[], rfl, by simpa using h.symm⟩
    | cons x c1 => exact .inl ⟨x :: c1, rfl, by simp⟩
  | x :: p, q, [], c2, h => .inr ⟨x :: p, rfl, by simpa using h.symm⟩
  | x :: p, q, y :: c1, c2, h => by
    simp only [List.cons_append, List.cons.injEq] at h
    obtain ⟨rfl, h⟩ := h
    rcases prefix_cases p q c1 c2 h with ⟨q', e, hq⟩ | ⟨p', e1, e2⟩
    · exact .inl ⟨q', by rw [e]; rfl, hq⟩
    · exact .inr ⟨p', by rw [e1]; rfl, e2⟩
theorem read_ok {l : List Int} {m x : Int} {r : List Int} (h : readC l m = .ok (x, r)) (p : List Int) : readC (x :: p) m = .ok (x, p) := by
  unfold readC at h
  split at h
  · cases h
  · split at h
    · rename_i hx
      simp only [Except.ok.injEq, Prod.mk.injEq] at h
      obtain ⟨rfl, _⟩ := h
      unfold readC
      simp only [if_pos hx]
    · cases h
theorem cons_cases {α : Type} {x : α} {c p q : List α} (h : x :: c = p ++ q) : (p = [] ∧ q = x :: c) ∨ ∃ p', p = x :: p' ∧ c = p' ++ q := by
  cases p with
  | nil => exact .inl ⟨rfl, h.symm⟩
  | cons y p =>
    simp only [List.cons_append, List.cons.injEq] at h
    obtain ⟨rfl, h⟩ := h
    exact .inr ⟨p, rfl, h⟩
theorem rep_torn {f : List Int → Except Int (List Int × Tr × List Int)} (hf : ∀ l c v r, f l = .ok (c, v, r) → ∀ p q, c = p ++ q → q ≠ [] → f p = .error 5) (ha : ∀ l c v r, f l = .ok (c, v, r) → ∀ m, f (c ++ m) = .ok (c, v, m)) :
    ∀ n l c vs r, rep f n l = .ok (c, vs, r) → ∀ p q, c = p ++ q → q ≠ [] → rep f n p = .error 5
  | 0, l, c, vs, r, h, p, q, e, hq => by
    simp only [rep, Except.ok.injEq, Prod.mk.injEq] at h
    obtain ⟨rfl, _, _⟩ := h
    exact absurd (List.append_eq_nil_iff.1 e.symm).2 hq
  | n + 1, l, c, vs, r, h, p, q, e, hq => by
    simp only [rep] at h ⊢
    cases h1 : f l with
    | error e => rw [h1] at h; cases h
    | ok z =>
      obtain ⟨c1, v, s1⟩ := z
      rw [h1] at h
      cases h2 : rep f n s1 with
      | error e => simp only [h2] at h; cases h
      | ok y =>
        obtain ⟨c2, vs2, s2⟩ := y
        simp only [h2, Except.ok.injEq, Prod.mk.injEq] at h
        obtain ⟨rfl, _, _⟩ := h
        rcases prefix_cases p q c1 c2 e.symm with ⟨q', e1, hq'⟩ | ⟨p', rfl, e2⟩
        · simp only [hf l c1 v s1 h1 p q' e1 hq']
        · simp only [ha l c1 v s1 h1 p', rep_torn hf ha n s1 c2 vs2 s2 h2 p' q e2 hq]
mutual
theorem play_torn : ∀ (g : Gn), Right g → ∀ l c v r, play readC g l = .ok (c, v, r) → ∀ p q, c = p ++ q → q ≠ [] → play readC g p = .error 5
  | .node k a b subs, hg, l, c, v, r, h, p, q, e, hq => by
    have hs : ∀ x ∈ subs, Right x := hg.subs
    simp only [play] at h ⊢
    split at h
    · simp only [Except.ok.injEq, Prod.mk.injEq] at h
      obtain ⟨rfl, _, _⟩ := h
      exact absurd (List.append_eq_nil_iff.1 e.symm).2 hq
    · rename_i hk1
      rw [if_neg hk1]
      split at h
      · rename_i hk
        rw [if_pos hk]
        cases h1 : readC l (b - a) with
        | error e => rw [h1] at h; cases h
        | ok z =>
          obtain ⟨x, s1⟩ := z
          simp only [h1, Except.ok.injEq, Prod.mk.injEq] at h
          obtain ⟨rfl, _, _⟩ := h
          rcases cons_cases e with ⟨rfl, _⟩ | ⟨p', rfl, e2⟩
          · rfl
          · exact absurd (List.append_eq_nil_iff.1 e2.symm).2 hq
      · rename_i hk2
        rw [if_neg hk2]
        split at h
        · rename_i hk
          rw [if_pos hk]
          cases h1 : readC l (subs.length - 1) with
          | error e => rw [h1] at h; cases h
          | ok z =>
            obtain ⟨x, s1⟩ := z
            simp only [h1] at h
            cases h2 : playAt readC subs x.toNat s1 with
            | error e => simp only [h2] at h; cases h
            | ok y =>
              obtain ⟨c2, v2, s2⟩ := y
              simp only [h2, Except.ok.injEq, Prod.mk.injEq] at h
              obtain ⟨rfl, _, _⟩ := h
              rcases cons_cases e with ⟨rfl, _⟩ | ⟨p', rfl, e2⟩
              · rfl
              · simp only [read_ok h1 p', at_torn subs hs x.toNat s1 c2 v2 s2 h2 p' q e2 hq]
        · rename_i hk5
          rw [if_neg hk5]
          split at h
          · rename_i hk
            rw [if_pos hk]
            cases h1 : playAll readC subs l with
            | error e => rw [h1] at h; cases h
            | ok y =>
              obtain ⟨c2, vs, s2⟩ := y
              simp only [h1, Except.ok.injEq, Prod.mk.injEq] at h
              obtain ⟨rfl, _, _⟩ := h
              simp only [all_torn subs hs l c2 vs s2 h1 p q e hq]
          · rename_i hk3
            rw [if_neg hk3]
            cases h1 : readC l a with
            | error e => rw [h1] at h; cases h
            | ok z =>
              obtain ⟨x, s1⟩ := z
              simp only [h1] at h
              cases h2 : playRep readC subs x.toNat s1 with
              | error e => simp only [h2] at h; cases h
              | ok y =>
                obtain ⟨c2, vs, s2⟩ := y
                simp only [h2, Except.ok.injEq, Prod.mk.injEq] at h
                obtain ⟨rfl, _, _⟩ := h
                rcases cons_cases e with ⟨rfl, _⟩ | ⟨p', rfl, e2⟩
                · rfl
                · simp only [read_ok h1 p', rep_torn' subs hs x.toNat s1 c2 vs s2 h2 p' q e2 hq]
theorem at_torn : ∀ (l : List Gn), (∀ x ∈ l, Right x) → ∀ n s c v r, playAt readC l n s = .ok (c, v, r) → ∀ p q, c = p ++ q → q ≠ [] → playAt readC l n p = .error 5
  | [], _, n, s, c, v, r, h, p, q, e, hq => by
    simp only [playAt, Except.ok.injEq, Prod.mk.injEq] at h
    obtain ⟨rfl, _, _⟩ := h
    exact absurd (List.append_eq_nil_iff.1 e.symm).2 hq
  | g :: l, hl, 0, s, c, v, r, h, p, q, e, hq => by
    simp only [playAt] at h ⊢
    exact play_torn g (hl g (by simp)) s c v r h p q e hq
  | g :: l, hl, n + 1, s, c, v, r, h, p, q, e, hq => by
    simp only [playAt] at h ⊢
    exact at_torn l (fun x hx => hl x (by simp [hx])) n s c v r h p q e hq
theorem all_torn : ∀ (l : List Gn), (∀ x ∈ l, Right x) → ∀ s c vs r, playAll readC l s = .ok (c, vs, r) → ∀ p q, c = p ++ q → q ≠ [] → playAll readC l p = .error 5
  | [], _, s, c, vs, r, h, p, q, e, hq => by
    simp only [playAll, Except.ok.injEq, Prod.mk.injEq] at h
    obtain ⟨rfl, _, _⟩ := h
    exact absurd (List.append_eq_nil_iff.1 e.symm).2 hq
  | g :: l, hl, s, c, vs, r, h, p, q, e, hq => by
    simp only [playAll] at h ⊢
    cases h1 : play readC g s with
    | error e => rw [h1] at h; cases h
    | ok z =>
      obtain ⟨c1, v, s1⟩ := z
      simp only [h1] at h
      cases h2 : playAll readC l s1 with
      | error e => simp only [h2] at h; cases h
      | ok y =>
        obtain ⟨c2, vs2, s2⟩ := y
        simp only [h2, Except.ok.injEq, Prod.mk.injEq] at h
        obtain ⟨rfl, _, _⟩ := h
        rcases prefix_cases p q c1 c2 e.symm with ⟨q', e1, hq'⟩ | ⟨p', rfl, e2⟩
        · simp only [play_torn g (hl g (by simp)) s c1 v s1 h1 p q' e1 hq']
        · simp only [play_again read_bounded read_reads g (hl g (by simp)) s c1 v s1 h1 p', all_torn l (fun x hx => hl x (by simp [hx])) s1 c2 vs2 s2 h2 p' q e2 hq]
theorem rep_torn' : ∀ (l : List Gn), (∀ x ∈ l, Right x) → ∀ n s c vs r, playRep readC l n s = .ok (c, vs, r) → ∀ p q, c = p ++ q → q ≠ [] → playRep readC l n p = .error 5
  | [], _, n, s, c, vs, r, h, p, q, e, hq => by
    simp only [playRep, Except.ok.injEq, Prod.mk.injEq] at h
    obtain ⟨rfl, _, _⟩ := h
    exact absurd (List.append_eq_nil_iff.1 e.symm).2 hq
  | g :: l, hl, n, s, c, vs, r, h, p, q, e, hq => by
    simp only [playRep] at h ⊢
    exact rep_torn (fun l c v r h p q e hq => play_torn g (hl g (by simp)) l c v r h p q e hq) (fun l c v r h m => play_again read_bounded read_reads g (hl g (by simp)) l c v r h m) n s c vs r h p q e hq
end

/-! what the layer's functions come to -/
/-- the tape of what is mended, its value -/
theorem mend_ex {g : Gn} (hg : Right g) (l : List Int) : ∃ c v r, play mendC g l = .ok (c, v, r) := play_total mend_total g hg l
/-- what is mended is read: it makes a value, and what stands behind is left -/
theorem mend_read {g : Gn} (hg : Right g) {l c r : List Int} {v : Tr} (h : play mendC g l = .ok (c, v, r)) (m : List Int) : play readC g (c ++ m) = .ok (c, v, m) :=
  play_again mend_bounded read_reads g hg l c v r h m
/-- mended again it is the same -/
theorem mend_mend {g : Gn} (hg : Right g) {l c r : List Int} {v : Tr} (h : play mendC g l = .ok (c, v, r)) (m : List Int) : play mendC g (c ++ m) = .ok (c, v, m) :=
  play_again mend_bounded mend_reads g hg l c v r h m
/-- what can be read to its end is its own mending, and the other way round -/
theorem read_own {g : Gn} (hg : Right g) {l c r : List Int} {v : Tr} (h : play mendC g l = .ok (c, v, r)) : (∃ c' v', play readC g l = .ok (c', v', [])) ↔ c = l := by
  constructor
  · rintro ⟨c', v', h'⟩
    have h1 := play_took g l c' v' [] h'
    rw [List.append_nil] at h1
    subst h1
    have h2 := play_again read_bounded mend_reads g hg l l v' [] h' []
    rw [List.append_nil, h] at h2
    simp only [Except.ok.injEq, Prod.mk.injEq] at h2
    exact h2.1
  · rintro rfl
    have := mend_read hg h []
    rw [List.append_nil] at this
    exact ⟨c, v, this⟩
end Go.Proofs.YtabkihellcflhaaGreatDoor.Gens

/- Plain laws on plays: what is left of the source, how many choices there are. No program. -/
namespace Go.Proofs.YtabkihellcflhaaGreatDoor.Gens
open Vals
set_option linter.unusedVariables false

/-! what is left -/
def Tails (ch : List Int → Int → Except Int (Int × List Int)) : Prop := ∀ s m x r, ch s m = .ok (x, r) → r = s.drop 1
theorem read_tails : Tails readC := by
  intro s m x r h
  rw [read_took h]; rfl
theorem mend_tails : Tails mendC := by
  intro s m x r h
  unfold mendC at h
  simp only [Except.ok.injEq, Prod.mk.injEq] at h
  rw [← h.2, List.drop_one]
section
variable {ch : List Int → Int → Except Int (Int × List Int)}
theorem rep_left {f : List Int → Except Int (List Int × Tr × List Int)} (hf : ∀ s c v r, f s = .ok (c, v, r) → r = s.drop c.length) : ∀ n s c vs r, rep f n s = .ok (c, vs, r) → r = s.drop c.length
  | 0, s, c, vs, r, h => by
    simp only [rep, Except.ok.injEq, Prod.mk.injEq] at h
    obtain ⟨rfl, _, rfl⟩ := h
    rfl
  | n + 1, s, c, vs, r, h => by
    simp only [rep] at h
    cases h1 : f s with
    | error e => rw [h1] at h; cases h
    | ok p =>
      obtain ⟨c1, v, s1⟩ := p
      rw [h1] at h
      cases h2 : rep f n s1 with
      | error e => simp only [h2] at h; cases h
      | ok q =>
        obtain ⟨c2, vs2, s2⟩ := q
        simp only [h2, Except.ok.injEq, Prod.mk.injEq] at h
        obtain ⟨rfl, _, rfl⟩ := h
        rw [rep_left hf n s1 c2 vs2 s2 h2, hf s c1 v s1 h1, List.drop_drop, List.length_append]
mutual
theorem play_left (ht : Tails ch) : ∀ (g : Gn) s c v r, play ch g s = .ok (c, v, r) → r = s.drop c.length
  | .node k a b subs, s, c, v, r, h => by
    simp only [play] at h
    split at h
    · simp only [Except.ok.injEq, Prod.mk.injEq] at h
      obtain ⟨rfl, _, rfl⟩ := h
      rfl
    · split at h
      · cases h1 : ch s (b - a) with
        | error e => rw [h1] at h; cases h
        | ok p =>
          obtain ⟨x, s1⟩ := p
          simp only [h1, Except.ok.injEq, Prod.mk.injEq] at h
          obtain ⟨rfl, _, rfl⟩ := h
          exact ht s _ x s1 h1
      · split at h
        · cases h1 : ch s (subs.length - 1) with
          | error e => rw [h1] at h; cases h
          | ok p =>
            obtain ⟨x, s1⟩ := p
            simp only [h1] at h
            cases h2 : playAt ch subs x.toNat s1 with
            | error e => simp only [h2] at h; cases h
            | ok q =>
              obtain ⟨c2, v2, s2⟩ := q
              simp only [h2, Except.ok.injEq, Prod.mk.injEq] at h
              obtain ⟨rfl, _, rfl⟩ := h
              rw [at_left ht subs x.toNat s1 c2 v2 s2 h2, ht s _ x s1 h1, List.drop_drop, List.length_cons, Nat.add_comm]
        · split at h
          · cases h1 : playAll ch subs s with
            | error e => rw [h1] at h; cases h
            | ok q =>
              obtain ⟨c2, vs, s2⟩ := q
              simp only [h1, Except.ok.injEq, Prod.mk.injEq] at h
              obtain ⟨rfl, _, rfl⟩ := h
              exact all_left ht subs s c2 vs s2 h1
          · cases h1 : ch s a with
            | error e => rw [h1] at h; cases h
            | ok p =>
              obtain ⟨x, s1⟩ := p
              simp only [h1] at h
              cases h2 : playRep ch subs x.toNat s1 with
              | error e => simp only [h2] at h; cases h
              | ok q =>
                obtain ⟨c2, vs, s2⟩ := q
                simp only [h2, Except.ok.injEq, Prod.mk.injEq] at h
                obtain ⟨rfl, _, rfl⟩ := h
                rw [rep_left' ht subs x.toNat s1 c2 vs s2 h2, ht s _ x s1 h1, List.drop_drop, List.length_cons, Nat.add_comm]
theorem at_left (ht : Tails ch) : ∀ (l : List Gn) n s c v r, playAt ch l n s = .ok (c, v, r) → r = s.drop c.length
  | [], n, s, c, v, r, h => by
    simp only [playAt, Except.ok.injEq, Prod.mk.injEq] at h
    obtain ⟨rfl, _, rfl⟩ := h
    rfl
  | g :: l, 0, s, c, v, r, h => by
    simp only [playAt] at h
    exact play_left ht g s c v r h
  | g :: l, n + 1, s, c, v, r, h => by
    simp only [playAt] at h
    exact at_left ht l n s c v r h
theorem all_left (ht : Tails ch) : ∀ (l : List Gn) s c vs r, playAll ch l s = .ok (c, vs, r) → r = s.drop c.length
  | [], s, c, vs, r, h => by
    simp only [playAll, Except.ok.injEq, Prod.mk.injEq] at h
    obtain ⟨rfl, _, rfl⟩ := h
    rfl
  | g :: l, s, c, vs, r, h => by
    simp only [playAll] at h
    cases h1 : play ch g s with
    | error e => rw [h1] at h; cases h
    | ok p =>
      obtain ⟨c1, v, s1⟩ := p
      simp only [h1] at h
      cases h2 : playAll ch l s1 with
      | error e => simp only [h2] at h; cases h
      | ok q =>
        obtain ⟨c2, vs2, s2⟩ := q
        simp only [h2, Except.ok.injEq, Prod.mk.injEq] at h
        obtain ⟨rfl, _, rfl⟩ := h
        rw [all_left ht l s1 c2 vs2 s2 h2, play_left ht g s c1 v s1 h1, List.drop_drop, List.length_append]
theorem rep_left' (ht : Tails ch) : ∀ (l : List Gn) n s c vs r, playRep ch l n s = .ok (c, vs, r) → r = s.drop c.length
  | [], n, s, c, vs, r, h => by
    simp only [playRep, Except.ok.injEq, Prod.mk.injEq] at h
    obtain ⟨rfl, _, rfl⟩ := h
    rfl
  | g :: l, n, s, c, vs, r, h => by
    simp only [playRep] at h
    exact rep_left (fun s c v r h => play_left ht g s c v r h) n s c vs r h
end
end

/-! how many choices -/
mutual
def longG : Gn → Nat
  | .node k a b subs => if k = 1 then 0 else if k = 2 then 1 else if k = 4 then 1 + 5 * longs subs else 1 + longs subs
def longs : List Gn → Nat
  | [] => 0
  | g :: r => longG g + longs r
end
theorem rep_long {σ : Type} {f : σ → Except Int (List Int × Tr × σ)} {m : Nat} (hf : ∀ s c v r, f s = .ok (c, v, r) → c.length ≤ m) : ∀ n s c vs r, rep f n s = .ok (c, vs, r) → c.length ≤ n * m
  | 0, s, c, vs, r, h => by
    simp only [rep, Except.ok.injEq, Prod.mk.injEq] at h
    obtain ⟨rfl, _, rfl⟩ := h
    simp
  | n + 1, s, c, vs, r, h => by
    simp only [rep] at h
    cases h1 : f s with
    | error e => rw [h1] at h; cases h
    | ok p =>
      obtain ⟨c1, v, s1⟩ := p
      rw [h1] at h
      cases h2 : rep f n s1 with
      | error e => simp only [h2] at h; cases h
      | ok q =>
        obtain ⟨c2, vs2, s2⟩ := q
        simp only [h2, Except.ok.injEq, Prod.mk.injEq] at h
        obtain ⟨rfl, _, rfl⟩ := h
        have := rep_long hf n s1 c2 vs2 s2 h2
        have := hf s c1 v s1 h1
        rw [List.length_append, Nat.add_mul]
        omega
section
variable {σ : Type} {ch : σ → Int → Except Int (Int × σ)}
mutual
theorem play_long (hb : Bounded ch) : ∀ (g : Gn), Right g → ∀ s c v r, play ch g s = .ok (c, v, r) → c.length ≤ longG g
  | .node k a b subs, hg, s, c, v, r, h => by
    have hm := right_max hg
    have hs : ∀ x ∈ subs, Right x := hg.subs
    simp only [play] at h
    simp only [longG]
    split at h
    · simp only [Except.ok.injEq, Prod.mk.injEq] at h
      obtain ⟨rfl, _, rfl⟩ := h
      simp
    · rename_i hk1
      rw [if_neg hk1]
      split at h
      · rename_i hk
        rw [if_pos hk]
        cases h1 : ch s (b - a) with
        | error e => rw [h1] at h; cases h
        | ok p =>
          obtain ⟨x, s1⟩ := p
          simp only [h1, Except.ok.injEq, Prod.mk.injEq] at h
          obtain ⟨rfl, _, rfl⟩ := h
          simp
      · rename_i hk2
        rw [if_neg hk2]
        split at h
        · rename_i hk
          rw [if_neg (by omega)]
          cases h1 : ch s (subs.length - 1) with
          | error e => rw [h1] at h; cases h
          | ok p =>
            obtain ⟨x, s1⟩ := p
            simp only [h1] at h
            cases h2 : playAt ch subs x.toNat s1 with
            | error e => simp only [h2] at h; cases h
            | ok q =>
              obtain ⟨c2, v2, s2⟩ := q
              simp only [h2, Except.ok.injEq, Prod.mk.injEq] at h
              obtain ⟨rfl, _, rfl⟩ := h
              have := at_long hb subs hs x.toNat s1 c2 v2 s2 h2
              rw [List.length_cons]; omega
        · split at h
          · rename_i hk
            rw [if_neg (by omega)]
            cases h1 : playAll ch subs s with
            | error e => rw [h1] at h; cases h
            | ok q =>
              obtain ⟨c2, vs, s2⟩ := q
              simp only [h1, Except.ok.injEq, Prod.mk.injEq] at h
              obtain ⟨rfl, _, rfl⟩ := h
              have := all_long hb subs hs s c2 vs s2 h1
              omega
          · have hk4 : k = 4 := by omega
            rw [if_pos hk4]
            cases h1 : ch s a with
            | error e => rw [h1] at h; cases h
            | ok p =>
              obtain ⟨x, s1⟩ := p
              simp only [h1] at h
              cases h2 : playRep ch subs x.toNat s1 with
              | error e => simp only [h2] at h; cases h
              | ok q =>
                obtain ⟨c2, vs, s2⟩ := q
                simp only [h2, Except.ok.injEq, Prod.mk.injEq] at h
                obtain ⟨rfl, _, rfl⟩ := h
                obtain ⟨b1, b2⟩ := hb s _ x s1 (hm.2.2.1 hk4).1 h1
                have h5 : x.toNat ≤ 5 := by have := (hm.2.2.1 hk4).2.1; omega
                have := rep_long' hb subs hs x.toNat s1 c2 vs s2 h2
                have := Nat.mul_le_mul_right (longs subs) h5
                rw [List.length_cons]; omega
theorem at_long (hb : Bounded ch) : ∀ (l : List Gn), (∀ x ∈ l, Right x) → ∀ n s c v r, playAt ch l n s = .ok (c, v, r) → c.length ≤ longs l
  | [], _, n, s, c, v, r, h => by
    simp only [playAt, Except.ok.injEq, Prod.mk.injEq] at h
    obtain ⟨rfl, _, rfl⟩ := h
    simp
  | g :: l, hl, 0, s, c, v, r, h => by
    simp only [playAt] at h
    have := play_long hb g (hl g (by simp)) s c v r h
    rw [longs]; omega
  | g :: l, hl, n + 1, s, c, v, r, h => by
    simp only [playAt] at h
    have := at_long hb l (fun x hx => hl x (by simp [hx])) n s c v r h
    rw [longs]; omega
theorem all_long (hb : Bounded ch) : ∀ (l : List Gn), (∀ x ∈ l, Right x) → ∀ s c vs r, playAll ch l s = .ok (c, vs, r) → c.length ≤ longs l
  | [], _, s, c, vs, r, h => by
    simp only [playAll, Except.ok.injEq, Prod.mk.injEq] at h
    obtain ⟨rfl, _, rfl⟩ := h
    simp
  | g :: l, hl, s, c, vs, r, h => by
    simp only [playAll] at h
    cases h1 : play ch g s with
    | error e => rw [h1] at h; cases h
    | ok p =>
      obtain ⟨c1, v, s1⟩ := p
      simp only [h1] at h
      cases h2 : playAll ch l s1 with
      | error e => simp only [h2] at h; cases h
      | ok q =>
        obtain ⟨c2, vs2, s2⟩ := q
        simp only [h2, Except.ok.injEq, Prod.mk.injEq] at h
        obtain ⟨rfl, _, rfl⟩ := h
        have := play_long hb g (hl g (by simp)) s c1 v s1 h1
        have := all_long hb l (fun x hx => hl x (by simp [hx])) s1 c2 vs2 s2 h2
        rw [List.length_append, longs]; omega
theorem rep_long' (hb : Bounded ch) : ∀ (l : List Gn), (∀ x ∈ l, Right x) → ∀ n s c vs r, playRep ch l n s = .ok (c, vs, r) → c.length ≤ n * longs l
  | [], _, n, s, c, vs, r, h => by
    simp only [playRep, Except.ok.injEq, Prod.mk.injEq] at h
    obtain ⟨rfl, _, rfl⟩ := h
    simp
  | g :: l, hl, n, s, c, vs, r, h => by
    simp only [playRep] at h
    have h1 := rep_long (m := longG g) (fun s c v r h => play_long hb g (hl g (by simp)) s c v r h) n s c vs r h
    have h2 := Nat.mul_le_mul_left n (show longG g ≤ longs (g :: l) by rw [longs]; omega)
    omega
end
end
mutual
theorem long_le : ∀ (g : Gn) (deep d : Nat), (largeG g deep).2 = false → deep + d = 6 → longG g ≤ g.size * 6 ^ d
  | .node k a b subs, deep, d, h, hd => by
    simp only [largeG] at h
    split at h
    · cases h
    · rename_i h6
      obtain ⟨d', rfl⟩ : ∃ d', d = d' + 1 := ⟨d - 1, by omega⟩
      have h1 := longs_le subs (deep + 1) 1 d' h (by omega)
      have h2 : 1 ≤ 6 ^ d' := Nat.one_le_pow _ _ (by omega)
      have h3 : (Gn.node k a b subs).size * 6 ^ (d' + 1) = 6 * 6 ^ d' + 6 * (gsizes subs * 6 ^ d') := by
        rw [Gn.size, Nat.pow_succ, Nat.add_mul, Nat.one_mul, Nat.mul_comm (6 ^ d') 6, ← Nat.mul_assoc, Nat.mul_comm (gsizes subs) 6, Nat.mul_assoc]
      rw [h3]
      simp only [longG]
      split
      · omega
      · split
        · omega
        · split <;> omega
theorem longs_le : ∀ (l : List Gn) (deep n d : Nat), (largeGs l deep n).2 = false → deep + d = 6 → longs l ≤ gsizes l * 6 ^ d
  | [], deep, n, d, h, hd => by simp [longs]
  | g :: r, deep, n, d, h, hd => by
    simp only [largeGs] at h
    split at h
    · cases h
    · rename_i hc
      have h1 : (largeG g deep).2 = false := by
        cases hb : (largeG g deep).2 with
        | false => rfl
        | true => exact absurd (.inl hb) hc
      have := long_le g deep d h1 hd
      have := longs_le r deep _ d h hd
      rw [longs, gsizes, Nat.add_mul]
      omega
end
/-- a small generator makes so many choices at most -/
theorem small_long {g : Gn} (h : (largeG g 0).2 = false) : longG g ≤ 1399680 := by
  have h1 := long_le g 0 6 h rfl
  have h2 := Nat.mul_le_mul_right (6 ^ 6) (small_size h)
  have h3 : 30 * 6 ^ 6 = 1399680 := by decide
  omega
end Go.Proofs.YtabkihellcflhaaGreatDoor.Gens

/- Plain laws on plays: an induction over what a right generator makes; bounds of its choices, of its value. No program. -/
namespace Go.Proofs.YtabkihellcflhaaGreatDoor.Gens
open Vals
set_option linter.unusedVariables false

section
variable {σ : Type} {ch : σ → Int → Except Int (Int × σ)}
theorem rep_all (g : Gn) : ∀ n s, rep (fun s => play ch g s) n s = playAll ch (List.replicate n g) s
  | 0, s => by simp only [rep, List.replicate_zero, playAll]
  | n + 1, s => by
    simp only [rep, List.replicate_succ, playAll]
    cases h1 : play ch g s with
    | error e => rfl
    | ok p =>
      obtain ⟨c1, v, s1⟩ := p
      simp only [rep_all g n s1]
theorem rep_all' (g : Gn) (n : Nat) (s : σ) : playRep ch [g] n s = playAll ch (List.replicate n g) s := by
  rw [playRep, rep_all]
theorem at_get : ∀ (l : List Gn) (n : Nat) (s : σ) (h : n < l.length), playAt ch l n s = play ch (l[n]'h) s
  | [], n, s, h => by simp at h
  | g :: l, 0, s, h => by rw [playAt]; rfl
  | g :: l, n + 1, s, h => by rw [playAt, at_get l n s (by simpa using h)]; rfl

/-- what is asked of an induction over plays -/
structure Ind (ch : σ → Int → Except Int (Int × σ)) (M : Gn → σ → List Int → Tr → σ → Prop) (ML : List Gn → σ → List Int → List Tr → σ → Prop) : Prop where
  just : ∀ a b subs s, Right (.node 1 a b subs) → M (.node 1 a b subs) s [] (.node false a []) s
  int : ∀ a b subs s x s1, Right (.node 2 a b subs) → 0 ≤ x → x ≤ b - a → ch s (b - a) = .ok (x, s1) → M (.node 2 a b subs) s [x] (.node false (a + x) []) s1
  any : ∀ a b subs s x s1 c v s2 (h : x.toNat < subs.length), Right (.node 5 a b subs) → 0 ≤ x → ch s (subs.length - 1) = .ok (x, s1) → M (subs[x.toNat]'h) s1 c v s2 → M (.node 5 a b subs) s (x :: c) v s2
  both : ∀ a b subs s c vs s1, Right (.node 3 a b subs) → ML subs s c vs s1 → M (.node 3 a b subs) s c (.node true 0 vs) s1
  many : ∀ a b g s x s1 c vs s2, Right (.node 4 a b [g]) → 0 ≤ x → x ≤ a → a ≤ 5 → ch s a = .ok (x, s1) → ML (List.replicate x.toNat g) s1 c vs s2 → M (.node 4 a b [g]) s (x :: c) (.node true 0 vs) s2
  nil : ∀ s, ML [] s [] [] s
  cons : ∀ g r s c v s1 c2 vs s2, M g s c v s1 → ML r s1 c2 vs s2 → ML (g :: r) s (c ++ c2) (v :: vs) s2
variable {M : Gn → σ → List Int → Tr → σ → Prop} {ML : List Gn → σ → List Int → List Tr → σ → Prop}
theorem all_ind (I : Ind ch M ML) : ∀ (l : List Gn), (∀ g ∈ l, ∀ s c v s', play ch g s = .ok (c, v, s') → M g s c v s') → ∀ s c vs s', playAll ch l s = .ok (c, vs, s') → ML l s c vs s'
  | [], _, s, c, vs, s', h => by
    simp only [playAll, Except.ok.injEq, Prod.mk.injEq] at h
    obtain ⟨rfl, rfl, rfl⟩ := h
    exact I.nil s
  | g :: r, hg, s, c, vs, s', h => by
    simp only [playAll] at h
    cases h1 : play ch g s with
    | error e => rw [h1] at h; cases h
    | ok p =>
      obtain ⟨c1, v, s1⟩ := p
      simp only [h1] at h
      cases h2 : playAll ch r s1 with
      | error e => simp only [h2] at h; cases h
      | ok q =>
        obtain ⟨c2, vs2, s2⟩ := q
        simp only [h2, Except.ok.injEq, Prod.mk.injEq] at h
        obtain ⟨rfl, rfl, rfl⟩ := h
        exact I.cons _ _ _ _ _ _ _ _ _ (hg g (by simp) s c1 v s1 h1) (all_ind I r (fun x hx => hg x (by simp [hx])) s1 c2 vs2 s2 h2)
mutual
theorem play_ind (hb : Bounded ch) (I : Ind ch M ML) : ∀ (g : Gn), Right g → ∀ s c v s', play ch g s = .ok (c, v, s') → M g s c v s'
  | .node k a b subs, hg, s, c, v, s', h => by
    have hm := right_max hg
    have hsub := subs_ind hb I subs hg.subs
    simp only [play] at h
    split at h
    · rename_i hk
      subst hk
      simp only [Except.ok.injEq, Prod.mk.injEq] at h
      obtain ⟨rfl, rfl, rfl⟩ := h
      exact I.just a b subs s hg
    · split at h
      · rename_i hk
        subst hk
        cases h1 : ch s (b - a) with
        | error e => rw [h1] at h; cases h
        | ok p =>
          obtain ⟨x, s1⟩ := p
          simp only [h1, Except.ok.injEq, Prod.mk.injEq] at h
          obtain ⟨rfl, rfl, rfl⟩ := h
          obtain ⟨b1, b2⟩ := hb s _ x s1 (hm.1 rfl).1 h1
          exact I.int a b subs s x s1 hg b1 b2 h1
      · split at h
        · rename_i hk
          subst hk
          cases h1 : ch s (subs.length - 1) with
          | error e => rw [h1] at h; cases h
          | ok p =>
            obtain ⟨x, s1⟩ := p
            simp only [h1] at h
            cases h2 : playAt ch subs x.toNat s1 with
            | error e => simp only [h2] at h; cases h
            | ok q =>
              obtain ⟨c2, v2, s2⟩ := q
              simp only [h2, Except.ok.injEq, Prod.mk.injEq] at h
              obtain ⟨rfl, rfl, rfl⟩ := h
              obtain ⟨b1, b2⟩ := hb s _ x s1 (hm.2.1 rfl) h1
              have hlt : x.toNat < subs.length := by omega
              rw [at_get subs _ s1 hlt] at h2
              exact I.any a b subs s x s1 c2 v2 s2 hlt hg b1 h1 (hsub _ (List.getElem_mem hlt) _ _ _ _ h2)
        · split at h
          · rename_i hk
            subst hk
            cases h1 : playAll ch subs s with
            | error e => rw [h1] at h; cases h
            | ok q =>
              obtain ⟨c2, vs, s2⟩ := q
              simp only [h1, Except.ok.injEq, Prod.mk.injEq] at h
              obtain ⟨rfl, rfl, rfl⟩ := h
              exact I.both a b subs s c2 vs s2 hg (all_ind I subs hsub s c2 vs s2 h1)
          · have hk4 : k = 4 := by omega
            subst hk4
            cases h1 : ch s a with
            | error e => rw [h1] at h; cases h
            | ok p =>
              obtain ⟨x, s1⟩ := p
              simp only [h1] at h
              cases h2 : playRep ch subs x.toNat s1 with
              | error e => simp only [h2] at h; cases h
              | ok q =>
                obtain ⟨c2, vs, s2⟩ := q
                simp only [h2, Except.ok.injEq, Prod.mk.injEq] at h
                obtain ⟨rfl, rfl, rfl⟩ := h
                obtain ⟨q1, q2, q3⟩ := hm.2.2.1 rfl
                obtain ⟨b1, b2⟩ := hb s _ x s1 q1 h1
                match subs, q3 with
                | [g], _ =>
                  rw [rep_all'] at h2
                  exact I.many a b g s x s1 c2 vs s2 hg b1 b2 q2 h1 (all_ind I _ (fun y hy => by rw [List.eq_of_mem_replicate hy]; exact hsub g (by simp)) s1 c2 vs s2 h2)
theorem subs_ind (hb : Bounded ch) (I : Ind ch M ML) : ∀ (l : List Gn), (∀ x ∈ l, Right x) → ∀ g ∈ l, ∀ s c v s', play ch g s = .ok (c, v, s') → M g s c v s'
  | [], _, g, hg, s, c, v, s', h => by simp at hg
  | x :: r, hl, g, hg, s, c, v, s', h => by
    by_cases e : g = x
    · rw [e] at h ⊢
      exact play_ind hb I x (hl x (by simp)) s c v s' h
    · exact subs_ind hb I r (fun y hy => hl y (by simp [hy])) g (by simpa [e] using hg) s c v s' h
end

/-- what holds of the source and of each choice -/
theorem play_inv {P : σ → Prop} {Q : Int → Prop} (hb : Bounded ch) (hch : ∀ s m x s', 0 ≤ m → m ≤ 1000 → P s → ch s m = .ok (x, s') → Q x ∧ P s') {g : Gn} (hg : Right g) (hz : g.size ≤ 30) {s s' : σ} {c : List Int} {v : Tr} (h : play ch g s = .ok (c, v, s')) (hp : P s) :
    (∀ x ∈ c, Q x) ∧ P s' := by
  refine play_ind (M := fun g s c v s' => g.size ≤ 30 → P s → (∀ x ∈ c, Q x) ∧ P s') (ML := fun l s c vs s' => (∀ g ∈ l, g.size ≤ 30) → P s → (∀ x ∈ c, Q x) ∧ P s') hb ⟨?_, ?_, ?_, ?_, ?_, ?_, ?_⟩ g hg s c v s' h hz hp
  · intro a b subs s _ _ hp
    exact ⟨fun x hx => by simp at hx, hp⟩
  · intro a b subs s x s1 hr _ _ h1 _ hp
    have hm := (right_max hr).1 rfl
    obtain ⟨q1, q2⟩ := hch s _ x s1 hm.1 hm.2 hp h1
    exact ⟨fun y hy => by rw [List.mem_singleton.1 hy]; exact q1, q2⟩
  · intro a b subs s x s1 c v s2 hlt hr _ h1 ih hz hp
    rw [Gn.size] at hz
    have hl := glen_sizes subs
    have hm := (right_max hr).2.1 rfl
    obtain ⟨q1, q2⟩ := hch s _ x s1 hm (by omega) hp h1
    have := gsize_mem subs _ (List.getElem_mem hlt)
    obtain ⟨r1, r2⟩ := ih (by omega) q2
    exact ⟨List.forall_mem_cons.2 ⟨q1, r1⟩, r2⟩
  · intro a b subs s c vs s1 hr ih hz hp
    rw [Gn.size] at hz
    exact ih (fun g hg => by have := gsize_mem subs g hg; omega) hp
  · intro a b g s x s1 c vs s2 hr h0 hx ha h1 ih hz hp
    rw [Gn.size, gsizes] at hz
    obtain ⟨q1, q2⟩ := hch s _ x s1 ((right_max hr).2.2.1 rfl).1 (by omega) hp h1
    obtain ⟨r1, r2⟩ := ih (fun y hy => by rw [List.eq_of_mem_replicate hy]; omega) q2
    exact ⟨List.forall_mem_cons.2 ⟨q1, r1⟩, r2⟩
  · intro s _ hp
    exact ⟨fun x hx => by simp at hx, hp⟩
  · intro g r s c v s1 c2 vs s2 ih1 ih2 hz hp
    obtain ⟨q1, q2⟩ := ih1 (hz g (by simp)) hp
    obtain ⟨r1, r2⟩ := ih2 (fun x hx => hz x (by simp [hx])) q2
    exact ⟨List.forall_mem_append.2 ⟨q1, r1⟩, r2⟩

theorem larges_mem : ∀ (l : List Gn) (deep n : Nat), (largeGs l deep n).2 = false → ∀ g ∈ l, (largeG g deep).2 = false
  | [], deep, n, h, g, hg => by simp at hg
  | x :: r, deep, n, h, g, hg => by
    simp only [largeGs] at h
    split at h
    · cases h
    · rename_i hc
      rcases List.mem_cons.1 hg with rfl | hg
      · cases hb : (largeG g deep).2 with
        | false => rfl
        | true => exact absurd (.inl hb) hc
      · exact larges_mem r deep _ h g hg
theorem large_sub {k a b : Int} {subs : List Gn} {deep d : Nat} (h : (largeG (.node k a b subs) deep).2 = false) (hd : deep + d = 6) : ∃ d', d = d' + 1 ∧ ∀ g ∈ subs, (largeG g (deep + 1)).2 = false := by
  simp only [largeG] at h
  split at h
  · cases h
  · exact ⟨d - 1, by omega, larges_mem subs (deep + 1) 1 h⟩
theorem okB_raise : ∀ (d : Nat) (t : Tr), okB d t = true → okB (d + 1) t = true
  | 0, t, h => by simp [okB] at h
  | d + 1, t, h => by
    rw [okB] at h ⊢
    simp only [Bool.and_eq_true, Bool.not_eq_true', List.all_eq_true] at h ⊢
    exact ⟨h.1, fun x hx => okB_raise d x (h.2 x hx)⟩
theorem gsizes_rep (g : Gn) : ∀ n, gsizes (List.replicate n g) = n * g.size
  | 0 => by simp [gsizes]
  | n + 1 => by rw [List.replicate_succ, gsizes, gsizes_rep g n, Nat.add_mul]; omega
/-- the value is right, and not too large -/
theorem play_val (hb : Bounded ch) {g : Gn} (hg : Right g) {s s' : σ} {c : List Int} {v : Tr} (h : play ch g s = .ok (c, v, s')) {deep d : Nat} (hl : (largeG g deep).2 = false) (hd : deep + d = 6) :
    okB d v = true ∧ v.size ≤ g.size * 6 ^ d := by
  refine play_ind (M := fun g s c v s' => ∀ deep d, (largeG g deep).2 = false → deep + d = 6 → okB d v = true ∧ v.size ≤ g.size * 6 ^ d)
    (ML := fun l s c vs s' => ∀ deep d, (∀ g ∈ l, (largeG g deep).2 = false) → deep + d = 6 → (∀ v ∈ vs, okB d v = true) ∧ sizes vs ≤ gsizes l * 6 ^ d) hb ⟨?_, ?_, ?_, ?_, ?_, ?_, ?_⟩ g hg s c v s' h deep d hl hd
  · intro a b subs s hr deep d hl hd
    obtain ⟨d', rfl, _⟩ := large_sub hl hd
    have h2 : 1 ≤ 6 ^ (d' + 1) := Nat.one_le_pow _ _ (by omega)
    exact ⟨by simp [okB, formBad, Tr.items, Tr.list], by
      have := Nat.mul_le_mul (gsize_pos (.node 1 a b subs)) h2
      simp only [Tr.size, sizes]; omega⟩
  · intro a b subs s x s1 hr _ _ h1 deep d hl hd
    obtain ⟨d', rfl, _⟩ := large_sub hl hd
    have h2 : 1 ≤ 6 ^ (d' + 1) := Nat.one_le_pow _ _ (by omega)
    exact ⟨by simp [okB, formBad, Tr.items, Tr.list], by
      have := Nat.mul_le_mul (gsize_pos (.node 2 a b subs)) h2
      simp only [Tr.size, sizes]; omega⟩
  · intro a b subs s x s1 c v s2 hlt hr _ h1 ih deep d hl hd
    obtain ⟨d', rfl, hs⟩ := large_sub hl hd
    obtain ⟨i1, i2⟩ := ih (deep + 1) d' (hs _ (List.getElem_mem hlt)) (by omega)
    refine ⟨okB_raise _ _ i1, ?_⟩
    have h3 := gsize_mem subs _ (List.getElem_mem hlt)
    have h4 : (subs[x.toNat]'hlt).size * 6 ^ d' ≤ (Gn.node 5 a b subs).size * 6 ^ (d' + 1) :=
      Nat.mul_le_mul (by rw [Gn.size]; omega) (Nat.pow_le_pow_right (by omega) (by omega))
    omega
  · intro a b subs s c vs s1 hr ih deep d hl hd
    obtain ⟨d', rfl, hs⟩ := large_sub hl hd
    obtain ⟨i1, i2⟩ := ih (deep + 1) d' hs (by omega)
    refine ⟨by simpa [okB, formBad, Tr.items, Tr.list, Tr.num] using i1, ?_⟩
    have h2 : 1 ≤ 6 ^ (d' + 1) := Nat.one_le_pow _ _ (by omega)
    have h3 : gsizes subs * 6 ^ d' ≤ gsizes subs * 6 ^ (d' + 1) := Nat.mul_le_mul_left _ (Nat.pow_le_pow_right (by omega) (by omega))
    rw [Tr.size, Gn.size, Nat.add_mul]; omega
  · intro a b g s x s1 c vs s2 hr h0 hx ha h1 ih deep d hl hd
    obtain ⟨d', rfl, hs⟩ := large_sub hl hd
    obtain ⟨i1, i2⟩ := ih (deep + 1) d' (fun y hy => by rw [List.eq_of_mem_replicate hy]; exact hs g (by simp)) (by omega)
    refine ⟨by simpa [okB, formBad, Tr.items, Tr.list, Tr.num] using i1, ?_⟩
    rw [gsizes_rep] at i2
    have h2 : 1 ≤ 6 ^ (d' + 1) := Nat.one_le_pow _ _ (by omega)
    have h3 : x.toNat * g.size * 6 ^ d' ≤ 6 * (g.size * 6 ^ d') := by
      rw [Nat.mul_assoc]; exact Nat.mul_le_mul_right _ (by omega)
    have h4 : (1 + (g.size + 0)) * 6 ^ (d' + 1) = 6 ^ (d' + 1) + 6 * (g.size * 6 ^ d') := by
      rw [Nat.add_zero, Nat.add_mul, Nat.one_mul, Nat.pow_succ, Nat.mul_comm (6 ^ d') 6, ← Nat.mul_assoc, Nat.mul_comm g.size 6, Nat.mul_assoc]
    rw [Tr.size, Gn.size, gsizes, gsizes, h4]; omega
  · intro s deep d _ _
    exact ⟨fun v hv => by simp at hv, by simp [sizes]⟩
  · intro g r s c v s1 c2 vs s2 ih1 ih2 deep d hl hd
    obtain ⟨i1, i2⟩ := ih1 deep d (hl g (by simp)) hd
    obtain ⟨j1, j2⟩ := ih2 deep d (fun x hx => hl x (by simp [hx])) hd
    refine ⟨List.forall_mem_cons.2 ⟨i1, j1⟩, ?_⟩
    rw [sizes, gsizes, Nat.add_mul]; omega
/-- of a small generator -/
theorem small_val (hb : Bounded ch) {g : Gn} (hg : Right g) (hl : (largeG g 0).2 = false) {s s' : σ} {c : List Int} {v : Tr} (h : play ch g s = .ok (c, v, s')) : okB 6 v = true ∧ v.size ≤ 1399680 := by
  obtain ⟨h1, h2⟩ := play_val hb hg h hl (d := 6) rfl
  have h3 := Nat.mul_le_mul_right (6 ^ 6) (small_size hl)
  have h4 : 30 * 6 ^ 6 = 1399680 := by decide
  exact ⟨h1, by omega⟩
end
/-- the choices made of nothing are noughts -/
theorem mend_noughts {g : Gn} (hg : Right g) (hz : g.size ≤ 30) {c r : List Int} {v : Tr} (h : play mendC g [] = .ok (c, v, r)) : ∀ x ∈ c, x = 0 :=
  (play_inv (P := fun s => s = []) (Q := fun x => x = 0) mend_bounded (fun s m x s' h0 _ hs hc => by
    subst hs
    simp only [mendC, mendX, List.tail_nil, Except.ok.injEq, Prod.mk.injEq] at hc
    obtain ⟨rfl, rfl⟩ := hc
    exact ⟨by omega, rfl⟩) hg hz h rfl).1
theorem mend_within {g : Gn} (hg : Right g) (hz : g.size ≤ 30) {l c r : List Int} {v : Tr} (h : play mendC g l = .ok (c, v, r)) : ∀ x ∈ c, 0 ≤ x ∧ x ≤ 1000 :=
  (play_inv (P := fun _ => True) (Q := fun x => 0 ≤ x ∧ x ≤ 1000) mend_bounded (fun s m x s' h0 hm _ hc => by
    have := mend_bounded s m x s' h0 hc
    exact ⟨by omega, trivial⟩) hg hz h trivial).1
/-- two tapes of a generator that are alike as far as both go are the same -/
theorem mend_alike {g : Gn} (hg : Right g) {l1 c1 r1 l2 c2 r2 : List Int} {v1 v2 : Tr} (h1 : play mendC g l1 = .ok (c1, v1, r1)) (h2 : play mendC g l2 = .ok (c2, v2, r2)) (ha : ∀ i, i < c1.length → i < c2.length → c1.getD i 0 = c2.getD i 0) : c1 = c2 := by
  have pre : ∀ {a b : List Int}, a.length ≤ b.length → (∀ i, i < a.length → i < b.length → a.getD i 0 = b.getD i 0) → b = a ++ b.drop a.length := by
    intro a b hl hab
    apply List.ext_getElem
    · simp; omega
    · intro i hi1 hi2
      by_cases hi : i < a.length
      · rw [List.getElem_append_left hi]
        have := hab i hi hi1
        simp only [List.getD, List.getElem?_eq_getElem hi, List.getElem?_eq_getElem hi1, Option.getD_some] at this
        exact this.symm
      · rw [List.getElem_append_right (by omega), List.getElem_drop]
        congr 1; omega
  have half : ∀ {a b la lb ra rb : List Int} {va vb : Tr}, play mendC g la = .ok (a, va, ra) → play mendC g lb = .ok (b, vb, rb) → a.length ≤ b.length → (∀ i, i < a.length → i < b.length → a.getD i 0 = b.getD i 0) → a = b := by
    intro a b la lb ra rb va vb ha hb hl hab
    have e := pre hl hab
    have p1 := mend_mend hg ha (b.drop a.length)
    have p2 := mend_mend hg hb []
    rw [← e] at p1
    rw [List.append_nil, p1] at p2
    simp only [Except.ok.injEq, Prod.mk.injEq] at p2
    exact p2.1
  rcases Nat.le_total c1.length c2.length with h | h
  · exact half h1 h2 h ha
  · exact (half h2 h1 h (fun i hi hj => (ha i hj hi).symm)).symm
end Go.Proofs.YtabkihellcflhaaGreatDoor.Gens

/- Plain laws on plays: a source that notes what it tells. No program. -/
namespace Go.Proofs.YtabkihellcflhaaGreatDoor.Gens
open Vals
set_option linter.unusedVariables false

section
variable {σ : Type} {ch : σ → Int → Except Int (Int × σ)}
/-- the source that notes what it tells -/
def recC (ch : σ → Int → Except Int (Int × σ)) (p : σ × List Int) (m : Int) : Except Int (Int × (σ × List Int)) :=
  if p.2.length < 2000000 then match ch p.1 m with
  | .error e => .error e
  | .ok (x, s') => .ok (x, (s', p.2 ++ [x]))
  else .error 77
theorem recC_ok {s s' : σ} {m x : Int} (h : ch s m = .ok (x, s')) (r : List Int) (hr : r.length < 2000000) : recC ch (s, r) m = .ok (x, (s', r ++ [x])) := by
  simp only [recC, h, if_pos hr]
theorem rec_play (hb : Bounded ch) {g : Gn} (hg : Right g) {s s' : σ} {c : List Int} {v : Tr} (h : play ch g s = .ok (c, v, s')) : ∀ r, r.length + c.length ≤ 2000000 → play (recC ch) g (s, r) = .ok (c, v, (s', r ++ c)) := by
  refine play_ind (M := fun g s c v s' => ∀ r, r.length + c.length ≤ 2000000 → play (recC ch) g (s, r) = .ok (c, v, (s', r ++ c)))
    (ML := fun l s c vs s' => ∀ r, r.length + c.length ≤ 2000000 → playAll (recC ch) l (s, r) = .ok (c, vs, (s', r ++ c))) hb ⟨?_, ?_, ?_, ?_, ?_, ?_, ?_⟩ g hg s c v s' h
  · intro a b subs s hr r hn
    simp [play]
  · intro a b subs s x s1 hr h0 h1 hc r hn
    simp only [List.length_cons, List.length_nil] at hn
    simp [play, recC_ok hc r (by omega)]
  · intro a b subs s x s1 c v s2 hlt hr h0 hc ih r hn
    simp only [List.length_cons] at hn
    simp only [play, recC_ok hc r (by omega), at_get _ _ _ hlt, ih (r ++ [x]) (by simp; omega)]
    simp
  · intro a b subs s c vs s1 hr ih r hn
    simp [play, ih r hn]
  · intro a b g s x s1 c vs s2 hr h0 h1 h5 hc ih r hn
    simp only [List.length_cons] at hn
    simp [play, recC_ok hc r (by omega), rep_all', ih (r ++ [x]) (by simp; omega)]
  · intro s r hn
    simp [playAll]
  · intro g l s c v s1 c2 vs s2 ih1 ih2 r hn
    simp only [List.length_append] at hn
    simp only [playAll, ih1 r (by omega), ih2 (r ++ c) (by simp; omega), List.append_assoc]
theorem rec_bounded (hb : Bounded ch) : Bounded (recC ch) := by
  rintro ⟨s, r⟩ m x ⟨s', r'⟩ h0 h
  simp only [recC] at h
  by_cases hl : r.length < 2000000
  case neg => rw [if_neg hl] at h; cases h
  rw [if_pos hl] at h
  cases h1 : ch s m with
  | error e => rw [h1] at h; cases h
  | ok p =>
    obtain ⟨y, s1⟩ := p
    rw [h1] at h
    simp only [Except.ok.injEq, Prod.mk.injEq] at h
    obtain ⟨rfl, rfl, rfl⟩ := h
    exact hb s m y s1 h0 h1
end
end Go.Proofs.YtabkihellcflhaaGreatDoor.Gens

/- Plain laws on plays: of a list, one after the other. No program. -/
namespace Go.Proofs.YtabkihellcflhaaGreatDoor.Gens
open Vals
set_option linter.unusedVariables false

section
variable {σ : Type} {ch : σ → Int → Except Int (Int × σ)}
theorem all_append_ok : ∀ (l m : List Gn) (s : σ) (c : List Int) (vs : List Tr) (s1 : σ), playAll ch l s = .ok (c, vs, s1) → ∀ c2 vs2 s2, playAll ch m s1 = .ok (c2, vs2, s2) → playAll ch (l ++ m) s = .ok (c ++ c2, vs ++ vs2, s2)
  | [], m, s, c, vs, s1, h, c2, vs2, s2, h2 => by
    simp only [playAll, Except.ok.injEq, Prod.mk.injEq] at h
    obtain ⟨rfl, rfl, rfl⟩ := h
    simpa using h2
  | g :: l, m, s, c, vs, s1, h, c2, vs2, s2, h2 => by
    simp only [playAll] at h
    cases h1 : play ch g s with
    | error e => rw [h1] at h; cases h
    | ok p =>
      obtain ⟨c1, v, s3⟩ := p
      simp only [h1] at h
      cases h3 : playAll ch l s3 with
      | error e => simp only [h3] at h; cases h
      | ok q =>
        obtain ⟨c4, vs4, s4⟩ := q
        simp only [h3, Except.ok.injEq, Prod.mk.injEq] at h
        obtain ⟨rfl, rfl, rfl⟩ := h
        simp only [List.cons_append, playAll, h1, all_append_ok l m s3 c4 vs4 s4 h3 c2 vs2 s2 h2, List.append_assoc]
theorem all_append_bad : ∀ (l m : List Gn) (s : σ) (c : List Int) (vs : List Tr) (s1 : σ), playAll ch l s = .ok (c, vs, s1) → ∀ e, playAll ch m s1 = .error e → playAll ch (l ++ m) s = .error e
  | [], m, s, c, vs, s1, h, e, h2 => by
    simp only [playAll, Except.ok.injEq, Prod.mk.injEq] at h
    obtain ⟨rfl, rfl, rfl⟩ := h
    simpa using h2
  | g :: l, m, s, c, vs, s1, h, e, h2 => by
    simp only [playAll] at h
    cases h1 : play ch g s with
    | error e => rw [h1] at h; cases h
    | ok p =>
      obtain ⟨c1, v, s3⟩ := p
      simp only [h1] at h
      cases h3 : playAll ch l s3 with
      | error e => simp only [h3] at h; cases h
      | ok q =>
        obtain ⟨c4, vs4, s4⟩ := q
        simp only [h3, Except.ok.injEq, Prod.mk.injEq] at h
        obtain ⟨rfl, rfl, rfl⟩ := h
        simp only [List.cons_append, playAll, h1, all_append_bad l m s3 c4 vs4 s4 h3 e h2]
/-- one more -/
theorem all_step {l : List Gn} {j : Nat} (hj : j < l.length) {s s1 s2 : σ} {c c2 : List Int} {vs : List Tr} {v : Tr} (h : playAll ch (l.take j) s = .ok (c, vs, s1)) (h2 : play ch (l[j]'hj) s1 = .ok (c2, v, s2)) : playAll ch (l.take (j + 1)) s = .ok (c ++ c2, vs ++ [v], s2) := by
  rw [List.take_succ_eq_append_getElem hj]
  exact all_append_ok _ _ s c vs s1 h c2 [v] s2 (by simp [playAll, h2])
/-- it stops -/
theorem all_stop {l : List Gn} {j : Nat} (hj : j < l.length) {s s1 : σ} {c : List Int} {vs : List Tr} {e : Int} (h : playAll ch (l.take j) s = .ok (c, vs, s1)) (h2 : play ch (l[j]'hj) s1 = .error e) : playAll ch l s = .error e := by
  have e1 : l = l.take j ++ (l[j]'hj) :: l.drop (j + 1) := by rw [← List.drop_eq_getElem_cons hj, List.take_append_drop]
  rw [e1]
  exact all_append_bad _ _ s c vs s1 h e (by simp [playAll, h2])
end
end Go.Proofs.YtabkihellcflhaaGreatDoor.Gens
