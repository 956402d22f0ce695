/- Plain laws on plays: what is left of the source, how many choices there are. No program. -/
import Derived.Test.YtboecgbgcbkcjaaPlay2
namespace Go.Proofs.Ytboecgbgcbkcjaa.Gens
open Vals
set_option linter.unusedVariables false

/-! what is left -/
def Tails (ch : List Int → Int → Except Int (Int × List Int)) : Prop := ∀ s m x r, ch s m = .ok (x, r) → r = s.drop 1
theorem read_tails : Tails readC := by
  intro s m x r h
  rw [read_took h]; rfl
theorem mend_tails : Tails mendC := by
  intro s m x r h
  unfold mendC at h
  simp only [Except.ok.injEq, Prod.mk.injEq] at h
  rw [← h.2, List.drop_one]
section
variable {ch : List Int → Int → Except Int (Int × List Int)}
theorem rep_left {f : List Int → Except Int (List Int × Tr × List Int)} (hf : ∀ s c v r, f s = .ok (c, v, r) → r = s.drop c.length) : ∀ n s c vs r, rep f n s = .ok (c, vs, r) → r = s.drop c.length
  | 0, s, c, vs, r, h => by
    simp only [rep, Except.ok.injEq, Prod.mk.injEq] at h
    obtain ⟨rfl, _, rfl⟩ := h
    rfl
  | n + 1, s, c, vs, r, h => by
    simp only [rep] at h
    cases h1 : f s with
    | error e => rw [h1] at h; cases h
    | ok p =>
      obtain ⟨c1, v, s1⟩ := p
      rw [h1] at h
      cases h2 : rep f n s1 with
      | error e => simp only [h2] at h; cases h
      | ok q =>
        obtain ⟨c2, vs2, s2⟩ := q
        simp only [h2, Except.ok.injEq, Prod.mk.injEq] at h
        obtain ⟨rfl, _, rfl⟩ := h
        rw [rep_left hf n s1 c2 vs2 s2 h2, hf s c1 v s1 h1, List.drop_drop, List.length_append]
mutual
theorem play_left (ht : Tails ch) : ∀ (g : Gn) s c v r, play ch g s = .ok (c, v, r) → r = s.drop c.length
  | .node k a b subs, s, c, v, r, h => by
    simp only [play] at h
    split at h
    · simp only [Except.ok.injEq, Prod.mk.injEq] at h
      obtain ⟨rfl, _, rfl⟩ := h
      rfl
    · split at h
      · cases h1 : ch s (b - a) with
        | error e => rw [h1] at h; cases h
        | ok p =>
          obtain ⟨x, s1⟩ := p
          simp only [h1, Except.ok.injEq, Prod.mk.injEq] at h
          obtain ⟨rfl, _, rfl⟩ := h
          exact ht s _ x s1 h1
      · split at h
        · cases h1 : ch s (subs.length - 1) with
          | error e => rw [h1] at h; cases h
          | ok p =>
            obtain ⟨x, s1⟩ := p
            simp only [h1] at h
            cases h2 : playAt ch subs x.toNat s1 with
            | error e => simp only [h2] at h; cases h
            | ok q =>
              obtain ⟨c2, v2, s2⟩ := q
              simp only [h2, Except.ok.injEq, Prod.mk.injEq] at h
              obtain ⟨rfl, _, rfl⟩ := h
              rw [at_left ht subs x.toNat s1 c2 v2 s2 h2, ht s _ x s1 h1, List.drop_drop, List.length_cons, Nat.add_comm]
        · split at h
          · cases h1 : playAll ch subs s with
            | error e => rw [h1] at h; cases h
            | ok q =>
              obtain ⟨c2, vs, s2⟩ := q
              simp only [h1, Except.ok.injEq, Prod.mk.injEq] at h
              obtain ⟨rfl, _, rfl⟩ := h
              exact all_left ht subs s c2 vs s2 h1
          · cases h1 : ch s a with
            | error e => rw [h1] at h; cases h
            | ok p =>
              obtain ⟨x, s1⟩ := p
              simp only [h1] at h
              cases h2 : playRep ch subs x.toNat s1 with
              | error e => simp only [h2] at h; cases h
              | ok q =>
                obtain ⟨c2, vs, s2⟩ := q
                simp only [h2, Except.ok.injEq, Prod.mk.injEq] at h
                obtain ⟨rfl, _, rfl⟩ := h
                rw [rep_left' ht subs x.toNat s1 c2 vs s2 h2, ht s _ x s1 h1, List.drop_drop, List.length_cons, Nat.add_comm]
theorem at_left (ht : Tails ch) : ∀ (l : List Gn) n s c v r, playAt ch l n s = .ok (c, v, r) → r = s.drop c.length
  | [], n, s, c, v, r, h => by
    simp only [playAt, Except.ok.injEq, Prod.mk.injEq] at h
    obtain ⟨rfl, _, rfl⟩ := h
    rfl
  | g :: l, 0, s, c, v, r, h => by
    simp only [playAt] at h
    exact play_left ht g s c v r h
  | g :: l, n + 1, s, c, v, r, h => by
    simp only [playAt] at h
    exact at_left ht l n s c v r h
theorem all_left (ht : Tails ch) : ∀ (l : List Gn) s c vs r, playAll ch l s = .ok (c, vs, r) → r = s.drop c.length
  | [], s, c, vs, r, h => by
    simp only [playAll, Except.ok.injEq, Prod.mk.injEq] at h
    obtain ⟨rfl, _, rfl⟩ := h
    rfl
  | g :: l, s, c, vs, r, h => by
    simp only [playAll] at h
    cases h1 : play ch g s with
    | error e => rw [h1] at h; cases h
    | ok p =>
      obtain ⟨c1, v, s1⟩ := p
      simp only [h1] at h
      cases h2 : playAll ch l s1 with
      | error e => simp only [h2] at h; cases h
      | ok q =>
        obtain ⟨c2, vs2, s2⟩ := q
        simp only [h2, Except.ok.injEq, Prod.mk.injEq] at h
        obtain ⟨rfl, _, rfl⟩ := h
        rw [all_left ht l s1 c2 vs2 s2 h2, play_left ht g s c1 v s1 h1, List.drop_drop, List.length_append]
theorem rep_left' (ht : Tails ch) : ∀ (l : List Gn) n s c vs r, playRep ch l n s = .ok (c, vs, r) → r = s.drop c.length
  | [], n, s, c, vs, r, h => by
    simp only [playRep, Except.ok.injEq, Prod.mk.injEq] at h
    obtain ⟨rfl, _, rfl⟩ := h
    rfl
  | g :: l, n, s, c, vs, r, h => by
    simp only [playRep] at h
    exact rep_left (fun s c v r h => play_left ht g s c v r h) n s c vs r h
end
end

/-! how many choices -/
mutual
def longG : Gn → Nat
  | .node k a b subs => if k = 1 then 0 else if k = 2 then 1 else if k = 4 then 1 + 5 * longs subs else 1 + longs subs
def longs : List Gn → Nat
  | [] => 0
  | g :: r => longG g + longs r
end
theorem rep_long {σ : Type} {f : σ → Except Int (List Int × Tr × σ)} {m : Nat} (hf : ∀ s c v r, f s = .ok (c, v, r) → c.length ≤ m) : ∀ n s c vs r, rep f n s = .ok (c, vs, r) → c.length ≤ n * m
  | 0, s, c, vs, r, h => by
    simp only [rep, Except.ok.injEq, Prod.mk.injEq] at h
    obtain ⟨rfl, _, rfl⟩ := h
    simp
  | n + 1, s, c, vs, r, h => by
    simp only [rep] at h
    cases h1 : f s with
    | error e => rw [h1] at h; cases h
    | ok p =>
      obtain ⟨c1, v, s1⟩ := p
      rw [h1] at h
      cases h2 : rep f n s1 with
      | error e => simp only [h2] at h; cases h
      | ok q =>
        obtain ⟨c2, vs2, s2⟩ := q
        simp only [h2, Except.ok.injEq, Prod.mk.injEq] at h
        obtain ⟨rfl, _, rfl⟩ := h
        have := rep_long hf n s1 c2 vs2 s2 h2
        have := hf s c1 v s1 h1
        rw [List.length_append, Nat.add_mul]
        omega
section
variable {σ : Type} {ch : σ → Int → Except Int (Int × σ)}
mutual
theorem play_long (hb : Bounded ch) : ∀ (g : Gn), Right g → ∀ s c v r, play ch g s = .ok (c, v, r) → c.length ≤ longG g
  | .node k a b subs, hg, s, c, v, r, h => by
    have hm := right_max hg
    have hs : ∀ x ∈ subs, Right x := hg.subs
    simp only [play] at h
    simp only [longG]
    split at h
    · simp only [Except.ok.injEq, Prod.mk.injEq] at h
      obtain ⟨rfl, _, rfl⟩ := h
      simp
    · rename_i hk1
      rw [if_neg hk1]
      split at h
      · rename_i hk
        rw [if_pos hk]
        cases h1 : ch s (b - a) with
        | error e => rw [h1] at h; cases h
        | ok p =>
          obtain ⟨x, s1⟩ := p
          simp only [h1, Except.ok.injEq, Prod.mk.injEq] at h
          obtain ⟨rfl, _, rfl⟩ := h
          simp
      · rename_i hk2
        rw [if_neg hk2]
        split at h
        · rename_i hk
          rw [if_neg (by omega)]
          cases h1 : ch s (subs.length - 1) with
          | error e => rw [h1] at h; cases h
          | ok p =>
            obtain ⟨x, s1⟩ := p
            simp only [h1] at h
            cases h2 : playAt ch subs x.toNat s1 with
            | error e => simp only [h2] at h; cases h
            | ok q =>
              obtain ⟨c2, v2, s2⟩ := q
              simp only [h2, Except.ok.injEq, Prod.mk.injEq] at h
              obtain ⟨rfl, _, rfl⟩ := h
              have := at_long hb subs hs x.toNat s1 c2 v2 s2 h2
              rw [List.length_cons]; omega
        · split at h
          · rename_i hk
            rw [if_neg (by omega)]
            cases h1 : playAll ch subs s with
            | error e => rw [h1] at h; cases h
            | ok q =>
              obtain ⟨c2, vs, s2⟩ := q
              simp only [h1, Except.ok.injEq, Prod.mk.injEq] at h
              obtain ⟨rfl, _, rfl⟩ := h
              have := all_long hb subs hs s c2 vs s2 h1
              omega
          · have hk4 : k = 4 := by omega
            rw [if_pos hk4]
            cases h1 : ch s a with
            | error e => rw [h1] at h; cases h
            | ok p =>
              obtain ⟨x, s1⟩ := p
              simp only [h1] at h
              cases h2 : playRep ch subs x.toNat s1 with
              | error e => simp only [h2] at h; cases h
              | ok q =>
                obtain ⟨c2, vs, s2⟩ := q
                simp only [h2, Except.ok.injEq, Prod.mk.injEq] at h
                obtain ⟨rfl, _, rfl⟩ := h
                obtain ⟨b1, b2⟩ := hb s _ x s1 (hm.2.2.1 hk4).1 h1
                have h5 : x.toNat ≤ 5 := by have := (hm.2.2.1 hk4).2.1; omega
                have := rep_long' hb subs hs x.toNat s1 c2 vs s2 h2
                have := Nat.mul_le_mul_right (longs subs) h5
                rw [List.length_cons]; omega
theorem at_long (hb : Bounded ch) : ∀ (l : List Gn), (∀ x ∈ l, Right x) → ∀ n s c v r, playAt ch l n s = .ok (c, v, r) → c.length ≤ longs l
  | [], _, n, s, c, v, r, h => by
    simp only [playAt, Except.ok.injEq, Prod.mk.injEq] at h
    obtain ⟨rfl, _, rfl⟩ := h
    simp
  | g :: l, hl, 0, s, c, v, r, h => by
    simp only [playAt] at h
    have := play_long hb g (hl g (by simp)) s c v r h
    rw [longs]; omega
  | g :: l, hl, n + 1, s, c, v, r, h => by
    simp only [playAt] at h
    have := at_long hb l (fun x hx => hl x (by simp [hx])) n s c v r h
    rw [longs]; omega
theorem all_long (hb : Bounded ch) : ∀ (l : List Gn), (∀ x ∈ l, Right x) → ∀ s c vs r, playAll ch l s = .ok (c, vs, r) → c.length ≤ longs l
  | [], _, s, c, vs, r, h => by
    simp only [playAll, Except.ok.injEq, Prod.mk.injEq] at h
    obtain ⟨rfl, _, rfl⟩ := h
    simp
  | g :: l, hl, s, c, vs, r, h => by
    simp only [playAll] at h
    cases h1 : play ch g s with
    | error e => rw [h1] at h; cases h
    | ok p =>
      obtain ⟨c1, v, s1⟩ := p
      simp only [h1] at h
      cases h2 : playAll ch l s1 with
      | error e => simp only [h2] at h; cases h
      | ok q =>
        obtain ⟨c2, vs2, s2⟩ := q
        simp only [h2, Except.ok.injEq, Prod.mk.injEq] at h
        obtain ⟨rfl, _, rfl⟩ := h
        have := play_long hb g (hl g (by simp)) s c1 v s1 h1
        have := all_long hb l (fun x hx => hl x (by simp [hx])) s1 c2 vs2 s2 h2
        rw [List.length_append, longs]; omega
theorem rep_long' (hb : Bounded ch) : ∀ (l : List Gn), (∀ x ∈ l, Right x) → ∀ n s c vs r, playRep ch l n s = .ok (c, vs, r) → c.length ≤ n * longs l
  | [], _, n, s, c, vs, r, h => by
    simp only [playRep, Except.ok.injEq, Prod.mk.injEq] at h
    obtain ⟨rfl, _, rfl⟩ := h
    simp
  | g :: l, hl, n, s, c, vs, r, h => by
    simp only [playRep] at h
    have h1 := rep_long (m := longG g) (fun s c v r h => play_long hb g (hl g (by simp)) s c v r h) n s c vs r h
    have h2 := Nat.mul_le_mul_left n (show longG g ≤ longs (g :: l) by rw [longs]; omega)
    omega
end
end
mutual
theorem long_le : ∀ (g : Gn) (deep d : Nat), (largeG g deep).2 = false → deep + d = 6 → longG g ≤ g.size * 6 ^ d
  | .node k a b subs, deep, d, h, hd => by
    simp only [largeG] at h
    split at h
    · cases h
    · rename_i h6
      obtain ⟨d', rfl⟩ : ∃ d', d = d' + 1 := ⟨d - 1, by omega⟩
      have h1 := longs_le subs (deep + 1) 1 d' h (by omega)
      have h2 : 1 ≤ 6 ^ d' := Nat.one_le_pow _ _ (by omega)
      have h3 : (Gn.node k a b subs).size * 6 ^ (d' + 1) = 6 * 6 ^ d' + 6 * (gsizes subs * 6 ^ d') := by
        rw [Gn.size, Nat.pow_succ, Nat.add_mul, Nat.one_mul, Nat.mul_comm (6 ^ d') 6, ← Nat.mul_assoc, Nat.mul_comm (gsizes subs) 6, Nat.mul_assoc]
      rw [h3]
      simp only [longG]
      split
      · omega
      · split
        · omega
        · split <;> omega
theorem longs_le : ∀ (l : List Gn) (deep n d : Nat), (largeGs l deep n).2 = false → deep + d = 6 → longs l ≤ gsizes l * 6 ^ d
  | [], deep, n, d, h, hd => by simp [longs]
  | g :: r, deep, n, d, h, hd => by
    simp only [largeGs] at h
    split at h
    · cases h
    · rename_i hc
      have h1 : (largeG g deep).2 = false := by
        cases hb : (largeG g deep).2 with
        | false => rfl
        | true => exact absurd (.inl hb) hc
      have := long_le g deep d h1 hd
      have := longs_le r deep _ d h hd
      rw [longs, gsizes, Nat.add_mul]
      omega
end
/-- a small generator makes so many choices at most -/
theorem small_long {g : Gn} (h : (largeG g 0).2 = false) : longG g ≤ 1399680 := by
  have h1 := long_le g 0 6 h rfl
  have h2 := Nat.mul_le_mul_right (6 ^ 6) (small_size h)
  have h3 : 30 * 6 ^ 6 = 1399680 := by decide
  omega
end Go.Proofs.Ytboecgbgcbkcjaa.Gens
