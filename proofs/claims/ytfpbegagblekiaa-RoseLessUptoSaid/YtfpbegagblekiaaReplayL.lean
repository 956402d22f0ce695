/- Plain laws: what Replay tells. No program. -/
import Derived.Test.YtfpbegagblekiaaPlay
namespace Go.Proofs.Ytfpbegagblekiaa.Gens
open Vals
set_option linter.unusedVariables false

theorem read_err {l : List Int} {m e : Int} (h : readC l m = .error e) : e = 1 ∨ e = 5 := by
  unfold readC at h
  split at h
  · injection h with h; omega
  · split at h
    · cases h
    · injection h with h; omega
theorem rep_err {f : List Int → Except Int (List Int × Tr × List Int)} (hf : ∀ s e, f s = .error e → e = 1 ∨ e = 5) : ∀ n s e, rep f n s = .error e → e = 1 ∨ e = 5
  | 0, s, e, h => by simp [rep] at h
  | n + 1, s, e, h => by
    simp only [rep] at h
    cases h1 : f s with
    | error e1 => rw [h1] at h; injection h with h; rw [← h]; exact hf s e1 h1
    | ok p =>
      obtain ⟨c1, v, s1⟩ := p
      rw [h1] at h
      cases h2 : rep f n s1 with
      | error e2 => simp only [h2] at h; injection h with h; rw [← h]; exact rep_err hf n s1 e2 h2
      | ok q => simp only [h2] at h; cases h
mutual
theorem play_err : ∀ (g : Gn) (s : List Int) (e : Int), play readC g s = .error e → e = 1 ∨ e = 5
  | .node k a b subs, s, e, h => by
    simp only [play] at h
    split at h
    · cases h
    · split at h
      · cases h1 : readC s (b - a) with
        | error e1 => rw [h1] at h; injection h with h; rw [← h]; exact read_err h1
        | ok p => rw [h1] at h; cases h
      · split at h
        · cases h1 : readC s (subs.length - 1) with
          | error e1 => rw [h1] at h; injection h with h; rw [← h]; exact read_err h1
          | ok p =>
            obtain ⟨x, s1⟩ := p
            simp only [h1] at h
            cases h2 : playAt readC subs x.toNat s1 with
            | error e2 => simp only [h2] at h; injection h with h; rw [← h]; exact at_err subs x.toNat s1 e2 h2
            | ok q => simp only [h2] at h; cases h
        · split at h
          · cases h1 : playAll readC subs s with
            | error e1 => simp only [h1] at h; injection h with h; rw [← h]; exact all_err subs s e1 h1
            | ok q => simp only [h1] at h; cases h
          · cases h1 : readC s a with
            | error e1 => rw [h1] at h; injection h with h; rw [← h]; exact read_err h1
            | ok p =>
              obtain ⟨x, s1⟩ := p
              simp only [h1] at h
              cases h2 : playRep readC subs x.toNat s1 with
              | error e2 => simp only [h2] at h; injection h with h; rw [← h]; exact rep_err' subs x.toNat s1 e2 h2
              | ok q => simp only [h2] at h; cases h
theorem at_err : ∀ (l : List Gn) n s e, playAt readC l n s = .error e → e = 1 ∨ e = 5
  | [], n, s, e, h => by simp [playAt] at h
  | g :: l, 0, s, e, h => by simp only [playAt] at h; exact play_err g s e h
  | g :: l, n + 1, s, e, h => by simp only [playAt] at h; exact at_err l n s e h
theorem all_err : ∀ (l : List Gn) s e, playAll readC l s = .error e → e = 1 ∨ e = 5
  | [], s, e, h => by simp [playAll] at h
  | g :: l, s, e, h => by
    simp only [playAll] at h
    cases h1 : play readC g s with
    | error e1 => rw [h1] at h; injection h with h; rw [← h]; exact play_err g s e1 h1
    | ok p =>
      obtain ⟨c1, v, s1⟩ := p
      simp only [h1] at h
      cases h2 : playAll readC l s1 with
      | error e2 => simp only [h2] at h; injection h with h; rw [← h]; exact all_err l s1 e2 h2
      | ok q => simp only [h2] at h; cases h
theorem rep_err' : ∀ (l : List Gn) n s e, playRep readC l n s = .error e → e = 1 ∨ e = 5
  | [], n, s, e, h => by simp [playRep] at h
  | g :: l, n, s, e, h => by simp only [playRep] at h; exact rep_err (fun s e h => play_err g s e h) n s e h
end
/-- what Replay tells of a right generator -/
def repG (t : Gn) (l : List Int) : Except Int Tr := match play readC t l with
  | .ok (_, v, r) => if r = [] then .ok v else .error 3
  | .error e => .error e
/-- what Replay tells -/
def repV (t : Gn) (l : List Int) : Except Int Tr := if genV t = 0 then repG t l else .error (genV t)
def trOf (r : Except Int Tr) : Tr := match r with | .ok v => v | .error _ => .node false 0 []
def errI (r : Except Int Tr) : Int := match r with | .ok _ => 0 | .error e => e
end Go.Proofs.Ytfpbegagblekiaa.Gens
