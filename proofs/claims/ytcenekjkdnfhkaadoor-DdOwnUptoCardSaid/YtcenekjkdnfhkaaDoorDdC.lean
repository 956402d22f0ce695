/- Delta debugging: what a function value tells that may write into its list; what Min tells. Contracts; no program. -/
import Derived.Test.YtcenekjkdnfhkaaDoorDdL
import Derived.Test.YtcenekjkdnfhkaaDoorSlices
import Derived.Test.YtcenekjkdnfhkaaDoorErr
namespace Go.Proofs.YtcenekjkdnfhkaaDoor.Dd
open Go.RowKit Rng Ints Lists Vals
set_option linter.unusedVariables false

abbrev dfv (k : Nat) (cap : Array Value) : Value := .func (.func k) #[] cap
/-- a function value that tells P of a list, and may write into it -/
structure FailF (k : Nat) (cap : Array Value) (B : Nat) (P : List Int → Bool) (I : World → Prop) : Prop where
  ent : ∀ args w, (callFunc k args).run Tryd.prog w = .ok (.enter k args) w
  keep : ∀ w w', I w → Below B w w' → I w'
  call : ∀ w A c l, I w → B ≤ w.heap.size → Own w B A c l → l.length ≤ 12 → Calls Tryd.prog k (#[.slice A l.length c] ++ cap) w fun e w' => e = .returned (.bool (P l)) ∧ w.grownBy w' (rowOf A)
theorem grown_below {B : Nat} {w w' : World} {row : Option Nat} (h : w.grownBy w' row) (hB : B ≤ w.heap.size) (hr : ∀ g, row = some g → B ≤ g) : Below B w w' :=
  ⟨h.os, h.tape, h.output, h.size, fun b hb => h.block b (by omega) (fun e => by have := hr b e.symm; omega)⟩
/-- the error of Min -/
def minE (P : List Int → Bool) (l : List Int) : Int := if 12 < l.length then 4 else if P l = true then 0 else 2
theorem minE_ok {P : List Int → Bool} {l : List Int} (h : minE P l = 0) : l.length ≤ 12 ∧ P l = true := by
  unfold minE at h
  by_cases h1 : 12 < l.length
  · rw [if_pos h1] at h; cases h
  · rw [if_neg h1] at h
    by_cases h2 : P l = true
    · exact ⟨by omega, h2⟩
    · rw [if_neg h2] at h; cases h
theorem minE_full {P : List Int → Bool} {l : List Int} (h : 12 < l.length) : minE P l = 4 := by unfold minE; rw [if_pos h]
theorem minE_none {P : List Int → Bool} {l : List Int} (h : ¬ 12 < l.length) (h2 : P l = false) : minE P l = 2 := by unfold minE; rw [if_neg h, if_neg (by rw [h2]; decide)]
theorem minE_is {P : List Int → Bool} {l : List Int} (h : ¬ 12 < l.length) (h2 : P l = true) : minE P l = 0 := by unfold minE; rw [if_neg h, if_pos h2]
/-- what Min tells -/
def MnPost (z : List Int) (q : Int) (w : World) (e : Ending) (w' : World) : Prop :=
  ∃ (A : Option Addr) (c : Nat), e = .returned (.tuple #[.slice A z.length c, errOf q]) ∧ Own w' w.heap.size A c z ∧ Below w.heap.size w w'
end Go.Proofs.YtcenekjkdnfhkaaDoor.Dd
