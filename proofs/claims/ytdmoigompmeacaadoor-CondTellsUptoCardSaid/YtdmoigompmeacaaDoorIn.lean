/- In: is a number among some? (package assayerref2) Conditions: the sizes. -/
import Derived.Test.YtdmoigompmeacaaDoorInts
import Derived.Test.YtdmoigompmeacaaDoorList
namespace Go.Proofs.YtdmoigompmeacaaDoor.Dd
open Go.RowKit Ints Lists
set_option linter.unusedVariables false

theorem contains_take (l : List Int) (x : Int) (k : Nat) (h : k < l.length) (h1 : (l.take k).contains x = false) (h2 : ¬ l.getD k 0 = x) : (l.take (k + 1)).contains x = false := by
  rw [List.take_succ_eq_append_getElem h]
  have e : l.getD k 0 = l[k] := by simp [List.getD_eq_getElem?_getD, h]
  rw [e] at h2
  rw [Bool.eq_false_iff] at h1 ⊢
  intro h3
  apply h1
  have : x ∈ l.take k ++ [l[k]] := by simpa using h3
  rw [List.mem_append] at this
  rcases this with h | h
  · simpa using h
  · exact absurd (show x = l[k] by simpa using h).symm h2
theorem contains_here (l : List Int) (x : Int) (k : Nat) (h : k < l.length) (h2 : l.getD k 0 = x) : l.contains x = true := by
  have e : l.getD k 0 = l[k] := by simp [List.getD_eq_getElem?_getD, h]
  rw [e] at h2
  have : x ∈ l := h2 ▸ List.getElem_mem h
  simpa using this

set_option maxHeartbeats 1000000 in
theorem in_any (l : List Int) (A : Option Addr) (c N : Nat) (x : Int) (hl : l.length ≤ maxLen) (w : World) (ha : At w N A l) :
    Calls Tryd.prog 25 #[.slice A l.length c, .int .i64 x] w fun e w' => e = .returned (.bool (l.contains x)) ∧ w' = w := by
  unfold maxLen at hl
  have HA := Lib.hid ha
  clear ha
  go_enter Tryd.func25, Tryd.ntmps25
  go_wp2_with fail
  go_loopw [5] (fun i wr => ∃ k : Nat, k ≤ l.length ∧ i = .int .i64 k ∧ wr = w ∧ Hid ((l.take k).contains x = false)) (fun i _ => l.length - (intOf i).toNat)
  case atStart => exact ⟨0, Nat.zero_le _, rfl, rfl, rfl⟩
  case round =>
    obtain ⟨k, hk, rfl, rfl, hn⟩ := hrel
    by_cases h1 : k < l.length
    · obtain ⟨b, off, rfl, _, hcell⟩ := HA.out (by omega)
      have c1 := hcell k h1
      clear hcell
      have CT := Lib.hid (contains_take l x k h1 hn.out)
      have CH := Lib.hid (contains_here l x k h1)
      generalize l.getD k 0 = y at *
      by_cases h : y = x
      · subst h
        have hv := Lib.hid (CH.out rfl)
        go_wp2_with fail
        go_ret
        exact ⟨ret_b (by simpa using hv.out), rfl⟩
      · have hv := Lib.hid (CT.out h)
        have hne : (y == x) = false := by rw [beq_eq_false_iff_ne]; exact h
        go_wp2_with fail
        go_roundw
        case rel => exact ⟨k + 1, by omega, by go_num, trivial, hv.out⟩
        case measure => simp [intOf]; omega
    · have hv := Lib.hid (show l.contains x = false by have := hn.out; rwa [List.take_of_length_le (by omega)] at this)
      go_wp2_with fail
      go_ret
      exact ⟨ret_b hv.out.symm, rfl⟩
theorem in_below (l : List Int) (A : Option Addr) (c N : Nat) (x : Int) (hl : l.length ≤ maxLen) (w : World) (ha : At w N A l) :
    Calls Tryd.prog 25 #[.slice A l.length c, .int .i64 x] w fun e w' => e = .returned (.bool (l.contains x)) ∧ Below w.heap.size w w' :=
  (in_any l A c N x hl w ha).mono fun _ _ ⟨h, h'⟩ => ⟨h, h' ▸ Below.refl _ _⟩
end Go.Proofs.YtdmoigompmeacaaDoor.Dd
