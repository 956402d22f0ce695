/- RoseOwn, part 38 of the proof: slices.IndexFunc, slices.ContainsFunc of lists of lists, with any function value. Conditions: the sizes. -/
import Derived.Test.YtfpbegagblekiaaDoorRoseOwnZ31
/- slices.IndexFunc, slices.ContainsFunc of lists of lists, with any function value. Conditions: the sizes. -/
namespace Go.Proofs.YtfpbegagblekiaaDoor.Ints
open Go.RowKit Go.WideShapes Go.ChangeShapes
set_option linter.unusedVariables false

abbrev ffv (k : Nat) (cap : Array Value) : Value := .func (.func k) #[] cap
/-- a function value that is asked about the rows at b, off one after another: St i, after i that were not so; Fin, after one that was so -/
structure Asked (k : Nat) (cap : Array Value) (b off n : Nat) (row : Nat → Value) (St : Nat → World → Prop) (Fin : World → Prop) : Prop where
  ent : ∀ args w, (callFunc k args).run Tryd.prog w = .ok (.enter k args) w
  cell : ∀ i w, i < n → St i w → w.cell? ⟨b, off + i, none⟩ = some (row i)
  call : ∀ i w, i < n → St i w → Calls Tryd.prog k (#[row i] ++ cap) w fun e w' => ∃ r : Bool, e = .returned (.bool r) ∧ (r = false → St (i + 1) w') ∧ (r = true → Fin w')

set_option maxHeartbeats 2000000 in
set_option maxRecDepth 100000 in
theorem index_any {k : Nat} {cap : Array Value} {b off n : Nat} {row : Nat → Value} {St : Nat → World → Prop} {Fin : World → Prop} (F : Asked k cap b off n row St Fin) (hn : n ≤ 4294967296) (c : Nat) (w : World) (h0 : St 0 w) :
    Calls Tryd.prog 83 #[.slice (some ⟨b, off, none⟩) n c, ffv k cap] w fun e w' => (e = .returned (.int .i64 (-1)) ∧ St n w') ∨ (∃ i : Nat, e = .returned (.int .i64 i) ∧ Fin w') := by
  have hent := F.ent
  have FC := Lib.hid F.cell
  have FK := Lib.hid F.call
  have H0 := Lib.hid h0
  clear F h0
  go_enter Tryd.func83, Tryd.ntmps83
  go_wp2_with fail
  go_loopw [8] (fun i wr => ∃ j : Nat, j ≤ n ∧ i = .int .i64 j ∧ Hid (St j wr)) (fun i _ => n - (intOf i).toNat)
  case atStart => exact ⟨0, Nat.zero_le _, rfl, H0.out⟩
  case round =>
    obtain ⟨j, hj, rfl, hS⟩ := hrel
    by_cases hlt : j < n
    · have c0 := FC.out j wr hlt hS.out
      have C1 := Lib.hid (FK.out j wr hlt hS.out)
      generalize row j = v at *
      clear hS
      go_wp2_with fail
      refine C1.out.mono ?_
      rintro e w2 ⟨r, rfl, h1, h2⟩
      cases r with
      | false =>
        have S1 := Lib.hid (h1 rfl)
        clear h1 h2 c0 C1
        go_wp2_with fail
        go_roundw
        case rel => exact ⟨j + 1, hlt, by go_num, S1.out⟩
        case measure => simp [intOf]; omega
      | true =>
        have S1 := Lib.hid (h2 rfl)
        clear h1 h2 c0 C1
        go_wp2_with fail
        go_ret
        exact .inr ⟨j, rfl, S1.out⟩
    · have S1 := Lib.hid (show St n wr by rw [show n = j by omega]; exact hS.out)
      clear hS
      go_wp2_with fail
      go_ret
      exact .inl ⟨rfl, S1.out⟩

set_option maxHeartbeats 2000000 in
set_option maxRecDepth 100000 in
theorem contains_any {k : Nat} {cap : Array Value} {b off n : Nat} {row : Nat → Value} {St : Nat → World → Prop} {Fin : World → Prop} (F : Asked k cap b off n row St Fin) (hn : n ≤ 4294967296) (c : Nat) (w : World) (h0 : St 0 w) :
    Calls Tryd.prog 61 #[.slice (some ⟨b, off, none⟩) n c, ffv k cap] w fun e w' => ∃ r : Bool, e = .returned (.bool r) ∧ (r = false → St n w') ∧ (r = true → Fin w') := by
  have C := Lib.hid (index_any F hn c w h0)
  clear F h0
  go_enter Tryd.func61, Tryd.ntmps61
  go_wp2_with fail
  refine C.out.mono ?_
  rintro e w2 h
  rcases h with ⟨rfl, h⟩ | ⟨i, rfl, h⟩
  · go_wp2_with fail
    go_ret
    exact ⟨false, rfl, fun _ => h, fun h => nomatch h⟩
  · have g : decide (0 ≤ (i : Int)) = true := by rw [decide_eq_true_eq]; omega
    go_wp2_with fail
    go_ret
    exact ⟨true, rfl, (fun h => nomatch h), fun _ => h⟩
end Go.Proofs.YtfpbegagblekiaaDoor.Ints
