/- TopFails, part 37 of the proof: Contracts: cmp.Compare, slices.Compare, tape.Less. Conditions: none but that the slices' cells are known. · slices.IndexFunc, slices.ContainsFunc of lists of lists, with any function value. Conditions: the sizes. -/
import Derived.Test.YtabkihellcflhaaGreatDoorTopFailsZ2
import Derived.Test.YtabkihellcflhaaGreatDoorTopFailsZ10
import Derived.Test.YtabkihellcflhaaGreatDoorTopFailsZ33
/- Contracts: cmp.Compare, slices.Compare, tape.Less. Conditions: none but that the slices' cells are known. -/
namespace Go.Proofs.YtabkihellcflhaaGreatDoor.Ints
open Go.RowKit Go.WideShapes Go.ChangeShapes Lists
set_option linter.unusedVariables false

/-! cmp.Compare -/
def cmpI (x y : Int) : Int := if x < y then -1 else if y < x then 1 else 0
theorem isNaN_any (x : Int) (w : World) : Calls Tryz.prog 124 #[.int .i64 x] w fun e w' => e = .returned (.bool false) ∧ w = w' := by
  go_enter Tryz.func124, Tryz.ntmps124
  go_wp2
  go_ret
  exact ⟨rfl, rfl⟩
theorem compare_any (x y : Int) (w : World) : Calls Tryz.prog 116 #[.int .i64 x, .int .i64 y] w fun e w' => e = .returned (.int .i64 (cmpI x y)) ∧ w = w' := by
  rcases Int.lt_trichotomy x y with h | h | h
  · have e : cmpI x y = -1 := by unfold cmpI; rw [if_pos h]
    rw [e]; clear e
    go_enter Tryz.func116, Tryz.ntmps116
    go_wp2_with (go_at_call 124; refine (isNaN_any _ _).mono ?_; rintro e w' ⟨rfl, rfl⟩)
    go_ret
    exact ⟨rfl, rfl⟩
  · subst h
    have e : cmpI x x = 0 := by unfold cmpI; simp
    rw [e]; clear e
    go_enter Tryz.func116, Tryz.ntmps116
    go_wp2_with (go_at_call 124; refine (isNaN_any _ _).mono ?_; rintro e w' ⟨rfl, rfl⟩)
    go_ret
    exact ⟨rfl, rfl⟩
  · have e : cmpI x y = 1 := by unfold cmpI; rw [if_neg (by omega), if_pos h]
    have h' : ¬ x < y := by omega
    rw [e]; clear e
    go_enter Tryz.func116, Tryz.ntmps116
    go_wp2_with (go_at_call 124; refine (isNaN_any _ _).mono ?_; rintro e w' ⟨rfl, rfl⟩)
    go_ret
    exact ⟨rfl, rfl⟩


/-! slices.Compare -/
theorem compares (l m : List Int) (A B : Option Addr) (c d N : Nat) (hl : l.length ≤ maxLen) (hm : m.length ≤ maxLen) (w : World) (ha : At w N A l) (hb : At w N B m) :
    Calls Tryz.prog 99 #[.slice A l.length c, .slice B m.length d] w fun e w' => e = .returned (.int .i64 (cmpL l m)) ∧ w = w' := by
  unfold maxLen at hl hm
  have HA := Lib.hid ha
  have HB := Lib.hid hb
  clear ha hb
  go_enter Tryz.func99, Tryz.ntmps99
  go_wp2
  go_loop [11] (fun i => ∃ k : Nat, k ≤ l.length ∧ k ≤ m.length ∧ i = .int .i64 k ∧ Hid (cmpL (l.drop k) (m.drop k) = cmpL l m)) (fun i => l.length - (intOf i).toNat)
  case atStart => exact ⟨0, Nat.zero_le _, Nat.zero_le _, rfl, rfl⟩
  case round =>
    obtain ⟨k, hk, hk2, rfl, hc⟩ := hrel
    by_cases h1 : k < l.length
    · obtain ⟨b, off, rfl, _, hcell⟩ := HA.out (by omega)
      have c1 := hcell k h1
      clear hcell
      by_cases h2 : k < m.length
      · obtain ⟨b2, off2, rfl, _, hcell2⟩ := HB.out (by omega)
        have c2 := hcell2 k h2
        clear hcell2
        have hs := Lib.hid (cmpL_step l m k h1 h2)
        generalize l.getD k 0 = x at c1 hs
        generalize m.getD k 0 = y at c2 hs
        rcases Int.lt_trichotomy x y with h | h | h
        · have e : cmpI x y = -1 := by unfold cmpI; rw [if_pos h]
          have hv : cmpL l m = -1 := by rw [← hc.out, hs.out, if_pos h]
          have hv := Lib.hid hv
          have cc := fun w => e ▸ compare_any x y w
          clear e
          go_wp2_with (go_at_call 116; refine (cc _).mono ?_; rintro e w' ⟨rfl, rfl⟩)
          go_ret
          exact ⟨ret_int hv.out.symm, rfl⟩
        · subst h
          have e : cmpI x x = 0 := by unfold cmpI; simp
          have hv : cmpL (l.drop (k + 1)) (m.drop (k + 1)) = cmpL l m := by rw [← hc.out, hs.out, if_neg (by omega), if_neg (by omega)]
          have hv := Lib.hid hv
          have cc := fun w => e ▸ compare_any x x w
          clear e
          go_wp2_with (go_at_call 116; refine (cc _).mono ?_; rintro e w' ⟨rfl, rfl⟩)
          go_round
          case rel => exact ⟨k + 1, by omega, by omega, by go_num, hv.out⟩
          case measure => simp [intOf]; omega
        · have e : cmpI x y = 1 := by unfold cmpI; rw [if_neg (by omega), if_pos h]
          have hv : cmpL l m = 1 := by rw [← hc.out, hs.out, if_neg (by omega), if_pos h]
          have hv := Lib.hid hv
          have cc := fun w => e ▸ compare_any x y w
          clear e
          go_wp2_with (go_at_call 116; refine (cc _).mono ?_; rintro e w' ⟨rfl, rfl⟩)
          go_ret
          exact ⟨ret_int hv.out.symm, rfl⟩
      · have hv := Lib.hid (show cmpL l m = 1 by rw [← hc.out, cmpL_out l m k h1 (by omega)])
        have h2' : m.length ≤ k := by omega
        go_wp2
        go_ret
        exact ⟨ret_int hv.out.symm, rfl⟩
    · by_cases h2 : k < m.length
      · have hv := Lib.hid (show cmpL l m = -1 by rw [← hc.out, cmpL_less l m k (by omega) h2])
        have h3 : l.length < m.length := by omega
        go_wp2
        go_ret
        exact ⟨ret_int hv.out.symm, rfl⟩
      · have hv := Lib.hid (show cmpL l m = 0 by rw [← hc.out, cmpL_done l m k (by omega) (by omega)])
        have h3 : ¬ l.length < m.length := by omega
        go_wp2
        go_ret
        exact ⟨ret_int hv.out.symm, rfl⟩

/-! tape.Less -/
theorem less_any (l m : List Int) (A B : Option Addr) (c d N : Nat) (hl : l.length ≤ maxLen) (hm : m.length ≤ maxLen) (w : World) (ha : At w N A l) (hb : At w N B m) :
    Calls Tryz.prog 73 #[.slice A l.length c, .slice B m.length d] w fun e w' => e = .returned (.bool (lessL l m)) ∧ w = w' := by
  have HA := Lib.hid ha
  have HB := Lib.hid hb
  have HL := Lib.hid hl
  have HM := Lib.hid hm
  clear ha hb hl hm
  by_cases e : l.length = m.length
  · have hv0 := Lib.hid (show lessL l m = decide (cmpL l m < 0) by unfold lessL; rw [if_pos e])
    have cc := fun w' ha hb => compares l m A B c d N HL.out HM.out w' ha hb
    generalize cmpL l m = x at hv0 cc
    have ht : (((l.length : Nat) : Int) != ((m.length : Nat) : Int)) = false := by rw [bne_eq_false_iff_eq]; omega
    have E := Lib.hid e
    clear e
    by_cases hx : x < 0
    · have hv := Lib.hid (show lessL l m = true by rw [hv0.out, decide_eq_true hx])
      go_enter Tryz.func73, Tryz.ntmps73
      go_wp2_with (go_at_call 99; refine (cc _ HA.out HB.out).mono ?_; rintro e w' ⟨rfl, rfl⟩)
      go_ret
      exact ⟨ret_b hv.out.symm, rfl⟩
    · go_enter Tryz.func73, Tryz.ntmps73
      go_wp2_with (go_at_call 99; refine (cc _ HA.out HB.out).mono ?_; rintro e w' ⟨rfl, rfl⟩)
      go_ret
      exact ⟨ret_b hv0.out.symm, rfl⟩
  · have ht : (((l.length : Nat) : Int) != ((m.length : Nat) : Int)) = true := by rw [bne_iff_ne]; omega
    by_cases h : l.length < m.length
    · have hv := Lib.hid (show lessL l m = true by unfold lessL; rw [if_neg e, decide_eq_true h])
      clear e
      go_enter Tryz.func73, Tryz.ntmps73
      go_wp2
      go_ret
      exact ⟨ret_b hv.out.symm, rfl⟩
    · have hv := Lib.hid (show lessL l m = false by unfold lessL; rw [if_neg e, decide_eq_false h])
      clear e
      go_enter Tryz.func73, Tryz.ntmps73
      go_wp2
      go_ret
      exact ⟨ret_b hv.out.symm, rfl⟩


/-! what the statements of tapes ask first -/
theorem fact_any (b b2 : Nat) (w : World) (h0 : w.cell? ⟨b, 0, none⟩ = some (.int .i64 5)) (h1 : w.cell? ⟨b2, 0, none⟩ = some (.int .i64 1)) (h2 : w.cell? ⟨b2, 1, none⟩ = some (.int .i64 1)) :
    Calls Tryz.prog 73 #[.slice (some ⟨b, 0, none⟩) 1 1, .slice (some ⟨b2, 0, none⟩) 2 2] w fun e w' => e = .returned (.bool true) ∧ w = w' :=
  less_any [5] [1, 1] (some ⟨b, 0, none⟩) (some ⟨b2, 0, none⟩) 1 2 (b + b2 + 1) (by simp [maxLen]) (by simp [maxLen]) w
    (fun _ => ⟨b, 0, rfl, by omega, fun j hj => by
      obtain rfl : j = 0 := by simpa using hj
      exact h0⟩)
    (fun _ => ⟨b2, 0, rfl, by omega, fun j hj => by
      have hj : j < 2 := hj
      obtain rfl | rfl : j = 0 ∨ j = 1 := by omega
      · exact h1
      · exact h2⟩)

theorem fact_below (b b2 : Nat) (w : World) (h0 : w.cell? ⟨b, 0, none⟩ = some (.int .i64 5)) (h1 : w.cell? ⟨b2, 0, none⟩ = some (.int .i64 1)) (h2 : w.cell? ⟨b2, 1, none⟩ = some (.int .i64 1)) :
    Calls Tryz.prog 73 #[.slice (some ⟨b, 0, none⟩) 1 1, .slice (some ⟨b2, 0, none⟩) 2 2] w fun e w' => e = .returned (.bool true) ∧ Below w.heap.size w w' :=
  (fact_any b b2 w h0 h1 h2).mono fun _ _ ⟨h, h'⟩ => ⟨h, h' ▸ Below.refl _ _⟩
end Go.Proofs.YtabkihellcflhaaGreatDoor.Ints

/- slices.IndexFunc, slices.ContainsFunc of lists of lists, with any function value. Conditions: the sizes. -/
namespace Go.Proofs.YtabkihellcflhaaGreatDoor.Ints
open Go.RowKit Go.WideShapes Go.ChangeShapes
set_option linter.unusedVariables false

abbrev ffv (k : Nat) (cap : Array Value) : Value := .func (.func k) #[] cap
/-- a function value that is asked about the rows at b, off one after another: St i, after i that were not so; Fin, after one that was so -/
structure Asked (k : Nat) (cap : Array Value) (b off n : Nat) (row : Nat → Value) (St : Nat → World → Prop) (Fin : World → Prop) : Prop where
  ent : ∀ args w, (callFunc k args).run Tryz.prog w = .ok (.enter k args) w
  cell : ∀ i w, i < n → St i w → w.cell? ⟨b, off + i, none⟩ = some (row i)
  call : ∀ i w, i < n → St i w → Calls Tryz.prog k (#[row i] ++ cap) w fun e w' => ∃ r : Bool, e = .returned (.bool r) ∧ (r = false → St (i + 1) w') ∧ (r = true → Fin w')

set_option maxHeartbeats 2000000 in
set_option maxRecDepth 100000 in
theorem index_any {k : Nat} {cap : Array Value} {b off n : Nat} {row : Nat → Value} {St : Nat → World → Prop} {Fin : World → Prop} (F : Asked k cap b off n row St Fin) (hn : n ≤ 4294967296) (c : Nat) (w : World) (h0 : St 0 w) :
    Calls Tryz.prog 100 #[.slice (some ⟨b, off, none⟩) n c, ffv k cap] w fun e w' => (e = .returned (.int .i64 (-1)) ∧ St n w') ∨ (∃ i : Nat, e = .returned (.int .i64 i) ∧ Fin w') := by
  have hent := F.ent
  have FC := Lib.hid F.cell
  have FK := Lib.hid F.call
  have H0 := Lib.hid h0
  clear F h0
  go_enter Tryz.func100, Tryz.ntmps100
  go_wp2_with fail
  go_loopw [8] (fun i wr => ∃ j : Nat, j ≤ n ∧ i = .int .i64 j ∧ Hid (St j wr)) (fun i _ => n - (intOf i).toNat)
  case atStart => exact ⟨0, Nat.zero_le _, rfl, H0.out⟩
  case round =>
    obtain ⟨j, hj, rfl, hS⟩ := hrel
    by_cases hlt : j < n
    · have c0 := FC.out j wr hlt hS.out
      have C1 := Lib.hid (FK.out j wr hlt hS.out)
      generalize row j = v at *
      clear hS
      go_wp2_with fail
      refine C1.out.mono ?_
      rintro e w2 ⟨r, rfl, h1, h2⟩
      cases r with
      | false =>
        have S1 := Lib.hid (h1 rfl)
        clear h1 h2 c0 C1
        go_wp2_with fail
        go_roundw
        case rel => exact ⟨j + 1, hlt, by go_num, S1.out⟩
        case measure => simp [intOf]; omega
      | true =>
        have S1 := Lib.hid (h2 rfl)
        clear h1 h2 c0 C1
        go_wp2_with fail
        go_ret
        exact .inr ⟨j, rfl, S1.out⟩
    · have S1 := Lib.hid (show St n wr by rw [show n = j by omega]; exact hS.out)
      clear hS
      go_wp2_with fail
      go_ret
      exact .inl ⟨rfl, S1.out⟩

set_option maxHeartbeats 2000000 in
set_option maxRecDepth 100000 in
theorem contains_any {k : Nat} {cap : Array Value} {b off n : Nat} {row : Nat → Value} {St : Nat → World → Prop} {Fin : World → Prop} (F : Asked k cap b off n row St Fin) (hn : n ≤ 4294967296) (c : Nat) (w : World) (h0 : St 0 w) :
    Calls Tryz.prog 74 #[.slice (some ⟨b, off, none⟩) n c, ffv k cap] w fun e w' => ∃ r : Bool, e = .returned (.bool r) ∧ (r = false → St n w') ∧ (r = true → Fin w') := by
  have C := Lib.hid (index_any F hn c w h0)
  clear F h0
  go_enter Tryz.func74, Tryz.ntmps74
  go_wp2_with fail
  refine C.out.mono ?_
  rintro e w2 h
  rcases h with ⟨rfl, h⟩ | ⟨i, rfl, h⟩
  · go_wp2_with fail
    go_ret
    exact ⟨false, rfl, fun _ => h, fun h => nomatch h⟩
  · have g : decide (0 ≤ (i : Int)) = true := by rw [decide_eq_true_eq]; omega
    go_wp2_with fail
    go_ret
    exact ⟨true, rfl, (fun h => nomatch h), fun _ => h⟩
end Go.Proofs.YtabkihellcflhaaGreatDoor.Ints
