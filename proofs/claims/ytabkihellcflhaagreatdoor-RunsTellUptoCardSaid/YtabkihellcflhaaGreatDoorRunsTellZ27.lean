/- RunsTell, part 27 of the proof: Contracts: cmp.Compare, slices.Compare, tape.Less. Conditions: none but that the slices' cells are known. · slices.IndexFunc, slices.ContainsFunc of lists of lists, with any function value. Conditions: the sizes. · The program's candidates, seen one after another: the closure in Each. Conditions: the sizes. -/
import Derived.Test.YtabkihellcflhaaGreatDoorRunsTellZ2
import Derived.Test.YtabkihellcflhaaGreatDoorRunsTellZ9
import Derived.Test.YtabkihellcflhaaGreatDoorRunsTellZ24
import Derived.Test.YtabkihellcflhaaGreatDoorRunsTellZ26
/- Contracts: cmp.Compare, slices.Compare, tape.Less. Conditions: none but that the slices' cells are known. -/
namespace Go.Proofs.YtabkihellcflhaaGreatDoor.Ints
open Go.RowKit Go.WideShapes Go.ChangeShapes Lists
set_option linter.unusedVariables false

/-! cmp.Compare -/
def cmpI (x y : Int) : Int := if x < y then -1 else if y < x then 1 else 0
theorem isNaN_any (x : Int) (w : World) : Calls Tryz.prog 124 #[.int .i64 x] w fun e w' => e = .returned (.bool false) ∧ w = w' := by
  go_enter Tryz.func124, Tryz.ntmps124
  go_wp2
  go_ret
  exact ⟨rfl, rfl⟩
theorem compare_any (x y : Int) (w : World) : Calls Tryz.prog 116 #[.int .i64 x, .int .i64 y] w fun e w' => e = .returned (.int .i64 (cmpI x y)) ∧ w = w' := by
  rcases Int.lt_trichotomy x y with h | h | h
  · have e : cmpI x y = -1 := by unfold cmpI; rw [if_pos h]
    rw [e]; clear e
    go_enter Tryz.func116, Tryz.ntmps116
    go_wp2_with (go_at_call 124; refine (isNaN_any _ _).mono ?_; rintro e w' ⟨rfl, rfl⟩)
    go_ret
    exact ⟨rfl, rfl⟩
  · subst h
    have e : cmpI x x = 0 := by unfold cmpI; simp
    rw [e]; clear e
    go_enter Tryz.func116, Tryz.ntmps116
    go_wp2_with (go_at_call 124; refine (isNaN_any _ _).mono ?_; rintro e w' ⟨rfl, rfl⟩)
    go_ret
    exact ⟨rfl, rfl⟩
  · have e : cmpI x y = 1 := by unfold cmpI; rw [if_neg (by omega), if_pos h]
    have h' : ¬ x < y := by omega
    rw [e]; clear e
    go_enter Tryz.func116, Tryz.ntmps116
    go_wp2_with (go_at_call 124; refine (isNaN_any _ _).mono ?_; rintro e w' ⟨rfl, rfl⟩)
    go_ret
    exact ⟨rfl, rfl⟩


/-! slices.Compare -/
theorem compares (l m : List Int) (A B : Option Addr) (c d N : Nat) (hl : l.length ≤ maxLen) (hm : m.length ≤ maxLen) (w : World) (ha : At w N A l) (hb : At w N B m) :
    Calls Tryz.prog 99 #[.slice A l.length c, .slice B m.length d] w fun e w' => e = .returned (.int .i64 (cmpL l m)) ∧ w = w' := by
  unfold maxLen at hl hm
  have HA := Lib.hid ha
  have HB := Lib.hid hb
  clear ha hb
  go_enter Tryz.func99, Tryz.ntmps99
  go_wp2
  go_loop [11] (fun i => ∃ k : Nat, k ≤ l.length ∧ k ≤ m.length ∧ i = .int .i64 k ∧ Hid (cmpL (l.drop k) (m.drop k) = cmpL l m)) (fun i => l.length - (intOf i).toNat)
  case atStart => exact ⟨0, Nat.zero_le _, Nat.zero_le _, rfl, rfl⟩
  case round =>
    obtain ⟨k, hk, hk2, rfl, hc⟩ := hrel
    by_cases h1 : k < l.length
    · obtain ⟨b, off, rfl, _, hcell⟩ := HA.out (by omega)
      have c1 := hcell k h1
      clear hcell
      by_cases h2 : k < m.length
      · obtain ⟨b2, off2, rfl, _, hcell2⟩ := HB.out (by omega)
        have c2 := hcell2 k h2
        clear hcell2
        have hs := Lib.hid (cmpL_step l m k h1 h2)
        generalize l.getD k 0 = x at c1 hs
        generalize m.getD k 0 = y at c2 hs
        rcases Int.lt_trichotomy x y with h | h | h
        · have e : cmpI x y = -1 := by unfold cmpI; rw [if_pos h]
          have hv : cmpL l m = -1 := by rw [← hc.out, hs.out, if_pos h]
          have hv := Lib.hid hv
          have cc := fun w => e ▸ compare_any x y w
          clear e
          go_wp2_with (go_at_call 116; refine (cc _).mono ?_; rintro e w' ⟨rfl, rfl⟩)
          go_ret
          exact ⟨ret_int hv.out.symm, rfl⟩
        · subst h
          have e : cmpI x x = 0 := by unfold cmpI; simp
          have hv : cmpL (l.drop (k + 1)) (m.drop (k + 1)) = cmpL l m := by rw [← hc.out, hs.out, if_neg (by omega), if_neg (by omega)]
          have hv := Lib.hid hv
          have cc := fun w => e ▸ compare_any x x w
          clear e
          go_wp2_with (go_at_call 116; refine (cc _).mono ?_; rintro e w' ⟨rfl, rfl⟩)
          go_round
          case rel => exact ⟨k + 1, by omega, by omega, by go_num, hv.out⟩
          case measure => simp [intOf]; omega
        · have e : cmpI x y = 1 := by unfold cmpI; rw [if_neg (by omega), if_pos h]
          have hv : cmpL l m = 1 := by rw [← hc.out, hs.out, if_neg (by omega), if_pos h]
          have hv := Lib.hid hv
          have cc := fun w => e ▸ compare_any x y w
          clear e
          go_wp2_with (go_at_call 116; refine (cc _).mono ?_; rintro e w' ⟨rfl, rfl⟩)
          go_ret
          exact ⟨ret_int hv.out.symm, rfl⟩
      · have hv := Lib.hid (show cmpL l m = 1 by rw [← hc.out, cmpL_out l m k h1 (by omega)])
        have h2' : m.length ≤ k := by omega
        go_wp2
        go_ret
        exact ⟨ret_int hv.out.symm, rfl⟩
    · by_cases h2 : k < m.length
      · have hv := Lib.hid (show cmpL l m = -1 by rw [← hc.out, cmpL_less l m k (by omega) h2])
        have h3 : l.length < m.length := by omega
        go_wp2
        go_ret
        exact ⟨ret_int hv.out.symm, rfl⟩
      · have hv := Lib.hid (show cmpL l m = 0 by rw [← hc.out, cmpL_done l m k (by omega) (by omega)])
        have h3 : ¬ l.length < m.length := by omega
        go_wp2
        go_ret
        exact ⟨ret_int hv.out.symm, rfl⟩

/-! tape.Less -/
theorem less_any (l m : List Int) (A B : Option Addr) (c d N : Nat) (hl : l.length ≤ maxLen) (hm : m.length ≤ maxLen) (w : World) (ha : At w N A l) (hb : At w N B m) :
    Calls Tryz.prog 73 #[.slice A l.length c, .slice B m.length d] w fun e w' => e = .returned (.bool (lessL l m)) ∧ w = w' := by
  have HA := Lib.hid ha
  have HB := Lib.hid hb
  have HL := Lib.hid hl
  have HM := Lib.hid hm
  clear ha hb hl hm
  by_cases e : l.length = m.length
  · have hv0 := Lib.hid (show lessL l m = decide (cmpL l m < 0) by unfold lessL; rw [if_pos e])
    have cc := fun w' ha hb => compares l m A B c d N HL.out HM.out w' ha hb
    generalize cmpL l m = x at hv0 cc
    have ht : (((l.length : Nat) : Int) != ((m.length : Nat) : Int)) = false := by rw [bne_eq_false_iff_eq]; omega
    have E := Lib.hid e
    clear e
    by_cases hx : x < 0
    · have hv := Lib.hid (show lessL l m = true by rw [hv0.out, decide_eq_true hx])
      go_enter Tryz.func73, Tryz.ntmps73
      go_wp2_with (go_at_call 99; refine (cc _ HA.out HB.out).mono ?_; rintro e w' ⟨rfl, rfl⟩)
      go_ret
      exact ⟨ret_b hv.out.symm, rfl⟩
    · go_enter Tryz.func73, Tryz.ntmps73
      go_wp2_with (go_at_call 99; refine (cc _ HA.out HB.out).mono ?_; rintro e w' ⟨rfl, rfl⟩)
      go_ret
      exact ⟨ret_b hv0.out.symm, rfl⟩
  · have ht : (((l.length : Nat) : Int) != ((m.length : Nat) : Int)) = true := by rw [bne_iff_ne]; omega
    by_cases h : l.length < m.length
    · have hv := Lib.hid (show lessL l m = true by unfold lessL; rw [if_neg e, decide_eq_true h])
      clear e
      go_enter Tryz.func73, Tryz.ntmps73
      go_wp2
      go_ret
      exact ⟨ret_b hv.out.symm, rfl⟩
    · have hv := Lib.hid (show lessL l m = false by unfold lessL; rw [if_neg e, decide_eq_false h])
      clear e
      go_enter Tryz.func73, Tryz.ntmps73
      go_wp2
      go_ret
      exact ⟨ret_b hv.out.symm, rfl⟩


/-! what the statements of tapes ask first -/
theorem fact_any (b b2 : Nat) (w : World) (h0 : w.cell? ⟨b, 0, none⟩ = some (.int .i64 5)) (h1 : w.cell? ⟨b2, 0, none⟩ = some (.int .i64 1)) (h2 : w.cell? ⟨b2, 1, none⟩ = some (.int .i64 1)) :
    Calls Tryz.prog 73 #[.slice (some ⟨b, 0, none⟩) 1 1, .slice (some ⟨b2, 0, none⟩) 2 2] w fun e w' => e = .returned (.bool true) ∧ w = w' :=
  less_any [5] [1, 1] (some ⟨b, 0, none⟩) (some ⟨b2, 0, none⟩) 1 2 (b + b2 + 1) (by simp [maxLen]) (by simp [maxLen]) w
    (fun _ => ⟨b, 0, rfl, by omega, fun j hj => by
      obtain rfl : j = 0 := by simpa using hj
      exact h0⟩)
    (fun _ => ⟨b2, 0, rfl, by omega, fun j hj => by
      have hj : j < 2 := hj
      obtain rfl | rfl : j = 0 ∨ j = 1 := by omega
      · exact h1
      · exact h2⟩)

theorem fact_below (b b2 : Nat) (w : World) (h0 : w.cell? ⟨b, 0, none⟩ = some (.int .i64 5)) (h1 : w.cell? ⟨b2, 0, none⟩ = some (.int .i64 1)) (h2 : w.cell? ⟨b2, 1, none⟩ = some (.int .i64 1)) :
    Calls Tryz.prog 73 #[.slice (some ⟨b, 0, none⟩) 1 1, .slice (some ⟨b2, 0, none⟩) 2 2] w fun e w' => e = .returned (.bool true) ∧ Below w.heap.size w w' :=
  (fact_any b b2 w h0 h1 h2).mono fun _ _ ⟨h, h'⟩ => ⟨h, h' ▸ Below.refl _ _⟩
end Go.Proofs.YtabkihellcflhaaGreatDoor.Ints

/- slices.IndexFunc, slices.ContainsFunc of lists of lists, with any function value. Conditions: the sizes. -/
namespace Go.Proofs.YtabkihellcflhaaGreatDoor.Ints
open Go.RowKit Go.WideShapes Go.ChangeShapes
set_option linter.unusedVariables false

abbrev ffv (k : Nat) (cap : Array Value) : Value := .func (.func k) #[] cap
/-- a function value that is asked about the rows at b, off one after another: St i, after i that were not so; Fin, after one that was so -/
structure Asked (k : Nat) (cap : Array Value) (b off n : Nat) (row : Nat → Value) (St : Nat → World → Prop) (Fin : World → Prop) : Prop where
  ent : ∀ args w, (callFunc k args).run Tryz.prog w = .ok (.enter k args) w
  cell : ∀ i w, i < n → St i w → w.cell? ⟨b, off + i, none⟩ = some (row i)
  call : ∀ i w, i < n → St i w → Calls Tryz.prog k (#[row i] ++ cap) w fun e w' => ∃ r : Bool, e = .returned (.bool r) ∧ (r = false → St (i + 1) w') ∧ (r = true → Fin w')

set_option maxHeartbeats 2000000 in
set_option maxRecDepth 100000 in
theorem index_any {k : Nat} {cap : Array Value} {b off n : Nat} {row : Nat → Value} {St : Nat → World → Prop} {Fin : World → Prop} (F : Asked k cap b off n row St Fin) (hn : n ≤ 4294967296) (c : Nat) (w : World) (h0 : St 0 w) :
    Calls Tryz.prog 100 #[.slice (some ⟨b, off, none⟩) n c, ffv k cap] w fun e w' => (e = .returned (.int .i64 (-1)) ∧ St n w') ∨ (∃ i : Nat, e = .returned (.int .i64 i) ∧ Fin w') := by
  have hent := F.ent
  have FC := Lib.hid F.cell
  have FK := Lib.hid F.call
  have H0 := Lib.hid h0
  clear F h0
  go_enter Tryz.func100, Tryz.ntmps100
  go_wp2_with fail
  go_loopw [8] (fun i wr => ∃ j : Nat, j ≤ n ∧ i = .int .i64 j ∧ Hid (St j wr)) (fun i _ => n - (intOf i).toNat)
  case atStart => exact ⟨0, Nat.zero_le _, rfl, H0.out⟩
  case round =>
    obtain ⟨j, hj, rfl, hS⟩ := hrel
    by_cases hlt : j < n
    · have c0 := FC.out j wr hlt hS.out
      have C1 := Lib.hid (FK.out j wr hlt hS.out)
      generalize row j = v at *
      clear hS
      go_wp2_with fail
      refine C1.out.mono ?_
      rintro e w2 ⟨r, rfl, h1, h2⟩
      cases r with
      | false =>
        have S1 := Lib.hid (h1 rfl)
        clear h1 h2 c0 C1
        go_wp2_with fail
        go_roundw
        case rel => exact ⟨j + 1, hlt, by go_num, S1.out⟩
        case measure => simp [intOf]; omega
      | true =>
        have S1 := Lib.hid (h2 rfl)
        clear h1 h2 c0 C1
        go_wp2_with fail
        go_ret
        exact .inr ⟨j, rfl, S1.out⟩
    · have S1 := Lib.hid (show St n wr by rw [show n = j by omega]; exact hS.out)
      clear hS
      go_wp2_with fail
      go_ret
      exact .inl ⟨rfl, S1.out⟩

set_option maxHeartbeats 2000000 in
set_option maxRecDepth 100000 in
theorem contains_any {k : Nat} {cap : Array Value} {b off n : Nat} {row : Nat → Value} {St : Nat → World → Prop} {Fin : World → Prop} (F : Asked k cap b off n row St Fin) (hn : n ≤ 4294967296) (c : Nat) (w : World) (h0 : St 0 w) :
    Calls Tryz.prog 74 #[.slice (some ⟨b, off, none⟩) n c, ffv k cap] w fun e w' => ∃ r : Bool, e = .returned (.bool r) ∧ (r = false → St n w') ∧ (r = true → Fin w') := by
  have C := Lib.hid (index_any F hn c w h0)
  clear F h0
  go_enter Tryz.func74, Tryz.ntmps74
  go_wp2_with fail
  refine C.out.mono ?_
  rintro e w2 h
  rcases h with ⟨rfl, h⟩ | ⟨i, rfl, h⟩
  · go_wp2_with fail
    go_ret
    exact ⟨false, rfl, fun _ => h, fun h => nomatch h⟩
  · have g : decide (0 ≤ (i : Int)) = true := by rw [decide_eq_true_eq]; omega
    go_wp2_with fail
    go_ret
    exact ⟨true, rfl, (fun h => nomatch h), fun _ => h⟩
end Go.Proofs.YtabkihellcflhaaGreatDoor.Ints

/- The program's candidates, seen one after another: the closure in Each. Conditions: the sizes. -/
namespace Go.Proofs.YtabkihellcflhaaGreatDoor.Gens
open Go.RowKit Lists Ints Vals
set_option linter.unusedVariables false

theorem mv_of {X : Nat → Prop} {w w' : World} (hb : Below w.heap.size w w') : Mv X w w' X := ⟨hb.os, hb.tape, hb.output, hb.size, fun b h _ => hb.block b h, fun b h => .inl h⟩
theorem mv_trans {X X1 X2 : Nat → Prop} {w w1 w2 : World} (h : Mv X w w1 X1) (h2 : Mv X1 w1 w2 X2) : Mv X w w2 X2 :=
  ⟨h2.os.trans h.os, h2.tape.trans h.tape, h2.output.trans h.output, Nat.le_trans h.size h2.size, fun b hb hx => (h2.block b (Nat.lt_of_lt_of_le hb h.size) (fun h1 => by rcases h.new b h1 with h1 | h1; exact hx h1; omega)).trans (h.block b hb hx), fun b hb => by
    rcases h2.new b hb with h1 | h1
    · exact h.new b h1
    · exact .inr (Nat.le_trans h.size h1)⟩
theorem mv_below {X X1 : Nat → Prop} {B : Nat} {w w1 : World} (h : Mv X w w1 X1) (hB : B ≤ w.heap.size) (hX : ∀ b, X b → B ≤ b) : Below B w w1 :=
  ⟨h.os, h.tape, h.output, h.size, fun b hb => h.block b (Nat.lt_of_lt_of_le hb hB) (fun hx => by have := hX b hx; omega)⟩
/-- what is new is none of it still -/
theorem mv_off {X X1 : Nat → Prop} {w w1 : World} (h : Mv X w w1 X1) {b : Nat} (hb : b < w.heap.size) (hx : ¬ X b) : ¬ X1 b := fun h1 => by
  rcases h.new b h1 with h1 | h1
  · exact hx h1
  · omega
/-- the box of a function value -/
def FnB (p k : Nat) (cap : Array Value) (w : World) : Prop := w.heap[p]? = some (.cells #[ffv k cap] 83 (0, 0))
theorem FnB.cell {p k : Nat} {cap : Array Value} {w : World} (h : FnB p k cap w) : w.cell? ⟨p, 0, none⟩ = some (ffv k cap) := by rw [Lib.cell_of_heap h]; rfl
theorem FnB.lt {p k : Nat} {cap : Array Value} {w : World} (h : FnB p k cap w) : p < w.heap.size := (Array.getElem?_eq_some_iff.1 h).1
/-- a function value that sees the candidates: I X z, what it has seen is z, and the blocks that it may change are X -/
structure SeeB (k : Nat) (cap : Array Value) (t : Gn) (l : List Int) (stop : List Int → Bool) (I : (Nat → Prop) → List (List Int) → World → Prop) : Prop where
  ent : ∀ args w, (callFunc k args).run Tryz.prog w = .ok (.enter k args) w
  lt : ∀ X z w, I X z w → ∀ b, X b → b < w.heap.size
  keep : ∀ X z w w', I X z w → Below w.heap.size w w' → I X z w'
  call : ∀ X z w0 w1 D d x, x ∈ roseL t l → z.length ≤ 5598720 → (∀ a ∈ z, stop a = false) → I X z w0 → Below w0.heap.size w0 w1 → Own w1 w0.heap.size D d x →
    Calls Tryz.prog k (#[.slice D x.length d] ++ cap) w1 fun e w2 => e = .returned (.bool (!stop x)) ∧ ∃ X', I X' (z ++ [x]) w2 ∧ Mv X w0 w2 X'
/-- the boxes of Each -/
structure EcB (p : Nat) (t : Gn) (GA : Option Addr) (gcap : Nat) (L : Option Addr) (ln lc k : Nat) (cap : Array Value) (w : World) : Prop where
  g : G4 p (.int .i64 t.kind) (.int .i64 t.a) (.int .i64 t.b) (.slice GA t.subs.length gcap) w
  l : LB (p + 1) L ln lc w
  s : FnB (p + 1 + 1) k cap w
theorem EcB.mv {p : Nat} {t : Gn} {GA : Option Addr} {gcap : Nat} {L : Option Addr} {ln lc k : Nat} {cap : Array Value} {X X' : Nat → Prop} {w w' : World} (h : EcB p t GA gcap L ln lc k cap w) (hm : Mv X w w' X') (hx : ∀ b, X b → b < p ∨ p + 3 ≤ b) : EcB p t GA gcap L ln lc k cap w' :=
  ⟨h.g.mv hm (fun hb => by have := hx _ hb; omega), (hm.block _ h.l.lt (fun hb => by have := hx _ hb; omega)).trans h.l, (hm.block _ h.s.lt (fun hb => by have := hx _ hb; omega)).trans h.s⟩
/-- what the closure tells of one that is tried -/
def EndsPost (t : Gn) (l x : List Int) (stop : List Int → Bool) (I : (Nat → Prop) → List (List Int) → World → Prop) (X : Nat → Prop) (z : List (List Int)) (w : World) (e : Ending) (w' : World) : Prop :=
  ∃ (r : Bool) (X2 : Nat → Prop), e = .returned (.bool r) ∧ Hid (r = (keptL t l x).any stop) ∧ I X2 (z ++ keptL t l x) w' ∧ Mv X w w' X2

set_option maxHeartbeats 4000000 in
set_option maxRecDepth 100000 in
theorem ends_ok {t : Gn} {GA : Option Addr} {gcap n p : Nat} {L : Option Addr} {l : List Int} {lc k : Nat} {cap : Array Value} {stop : List Int → Bool} {I : (Nat → Prop) → List (List Int) → World → Prop} (S : SeeB k cap t l stop I) {X : Nat → Prop} {z : List (List Int)} {x : List Int} {D : Option Addr} {xc : Nat} (w : World)
    (h : EcB p t GA gcap L l.length lc k cap w) (hg : GAt w (GBel w.heap.size) n (gv t GA gcap) t) (h0 : genV t = 0) (hl : At w w.heap.size L l) (hln : l.length ≤ 4294967296) (hx : At w w.heap.size D x) (hxc : x.length ≤ xc) (hxl : x.length ≤ 4294967296) (hI : I X z w) (hz : z.length ≤ 5598720) (hst : ∀ a ∈ z, stop a = false) (hm : ∀ y ∈ keptL t l x, y ∈ roseL t l) (a xn : Nat) (ha : a = p + 1) (hxn : x.length = xn) :
    Calls Tryz.prog 71 #[.slice D xn xc, .pointer (some ⟨p, 0, none⟩), .pointer (some ⟨a, 0, none⟩), .pointer (some ⟨a + 1, 0, none⟩)] w (EndsPost t l x stop I X z w) := by
  subst ha hxn
  have hent := S.ent
  have hs : t.size ≤ 4294967296 := by have := small30 h0; omega
  have M := mend_prog w hg hx hxc hxl hs
  rw [h0, errOf_ok] at M
  have M := Lib.hid M
  have K := Lib.hid (show keptL t l x = if lessL (mendL t x) l = true then [mendL t x] else [] from rfl)
  have ML := Lib.hid (show (mendL t x).length ≤ 1399680 from (mend_run x h0).choose_spec.choose_spec.2)
  have H := Lib.hid h
  have HI := Lib.hid hI
  have SK := Lib.hid (fun w' (hb : Below w.heap.size w w') => S.keep X z w w' hI hb)
  have SC := Lib.hid (fun w1 D d y (hy : y ∈ roseL t l) (hb : Below w.heap.size w w1) (ho : Own w1 w.heap.size D d y) => S.call X z w w1 D d y hy hz hst hI hb ho)
  have HM := Lib.hid hm
  have HL := Lib.hid hl
  have HN := Lib.hid hln
  obtain ⟨k0, k1, k2, k3⟩ := h.g.facts
  clear h hg h0 hl hln hx hxc hxl hz hs hI S hm hst
  generalize mendL t x = m at *
  go_enter Tryz.func71, Tryz.ntmps71
  go_wp2_with fail
  ((with_reducible refine M.out.mono ?_))
  rintro e w1 ⟨A1, c1, rfl, own1, hb1⟩
  have H1 := Lib.hid (H.out.mv (mv_of (X := fun _ => False) hb1) (fun b h => h.elim))
  have O1 := Lib.hid own1
  have BW1 := Lib.hid hb1
  clear own1 hb1 M k0 k1 k2 k3 H
  have f0 := H1.out.l.cell
  have f1 := H1.out.s.cell
  have LS := Lib.hid (less_any m l A1 L c1 lc w1.heap.size (by have := ML.out; simp only [maxLen]; omega) (by have := HN.out; simp only [maxLen]; omega) w1 O1.out.at_ ((HL.out.below BW1.out).more BW1.out.size))
  go_wp2_with fail
  ((with_reducible refine LS.out.mono ?_))
  rintro e w2 ⟨rfl, rfl⟩
  clear f0 LS
  generalize lessL m l = q at *
  cases q
  · rw [if_neg (by decide)] at K
    go_wp2_with fail
    go_ret
    exact ⟨false, X, rfl, Lib.hid (by rw [K.out]; rfl), by rw [K.out, List.append_nil]; exact SK.out _ BW1.out, mv_of BW1.out⟩
  · rw [if_pos rfl] at K
    have C1 := Lib.hid (SC.out w1 A1 c1 m (HM.out m (by rw [K.out]; simp)) BW1.out O1.out)
    have KA := Lib.hid (show (keptL t l x).any stop = !(!stop m) by rw [K.out]; simp)
    clear SC HI SK
    generalize stop m = q2 at *
    go_wp2_with fail
    ((with_reducible refine C1.out.mono ?_))
    rintro e w2 ⟨rfl, X2, hI2, hm2⟩
    have I2 := Lib.hid hI2
    have M2 := Lib.hid hm2
    clear hI2 hm2 C1 f1
    go_wp2_with fail
    go_ret
    exact ⟨_, X2, rfl, Lib.hid (by rw [KA.out, Bool.not_not]), by rw [K.out]; exact I2.out, M2.out⟩
end Go.Proofs.YtabkihellcflhaaGreatDoor.Gens
