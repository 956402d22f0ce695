/- RoseTells, part 37 of the proof: Contract of the document's own Shorter. Conditions: the sizes. · The program's changes (package rose): what is tried at a place. Conditions: the sizes. -/
import Derived.Test.YtfpbegagblekiaaDoorRoseTellsZ7
import Derived.Test.YtfpbegagblekiaaDoorRoseTellsZ1
import Derived.Deep.QuietTactic
import Derived.BigQuiet
import Derived.Test.YtfpbegagblekiaaDoorRoseTellsZ26
/- Contract of the document's own Shorter. Conditions: the sizes. -/
namespace Go.Proofs.YtfpbegagblekiaaDoor.Ref
open Go.RowKit Lists Ints
set_option linter.unusedVariables false

/-! Shorter: it draws its order -/
set_option maxHeartbeats 1000000 in
theorem shorter_any (l m : List Int) (A B : Option Addr) (c d N : Nat) (hl : l.length ≤ maxLen) (hm : m.length ≤ maxLen) (w : World) (ha : At w N A l) (hb : At w N B m) :
    Calls Tryd.prog 39 #[.slice A l.length c, .slice B m.length d] w fun e w' => e = .returned (.bool (lessL l m)) ∧ ∃ n, w' = w.drewN n := by
  unfold maxLen at hl hm
  have HA := Lib.hid ha
  have HB := Lib.hid hb
  clear ha hb
  by_cases e : l.length = m.length
  · have ht : (((l.length : Nat) : Int) != ((m.length : Nat) : Int)) = false := by rw [bne_eq_false_iff_eq]; omega
    have hlm : l.length ≤ m.length := by omega
    have hml : m.length ≤ l.length := by omega
    have hv0 := Lib.hid (show lessL l m = decide (cmpL l m < 0) by unfold lessL; rw [if_pos e])
    clear e
    go_enter Tryd.func39, Tryd.ntmps39
    go_wp2
    go_loopw [5] (fun i wr => ∃ k n : Nat, k ≤ l.length ∧ i = .int .i64 k ∧ wr = w.drewN n ∧ Hid (cmpL (l.drop k) (m.drop k) = cmpL l m)) (fun i _ => l.length - (intOf i).toNat)
    case atStart => exact ⟨0, 0, Nat.zero_le _, rfl, rfl, rfl⟩
    case round =>
      obtain ⟨k, n, hk, rfl, rfl, hc⟩ := hrel
      by_cases h1 : k < l.length
      · have h2 : k < m.length := by omega
        obtain ⟨b, off, rfl, _, hcell⟩ := HA.out (by omega)
        have c1 := hcell k h1
        clear hcell
        obtain ⟨b2, off2, rfl, _, hcell2⟩ := HB.out (by omega)
        have c2 := hcell2 k h2
        clear hcell2
        have hs := Lib.hid (cmpL_step l m k h1 h2)
        generalize l.getD k 0 = x at c1 hs
        generalize m.getD k 0 = y at c2 hs
        have h1' : (k : Int) < l.length := by omega
        have h2' : (k : Int) < m.length := by omega
        rcases Int.lt_trichotomy x y with h | h | h
        · have hv := Lib.hid (show lessL l m = true by rw [hv0.out, ← hc.out, hs.out, if_pos h]; rfl)
          have ht3 : (x != y) = true := by rw [bne_iff_ne]; omega
          go_wp2
          go_quiet (fail)
          go_wp2
          go_quiet (fail)
          go_wp2
          go_ret
          refine ⟨ret_b hv.out.symm, ?_⟩
          simp only [World.drewN_drewN]
          exact ⟨_, rfl⟩
        · subst h
          have hv := Lib.hid (show cmpL (l.drop (k + 1)) (m.drop (k + 1)) = cmpL l m by rw [← hc.out, hs.out, if_neg (by omega), if_neg (by omega)])
          go_wp2
          go_quiet (fail)
          go_wp2
          go_roundw
          case rel => exact ⟨k + 1, _, by omega, by go_num, rfl, hv.out⟩
          case measure => simp [intOf]; omega
        · have hv := Lib.hid (show lessL l m = false by rw [hv0.out, ← hc.out, hs.out, if_neg (by omega), if_pos h]; rfl)
          have ht3 : (x != y) = true := by rw [bne_iff_ne]; omega
          have ht4 : ¬ x < y := by omega
          go_wp2
          go_quiet (fail)
          go_wp2
          go_quiet (fail)
          go_wp2
          go_ret
          refine ⟨by first | exact ret_b hv.out.symm | exact ret_b (by rw [hv.out]; simp; omega), ?_⟩
          simp only [World.drewN_drewN]
          exact ⟨_, rfl⟩
      · have hv := Lib.hid (show lessL l m = false by rw [hv0.out, ← hc.out, cmpL_done l m k (by omega) (by omega)]; rfl)
        go_wp2
        go_ret
        exact ⟨ret_b hv.out.symm, _, rfl⟩
  · have ht : (((l.length : Nat) : Int) != ((m.length : Nat) : Int)) = true := by rw [bne_iff_ne]; omega
    by_cases h : l.length < m.length
    · have hv := Lib.hid (show lessL l m = true by unfold lessL; rw [if_neg e, decide_eq_true h])
      clear e
      go_enter Tryd.func39, Tryd.ntmps39
      go_wp2
      go_ret
      exact ⟨ret_b hv.out.symm, 0, rfl⟩
    · have hv := Lib.hid (show lessL l m = false by unfold lessL; rw [if_neg e, decide_eq_false h])
      clear e
      go_enter Tryd.func39, Tryd.ntmps39
      go_wp2
      go_ret
      exact ⟨ret_b hv.out.symm, 0, rfl⟩

theorem shorter_below (l m : List Int) (A B : Option Addr) (c d N : Nat) (hl : l.length ≤ maxLen) (hm : m.length ≤ maxLen) (w : World) (ha : At w N A l) (hb : At w N B m) :
    Calls Tryd.prog 39 #[.slice A l.length c, .slice B m.length d] w fun e w' => e = .returned (.bool (lessL l m)) ∧ Below w.heap.size w w' := by
  refine (shorter_any l m A B c d N hl hm w ha hb).mono ?_
  rintro e w' ⟨rfl, n, rfl⟩
  refine ⟨rfl, ?_⟩
  induction n with
  | zero => exact Below.refl _ _
  | succ n ih => exact ⟨ih.os, ih.tape, ih.output, ih.size, ih.block⟩
end Go.Proofs.YtfpbegagblekiaaDoor.Ref

/- The program's changes (package rose): what is tried at a place. Conditions: the sizes. -/
namespace Go.Proofs.YtfpbegagblekiaaDoor.Gens
open Go.RowKit Lists Ints Vals
set_option linter.unusedVariables false

theorem own_rowB {w : World} {base c : Nat} {A : Option Addr} {z : List Int} (h : Own w base A c z) : AtP w (fun b => base ≤ b ∧ b < w.heap.size) A z := fun hp => by
  obtain ⟨b, off, e, hb, hc⟩ := h.at_ hp
  exact ⟨b, off, e, ⟨h.ge b (by rw [e]; rfl), hb⟩, hc⟩
theorem rows_three {w : World} {b : Nat} {D E F : Option Addr} {x y z : List Int} {d e f x' y' z' : Nat} {T : TypeId} {S : Nat → Prop} (hx' : x.length = x') (hy' : y.length = y') (hz' : z.length = z') (h : w.heap[b]? = some (.cells #[.slice D x' d, .slice E y' e, .slice F z' f] T (0, 0))) (hd : x.length ≤ d) (he : y.length ≤ e) (hf : z.length ≤ f) (hx : AtP w S D x) (hy : AtP w S E y) (hz : AtP w S F z) :
    RowsP w (fun _ => True) S (some ⟨b, 0, none⟩) [x, y, z] := by
  subst hx' hy' hz'
  exact fun _ => ⟨b, 0, rfl, trivial, fun j hj => by
    have hj : j < 3 := hj
    obtain rfl | rfl | rfl : j = 0 ∨ j = 1 ∨ j = 2 := by omega
    · exact ⟨D, d, by rw [Lib.cell_of_heap h]; rfl, hd, hx⟩
    · exact ⟨E, e, by rw [Lib.cell_of_heap h]; rfl, he, hy⟩
    · exact ⟨F, f, by rw [Lib.cell_of_heap h]; rfl, hf, hz⟩⟩
theorem triesL_pos {l : List Int} {i : Nat} (h : 0 < l.getD i 0) : triesL l i = [l.set i 0, l.set i (l.getD i 0 / 2), l.set i (l.getD i 0 - 1)] ++ [lackL l i] := by unfold triesL; rw [if_pos h]; rfl
theorem triesL_neg {l : List Int} {i : Nat} (h : ¬ 0 < l.getD i 0) : triesL l i = [] ++ [lackL l i] := by unfold triesL; rw [if_neg h]; rfl
/-- a list of lists in new memory -/
def CgPost (z : List (List Int)) (w : World) (e : Ending) (w' : World) : Prop := ∃ (A : Option Addr) (c : Nat), e = .returned (.slice A z.length c) ∧ OwnRows w' w.heap.size A c z ∧ Below w.heap.size w w'

set_option maxHeartbeats 4000000 in
set_option maxRecDepth 100000 in
theorem changes_ok {L : Option Addr} {l : List Int} {lc N : Nat} (w : World) (hat : At w N L l) (hN : N ≤ w.heap.size) (hcap : l.length ≤ lc) (hln : l.length ≤ 4294967296) (hv : ∀ x ∈ l, 0 ≤ x ∧ x ≤ 1000) (i : Nat) (hi : i < l.length) :
    Calls Tryd.prog 62 #[.slice L l.length lc, .int .i64 i] w (CgPost (triesL l i) w) := by
  have WI := Lib.hid (fun (W : World) (hb : Below w.heap.size w W) => with_ok (lc := lc) (N := N) W (hat.below (hb.mono hN)) (Nat.le_trans hN hb.size) hln)
  have WO := Lib.hid (fun (W : World) (hb : Below w.heap.size w W) => without_ok (lc := lc) (N := N) W (hat.below (hb.mono hN)) (Nat.le_trans hN hb.size) hcap hln)
  obtain ⟨lb, lo, rfl, hlb, hlc⟩ := hat (by omega)
  have e0 := hlc i hi
  have v0 : 0 ≤ l.getD i 0 ∧ l.getD i 0 ≤ 1000 := by simp only [List.getD, List.getElem?_eq_getElem hi, Option.getD_some]; exact hv _ (List.getElem_mem hi)
  obtain ⟨v0, v1⟩ := v0
  clear hat hlc hv hlb
  by_cases hp : 0 < l.getD i 0
  · have TR := Lib.hid (triesL_pos hp)
    generalize hvv : l.getD i 0 = v at *
    clear hvv
    have g0 : decide (v > 0) = true := by rw [decide_eq_true_eq]; omega
    have C1 := Lib.hid (WI.out w (Below.refl _ _) i hi (0))
    go_enter Tryd.func62, Tryd.ntmps62
    go_wp2_with fail
    ((with_reducible refine C1.out.mono ?_))
    rintro e u1 ⟨X1, d1, rfl, own1, hb1⟩
    have B1 := Lib.hid hb1
    have O1 := Lib.hid own1
    clear hb1 own1 C1
    have C2 := Lib.hid (WI.out u1 B1.out i hi (v / 2))
    go_wp2_with fail
    ((with_reducible refine C2.out.mono ?_))
    rintro e u2 ⟨X2, d2, rfl, own2, hb2⟩
    have B2 := Lib.hid (below_trans B1.out hb2)
    have P1 := Lib.hid (O1.out.below hb2)
    have P2 := Lib.hid (own_less own2 B1.out.size)
    clear hb2 own2 C2 O1
    have C3 := Lib.hid (WI.out u2 B2.out i hi (v - 1))
    go_wp2_with fail
    ((with_reducible refine C3.out.mono ?_))
    rintro e u3 ⟨X3, d3, rfl, own3, hb3⟩
    have B3 := Lib.hid (below_trans B2.out hb3)
    have Q1 := Lib.hid (P1.out.below hb3)
    have Q2 := Lib.hid (P2.out.below hb3)
    have Q3 := Lib.hid (own_less own3 B2.out.size)
    clear hb3 own3 C3 P1 P2
    have sl : ∀ x : Int, (l.set i x).length = l.length := fun x => List.length_set
    have NB := Lib.hid (bel1 u3 (.cells #[.slice X1 l.length d1, .slice X2 l.length d2, .slice X3 l.length d3] 25))
    have NH := Lib.hid (heap_new2 u3 (.cells #[.slice X1 l.length d1, .slice X2 l.length d2, .slice X3 l.length d3] 25))
    have R3 := Lib.hid (rows_three (S := fun b => w.heap.size ≤ b ∧ b < (u3.alloc (.cells #[.slice X1 l.length d1, .slice X2 l.length d2, .slice X3 l.length d3] 25)).heap.size ∧ rowOf none ≠ some b) (sl _) (sl _) (sl _) NH.out Q1.out.cap_ Q2.out.cap_ Q3.out.cap_
      ((own_rowB (Q1.out.below NB.out)).keep fun b hb => ⟨⟨hb.1, hb.2, fun h => nomatch h⟩, fun _ => rfl⟩) ((own_rowB (Q2.out.below NB.out)).keep fun b hb => ⟨⟨hb.1, hb.2, fun h => nomatch h⟩, fun _ => rfl⟩) ((own_rowB (Q3.out.below NB.out)).keep fun b hb => ⟨⟨hb.1, hb.2, fun h => nomatch h⟩, fun _ => rfl⟩))
    have B4 := Lib.hid (below_trans B3.out NB.out)
    clear NH NB Q1 Q2 Q3
    go_wp2_with (at_builtin; refine wpList_append_rows rfl (.tmp 13) (.tmp 27) rfl w.heap.size 0 none [] OwnRows.zero (some ⟨u3.heap.size, 0, none⟩) 3 _ R3.out rfl rfl (by simp) B4.out.size ?_; intro A5 c5 w5 z5 hz5 own5 g5 r5)
    have B5 := Lib.hid (B4.out.grown g5 B4.out.size (by intro k hk; cases hk))
    have O5 := Lib.hid own5
    clear own5 g5 r5 B4 R3
    have C6 := Lib.hid (WO.out w5 B5.out i hi)
    go_wp2_with fail
    ((with_reducible refine C6.out.mono ?_))
    rintro e u6 ⟨X6, d6, rfl, own6, hb6⟩
    have LK := Lib.hid (show triesL l i = [l.set i 0, l.set i (v / 2), l.set i (v - 1)] ++ [lackL l i] from TR.out)
    generalize lackL l i = y at *
    have HR := Lib.hid O5.out.ge
    have B6 := Lib.hid (below_trans B5.out hb6)
    have O6 := Lib.hid (O5.out.below hb6)
    have NB := Lib.hid (bel1 u6 (.cells #[.slice X6 y.length d6] 25))
    have NH := Lib.hid (heap_new2 u6 (.cells #[.slice X6 y.length d6] 25))
    have R1 := Lib.hid (rows_one (S := fun b => w.heap.size ≤ b ∧ b < (u6.alloc (.cells #[.slice X6 y.length d6] 25)).heap.size ∧ rowOf A5 ≠ some b) NH.out own6.cap_ ((own_rowB (own6.below NB.out)).keep fun b hb => ⟨⟨Nat.le_trans B5.out.size hb.1, hb.2, fun h => by have := (HR.out b h).2; have := hb.1; omega⟩, fun _ => rfl⟩))
    have B7 := Lib.hid (below_trans B6.out NB.out)
    have O7 := Lib.hid (O6.out.below NB.out)
    have ZL := Lib.hid (show z5.length + 1 ≤ 4398046511104 by rw [hz5.out]; simp)
    clear hb6 own6 C6 O5 O6 B5 NH NB
    go_wp2_with (at_builtin; refine wpList_append_rows rfl (.tmp 29) (.tmp 33) rfl w.heap.size c5 A5 z5 O7.out (some ⟨u6.heap.size, 0, none⟩) 1 _ R1.out rfl rfl ZL.out B7.out.size ?_; intro A8 c8 w8 z8 hz8 own8 g8 r8)
    have B8 := Lib.hid (B7.out.grown g8 B7.out.size (fun k hk => (HR.out k hk).1))
    have O8 := Lib.hid own8
    have Z8 := Lib.hid (show z8 = triesL l i by rw [hz8.out, hz5.out, LK.out]; rfl)
    clear own8 g8 r8 B7 R1
    go_ret
    exact ⟨A8, c8, by rw [← Z8.out]; rfl, by rw [← Z8.out]; exact O8.out, B8.out⟩
  · have TR := Lib.hid (triesL_neg hp)
    generalize hvv : l.getD i 0 = v at *
    clear hvv
    have C1 := Lib.hid (WO.out w (Below.refl _ _) i hi)
    go_enter Tryd.func62, Tryd.ntmps62
    go_wp2_with fail
    ((with_reducible refine C1.out.mono ?_))
    rintro e u1 ⟨X1, d1, rfl, own1, hb1⟩
    have B1 := Lib.hid hb1
    have O1 := Lib.hid own1
    clear hb1 own1 C1
    generalize lackL l i = y at *
    have NB := Lib.hid (bel1 u1 (.cells #[.slice X1 y.length d1] 25))
    have NH := Lib.hid (heap_new2 u1 (.cells #[.slice X1 y.length d1] 25))
    have R1 := Lib.hid (rows_one (S := fun b => w.heap.size ≤ b ∧ b < (u1.alloc (.cells #[.slice X1 y.length d1] 25)).heap.size ∧ rowOf none ≠ some b) NH.out O1.out.cap_ ((own_rowB (O1.out.below NB.out)).keep fun b hb => ⟨⟨hb.1, hb.2, fun h => nomatch h⟩, fun _ => rfl⟩))
    have B4 := Lib.hid (below_trans B1.out NB.out)
    clear NH NB O1
    go_wp2_with (at_builtin; refine wpList_append_rows rfl (.tmp 29) (.tmp 33) rfl w.heap.size 0 none [] OwnRows.zero (some ⟨u1.heap.size, 0, none⟩) 1 _ R1.out rfl rfl (by simp) B4.out.size ?_; intro A5 c5 w5 z5 hz5 own5 g5 r5)
    have B5 := Lib.hid (B4.out.grown g5 B4.out.size (by intro k hk; cases hk))
    have O5 := Lib.hid own5
    have Z5 := Lib.hid (show z5 = triesL l i by rw [hz5.out, TR.out])
    clear own5 g5 r5 B4 R1
    go_ret
    exact ⟨A5, c5, by rw [← Z5.out]; rfl, by rw [← Z5.out]; exact O5.out, B5.out⟩
end Go.Proofs.YtfpbegagblekiaaDoor.Gens
