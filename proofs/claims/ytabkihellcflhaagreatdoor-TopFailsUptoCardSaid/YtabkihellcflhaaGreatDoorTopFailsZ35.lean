/- TopFails, part 35 of the proof: The program's changes (package rose): what is tried at a place. Conditions: the sizes. · What is seen of the candidates until one stops it: the mathematics. No program. -/
import Derived.Test.YtabkihellcflhaaGreatDoorTopFailsZ34
import Derived.Test.YtabkihellcflhaaGreatDoorTopFailsZ19
/- The program's changes (package rose): what is tried at a place. Conditions: the sizes. -/
namespace Go.Proofs.YtabkihellcflhaaGreatDoor.Gens
open Go.RowKit Lists Ints Vals
set_option linter.unusedVariables false

theorem rows_three {w : World} {b : Nat} {D E F : Option Addr} {x y z : List Int} {d e f x' y' z' : Nat} {T : TypeId} {S : Nat → Prop} (hx' : x.length = x') (hy' : y.length = y') (hz' : z.length = z') (h : w.heap[b]? = some (.cells #[.slice D x' d, .slice E y' e, .slice F z' f] T (0, 0))) (hd : x.length ≤ d) (he : y.length ≤ e) (hf : z.length ≤ f) (hx : AtP w S D x) (hy : AtP w S E y) (hz : AtP w S F z) :
    RowsP w (fun _ => True) S (some ⟨b, 0, none⟩) [x, y, z] := by
  subst hx' hy' hz'
  exact fun _ => ⟨b, 0, rfl, trivial, fun j hj => by
    have hj : j < 3 := hj
    obtain rfl | rfl | rfl : j = 0 ∨ j = 1 ∨ j = 2 := by omega
    · exact ⟨D, d, by rw [Lib.cell_of_heap h]; rfl, hd, hx⟩
    · exact ⟨E, e, by rw [Lib.cell_of_heap h]; rfl, he, hy⟩
    · exact ⟨F, f, by rw [Lib.cell_of_heap h]; rfl, hf, hz⟩⟩
theorem triesL_pos {l : List Int} {i : Nat} (h : 0 < l.getD i 0) : triesL l i = [l.set i 0, l.set i (l.getD i 0 / 2), l.set i (l.getD i 0 - 1)] ++ [lackL l i] := by unfold triesL; rw [if_pos h]; rfl
theorem triesL_neg {l : List Int} {i : Nat} (h : ¬ 0 < l.getD i 0) : triesL l i = [] ++ [lackL l i] := by unfold triesL; rw [if_neg h]; rfl
/-- a list of lists in new memory -/
def CgPost (z : List (List Int)) (w : World) (e : Ending) (w' : World) : Prop := ∃ (A : Option Addr) (c : Nat), e = .returned (.slice A z.length c) ∧ OwnRows w' w.heap.size A c z ∧ Below w.heap.size w w'

set_option maxHeartbeats 4000000 in
set_option maxRecDepth 100000 in
theorem changes_ok {L : Option Addr} {l : List Int} {lc N : Nat} (w : World) (hat : At w N L l) (hN : N ≤ w.heap.size) (hcap : l.length ≤ lc) (hln : l.length ≤ 4294967296) (hv : ∀ x ∈ l, 0 ≤ x ∧ x ≤ 1000) (i : Nat) (hi : i < l.length) :
    Calls Tryz.prog 75 #[.slice L l.length lc, .int .i64 i] w (CgPost (triesL l i) w) := by
  have WI := Lib.hid (fun (W : World) (hb : Below w.heap.size w W) => with_ok (lc := lc) (N := N) W (hat.below (hb.mono hN)) (Nat.le_trans hN hb.size) hln)
  have WO := Lib.hid (fun (W : World) (hb : Below w.heap.size w W) => without_ok (lc := lc) (N := N) W (hat.below (hb.mono hN)) (Nat.le_trans hN hb.size) hcap hln)
  obtain ⟨lb, lo, rfl, hlb, hlc⟩ := hat (by omega)
  have e0 := hlc i hi
  have v0 : 0 ≤ l.getD i 0 ∧ l.getD i 0 ≤ 1000 := by simp only [List.getD, List.getElem?_eq_getElem hi, Option.getD_some]; exact hv _ (List.getElem_mem hi)
  obtain ⟨v0, v1⟩ := v0
  clear hat hlc hv hlb
  by_cases hp : 0 < l.getD i 0
  · have TR := Lib.hid (triesL_pos hp)
    generalize hvv : l.getD i 0 = v at *
    clear hvv
    have g0 : decide (v > 0) = true := by rw [decide_eq_true_eq]; omega
    have C1 := Lib.hid (WI.out w (Below.refl _ _) i hi (0))
    go_enter Tryz.func75, Tryz.ntmps75
    go_wp2_with fail
    ((with_reducible refine C1.out.mono ?_))
    rintro e u1 ⟨X1, d1, rfl, own1, hb1⟩
    have B1 := Lib.hid hb1
    have O1 := Lib.hid own1
    clear hb1 own1 C1
    have C2 := Lib.hid (WI.out u1 B1.out i hi (v / 2))
    go_wp2_with fail
    ((with_reducible refine C2.out.mono ?_))
    rintro e u2 ⟨X2, d2, rfl, own2, hb2⟩
    have B2 := Lib.hid (below_trans B1.out hb2)
    have P1 := Lib.hid (O1.out.below hb2)
    have P2 := Lib.hid (own_less own2 B1.out.size)
    clear hb2 own2 C2 O1
    have C3 := Lib.hid (WI.out u2 B2.out i hi (v - 1))
    go_wp2_with fail
    ((with_reducible refine C3.out.mono ?_))
    rintro e u3 ⟨X3, d3, rfl, own3, hb3⟩
    have B3 := Lib.hid (below_trans B2.out hb3)
    have Q1 := Lib.hid (P1.out.below hb3)
    have Q2 := Lib.hid (P2.out.below hb3)
    have Q3 := Lib.hid (own_less own3 B2.out.size)
    clear hb3 own3 C3 P1 P2
    have sl : ∀ x : Int, (l.set i x).length = l.length := fun x => List.length_set
    have NB := Lib.hid (bel1 u3 (.cells #[.slice X1 l.length d1, .slice X2 l.length d2, .slice X3 l.length d3] 32))
    have NH := Lib.hid (heap_new2 u3 (.cells #[.slice X1 l.length d1, .slice X2 l.length d2, .slice X3 l.length d3] 32))
    have R3 := Lib.hid (rows_three (S := fun b => w.heap.size ≤ b ∧ b < (u3.alloc (.cells #[.slice X1 l.length d1, .slice X2 l.length d2, .slice X3 l.length d3] 32)).heap.size ∧ rowOf none ≠ some b) (sl _) (sl _) (sl _) NH.out Q1.out.cap_ Q2.out.cap_ Q3.out.cap_
      ((own_rowB (Q1.out.below NB.out)).keep fun b hb => ⟨⟨hb.1, hb.2, fun h => nomatch h⟩, fun _ => rfl⟩) ((own_rowB (Q2.out.below NB.out)).keep fun b hb => ⟨⟨hb.1, hb.2, fun h => nomatch h⟩, fun _ => rfl⟩) ((own_rowB (Q3.out.below NB.out)).keep fun b hb => ⟨⟨hb.1, hb.2, fun h => nomatch h⟩, fun _ => rfl⟩))
    have B4 := Lib.hid (below_trans B3.out NB.out)
    clear NH NB Q1 Q2 Q3
    go_wp2_with (at_builtin; refine wpList_append_rows rfl (.tmp 13) (.tmp 27) rfl w.heap.size 0 none [] OwnRows.zero (some ⟨u3.heap.size, 0, none⟩) 3 _ R3.out rfl rfl (by simp) B4.out.size ?_; intro A5 c5 w5 z5 hz5 own5 g5 r5)
    have B5 := Lib.hid (B4.out.grown g5 B4.out.size (by intro k hk; cases hk))
    have O5 := Lib.hid own5
    clear own5 g5 r5 B4 R3
    have C6 := Lib.hid (WO.out w5 B5.out i hi)
    go_wp2_with fail
    ((with_reducible refine C6.out.mono ?_))
    rintro e u6 ⟨X6, d6, rfl, own6, hb6⟩
    have LK := Lib.hid (show triesL l i = [l.set i 0, l.set i (v / 2), l.set i (v - 1)] ++ [lackL l i] from TR.out)
    generalize lackL l i = y at *
    have HR := Lib.hid O5.out.ge
    have B6 := Lib.hid (below_trans B5.out hb6)
    have O6 := Lib.hid (O5.out.below hb6)
    have NB := Lib.hid (bel1 u6 (.cells #[.slice X6 y.length d6] 32))
    have NH := Lib.hid (heap_new2 u6 (.cells #[.slice X6 y.length d6] 32))
    have R1 := Lib.hid (rows_one (S := fun b => w.heap.size ≤ b ∧ b < (u6.alloc (.cells #[.slice X6 y.length d6] 32)).heap.size ∧ rowOf A5 ≠ some b) NH.out own6.cap_ ((own_rowB (own6.below NB.out)).keep fun b hb => ⟨⟨Nat.le_trans B5.out.size hb.1, hb.2, fun h => by have := (HR.out b h).2; have := hb.1; omega⟩, fun _ => rfl⟩))
    have B7 := Lib.hid (below_trans B6.out NB.out)
    have O7 := Lib.hid (O6.out.below NB.out)
    have ZL := Lib.hid (show z5.length + 1 ≤ 4398046511104 by rw [hz5.out]; simp)
    clear hb6 own6 C6 O5 O6 B5 NH NB
    go_wp2_with (at_builtin; refine wpList_append_rows rfl (.tmp 29) (.tmp 33) rfl w.heap.size c5 A5 z5 O7.out (some ⟨u6.heap.size, 0, none⟩) 1 _ R1.out rfl rfl ZL.out B7.out.size ?_; intro A8 c8 w8 z8 hz8 own8 g8 r8)
    have B8 := Lib.hid (B7.out.grown g8 B7.out.size (fun k hk => (HR.out k hk).1))
    have O8 := Lib.hid own8
    have Z8 := Lib.hid (show z8 = triesL l i by rw [hz8.out, hz5.out, LK.out]; rfl)
    clear own8 g8 r8 B7 R1
    go_ret
    exact ⟨A8, c8, by rw [← Z8.out]; rfl, by rw [← Z8.out]; exact O8.out, B8.out⟩
  · have TR := Lib.hid (triesL_neg hp)
    generalize hvv : l.getD i 0 = v at *
    clear hvv
    have C1 := Lib.hid (WO.out w (Below.refl _ _) i hi)
    go_enter Tryz.func75, Tryz.ntmps75
    go_wp2_with fail
    ((with_reducible refine C1.out.mono ?_))
    rintro e u1 ⟨X1, d1, rfl, own1, hb1⟩
    have B1 := Lib.hid hb1
    have O1 := Lib.hid own1
    clear hb1 own1 C1
    generalize lackL l i = y at *
    have NB := Lib.hid (bel1 u1 (.cells #[.slice X1 y.length d1] 32))
    have NH := Lib.hid (heap_new2 u1 (.cells #[.slice X1 y.length d1] 32))
    have R1 := Lib.hid (rows_one (S := fun b => w.heap.size ≤ b ∧ b < (u1.alloc (.cells #[.slice X1 y.length d1] 32)).heap.size ∧ rowOf none ≠ some b) NH.out O1.out.cap_ ((own_rowB (O1.out.below NB.out)).keep fun b hb => ⟨⟨hb.1, hb.2, fun h => nomatch h⟩, fun _ => rfl⟩))
    have B4 := Lib.hid (below_trans B1.out NB.out)
    clear NH NB O1
    go_wp2_with (at_builtin; refine wpList_append_rows rfl (.tmp 29) (.tmp 33) rfl w.heap.size 0 none [] OwnRows.zero (some ⟨u1.heap.size, 0, none⟩) 1 _ R1.out rfl rfl (by simp) B4.out.size ?_; intro A5 c5 w5 z5 hz5 own5 g5 r5)
    have B5 := Lib.hid (B4.out.grown g5 B4.out.size (by intro k hk; cases hk))
    have O5 := Lib.hid own5
    have Z5 := Lib.hid (show z5 = triesL l i by rw [hz5.out, TR.out])
    clear own5 g5 r5 B4 R1
    go_ret
    exact ⟨A5, c5, by rw [← Z5.out]; rfl, by rw [← Z5.out]; exact O5.out, B5.out⟩
end Go.Proofs.YtabkihellcflhaaGreatDoor.Gens

/- What is seen of the candidates until one stops it: the mathematics. No program. -/
namespace Go.Proofs.YtabkihellcflhaaGreatDoor.Gens
open Go.RowKit Lists Ints Vals
set_option linter.unusedVariables false

/-- what is seen: up to the first that stops it, that one too -/
def seenL (stop : List Int → Bool) : List (List Int) → List (List Int)
  | [] => []
  | x :: r => x :: if stop x = true then [] else seenL stop r
theorem seen_all {stop : List Int → Bool} : ∀ {z : List (List Int)}, (∀ a ∈ z, stop a = false) → seenL stop z = z
  | [], _ => rfl
  | x :: z, h => by
    unfold seenL
    rw [if_neg (by rw [h x (by simp)]; decide), seen_all (fun a ha => h a (by simp [ha]))]
theorem seen_stop {stop : List Int → Bool} {x : List Int} {r : List (List Int)} (hx : stop x = true) : ∀ {z : List (List Int)}, (∀ a ∈ z, stop a = false) → seenL stop (z ++ x :: r) = z ++ [x]
  | [], _ => by
    show seenL stop (x :: r) = [x]
    unfold seenL
    rw [if_pos hx]
  | y :: z, h => by
    show seenL stop (y :: (z ++ x :: r)) = y :: (z ++ [x])
    unfold seenL
    rw [if_neg (by rw [h y (by simp)]; decide), seen_stop hx (fun a ha => h a (by simp [ha]))]
/-- the candidates before the i-th try at the place j -/
def partL (t : Gn) (l : List Int) (j i : Nat) : List (List Int) := lessTo t l j ++ ((triesL l j).take i).flatMap (keptL t l)
theorem part_zero (t : Gn) (l : List Int) (j : Nat) : partL t l j 0 = lessTo t l j := by simp [partL]
theorem part_all (t : Gn) (l : List Int) (j : Nat) : partL t l j (triesL l j).length = lessTo t l (j + 1) := by
  rw [lessTo_succ, partL, List.take_of_length_le (Nat.le_refl _)]
  rfl
theorem part_succ (t : Gn) (l : List Int) (j i : Nat) (h : i < (triesL l j).length) : partL t l j (i + 1) = partL t l j i ++ keptL t l ((triesL l j)[i]'h) := by
  rw [partL, partL, List.take_succ_eq_append_getElem h, List.flatMap_append, List.flatMap_singleton, List.append_assoc]
theorem flat_parts {α β : Type} (f : α → List β) (l : List α) (i : Nat) (h : i < l.length) : ∃ r, l.flatMap f = (l.take i).flatMap f ++ (f (l[i]'h) ++ r) := by
  refine ⟨(l.drop (i + 1)).flatMap f, ?_⟩
  conv => lhs; rw [← List.take_append_drop i l, List.flatMap_append, List.drop_eq_getElem_cons h, List.flatMap_cons]
theorem part_rest (t : Gn) (l : List Int) (j i : Nat) (hj : j < l.length) (h : i < (triesL l j).length) : ∃ r, roseL t l = partL t l j i ++ (keptL t l ((triesL l j)[i]'h) ++ r) := by
  obtain ⟨r1, h1⟩ := flat_parts (lessAt t l) (List.range l.length) j (by simpa using hj)
  obtain ⟨r2, h2⟩ := flat_parts (keptL t l) (triesL l j) i h
  refine ⟨r2 ++ r1, ?_⟩
  have e1 : (List.range l.length).take j = List.range j := by rw [List.take_range]; congr 1; omega
  rw [e1, List.getElem_range] at h1
  show (List.range l.length).flatMap (lessAt t l) = _
  rw [h1]
  show lessTo t l j ++ ((triesL l j).flatMap (keptL t l) ++ r1) = _
  rw [h2]
  simp only [partL, List.append_assoc]
/-- where one that is kept stops it -/
theorem part_stop {t : Gn} {l : List Int} {stop : List Int → Bool} {j i : Nat} (hj : j < l.length) (h : i < (triesL l j).length) (hz : ∀ a ∈ partL t l j i, stop a = false) (hk : lessL (mendL t ((triesL l j)[i]'h)) l = true)
    (hs : stop (mendL t ((triesL l j)[i]'h)) = true) : seenL stop (roseL t l) = partL t l j i ++ [mendL t ((triesL l j)[i]'h)] := by
  obtain ⟨r, e⟩ := part_rest t l j i hj h
  rw [keptL, if_pos hk] at e
  rw [e]
  exact seen_stop hs hz
theorem part_mem {t : Gn} {l y : List Int} {j i : Nat} (hj : j < l.length) (h : i < (triesL l j).length) (hy : y ∈ keptL t l ((triesL l j)[i]'h)) : y ∈ roseL t l := by
  obtain ⟨r, e⟩ := part_rest t l j i hj h
  rw [e]
  simp [hy]
theorem rose_end {t : Gn} {l : List Int} {stop : List Int → Bool} (hz : ∀ a ∈ lessTo t l l.length, stop a = false) : seenL stop (roseL t l) = lessTo t l l.length := seen_all hz
theorem tries_four (l : List Int) (j : Nat) : (triesL l j).length ≤ 4 := by unfold triesL; split <;> simp
theorem tries_each {l x : List Int} {j : Nat} (hx : x ∈ triesL l j) : x.length ≤ l.length := by
  unfold triesL at hx
  split at hx
  · simp only [List.mem_cons, List.not_mem_nil, or_false] at hx
    rcases hx with rfl | rfl | rfl | rfl
    · simp
    · simp
    · simp
    · exact lack_len l j
  · simp only [List.mem_cons, List.not_mem_nil, or_false] at hx
    subst hx
    exact lack_len l j
theorem find_seen (p : List Int → Bool) : ∀ z : List (List Int), (seenL p z).find? p = z.find? p
  | [] => rfl
  | x :: z => by
    unfold seenL
    cases h : p x with
    | true => simp [h]
    | false => simp [h, find_seen p z]
end Go.Proofs.YtabkihellcflhaaGreatDoor.Gens
