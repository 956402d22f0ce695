/- The program's Pair and needed. Conditions: none. -/
import Derived.Test.YtdmoigompmeacaaDoorCondRep
import Derived.BigQuiet
namespace Go.Proofs.YtdmoigompmeacaaDoor.Cnd
open Go.RowKit Ints Vals Bools
set_option linter.unusedVariables false

theorem first_bit {N : Nat} {F A : Nat → Bool} {i t : Nat} (h : firstP N F A i = t) : t < N ∧ t ||| 2 ^ i = t + 2 ^ i := by
  rcases firstP_cases N F A i with ⟨e, _⟩ | ⟨u, hu, e, hp, _⟩
  · rw [e] at h; omega
  · obtain rfl : u = t := by omega
    exact ⟨hu, or_add (pairT_iff.1 hp).1.1⟩
theorem shl_bit (j : Nat) (h : j < 6) : wrap64 ((2 : Int) ^ j) = ((2 ^ j : Nat) : Int) ∧ 2 ^ j ≤ 32 := by
  obtain rfl | rfl | rfl | rfl | rfl | rfl : j = 0 ∨ j = 1 ∨ j = 2 ∨ j = 3 ∨ j = 4 ∨ j = 5 := by omega
  all_goals exact ⟨by decide +kernel, by decide⟩
theorem paiE_no {n i : Int} {l : List Bool} (h : ¬ matE n l i = 0) : paiE n l i = matE n l i := if_neg h

set_option maxHeartbeats 4000000 in
set_option maxRecDepth 100000 in
theorem pair_prog (n i : Int) (A : Option Addr) (c : Nat) (l : List Bool) (w : World) (hl : l.length ≤ 4294967296) (hA : AtB w w.heap.size A l) :
    Calls Tryd.prog 12 #[.int .i64 n, .slice A l.length c, .int .i64 i] w (PrPost (paiA n l i) (paiB n l i) (paiE n l i) w) := by
  have CC := Lib.hid (condition_ok n i A c l w hl)
  unfold PrPost
  by_cases hq : matE n l i = 0
  · obtain ⟨m, j, rfl, rfl, h1, h6, hj, hl2, hp⟩ := par_ok hq
    obtain ⟨b, off, rfl, _, hlie⟩ := lie_at hA (by have := pow_small h1 h6; omega)
    have C1 := Lib.hid (first_ok hj h6 hl2 b off c w (any_adm _ _) hlie)
    have EE := Lib.hid (show paiE m l j = if parL m l j = -1 then 2 else 0 from if_pos hq)
    have EA := Lib.hid (show paiA m l j = if parL m l j = -1 then 0 else parL m l j from rfl)
    have EB := Lib.hid (show paiB m l j = if parL m l j = -1 then 0 else parL m l j + 2 ^ j from rfl)
    rw [hp] at EE EA EB
    rw [EE.out, EA.out, EB.out]
    rw [hq, errOf_ok] at CC
    have FB := Lib.hid (fun t => first_bit (N := l.length) (F := fOf l) (A := anyB) (i := j) (t := t))
    have FQ := Lib.hid (firstP_bound l.length (fOf l) anyB j)
    have HL := Lib.hid (show l.length ≤ 64 by have := pow_small h1 h6; omega)
    have SH := Lib.hid (shl_bit j (by omega))
    clear hq hp hl2 hlie hA EE EA EB
    generalize firstP l.length (fOf l) anyB j = v at *
    have hjj : (j : Int) < 6 := by omega
    by_cases hv : v = -1
    · subst hv
      rw [if_pos rfl, if_pos rfl, if_pos rfl]
      go_enter Tryd.func12, Tryd.ntmps12
      go_wp2_with fail
      refine CC.out.mono ?_
      rintro e w1 ⟨rfl, rfl⟩
      go_wp2_with fail
      refine C1.out.mono ?_
      rintro e w2 ⟨rfl, k, rfl⟩
      go_wp2_with fail
      go_ret3
      exact ⟨rfl, below_drewN _ _⟩
    · obtain ⟨t, rfl⟩ : ∃ t : Nat, v = t := ⟨v.toNat, by have := FQ.out; omega⟩
      obtain ⟨f1, f2⟩ := FB.out t rfl
      have BO : bits .or .i64 (t : Int) ((2 ^ j : Nat) : Int) = (t : Int) + 2 ^ j := by
        have hs := SH.out.2
        have ht := HL.out
        rw [or64 t (2 ^ j) (by omega) (by omega), f2]
        simp
      have W1 := Lib.hid SH.out.1
      have tn : ((t : Int) == -1) = false := by rw [beq_eq_false_iff_ne]; exact hv
      rw [if_neg hv, if_neg hv, if_neg hv]
      have HV := Lib.hid hv
      clear f1 f2 FB FQ HL SH hv
      generalize hbt : ((2 ^ j : Nat) : Int) = bt at BO W1
      generalize hbj : (t : Int) + 2 ^ j = s at *
      clear hbt hbj
      go_enter Tryd.func12, Tryd.ntmps12
      go_wp2_with fail
      refine CC.out.mono ?_
      rintro e w1 ⟨rfl, rfl⟩
      go_wp2_with fail
      refine C1.out.mono ?_
      rintro e w2 ⟨rfl, k, rfl⟩
      have W2 := W1.out
      go_wp2_with fail
      go_quiet (fail)
      go_wp2_with fail
      go_ret3
      exact ⟨rfl, (below_drewN w1 k).trans (below_drewN (w1.drewN k) _)⟩
  · have EA := Lib.hid (show paiA n l i = 0 by unfold paiA; rw [par_no hq]; rfl)
    have EB := Lib.hid (show paiB n l i = 0 by unfold paiB; rw [par_no hq]; rfl)
    rw [EA.out, EB.out, paiE_no hq]
    rw [errOf_no hq] at CC ⊢
    generalize matE n l i = q at *
    clear hA EA EB
    go_enter Tryd.func12, Tryd.ntmps12
    go_wp2_with fail
    refine CC.out.mono ?_
    rintro e w1 ⟨rfl, rfl⟩
    go_wp2_with fail
    go_ret3
    exact ⟨rfl, Below.refl _ _⟩

/-! marks in a list -/
theorem pairT_same {n : Nat} {F H K : Nat → Bool} (h : ∀ t, t < 2 ^ n → H t = K t) {i t : Nat} (hi : i < n) (ht : t < 2 ^ n) : pairT F H i t = pairT F K i t := by
  unfold pairT
  rw [h t ht, h _ (or_small hi ht)]
theorem firstP_same {n : Nat} {F H K : Nat → Bool} (h : ∀ t, t < 2 ^ n → H t = K t) {i : Nat} (hi : i < n) : firstP (2 ^ n) F H i = firstP (2 ^ n) F K i := by
  rcases firstP_cases (2 ^ n) F H i with ⟨e, hb⟩ | ⟨t, ht, e, hp, hb⟩
  · rw [e, firstP_none fun u hu => by rw [← pairT_same h hi hu]; exact hb u hu]
  · rw [e, firstP_some ht (by rw [← pairT_same h hi ht]; exact hp) fun u hu => by rw [← pairT_same h hi (by omega)]; exact hb u hu]
theorem covB_same {n : Nat} {F H K : Nat → Bool} (h : ∀ t, t < 2 ^ n → H t = K t) : covB n F H = covB n F K := by
  have hl : ∀ i, i < n → lackB n F H i = lackB n F K i := fun i hi => by
    unfold lackB
    rw [firstP_same h hi]
  cases hc : covB n F K with
  | true =>
    refine covB_full fun i hi => ?_
    rw [hl i hi]
    cases hk : lackB n F K i with
    | false => rfl
    | true => rw [covB_lack hi hk] at hc; cases hc
  | false =>
    cases hd : covB n F H with
    | false => rfl
    | true =>
      rw [covB_full (F := F) (H := K) fun i hi => ?_] at hc
      · cases hc
      · rw [← hl i hi]
        cases hk : lackB n F H i with
        | false => rfl
        | true => rw [covB_lack hi hk] at hd; cases hd
/-- the marks as a list, t tests asked for -/
def markL (n : Nat) (F : Nat → Bool) (t : Nat) : List Bool := (List.range (2 ^ n)).map (needG n F t)
theorem mark_len (n : Nat) (F : Nat → Bool) (t : Nat) : (markL n F t).length = 2 ^ n := by unfold markL; simp
theorem mark_get {n : Nat} {F : Nat → Bool} {t u : Nat} (h : u < 2 ^ n) : fOf (markL n F t) u = needG n F t u := by
  unfold fOf markL
  simp [List.getD, h]
theorem mark_zero (n : Nat) (F : Nat → Bool) : List.replicate (2 ^ n) true = markL n F 0 := by
  unfold markL
  apply List.ext_getElem
  · simp
  · intro i h1 h2
    simp [needG, anyB]
theorem set_get {z : List Bool} {t u : Nat} {v : Bool} (hu : u < z.length) : fOf (z.set t v) u = setH (fOf z) t v u := by
  unfold fOf setH
  by_cases e : u = t
  · subst e; simp [List.getD, hu]
  · rw [if_neg e]
    have e2 : ¬ t = u := fun h => e h.symm
    simp [List.getD, e2]
theorem mark_cov {n : Nat} {F : Nat → Bool} {t : Nat} : covB n F (fOf ((markL n F t).set t false)) = covB n F (setH (needG n F t) t false) := by
  refine covB_same fun u hu => ?_
  rw [set_get (by rw [mark_len]; exact hu)]
  unfold setH
  split
  · rfl
  · exact mark_get hu
theorem mark_step {n : Nat} {F : Nat → Bool} {t : Nat} : ((markL n F t).set t false).set t (!covB n F (fOf ((markL n F t).set t false))) = markL n F (t + 1) := by
  rw [mark_cov, List.set_set]
  unfold markL
  apply List.ext_getElem
  · simp
  · intro i h1 h2
    simp only [List.length_set, List.length_map, List.length_range] at h1
    rw [List.getElem_set]
    have hs : needG n F (t + 1) i = if i = t then !covB n F (setH (needG n F t) t false) else needG n F t i := rfl
    simp only [List.getElem_map, List.getElem_range, hs]
    by_cases e : t = i
    · rw [if_pos e, if_pos e.symm]
    · rw [if_neg e, if_neg (fun h => e h.symm)]

theorem below_grown0 {B : Nat} {w0 w w' : World} {row : Option Nat} (h : Below B w0 w) (hg : w.grownBy w' row) (hB : B ≤ w.heap.size) (hr : ∀ g, row = some g → B ≤ g) : Below B w0 w' := h.grown hg hB hr
theorem put_grown (w : World) (p t : Nat) (y : Value) : w.grownBy (w.setCell ⟨p, t, none⟩ y) (some p) :=
  ⟨rfl, rfl, rfl, by show _ ≤ (World.setCell _ _ _).heap.size; simp [World.setCell], fun b _ hx => Below.heap_setCell w ⟨p, t, none⟩ y b (fun e => hx (by rw [e]))⟩
theorem Lie.below {w w' : World} {b off B : Nat} {z : List Bool} (h : Lie w b off z) (hb : Below B w w') (hlt : b < B) : Lie w' b off z := fun j hj => (hb.cell (p := ⟨b, off + j, none⟩) hlt).trans (h j hj)

set_option maxHeartbeats 4000000 in
set_option maxRecDepth 100000 in
theorem needed_ok {m : Nat} (hm : 1 ≤ m) (h6 : m ≤ 6) {l : List Bool} (hl : l.length = 2 ^ m) (b off c : Nat) (w : World) (hf : Lie w b off l) :
    Calls Tryd.prog 27 #[.int .i64 m, .slice (some ⟨b, off, none⟩) l.length c] w fun e w' => ∃ g, w.heap.size ≤ g ∧ e = .returned (.slice (some ⟨g, 0, none⟩) l.length l.length) ∧ RB w' g (markL m (fOf l) (2 ^ m)) ∧ Below w.heap.size w w' := by
  have hp := pow_small hm h6
  have hfew : Few l.length := by rw [hl]; exact few_of hm h6
  have hlt0 : b < w.heap.size := hf.lt (by omega)
  have b1 : Below w.heap.size w (w.alloc (.cells #[.bool true] 4)) := (Below.refl _ _).alloc (Nat.le_refl _) _
  have RP := Lib.hid (repeat_bool (b := w.heap.size) (off := 0) (c := 1) (x := true) (w.alloc (.cells #[.bool true] 4)) (box_cell (new_box w _)) (by simp) l.length hfew)
  rw [World.size_alloc] at RP
  have B1 := Lib.hid b1
  have HF := Lib.hid (fun (W : World) (hb : Below w.heap.size w W) => hf.below hb hlt0)
  have CV := Lib.hid (fun (W : World) (z : List Bool) (hz : z.length = l.length) (hb : Below w.heap.size w W) (hr : RB W (w.heap.size + 1) z) => covers_ok hm h6 hl hz b off c (w.heap.size + 1) 0 l.length W (hf.below hb hlt0) hr.lie)
  have HL := Lib.hid hl
  have ML := Lib.hid (fun t => show (markL m (fOf l) t).length = l.length by rw [mark_len, hl])
  have h64 : l.length ≤ 64 := hfew.le
  clear hf hlt0 hp hfew hl b1
  go_enter Tryd.func27, Tryd.ntmps27
  go_wp2_with fail
  refine RP.out.mono ?_
  rintro e w1 ⟨rfl, hr1, hb1⟩
  have R1 := Lib.hid (show RB w1 (w.heap.size + 1) (markL m (fOf l) 0) by rw [← mark_zero, ← HL.out]; exact hr1)
  have BB := Lib.hid (show Below w.heap.size w w1 from B1.out.trans (hb1.mono (by omega)))
  have SZ := Lib.hid (show w.heap.size + 1 < w1.heap.size from hr1.lt)
  clear hr1 hb1 RP B1
  go_wp2_with fail
  go_loopw [13] (fun iv wr => ∃ t : Nat, t ≤ l.length ∧ iv = .int .i64 t ∧ Hid (RB wr (w.heap.size + 1) (markL m (fOf l) t)) ∧ Hid (Below w.heap.size w wr)) (fun iv _ => l.length - (intOf iv).toNat)
  case atStart => exact ⟨0, Nat.zero_le _, rfl, R1.out, BB.out⟩
  case round =>
    obtain ⟨t, ht, rfl, hr, hb⟩ := hrel
    by_cases hlt : t < l.length
    · have hti : (t : Int) < l.length := by omega
      have c1 : wr.cell? ⟨w.heap.size + 1, t, none⟩ = some (.bool (fOf (markL m (fOf l) t) t)) := by
        have := hr.out.lie t (by rw [ML.out]; exact hlt)
        rwa [Nat.zero_add] at this
      have f1 := hr.out.free t
      have R2 := hr.out.put t false
      have G2 := put_grown wr (w.heap.size + 1) t (.bool false)
      have SW := Lib.hid (show w.heap.size ≤ wr.heap.size from hb.out.size)
      have B2 := Lib.hid (hb.out.grown G2 SW.out (fun g hg => by injection hg with hg; omega))
      have C2 := Lib.hid (CV.out _ _ (by rw [List.length_set]; exact ML.out t) B2.out R2)
      have RR := Lib.hid R2
      have MS := Lib.hid (mark_step (n := m) (F := fOf l) (t := t))
      have ZL := Lib.hid (show ((markL m (fOf l) t).set t false).length = l.length by rw [List.length_set]; exact ML.out t)
      rw [ZL.out] at C2
      clear R2 G2 hr hb
      generalize fOf (markL m (fOf l) t) t = v0 at *
      generalize (markL m (fOf l) t).set t false = z2 at *
      generalize covB m (fOf l) (fOf z2) = cv at *
      go_wp2_with fail
      generalize wr.setCell ⟨w.heap.size + 1, t, none⟩ (.bool false) = w2 at *
      refine C2.out.mono ?_
      rintro e w3 ⟨rfl, hg3⟩
      have R3 := RR.out.kept hg3 (by simp)
      have c3 : w3.cell? ⟨w.heap.size + 1, t, none⟩ = some (.bool (fOf z2 t)) := by
        have := R3.lie t (by rw [ZL.out]; exact hlt)
        rwa [Nat.zero_add] at this
      have f3 := R3.free t
      have R4 := Lib.hid (R3.put t (!cv))
      rw [MS.out] at R4
      have B3 := Lib.hid ((B2.out.grown hg3 B2.out.size (fun g hg => by cases hg)).grown (put_grown w3 (w.heap.size + 1) t (.bool (!cv))) (by have := B2.out.size; have := hg3.size; omega) (fun g hg => by injection hg with hg; omega))
      clear hg3 R3 C2 RR MS ZL
      generalize fOf z2 t = v3 at *
      go_wp2_with fail
      go_roundw
      case rel => exact ⟨t + 1, by omega, by go_num, R4.out, B3.out⟩
      case measure => simp [intOf]; omega
    · obtain rfl : t = l.length := by omega
      have R5 := Lib.hid hr.out
      rw [HL.out] at R5
      clear hr
      go_wp2_with fail
      go_ret
      exact ⟨_, by omega, rfl, R5.out, hb.out⟩
end Go.Proofs.YtdmoigompmeacaaDoor.Cnd
