/- TopLeast, part 49 of the proof: The program's Nth. Conditions: the size. · Contract of assayersame.Ints: it draws its order. Conditions: none but that the slices' cells are known. -/
import Derived.Test.YtfpbegagblekiaaDoorTopLeastZ48
import Derived.Test.YtfpbegagblekiaaDoorTopLeastZ3
import Derived.Test.YtfpbegagblekiaaDoorTopLeastZ11
/- The program's Nth. Conditions: the size. -/
namespace Go.Proofs.YtfpbegagblekiaaDoor.Gens
open Go.RowKit Lists Ints Vals
set_option linter.unusedVariables false

/-- what Nth tells -/
def nthE (t : Gn) (i : Int) : Int := if countE t = 0 then (if i < 0 ∨ ((enG t).cnt : Int) ≤ i then 1 else 0) else countE t
def nthV (t : Gn) (i : Int) : List Int := if nthE t i = 0 then (enG t).nth i.toNat else []
theorem count_fine {t : Gn} (h : countE t = 0) : Fine t ∧ (enG t).cnt ≤ 1048576 ∧ countN t = (enG t).cnt := by
  unfold countE at h
  by_cases hz : genV t = 0
  · rw [if_pos hz] at h
    have hf := fine_of hz
    have hc := count_cap t hf.1
    by_cases hq : 1048576 < countG t
    · rw [if_pos hq] at h; cases h
    · refine ⟨hf, by omega, ?_⟩
      unfold countN
      rw [if_pos hz, if_neg hq]; omega
  · rw [if_neg hz] at h; exact absurd h hz
theorem nthE_zero {t : Gn} {i : Int} (h : nthE t i = 0) : Fine t ∧ (enG t).cnt ≤ 1048576 ∧ 0 ≤ i ∧ i.toNat < (enG t).cnt ∧ nthV t i = (enG t).nth i.toNat := by
  have hv : nthV t i = (enG t).nth i.toNat := by unfold nthV; rw [if_pos h]
  unfold nthE at h
  by_cases hc : countE t = 0
  · rw [if_pos hc] at h
    obtain ⟨hf, hb, _⟩ := count_fine hc
    by_cases hi : i < 0 ∨ ((enG t).cnt : Int) ≤ i
    · rw [if_pos hi] at h; cases h
    · exact ⟨hf, hb, by omega, by omega, hv⟩
  · rw [if_neg hc] at h; exact absurd h hc
theorem nthV_len (t : Gn) (i : Int) : (nthV t i).length ≤ 1399680 := by
  by_cases h : nthE t i = 0
  · obtain ⟨hf, _, _, hi, hv⟩ := nthE_zero h
    rw [hv]; exact nth_len hf hi
  · unfold nthV; rw [if_neg h]; simp

set_option maxHeartbeats 2000000 in
set_option maxRecDepth 100000 in
theorem nth_prog {n : Nat} {t : Gn} {v : Value} {B : Nat} (w : World) (h : GAt w (GBel B) n v t) (hB : B ≤ w.heap.size) (hsz : t.size ≤ 4294967296) (i : Int) (hi : I64 i) :
    Calls Tryd.prog 32 #[v, .int .i64 i] w fun e w' => ∃ (A' : Option Addr) (c' : Nat), e = .returned (.tuple #[.slice A' (nthV t i).length c', errOf (nthE t i)]) ∧ Own w' w.heap.size A' c' (nthV t i) ∧ Below w.heap.size w w' := by
  obtain ⟨m, A, c, e, hw, rfl, _⟩ := h.open_
  have b1 := bel1 w (gc t A c)
  have g1 : G4 w.heap.size (.int .i64 t.kind) (.int .i64 t.a) (.int .i64 t.b) (.slice A t.subs.length c) (w.alloc (gc t A c)) := new_obj w _
  have C1 := gcount (w.alloc (gc t A c)) (h.below (b1.mono hB)) (by simp; omega) hsz
  have NA := Lib.hid (fun (W : World) (hb : Below w.heap.size w W) (hf : Fine t) (hc : (enG t).cnt ≤ 1048576) (j : Nat) (hj : j < (enG t).cnt) => nth_any n t _ B j W (h.below (hb.mono hB)) (Nat.le_trans hB hb.size) hf hc hj)
  have B1 := Lib.hid b1
  have G1 := Lib.hid g1
  clear h hB hsz e hw b1 g1
  by_cases hz : countE t = 0
  · obtain ⟨hf, hc, hn⟩ := count_fine hz
    rw [hz, errOf_ok, hn] at C1
    have C1 := Lib.hid C1
    have NA := Lib.hid (NA.out (hf := hf) (hc := hc))
    have EN := Lib.hid (show nthE t i = if i < 0 ∨ ((enG t).cnt : Int) ≤ i then 1 else 0 by unfold nthE; rw [if_pos hz])
    have EV := Lib.hid (show nthV t i = if nthE t i = 0 then (enG t).nth i.toNat else [] from rfl)
    clear hz hf hn
    obtain ⟨i1, i2⟩ := hi
    go_enter Tryd.func32, Tryd.ntmps32
    go_wp2_with fail
    generalize w.alloc (gc t A c) = W1 at *
    ((with_reducible refine C1.out.mono ?_))
    rintro e w2 ⟨rfl, hb2⟩
    have B2 := Lib.hid (below_trans B1.out hb2)
    obtain ⟨k0, k1, k2, k3⟩ := (G1.out.below hb2).facts
    clear hb2 C1
    by_cases hin : i < 0 ∨ ((enG t).cnt : Int) ≤ i
    · have EN2 := Lib.hid (EN.out.trans (if_pos hin))
      have EV2 := Lib.hid (EV.out.trans (if_neg (by rw [EN2.out]; decide)))
      clear NA EN EV
      generalize (enG t).cnt = q at *
      by_cases h0 : i < 0
      · clear hin
        go_wp2_with fail
        go_ret2
        exact ⟨none, 0, by rw [EN2.out, EV2.out]; rfl, by rw [EV2.out]; exact Own.none, B2.out⟩
      · have hq : (q : Int) ≤ i := by omega
        clear hin
        go_wp2_with fail
        go_ret2
        exact ⟨none, 0, by rw [EN2.out, EV2.out]; rfl, by rw [EV2.out]; exact Own.none, B2.out⟩
    · have EN2 := Lib.hid (EN.out.trans (if_neg hin))
      have EV2 := Lib.hid (EV.out.trans (if_pos EN2.out))
      obtain ⟨j, rfl⟩ : ∃ j : Nat, i = (j : Int) := ⟨i.toNat, by omega⟩
      have NB := Lib.hid (NA.out w2 B2.out j (by omega))
      rw [Int.toNat_natCast] at EV2
      have h0 : ¬ ((j : Int) < 0) := by omega
      have hq : j < (enG t).cnt := by omega
      clear hin NA EN EV
      generalize (enG t).cnt = q at *
      generalize (enG t).nth j = z at *
      go_wp2_with fail
      ((with_reducible refine NB.out.mono ?_))
      rintro e w3 ⟨A3, c3, rfl, own3, hb3⟩
      have O3 := Lib.hid (own_base own3 B2.out.size)
      have B3 := Lib.hid (below_trans B2.out hb3)
      clear own3 hb3 NB
      go_wp2_with fail
      go_ret2
      exact ⟨A3, c3, by rw [EN2.out, EV2.out, errOf_ok]; rfl, by rw [EV2.out]; exact O3.out, B3.out⟩
  · have RE := Lib.hid (errOf_no hz)
    have EN := Lib.hid (show nthE t i = countE t by unfold nthE; rw [if_neg hz])
    have EV := Lib.hid (show nthV t i = [] by unfold nthV; rw [if_neg (by rw [EN.out]; exact hz)])
    have hn0 : countN t = 0 := by
      have hz := hz
      unfold countE at hz
      unfold countN
      by_cases hg : genV t = 0
      · rw [if_pos hg] at hz ⊢
        by_cases hq : 1048576 < countG t
        · rw [if_pos hq]
        · rw [if_neg hq] at hz; exact absurd rfl hz
      · rw [if_neg hg]
    rw [hn0, errOf_no hz] at C1
    have C1 := Lib.hid C1
    clear hz NA hn0
    generalize countE t = q at *
    go_enter Tryd.func32, Tryd.ntmps32
    go_wp2_with fail
    generalize w.alloc (gc t A c) = W1 at *
    ((with_reducible refine C1.out.mono ?_))
    rintro e w2 ⟨rfl, hb2⟩
    have B2 := Lib.hid (below_trans B1.out hb2)
    clear hb2 C1
    go_wp2_with fail
    go_ret2
    exact ⟨none, 0, by rw [EN.out, EV.out, RE.out]; rfl, by rw [EV.out]; exact Own.none, B2.out⟩
end Go.Proofs.YtfpbegagblekiaaDoor.Gens

/- Contract of assayersame.Ints: it draws its order. Conditions: none but that the slices' cells are known. -/
namespace Go.Proofs.YtfpbegagblekiaaDoor.Ints
open Go.RowKit Go.WideShapes Go.ChangeShapes Lists
set_option linter.unusedVariables false

/-! assayersame.Ints: it draws its order -/
theorem same_any (l m : List Int) (A B : Option Addr) (c d N : Nat) (hl : l.length ≤ maxLen) (hm : m.length ≤ maxLen) (w : World) (ha : At w N A l) (hb : At w N B m) :
    Calls Tryd.prog 22 #[.slice A l.length c, .slice B m.length d] w fun e w' => e = .returned (.bool (decide (l = m))) ∧ ∃ n, w' = w.drewN n := by
  unfold maxLen at hl hm
  have HA := Lib.hid ha
  have HB := Lib.hid hb
  clear ha hb
  by_cases e : l.length = m.length
  · have ht : (((l.length : Nat) : Int) != ((m.length : Nat) : Int)) = false := by rw [bne_eq_false_iff_eq]; omega
    have hml : m.length ≤ l.length := by omega
    have hlm : l.length ≤ m.length := by omega
    have E := Lib.hid e
    clear e
    go_enter Tryd.func22, Tryd.ntmps22
    go_wp2
    go_loopw [5] (fun i wr => ∃ k n : Nat, k ≤ l.length ∧ i = .int .i64 k ∧ wr = w.drewN n ∧ Hid (l.take k = m.take k)) (fun i _ => l.length - (intOf i).toNat)
    case atStart => exact ⟨0, 0, Nat.zero_le _, rfl, rfl, rfl⟩
    case round =>
      obtain ⟨k, n, hk, rfl, rfl, ht2⟩ := hrel
      by_cases h1 : k < l.length
      · have h2 : k < m.length := by omega
        obtain ⟨b, off, rfl, _, hcell⟩ := HA.out (by omega)
        have c1 := hcell k h1
        clear hcell
        obtain ⟨b2, off2, rfl, _, hcell2⟩ := HB.out (by omega)
        have c2 := hcell2 k h2
        clear hcell2
        have t1 := Lib.hid (take_getD l k h1)
        have t2 := Lib.hid (take_getD m k h2)
        generalize hx : l.getD k 0 = x at c1 t1
        generalize hy : m.getD k 0 = y at c2 t2
        have HX := Lib.hid hx
        have HY := Lib.hid hy
        clear hx hy
        by_cases h : x = y
        · subst h
          have hv := Lib.hid (show l.take (k + 1) = m.take (k + 1) by rw [t1.out, t2.out, ht2.out])
          have h1' : (k : Int) < l.length := by omega
          have h2' : (k : Int) < m.length := by omega
          go_wp2
          go_quiet (fail)
          go_wp2
          go_roundw
          case rel => exact ⟨k + 1, _, by omega, by go_num, rfl, hv.out⟩
          case measure => simp [intOf]; omega
        · have hv := Lib.hid (show decide (l = m) = false by
            rw [decide_eq_false]; intro z; subst z; exact h (HX.out.symm.trans HY.out))
          have ht3 : (x != y) = true := by rw [bne_iff_ne]; exact h
          clear h
          go_wp2
          go_quiet (fail)
          go_wp2
          go_ret
          exact ⟨ret_b hv.out.symm, _, World.drewN_drewN _ _ _⟩
      · have hv := Lib.hid (show decide (l = m) = true by
          rw [decide_eq_true_eq, ← List.take_of_length_le (show l.length ≤ k by omega), ht2.out, List.take_of_length_le (by omega)])
        go_wp2
        go_ret
        exact ⟨ret_b hv.out.symm, _, rfl⟩
  · have ht : (((l.length : Nat) : Int) != ((m.length : Nat) : Int)) = true := by rw [bne_iff_ne]; omega
    have hv := Lib.hid (show decide (l = m) = false by rw [decide_eq_false]; intro z; subst z; exact e rfl)
    clear e
    go_enter Tryd.func22, Tryd.ntmps22
    go_wp2
    go_ret
    exact ⟨ret_b hv.out.symm, 0, rfl⟩
theorem same_below (l m : List Int) (A B : Option Addr) (c d N : Nat) (hl : l.length ≤ maxLen) (hm : m.length ≤ maxLen) (w : World) (ha : At w N A l) (hb : At w N B m) :
    Calls Tryd.prog 22 #[.slice A l.length c, .slice B m.length d] w fun e w' => e = .returned (.bool (decide (l = m))) ∧ Below w.heap.size w w' :=
  (same_any l m A B c d N hl hm w ha hb).mono fun _ _ ⟨h, n, h'⟩ => ⟨h, h' ▸ ⟨rfl, rfl, rfl, Nat.le_refl _, fun _ _ => rfl⟩⟩
end Go.Proofs.YtfpbegagblekiaaDoor.Ints
