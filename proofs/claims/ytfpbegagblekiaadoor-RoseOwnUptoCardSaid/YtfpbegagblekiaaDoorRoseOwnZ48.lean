/- RoseOwn, part 48 of the proof: Contract of assayersame.Ints: it draws its order. Conditions: none but that the slices' cells are known. · The statements' own Rows: are two lists of lists the same? Conditions: the sizes. · A generator without parts, in memory. -/
import Derived.Test.YtfpbegagblekiaaDoorRoseOwnZ5
import Derived.Test.YtfpbegagblekiaaDoorRoseOwnZ17
import Derived.Test.YtfpbegagblekiaaDoorRoseOwnZ47
import Derived.Deep.RegionHeld3
import Derived.Test.YtfpbegagblekiaaDoorRoseOwnZ4
/- Contract of assayersame.Ints: it draws its order. Conditions: none but that the slices' cells are known. -/
namespace Go.Proofs.YtfpbegagblekiaaDoor.Ints
open Go.RowKit Go.WideShapes Go.ChangeShapes Lists
set_option linter.unusedVariables false

/-! assayersame.Ints: it draws its order -/
theorem same_any (l m : List Int) (A B : Option Addr) (c d N : Nat) (hl : l.length ≤ maxLen) (hm : m.length ≤ maxLen) (w : World) (ha : At w N A l) (hb : At w N B m) :
    Calls Tryd.prog 22 #[.slice A l.length c, .slice B m.length d] w fun e w' => e = .returned (.bool (decide (l = m))) ∧ ∃ n, w' = w.drewN n := by
  unfold maxLen at hl hm
  have HA := Lib.hid ha
  have HB := Lib.hid hb
  clear ha hb
  by_cases e : l.length = m.length
  · have ht : (((l.length : Nat) : Int) != ((m.length : Nat) : Int)) = false := by rw [bne_eq_false_iff_eq]; omega
    have hml : m.length ≤ l.length := by omega
    have hlm : l.length ≤ m.length := by omega
    have E := Lib.hid e
    clear e
    go_enter Tryd.func22, Tryd.ntmps22
    go_wp2
    go_loopw [5] (fun i wr => ∃ k n : Nat, k ≤ l.length ∧ i = .int .i64 k ∧ wr = w.drewN n ∧ Hid (l.take k = m.take k)) (fun i _ => l.length - (intOf i).toNat)
    case atStart => exact ⟨0, 0, Nat.zero_le _, rfl, rfl, rfl⟩
    case round =>
      obtain ⟨k, n, hk, rfl, rfl, ht2⟩ := hrel
      by_cases h1 : k < l.length
      · have h2 : k < m.length := by omega
        obtain ⟨b, off, rfl, _, hcell⟩ := HA.out (by omega)
        have c1 := hcell k h1
        clear hcell
        obtain ⟨b2, off2, rfl, _, hcell2⟩ := HB.out (by omega)
        have c2 := hcell2 k h2
        clear hcell2
        have t1 := Lib.hid (take_getD l k h1)
        have t2 := Lib.hid (take_getD m k h2)
        generalize hx : l.getD k 0 = x at c1 t1
        generalize hy : m.getD k 0 = y at c2 t2
        have HX := Lib.hid hx
        have HY := Lib.hid hy
        clear hx hy
        by_cases h : x = y
        · subst h
          have hv := Lib.hid (show l.take (k + 1) = m.take (k + 1) by rw [t1.out, t2.out, ht2.out])
          have h1' : (k : Int) < l.length := by omega
          have h2' : (k : Int) < m.length := by omega
          go_wp2
          go_quiet (fail)
          go_wp2
          go_roundw
          case rel => exact ⟨k + 1, _, by omega, by go_num, rfl, hv.out⟩
          case measure => simp [intOf]; omega
        · have hv := Lib.hid (show decide (l = m) = false by
            rw [decide_eq_false]; intro z; subst z; exact h (HX.out.symm.trans HY.out))
          have ht3 : (x != y) = true := by rw [bne_iff_ne]; exact h
          clear h
          go_wp2
          go_quiet (fail)
          go_wp2
          go_ret
          exact ⟨ret_b hv.out.symm, _, World.drewN_drewN _ _ _⟩
      · have hv := Lib.hid (show decide (l = m) = true by
          rw [decide_eq_true_eq, ← List.take_of_length_le (show l.length ≤ k by omega), ht2.out, List.take_of_length_le (by omega)])
        go_wp2
        go_ret
        exact ⟨ret_b hv.out.symm, _, rfl⟩
  · have ht : (((l.length : Nat) : Int) != ((m.length : Nat) : Int)) = true := by rw [bne_iff_ne]; omega
    have hv := Lib.hid (show decide (l = m) = false by rw [decide_eq_false]; intro z; subst z; exact e rfl)
    clear e
    go_enter Tryd.func22, Tryd.ntmps22
    go_wp2
    go_ret
    exact ⟨ret_b hv.out.symm, 0, rfl⟩
theorem same_below (l m : List Int) (A B : Option Addr) (c d N : Nat) (hl : l.length ≤ maxLen) (hm : m.length ≤ maxLen) (w : World) (ha : At w N A l) (hb : At w N B m) :
    Calls Tryd.prog 22 #[.slice A l.length c, .slice B m.length d] w fun e w' => e = .returned (.bool (decide (l = m))) ∧ Below w.heap.size w w' :=
  (same_any l m A B c d N hl hm w ha hb).mono fun _ _ ⟨h, n, h'⟩ => ⟨h, h' ▸ ⟨rfl, rfl, rfl, Nat.le_refl _, fun _ _ => rfl⟩⟩
end Go.Proofs.YtfpbegagblekiaaDoor.Ints

/- The statements' own Rows: are two lists of lists the same? Conditions: the sizes. -/
namespace Go.Proofs.YtfpbegagblekiaaDoor.Ints
open Go.RowKit Lists
set_option linter.unusedVariables false

theorem rows_eq_step (zs ys : List (List Int)) (k : Nat) (h1 : k < zs.length) (h2 : k < ys.length) : decide (zs.drop k = ys.drop k) = (decide (zs[k]'h1 = ys[k]'h2) && decide (zs.drop (k + 1) = ys.drop (k + 1))) := by
  have h : zs.drop k = ys.drop k ↔ zs[k]'h1 = ys[k]'h2 ∧ zs.drop (k + 1) = ys.drop (k + 1) := by
    rw [List.drop_eq_getElem_cons h1, List.drop_eq_getElem_cons h2, List.cons.injEq]
  rw [decide_eq_decide.2 h, Bool.decide_and]
set_option maxHeartbeats 2000000 in
set_option maxRecDepth 100000 in
theorem samerows (zs ys : List (List Int)) (A B : Option Addr) (ca cb N : Nat) (w : World) (ha : RowsWAt w N A zs) (hb : RowsWAt w N B ys) (hN : N ≤ w.heap.size) (hz : zs.length ≤ 1099511627776) (hy : ys.length ≤ 1099511627776) (hzl : ∀ x ∈ zs, x.length ≤ maxLen) (hyl : ∀ x ∈ ys, x.length ≤ maxLen) :
    Calls Tryd.prog 16 #[.slice A zs.length ca, .slice B ys.length cb] w fun e w' => e = .returned (.bool (decide (zs = ys))) ∧ Below w.heap.size w w' := by
  have HA := Lib.hid ha
  have HB := Lib.hid hb
  have HN := Lib.hid hN
  have HX := Lib.hid (fun i (hi : i < zs.length) => hzl _ (List.getElem_mem hi))
  have HY := Lib.hid (fun i (hi : i < ys.length) => hyl _ (List.getElem_mem hi))
  clear ha hb hN hzl hyl
  by_cases e : zs.length = ys.length
  · have ht : (((zs.length : Nat) : Int) != ((ys.length : Nat) : Int)) = false := by rw [bne_eq_false_iff_eq]; omega
    have hlm : zs.length ≤ ys.length := by omega
    have hml : ys.length ≤ zs.length := by omega
    clear e
    go_enter Tryd.func16, Tryd.ntmps16
    go_wp2
    go_loopw [5] (fun i wr => ∃ k : Nat, k ≤ zs.length ∧ i = .int .i64 k ∧ Hid (decide (zs = ys) = decide (zs.drop k = ys.drop k)) ∧ Hid (Below w.heap.size w wr)) (fun i _ => zs.length - (intOf i).toNat)
    case atStart => exact ⟨0, Nat.zero_le _, rfl, Lib.hid rfl, Below.refl _ _⟩
    case round =>
      obtain ⟨k, hk, rfl, hc, hbb⟩ := hrel
      by_cases h1 : k < zs.length
      · have h2 : k < ys.length := by omega
        have RS := Lib.hid (rows_eq_step zs ys k h1 h2)
        have X1 := Lib.hid (HX.out k h1)
        have Y1 := Lib.hid (HY.out k h2)
        obtain ⟨ab, ao, rfl, hab, hca⟩ := HA.out (by omega)
        obtain ⟨D, d, p0, p1⟩ := hca k h1
        obtain ⟨bb, bo, rfl, hbl, hcb⟩ := HB.out (by omega)
        obtain ⟨E, d2, q0, q1⟩ := hcb k h2
        have p0 := (hbb.out.cell (p := ⟨ab, ao + k, none⟩) (Nat.lt_of_lt_of_le hab HN.out)).trans p0
        have q0 := (hbb.out.cell (p := ⟨bb, bo + k, none⟩) (Nat.lt_of_lt_of_le hbl HN.out)).trans q0
        have PA := Lib.hid (show At wr N D (zs[k]'h1) from p1.keep fun b hb => ⟨hb, fun o => hbb.out.cell (p := ⟨b, o, none⟩) (Nat.lt_of_lt_of_le hb HN.out)⟩)
        have QA := Lib.hid (show At wr N E (ys[k]'h2) from q1.keep fun b hb => ⟨hb, fun o => hbb.out.cell (p := ⟨b, o, none⟩) (Nat.lt_of_lt_of_le hb HN.out)⟩)
        clear hca hcb p1 q1
        generalize zs[k]'h1 = x at *
        generalize ys[k]'h2 = y at *
        have SM := Lib.hid (same_below x y D E d d2 N X1.out Y1.out wr.drew PA.out.drew QA.out.drew)
        generalize decide (x = y) = q at *
        go_wp2_with fail
        go_region_held3 (fun w' => w'.cell? ⟨ab, ao + k, none⟩ = some (.slice D x.length d) ∧ w'.cell? ⟨bb, bo + k, none⟩ = some (.slice E y.length d2)) (go_keep) (((with_reducible refine SM.out.mono ?_); rintro e w2 ⟨rfl, hb2⟩; have p2 := (hb2.cell (p := ⟨ab, ao + k, none⟩) (Nat.lt_of_lt_of_le hab (Nat.le_trans HN.out hbb.out.size))).trans p0; have q2 := (hb2.cell (p := ⟨bb, bo + k, none⟩) (Nat.lt_of_lt_of_le hbl (Nat.le_trans HN.out hbb.out.size))).trans q0))
        have B2 := Lib.hid (show Below w.heap.size w w2 from hbb.out.trans (Below.mono (w := wr) ⟨hb2.os, hb2.tape, hb2.output, hb2.size, hb2.block⟩ hbb.out.size))
        clear hb2 SM p0 q0 p2 q2
        cases q
        · have HV := Lib.hid (show decide (zs = ys) = false by rw [hc.out, RS.out, Bool.false_and])
          go_wp2_with fail
          go_ret
          exact ⟨ret_b HV.out.symm, B2.out⟩
        · have HV := Lib.hid (show decide (zs = ys) = decide (zs.drop (k + 1) = ys.drop (k + 1)) by rw [hc.out, RS.out, Bool.true_and])
          go_wp2_with fail
          go_roundw
          case rel => exact ⟨k + 1, by omega, by go_num, HV.out, B2.out⟩
          case measure => simp [intOf]; omega
      · have HV := Lib.hid (show decide (zs = ys) = true by rw [hc.out, List.drop_eq_nil_of_le (by omega), List.drop_eq_nil_of_le (by omega)]; rfl)
        go_wp2_with fail
        go_ret
        exact ⟨ret_b HV.out.symm, hbb.out⟩
  · have ht : (((zs.length : Nat) : Int) != ((ys.length : Nat) : Int)) = true := by rw [bne_iff_ne]; omega
    have hv := Lib.hid (show decide (zs = ys) = false from decide_eq_false (fun h => e (by rw [h])))
    clear e
    go_enter Tryd.func16, Tryd.ntmps16
    go_wp2
    go_ret
    exact ⟨ret_b hv.out.symm, Below.refl _ _⟩
end Go.Proofs.YtfpbegagblekiaaDoor.Ints

/- A generator without parts, in memory. -/
namespace Go.Proofs.YtfpbegagblekiaaDoor.Gens
open Go.RowKit
set_option linter.unusedVariables false
theorem gat_leaf {w : World} {B : Nat} {k a b : Int} (hk : Wf k) (ha : Wf a) (hb : Wf b) : GAt w (GBel B) 1 (.agg #[.int .i64 k, .int .i64 a, .int .i64 b, .slice none 0 0]) (.node k a b []) :=
  ⟨⟨hk, ha, hb⟩, none, 0, rfl, Nat.le_refl _, fun hp => by simp [Gn.subs] at hp⟩
end Go.Proofs.YtfpbegagblekiaaDoor.Gens
