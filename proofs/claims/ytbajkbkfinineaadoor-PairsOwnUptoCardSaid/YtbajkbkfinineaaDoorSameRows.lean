/- The statements' own Rows: are two lists of lists the same? Conditions: the sizes. -/
import Derived.Test.YtbajkbkfinineaaDoorGridW
import Derived.Test.YtbajkbkfinineaaDoorSame
import Derived.Deep.RegionHeld3
namespace Go.Proofs.YtbajkbkfinineaaDoor.Ints
open Go.RowKit Lists
set_option linter.unusedVariables false

theorem rows_eq_step (zs ys : List (List Int)) (k : Nat) (h1 : k < zs.length) (h2 : k < ys.length) : decide (zs.drop k = ys.drop k) = (decide (zs[k]'h1 = ys[k]'h2) && decide (zs.drop (k + 1) = ys.drop (k + 1))) := by
  have h : zs.drop k = ys.drop k ↔ zs[k]'h1 = ys[k]'h2 ∧ zs.drop (k + 1) = ys.drop (k + 1) := by
    rw [List.drop_eq_getElem_cons h1, List.drop_eq_getElem_cons h2, List.cons.injEq]
  rw [decide_eq_decide.2 h, Bool.decide_and]
set_option maxHeartbeats 2000000 in
set_option maxRecDepth 100000 in
theorem samerows (zs ys : List (List Int)) (A B : Option Addr) (ca cb N : Nat) (w : World) (ha : RowsWAt w N A zs) (hb : RowsWAt w N B ys) (hN : N ≤ w.heap.size) (hz : zs.length ≤ 1099511627776) (hy : ys.length ≤ 1099511627776) (hzl : ∀ x ∈ zs, x.length ≤ maxLen) (hyl : ∀ x ∈ ys, x.length ≤ maxLen) :
    Calls Tryd.prog 16 #[.slice A zs.length ca, .slice B ys.length cb] w fun e w' => e = .returned (.bool (decide (zs = ys))) ∧ Below w.heap.size w w' := by
  have HA := Lib.hid ha
  have HB := Lib.hid hb
  have HN := Lib.hid hN
  have HX := Lib.hid (fun i (hi : i < zs.length) => hzl _ (List.getElem_mem hi))
  have HY := Lib.hid (fun i (hi : i < ys.length) => hyl _ (List.getElem_mem hi))
  clear ha hb hN hzl hyl
  by_cases e : zs.length = ys.length
  · have ht : (((zs.length : Nat) : Int) != ((ys.length : Nat) : Int)) = false := by rw [bne_eq_false_iff_eq]; omega
    have hlm : zs.length ≤ ys.length := by omega
    have hml : ys.length ≤ zs.length := by omega
    clear e
    go_enter Tryd.func16, Tryd.ntmps16
    go_wp2
    go_loopw [5] (fun i wr => ∃ k : Nat, k ≤ zs.length ∧ i = .int .i64 k ∧ Hid (decide (zs = ys) = decide (zs.drop k = ys.drop k)) ∧ Hid (Below w.heap.size w wr)) (fun i _ => zs.length - (intOf i).toNat)
    case atStart => exact ⟨0, Nat.zero_le _, rfl, Lib.hid rfl, Below.refl _ _⟩
    case round =>
      obtain ⟨k, hk, rfl, hc, hbb⟩ := hrel
      by_cases h1 : k < zs.length
      · have h2 : k < ys.length := by omega
        have RS := Lib.hid (rows_eq_step zs ys k h1 h2)
        have X1 := Lib.hid (HX.out k h1)
        have Y1 := Lib.hid (HY.out k h2)
        obtain ⟨ab, ao, rfl, hab, hca⟩ := HA.out (by omega)
        obtain ⟨D, d, p0, p1⟩ := hca k h1
        obtain ⟨bb, bo, rfl, hbl, hcb⟩ := HB.out (by omega)
        obtain ⟨E, d2, q0, q1⟩ := hcb k h2
        have p0 := (hbb.out.cell (p := ⟨ab, ao + k, none⟩) (Nat.lt_of_lt_of_le hab HN.out)).trans p0
        have q0 := (hbb.out.cell (p := ⟨bb, bo + k, none⟩) (Nat.lt_of_lt_of_le hbl HN.out)).trans q0
        have PA := Lib.hid (show At wr N D (zs[k]'h1) from p1.keep fun b hb => ⟨hb, fun o => hbb.out.cell (p := ⟨b, o, none⟩) (Nat.lt_of_lt_of_le hb HN.out)⟩)
        have QA := Lib.hid (show At wr N E (ys[k]'h2) from q1.keep fun b hb => ⟨hb, fun o => hbb.out.cell (p := ⟨b, o, none⟩) (Nat.lt_of_lt_of_le hb HN.out)⟩)
        clear hca hcb p1 q1
        generalize zs[k]'h1 = x at *
        generalize ys[k]'h2 = y at *
        have SM := Lib.hid (same_below x y D E d d2 N X1.out Y1.out wr.drew PA.out.drew QA.out.drew)
        generalize decide (x = y) = q at *
        go_wp2_with fail
        go_region_held3 (fun w' => w'.cell? ⟨ab, ao + k, none⟩ = some (.slice D x.length d) ∧ w'.cell? ⟨bb, bo + k, none⟩ = some (.slice E y.length d2)) (go_keep) (((with_reducible refine SM.out.mono ?_); rintro e w2 ⟨rfl, hb2⟩; have p2 := (hb2.cell (p := ⟨ab, ao + k, none⟩) (Nat.lt_of_lt_of_le hab (Nat.le_trans HN.out hbb.out.size))).trans p0; have q2 := (hb2.cell (p := ⟨bb, bo + k, none⟩) (Nat.lt_of_lt_of_le hbl (Nat.le_trans HN.out hbb.out.size))).trans q0))
        have B2 := Lib.hid (show Below w.heap.size w w2 from hbb.out.trans (Below.mono (w := wr) ⟨hb2.os, hb2.tape, hb2.output, hb2.size, hb2.block⟩ hbb.out.size))
        clear hb2 SM p0 q0 p2 q2
        cases q
        · have HV := Lib.hid (show decide (zs = ys) = false by rw [hc.out, RS.out, Bool.false_and])
          go_wp2_with fail
          go_ret
          exact ⟨ret_b HV.out.symm, B2.out⟩
        · have HV := Lib.hid (show decide (zs = ys) = decide (zs.drop (k + 1) = ys.drop (k + 1)) by rw [hc.out, RS.out, Bool.true_and])
          go_wp2_with fail
          go_roundw
          case rel => exact ⟨k + 1, by omega, by go_num, HV.out, B2.out⟩
          case measure => simp [intOf]; omega
      · have HV := Lib.hid (show decide (zs = ys) = true by rw [hc.out, List.drop_eq_nil_of_le (by omega), List.drop_eq_nil_of_le (by omega)]; rfl)
        go_wp2_with fail
        go_ret
        exact ⟨ret_b HV.out.symm, hbb.out⟩
  · have ht : (((zs.length : Nat) : Int) != ((ys.length : Nat) : Int)) = true := by rw [bne_iff_ne]; omega
    have hv := Lib.hid (show decide (zs = ys) = false from decide_eq_false (fun h => e (by rw [h])))
    clear e
    go_enter Tryd.func16, Tryd.ntmps16
    go_wp2
    go_ret
    exact ⟨ret_b hv.out.symm, Below.refl _ _⟩
end Go.Proofs.YtbajkbkfinineaaDoor.Ints
