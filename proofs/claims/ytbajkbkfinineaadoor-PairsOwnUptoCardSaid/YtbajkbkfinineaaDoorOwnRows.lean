/- The statements' own copy of a list of lists. Conditions: the sizes. -/
import Derived.Test.YtbajkbkfinineaaDoorGrid
import Derived.Test.YtbajkbkfinineaaDoorOwnP
namespace Go.Proofs.YtbajkbkfinineaaDoor.Owns
open Go.RowKit Ints
set_option linter.unusedVariables false

theorem rows_take (zs : List (List Int)) (k : Nat) (hk : k < zs.length) : zs.take (k + 1) = zs.take k ++ [zs[k]'hk] := List.take_succ_eq_append_getElem hk
theorem own_rowN {w : World} {base c : Nat} {A : Option Addr} {z : List Int} (h : Own w base A c z) : AtP w (fun b => base ≤ b ∧ b < w.heap.size) A z := fun hp => by
  obtain ⟨b, off, e, hb, hc⟩ := h.at_ hp
  exact ⟨b, off, e, ⟨h.ge b (by rw [e]; rfl), hb⟩, hc⟩

set_option maxHeartbeats 4000000 in
set_option maxRecDepth 100000 in
theorem rows_ok (zs : List (List Int)) (A : Option Addr) (ca N : Nat) (w : World) (hr : RowsAt w N A zs) (hN : N ≤ w.heap.size) (hz : zs.length ≤ 1099511627776) (hl : ∀ x ∈ zs, x.length ≤ 4294967296) :
    Calls Tryd.prog 14 #[.slice A zs.length ca] w fun e w' => ∃ (A' : Option Addr) (c' : Nat), e = .returned (.slice A' zs.length c') ∧ OwnRows w' w.heap.size A' c' zs ∧ Below w.heap.size w w' := by
  have HR := Lib.hid hr
  have HN := Lib.hid hN
  have HZ := Lib.hid hz
  have HX := Lib.hid (fun i (hi : i < zs.length) => hl _ (List.getElem_mem hi))
  clear hr hN hl
  go_enter Tryd.func14, Tryd.ntmps14
  go_wp2_with fail
  go_loopw [3, 4] (fun v i wr => ∃ (j : Nat) (A2 : Option Addr) (c2 : Nat) (z : List (List Int)), j ≤ zs.length ∧ i = .int .i64 j ∧ v = .slice A2 z.length c2 ∧ Hid (z = zs.take j) ∧ Hid (OwnRows wr w.heap.size A2 c2 z) ∧ Hid (Below w.heap.size w wr)) (fun _ i _ => zs.length - (intOf i).toNat)
  case atStart => exact ⟨0, none, 0, [], Nat.zero_le _, rfl, rfl, (rfl : [] = zs.take 0), OwnRows.zero, Below.refl _ _⟩
  case round =>
    obtain ⟨j, A2, c2, z, hj, rfl, rfl, hzz, ho, hbb⟩ := hrel
    by_cases hlt : j < zs.length
    · obtain ⟨b, off, rfl, hb, hc⟩ := HR.out (by omega)
      obtain ⟨D, d, q0, q1, q2⟩ := hc j hlt
      have q0 : wr.cell? ⟨b, off + j, none⟩ = some (.slice D (zs[j]'hlt).length d) := (hbb.out.cell (p := ⟨b, off + j, none⟩) (Nat.lt_of_lt_of_le hb HN.out)).trans q0
      have QA := Lib.hid (show At wr wr.heap.size D (zs[j]'hlt) from (q2.keep fun k hk => ⟨Nat.lt_of_lt_of_le hk (Nat.le_trans HN.out hbb.out.size), fun o => hbb.out.cell (p := ⟨k, o, none⟩) (Nat.lt_of_lt_of_le hk HN.out)⟩))
      clear hc q2
      have RT := Lib.hid (rows_take zs j hlt)
      have XL := Lib.hid (HX.out j hlt)
      have ZL := Lib.hid (show z.length ≤ 1099511627776 by rw [hzz.out, List.length_take]; omega)
      generalize zs[j]'hlt = x at *
      have IK := Lib.hid (ints_ok (lc := d) wr QA.out XL.out)
      go_wp2_with fail
      ((with_reducible refine IK.out.mono ?_))
      rintro e w1 ⟨A1, c1, rfl, own1, hb1⟩
      have O1 := Lib.hid own1
      have P1 := Lib.hid (ho.out.below hb1)
      have B1 := Lib.hid hb1
      have HW := Lib.hid (show (∀ g, rowOf A2 = some g → w.heap.size ≤ g ∧ g < wr.heap.size) ∧ w.heap.size ≤ wr.heap.size from ⟨ho.out.ge, hbb.out.size⟩)
      have NB := Lib.hid (bel1P w1 (.cells #[.slice A1 x.length c1] 22))
      have NH := Lib.hid (new_objP w1 (.cells #[.slice A1 x.length c1] 22))
      have NP := Lib.hid (P1.out.below NB.out)
      have RO := Lib.hid (show RowsP (w1.alloc (.cells #[.slice A1 x.length c1] 22)) (fun _ => True) (fun b => w.heap.size ≤ b ∧ b < (w1.alloc (.cells #[.slice A1 x.length c1] 22)).heap.size ∧ rowOf A2 ≠ some b) (some ⟨w1.heap.size, 0, none⟩) [x] from
        rows_one (d := c1) NH.out O1.out.cap_ ((own_rowN O1.out).keep fun k hk => ⟨⟨by have := HW.out.2; have := hk.1; omega, by have := hk.2; simp; omega, fun e => by have := (HW.out.1 k e).2; have := hk.1; omega⟩, fun o => World.cell?_alloc_lt _ _ ⟨k, o, none⟩ hk.2⟩))
      have BS := Lib.hid (show w.heap.size ≤ (w1.alloc (.cells #[.slice A1 x.length c1] 22)).heap.size by have := HW.out.2; have := B1.out.size; simp; omega)
      have ZS := Lib.hid (show z.length + [x].length ≤ 4398046511104 by have := ZL.out; simp; omega)
      have BB := Lib.hid (show Below w.heap.size w (w1.alloc (.cells #[.slice A1 x.length c1] 22)) from (below_trans hbb.out B1.out).trans (NB.out.mono (Nat.le_trans HW.out.2 B1.out.size)))
      clear own1 hb1 IK q0
      go_wp2_with (at_builtin; refine wpList_append_rows rfl (.tmp 11) (.tmp 17) rfl w.heap.size c2 A2 z NP.out (some ⟨w1.heap.size, 0, none⟩) 1 [x] RO.out rfl rfl ZS.out BS.out ?_; intro A5 c5 w5 z5 hz5 own5 g5 r5; have O5 := Lib.hid own5; have B5 := Lib.hid (BB.out.grown g5 BS.out (fun g hg => (HW.out.1 g hg).1)); clear own5 g5 r5)
      have EZ := Lib.hid (show z5 = zs.take (j + 1) by rw [hz5.out, RT.out, hzz.out])
      go_wp2_with fail
      go_roundw
      case rel => exact ⟨j + 1, A5, c5, z5, by omega, by go_num, rfl, EZ.out, O5.out, B5.out⟩
      case measure => simp [intOf]; omega
    · have EV := Lib.hid (show z = zs by rw [hzz.out, List.take_of_length_le (by omega)])
      go_wp2_with fail
      go_ret
      exact ⟨A2, c2, (by rw [← EV.out]; rfl), (by rw [← EV.out]; exact ho.out), hbb.out⟩
end Go.Proofs.YtbajkbkfinineaaDoor.Owns
