/- slices.Concat of lists of numbers. Conditions: the sizes. -/
import Derived.Test.YtcenekjkdnfhkaaSlices
namespace Go.Proofs.Ytcenekjkdnfhkaa.Ints
open Go.RowKit Go.WideShapes Go.ChangeShapes
set_option linter.unusedVariables false

theorem flat_take (zs : List (List Int)) (k : Nat) (hk : k < zs.length) : (zs.take (k + 1)).flatten = (zs.take k).flatten ++ zs[k]'hk := by
  rw [List.take_succ_eq_append_getElem hk, List.flatten_append]; simp
theorem flat_take_len (zs : List (List Int)) (k : Nat) : (zs.take k).flatten.length ≤ zs.flatten.length := by
  have := congrArg (fun l => l.flatten.length) (List.take_append_drop k zs)
  simp only [List.flatten_append, List.length_append] at this
  omega

set_option maxHeartbeats 4000000 in
set_option maxRecDepth 100000 in
theorem concat_ok (zs : List (List Int)) (A : Option Addr) (ca N : Nat) (w : World) (hr : RowsAt w N A zs) (hN : N ≤ w.heap.size) (hl : zs.length ≤ 4294967296) (hz : zs.flatten.length ≤ 4294967296) :
    Calls Try.prog 13 #[.slice A zs.length ca] w (NewL zs.flatten w) := by
  have HR := Lib.hid hr
  have HN := Lib.hid hN
  have HZ := Lib.hid hz
  have HT := Lib.hid (flat_take_len zs)
  clear hr hN hz
  go_enter Try.func13, Try.ntmps13
  go_wp2_with fail
  go_loop [3, 11] (fun s i => ∃ k : Nat, k ≤ zs.length ∧ i = .int .i64 k ∧ s = .int .i64 ((zs.take k).flatten.length : Nat)) (fun _ i => zs.length - (intOf i).toNat)
  case atStart => exact ⟨0, Nat.zero_le _, rfl, rfl⟩
  case round =>
    obtain ⟨k, hk, rfl, rfl⟩ := hrel
    by_cases hlt : k < zs.length
    · obtain ⟨b, off, rfl, hb, hc⟩ := HR.out (by omega)
      obtain ⟨D, d, c0, c1, c2⟩ := hc k hlt
      clear hc c2
      have FT := Lib.hid (show (zs.take (k + 1)).flatten.length = (zs.take k).flatten.length + (zs[k]'hlt).length by rw [flat_take zs k hlt, List.length_append])
      have TL := Lib.hid (Nat.le_trans (HT.out (k + 1)) HZ.out)
      generalize zs[k]'hlt = x at *
      generalize (zs.take k).flatten.length = m at *
      have hm : m + x.length ≤ 4294967296 := by have h1 := TL.out; rw [FT.out] at h1; exact h1
      go_wp2
      go_round
      case rel => exact ⟨k + 1, by omega, by go_num, by rw [FT.out]; go_num⟩
      case measure => simp [intOf]; omega
    · have e : (zs.take k).flatten.length = zs.flatten.length := by rw [List.take_of_length_le (by omega)]
      rw [e]
      have G := Lib.hid (fun w' => grow_ok zs.flatten.length w' (by have := HZ.out; omega))
      clear e HT hk
      generalize hM : zs.flatten.length = M at *
      have HM := Lib.hid hM
      clear hM
      go_wp2_with fail
      ((with_reducible refine (G.out _).mono ?_))
      rintro e w1 ⟨A1, c1, rfl, own1, hb1⟩
      have O1 := Lib.hid own1
      have B1 := Lib.hid hb1
      clear own1 hb1 G
      simp only [List.length_nil]
      go_wp2_with fail
      go_loopw [6, 27] (fun v i wr => ∃ (j : Nat) (A2 : Option Addr) (c2 : Nat) (z : List Int), j ≤ zs.length ∧ i = .int .i64 j ∧ v = .slice A2 z.length c2 ∧ Hid (z = (zs.take j).flatten) ∧ Hid (Own wr w.heap.size A2 c2 z) ∧ Hid (Below w.heap.size w wr)) (fun _ i _ => zs.length - (intOf i).toNat)
      case atStart => exact ⟨0, A1, c1, [], Nat.zero_le _, rfl, rfl, (rfl : [] = (zs.take 0).flatten), O1.out, B1.out⟩
      case round =>
        obtain ⟨j, A2, c2, z, hj, rfl, rfl, hzz, ho, hbb⟩ := hrel
        by_cases hlt2 : j < zs.length
        · obtain ⟨b, off, rfl, hb, hc⟩ := HR.out (by omega)
          obtain ⟨D, d, q0, q1, q2⟩ := hc j hlt2
          have q0 : wr.cell? ⟨b, off + j, none⟩ = some (.slice D (zs[j]'hlt2).length d) := (hbb.out.cell (p := ⟨b, off + j, none⟩) (Nat.lt_of_lt_of_le hb HN.out)).trans q0
          have QA := Lib.hid (show At wr N D (zs[j]'hlt2) from q2.keep fun k hk => ⟨hk, fun o => hbb.out.cell (p := ⟨k, o, none⟩) (Nat.lt_of_lt_of_le hk HN.out)⟩)
          clear hc q2
          have FT := Lib.hid (flat_take zs j hlt2)
          have TL := Lib.hid (flat_take_len zs (j + 1))
          generalize zs[j]'hlt2 = x at *
          have BS := Lib.hid (show z.length + x.length ≤ 17592186044416 by
            have h1 := TL.out
            have h2 := HZ.out
            rw [FT.out, ← hzz.out, List.length_append, HM.out] at h1
            omega)
          have WS := Lib.hid hbb.out.size
          go_wp2_with (at_builtin; refine wpList_append_ints rfl (.tmp 31) (.tmp 32) rfl w.heap.size c2 A2 z ho.out N D d x QA.out rfl rfl BS.out WS.out ?_; intro A5 c5 w5 z5 hz5 own5 g5 r5)
          have EZ := Lib.hid (show z5 = (zs.take (j + 1)).flatten by rw [hz5.out, hzz.out, FT.out])
          have B5 := Lib.hid (hbb.out.grown g5 WS.out ho.out.ge)
          have O5 := Lib.hid own5
          clear own5 g5 r5
          go_roundw
          case rel => exact ⟨j + 1, A5, c5, z5, by omega, by go_num, rfl, EZ.out, O5.out, B5.out⟩
          case measure => simp [intOf]; omega
        · have EV := Lib.hid (show z = zs.flatten by rw [hzz.out, List.take_of_length_le (by omega)])
          go_wp2_with fail
          go_ret
          exact ⟨A2, c2, (by rw [← EV.out]; rfl), (by rw [← EV.out]; exact ho.out), hbb.out⟩
end Go.Proofs.Ytcenekjkdnfhkaa.Ints
