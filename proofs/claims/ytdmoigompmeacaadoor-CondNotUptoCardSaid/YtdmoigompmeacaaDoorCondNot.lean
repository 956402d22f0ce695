/- CondNot: the walk. Conditions: the sizes; the library's variable that errors.As reads. -/
import Derived.Test.YtdmoigompmeacaaDoorCondW
import Derived.Test.YtdmoigompmeacaaDoorToldSame
namespace Go.Proofs.YtdmoigompmeacaaDoor.CondNotLaw
open Go.RowKit Ints Lists Vals Bools Cnd Owns
set_option linter.unusedVariables false

theorem bool_at (w : World) (x : Bool) : AtB (w.alloc (.cells #[.bool x] 4)) (w.alloc (.cells #[.bool x] 4)).heap.size (some ⟨w.heap.size, 0, none⟩) [x] := bools_new w [x]

set_option maxHeartbeats 8000000 in
set_option maxRecDepth 100000 in
theorem walk (n : Int) (l : List Bool) (A : Option Addr) (c : Nat) (i : Int) (ts : List Int) (A2 : Option Addr) (c2 : Nat) (hbulk : l.length ≤ 1048576 ∧ ts.length ≤ 1048576) (w : World) (wn : (Lit.int .i64 n).wf = true) (hA : AtB w w.heap.size A l) (wi : (Lit.int .i64 i).wf = true) (hB : At w w.heap.size A2 ts) (hcap : ts.length ≤ c2) (hg : Told.Handle w) :
    Calls Tryd.prog 4 #[.int .i64 n, .slice A l.length c, .int .i64 i, .slice A2 ts.length c2] w fun e w' => e = .returned (.bool true) ∧ Below w.heap.size w w' := by
  obtain ⟨hl, ht⟩ := hbulk
  have HA := Lib.hid (fun (W : World) (hb : Below w.heap.size w W) => show AtB W W.heap.size A l from (hA.below hb).more hb.size)
  have HB := Lib.hid (fun (W : World) (hb : Below w.heap.size w W) => show At W W.heap.size A2 ts from (hB.below hb).more hb.size)
  have DC := Lib.hid decided_prog
  have PR := Lib.hid (fun (W : World) (hb : Below w.heap.size w W) => show Calls Tryd.prog 12 #[.int .i64 n, .slice A l.length c, .int .i64 i] W fun e w' => e = .returned (.tuple #[.int .i64 (paiA n l i), .int .i64 (paiB n l i), errOf (paiE n l i)]) ∧ Below W.heap.size W w' from pair_prog n i A c l W (by omega) (HA.out W hb))
  have CV := Lib.hid (fun (W : World) (hb : Below w.heap.size w W) => show Calls Tryd.prog 14 #[.int .i64 n, .slice A l.length c, .slice A2 ts.length c2] W fun e w' => e = .returned (.tuple #[.bool (covV n l ts), errOf (covE n l ts)]) ∧ Below W.heap.size W w' from covers_prog n A c l A2 c2 ts W (by omega) (by omega) (HA.out W hb) (HB.out W hb))
  have PN := Lib.hid (fun (A3 : Option Addr) (c3 : Nat) (W : World) (hb : Below w.heap.size w W) (h3 : AtB W W.heap.size A3 (notL l)) => show Calls Tryd.prog 12 #[.int .i64 n, .slice A3 (notL l).length c3, .int .i64 i] W fun e w' => e = .returned (.tuple #[.int .i64 (paiA n l i), .int .i64 (paiB n l i), errOf (paiE n l i)]) ∧ Below W.heap.size W w' by
    have h := pair_prog n i A3 c3 (notL l) W (by rw [not_len]; omega) h3
    rw [(not_pai n i l).1, (not_pai n i l).2.1, (not_pai n i l).2.2] at h
    exact h)
  have CN := Lib.hid (fun (A3 : Option Addr) (c3 : Nat) (W : World) (hb : Below w.heap.size w W) (h3 : AtB W W.heap.size A3 (notL l)) => show Calls Tryd.prog 14 #[.int .i64 n, .slice A3 (notL l).length c3, .slice A2 ts.length c2] W fun e w' => e = .returned (.tuple #[.bool (covV n l ts), errOf (covE n l ts)]) ∧ Below W.heap.size W w' by
    have h := covers_prog n A3 c3 (notL l) A2 c2 ts W (by rw [not_len]; omega) (by omega) h3 (HB.out W hb)
    rw [(not_cov n l ts).1, (not_cov n l ts).2] at h
    exact h)
  have TS := Lib.hid (fun (p : Int) (W : World) (hb : Below w.heap.size w W) => told_same p W (hg.below hb))
  clear wn wi hA hB hg hcap
  have li : (l.length : Int) ≤ 1048576 := by omega
  go_enter Tryd.func4, Tryd.ntmps4
  go_wp2_with fail
  refine (DC.out w).mono ?_
  rintro e w1 ⟨rfl, hb1⟩
  have B1 := Lib.hid hb1
  clear hb1 DC
  go_wp2_with fail
  go_loopw [10, 11] (fun av iv wr => ∃ (k : Nat) (A8 : Option Addr) (c8 : Nat) (z8 : List Bool), k ≤ l.length ∧ iv = .int .i64 k ∧ av = .slice A8 z8.length c8 ∧ Hid (z8 = notL (l.take k)) ∧ Hid (OwnB wr w.heap.size A8 c8 z8) ∧ Hid (Below w.heap.size w wr)) (fun _ iv _ => l.length - (intOf iv).toNat)
  case atStart => exact ⟨0, none, 0, [], Nat.zero_le _, rfl, rfl, rfl, OwnB.none, B1.out⟩
  case round =>
    clear B1
    obtain ⟨k, A8, c8, z8, hk, rfl, rfl, hz, ho, hb⟩ := hrel
    have ZL := Lib.hid (show z8.length ≤ 1048576 by rw [hz.out, not_len, List.length_take]; omega)
    by_cases hlt : k < l.length
    · have hki : (k : Int) < l.length := by omega
      obtain ⟨b2, o2, rfl, _, hc2⟩ := HA.out wr hb.out (by omega)
      have c1 := hc2 k hlt
      have Z9 := Lib.hid (show z8 ++ [!l.getD k false] = notL (l.take (k + 1)) by rw [hz.out, not_step l k hlt])
      clear hc2
      generalize l.getD k false = x at *
      have RA := Lib.hid (bool_at wr (!x))
      have BX := Lib.hid (below_on hb.out hb.out.size (bel_box wr (.cells #[.bool (!x)] 4)))
      have OX := Lib.hid (ho.out.below (bel_box wr (.cells #[.bool (!x)] 4)))
      clear hz ho hb
      go_wp2_with (at_builtin; refine wpList_append_bools rfl (.tmp 31) (.tmp 37) rfl w.heap.size c8 A8 z8 OX.out _ (some ⟨wr.heap.size, 0, none⟩) 1 [!x] RA.out rfl rfl (by have := ZL.out; simp; omega) BX.out.size ?_
                   intro A9 c9 w9 z9 hz9 own9 g9 r9
                   have O9 := Lib.hid own9
                   have B9 := Lib.hid (BX.out.grown g9 BX.out.size (fun g hg => OX.out.ge g hg))
                   have ZE := Lib.hid (show z9 = notL (l.take (k + 1)) by rw [hz9.out, Z9.out])
                   clear own9 g9 r9 hz9)
      go_roundw
      case rel => exact ⟨k + 1, A9, c9, z9, by omega, by go_num, rfl, ZE.out, O9.out, B9.out⟩
      case measure => simp [intOf]; omega
    · obtain rfl : k = l.length := by omega
      have HZ := Lib.hid (show z8 = notL l by rw [hz.out, List.take_length])
      have P1 := Lib.hid (PR.out wr hb.out)
      have PN2 := Lib.hid (fun (W : World) hb hh => show Calls Tryd.prog 12 #[.int .i64 n, .slice A8 z8.length c8, .int .i64 i] W fun e w' => e = .returned (.tuple #[.int .i64 (paiA n l i), .int .i64 (paiB n l i), errOf (paiE n l i)]) ∧ Below W.heap.size W w' by have := PN.out A8 c8 W hb (by rw [← HZ.out]; exact hh); rwa [← HZ.out] at this)
      have CN2 := Lib.hid (fun (W : World) hb hh => show Calls Tryd.prog 14 #[.int .i64 n, .slice A8 z8.length c8, .slice A2 ts.length c2] W fun e w' => e = .returned (.tuple #[.bool (covV n l ts), errOf (covE n l ts)]) ∧ Below W.heap.size W w' by have := CN.out A8 c8 W hb (by rw [← HZ.out]; exact hh); rwa [← HZ.out] at this)
      clear hz ZL HZ PN CN PR
      generalize paiA n l i = pa at *
      generalize paiB n l i = pb at *
      generalize paiE n l i = pe at *
      generalize covV n l ts = cv at *
      generalize covE n l ts = ce at *
      have T1 := Lib.hid (TS.out pe)
      have T2 := Lib.hid (TS.out ce)
      clear TS
      generalize errOf pe = e1 at *
      generalize errOf ce = e2 at *
      go_wp2_with fail
      ((with_reducible refine P1.out.mono ?_))
      rintro e w3 ⟨rfl, hb3⟩
      have B3 := Lib.hid (below_trans hb.out hb3)
      have O3 := Lib.hid (ho.out.below hb3)
      have P2 := Lib.hid (PN2.out w3 B3.out O3.out.at_)
      clear hb3 hb ho P1 PN2
      go_wp2_with fail
      ((with_reducible refine P2.out.mono ?_))
      rintro e w4 ⟨rfl, hb4⟩
      have B4 := Lib.hid (below_trans B3.out hb4)
      have O4 := Lib.hid (O3.out.below hb4)
      have C1 := Lib.hid (CV.out w4 B4.out)
      clear hb4 B3 O3 P2 CV
      go_wp2_with fail
      ((with_reducible refine C1.out.mono ?_))
      rintro e w5 ⟨rfl, hb5⟩
      have B5 := Lib.hid (below_trans B4.out hb5)
      have O5 := Lib.hid (O4.out.below hb5)
      have C2 := Lib.hid (CN2.out w5 B5.out O5.out.at_)
      clear hb5 B4 O4 C1 CN2
      go_wp2_with fail
      ((with_reducible refine C2.out.mono ?_))
      rintro e w6 ⟨rfl, hb6⟩
      have B6 := Lib.hid (below_trans B5.out hb6)
      clear hb6 B5 O5 C2
      go_wp2_with fail
      ((with_reducible refine (T1.out _ B6.out).mono ?_))
      rintro e w7 ⟨rfl, hb7⟩
      have B7 := Lib.hid (below_trans B6.out hb7)
      clear hb7 B6 T1
      go_wp2_with fail
      ((with_reducible refine (T2.out _ B7.out).mono ?_))
      rintro e w8 ⟨rfl, hb8⟩
      have B8 := Lib.hid (below_trans B7.out hb8)
      clear hb8 B7 T2
      go_wp2_with fail
      go_ret
      exact ⟨ret_b (by simp), B8.out⟩
end Go.Proofs.YtdmoigompmeacaaDoor.CondNotLaw
