/- BoundTells: the walk. Conditions: the library's variable that errors.As reads. Made by wip/tools/gen_boundtells.py. -/
import Derived.Test.YteaicmjihckbjaaDoorBound
import Derived.Test.YteaicmjihckbjaaDoorPartsF
import Derived.Test.YteaicmjihckbjaaDoorIn
import Derived.Test.YteaicmjihckbjaaDoorSame
import Derived.Test.YteaicmjihckbjaaDoorErrOk
import Derived.Test.YteaicmjihckbjaaDoorGrowS
namespace Go.Proofs.YteaicmjihckbjaaDoor.BndTellsLaw
open Go.RowKit Ints Lists Vals Bnd Dd Owns
set_option linter.unusedVariables false

theorem belx (w : World) (o : Obj) : Below w.heap.size w (w.alloc o) := (Below.refl _ _).alloc (Nat.le_refl _) _
theorem one_at (w : World) (x : Int) : At (w.alloc (.cells #[.int .i64 x] 3)) (w.alloc (.cells #[.int .i64 x] 3)).heap.size (some ⟨w.heap.size, 0, none⟩) [x] := fun _ =>
  ⟨w.heap.size, 0, rfl, by simp, fun j hj => by
    have hj : j < 1 := hj
    obtain rfl : j = 0 := by omega
    rw [Lib.cell_of_heap (new5 w _)]; rfl⟩
theorem five_at (w : World) (a b c d e : Int) : At (w.alloc (.cells #[.int .i64 a, .int .i64 b, .int .i64 c, .int .i64 d, .int .i64 e] 3)) (w.alloc (.cells #[.int .i64 a, .int .i64 b, .int .i64 c, .int .i64 d, .int .i64 e] 3)).heap.size (some ⟨w.heap.size, 0, none⟩) [a, b, c, d, e] := fun _ =>
  ⟨w.heap.size, 0, rfl, by simp, fun j hj => by
    have hj : j < 5 := hj
    obtain rfl | rfl | rfl | rfl | rfl : j = 0 ∨ j = 1 ∨ j = 2 ∨ j = 3 ∨ j = 4 := by omega
    all_goals rw [Lib.cell_of_heap (new5 w _)]; rfl⟩
theorem three_at (w : World) (a b c : Int) : At (w.alloc (.cells #[.int .i64 a, .int .i64 b, .int .i64 c] 3)) (w.alloc (.cells #[.int .i64 a, .int .i64 b, .int .i64 c] 3)).heap.size (some ⟨w.heap.size, 0, none⟩) [a, b, c] := fun _ =>
  ⟨w.heap.size, 0, rfl, by simp, fun j hj => by
    have hj : j < 3 := hj
    obtain rfl | rfl | rfl : j = 0 ∨ j = 1 ∨ j = 2 := by omega
    all_goals rw [Lib.cell_of_heap (new5 w _)]; rfl⟩
theorem row_old {w : World} {base c : Nat} {A : Option Addr} {z : List Int} (h : Own w base A c z) : rowOf A ≠ some w.heap.size := fun e => by
  rcases h.2 with ⟨he, _⟩ | ⟨g, cap, cur, he, _, hh, _⟩
  · injection he with he; subst he; cases e
  · injection he with he; subst he
    have hg : g = w.heap.size := by simpa [rowOf] using e
    have := (Array.getElem?_eq_some_iff.1 hh).1
    omega
theorem ed_fact : edE 1 9 = 0 ∧ edV 1 9 = [1, 2, 5, 8, 9] := by decide
theorem wantA_le (low high : Int) : ∀ k, (wantA low high k).length ≤ k
  | 0 => Nat.le_refl _
  | k + 1 => by
    have := wantA_le low high k
    show ((_ : List Int) ++ (if _ then _ else _)).length ≤ _
    rw [List.length_append]
    split <;> simp <;> omega
theorem wantB_le (low high : Int) : ∀ k, (wantB low high k).length ≤ 4 + k
  | 0 => wantA_le low high 4
  | k + 1 => by
    have := wantB_le low high k
    show ((_ : List Int) ++ (if _ then _ else _)).length ≤ _
    rw [List.length_append]
    split <;> simp <;> omega

set_option maxHeartbeats 16000000 in
set_option maxRecDepth 100000 in
theorem walk (low high n : Int) (hbulk : 0 + 0 ≤ 1048576) (w : World) (wl : (Lit.int .i64 low).wf = true) (wh : (Lit.int .i64 high).wf = true) (wn : (Lit.int .i64 n).wf = true) (hh : Told.Handle w) :
    Calls Tryd.prog 3 #[.int .i64 low, .int .i64 high, .int .i64 n] w fun e w' => e = .returned (.bool true) ∧ Below w.heap.size w w' := by
  have ER := Lib.hid (fun (f : Int) (W : World) (hb : Below w.heap.size w W) => err_ok f W (hh.below hb))
  have ED := Lib.hid (fun (W : World) => show Calls Tryd.prog 5 #[.int .i64 low, .int .i64 high] W fun e w' => ∃ (A : Option Addr) (c : Nat), e = .returned (.tuple #[.slice A (edV low high).length c, errOf (edE low high)]) ∧ Own w' W.heap.size A c (edV low high) ∧ Below W.heap.size W w' from edges_prog low high W)
  have EF := Lib.hid (fun (W : World) => show Calls Tryd.prog 5 #[.int .i64 1, .int .i64 9] W fun e w' => ∃ (A : Option Addr) (c : Nat), e = .returned (.tuple #[.slice A 5 c, .nilIface]) ∧ Below W.heap.size W w' by
    refine (edges_prog 1 9 W).mono ?_
    rintro e w' ⟨A, c, rfl, _, hb⟩
    rw [ed_fact.1, ed_fact.2, errOf_ok]
    exact ⟨A, c, rfl, hb⟩)
  have PR := Lib.hid (fun (W : World) => show Calls Tryd.prog 8 #[.int .i64 low, .int .i64 high, .int .i64 n] W fun e w' => ∃ (A : Option Addr) (c : Nat), e = .returned (.tuple #[.slice A (paV low high n).length c, errOf (paE low high n)]) ∧ Below W.heap.size W w' from (parts_prog low high n W).mono fun _ _ ⟨A, c, h1, _, h3⟩ => ⟨A, c, h1, h3⟩)
  clear wl wh wn hbulk hh
  by_cases hr : RightB low high
  · have hr1 : -1073741824 ≤ low ∧ low ≤ high ∧ high ≤ 1073741824 := ⟨hr.2.1, hr.1, hr.2.2⟩
    have EC := Lib.hid (show errOf (edE low high) = errOf 0 by unfold edE; rw [if_pos hr])
    have EV := Lib.hid (show edV low high = wantB low high 3 by unfold edV; rw [if_pos hr, want_edges hr.1])
    have HR := Lib.hid hr
    have EL := Lib.hid (show (edV low high).length ≤ 7 by unfold edV; rw [if_pos hr, ← want_edges hr.1]; exact wantB_le low high 3)
    have LE := Lib.hid (show (edV low high).length ≤ maxLen by have := EL.out; simp only [maxLen]; omega)
    have AL := Lib.hid (five_at w low (low + 1) (low + (high - low) / 2) (high - 1) high)
    have BA := Lib.hid (belx w (.cells #[.int .i64 low, .int .i64 (low + 1), .int .i64 (low + (high - low) / 2), .int .i64 (high - 1), .int .i64 high] 3))
    clear hr
    go_enter Tryd.func3, Tryd.ntmps3
    go_wp2_with fail
    generalize w.alloc (.cells #[.int .i64 low, .int .i64 (low + 1), .int .i64 (low + (high - low) / 2), .int .i64 (high - 1), .int .i64 high] 3) = w1 at *
    go_loopw [8, 10] (fun v xv wr => ∃ (k : Nat) (A : Option Addr) (c : Nat) (z : List Int), k ≤ 4 ∧ xv = .int .i64 (low - 1 + k) ∧ v = .slice A z.length c ∧ Hid (z = wantA low high k) ∧ Hid (Own wr w1.heap.size A c z) ∧ Hid (Below w1.heap.size w1 wr)) (fun _ xv _ => (low + 3 - intOf xv).toNat)
    case atStart => exact ⟨0, none, 0, [], by omega, by simp, rfl, rfl, Own.none, Below.refl _ _⟩
    case round =>
      obtain ⟨k, A, c, z, hk, rfl, rfl, hz, ho, hbb⟩ := hrel
      have BW := Lib.hid (below_trans BA.out hbb.out)
      have ZL := Lib.hid (show z.length ≤ 4 by rw [hz.out]; exact Nat.le_trans (wantA_le low high k) hk)
      by_cases h4 : k < 4
      · have CN := show Calls Tryd.prog 4 #[.slice (some ⟨w.heap.size, 0, none⟩) 5 5, .int .i64 (low - 1 + (k : Int))] wr fun e w' => e = .returned (.bool ((allN low high).contains (low - 1 + k))) ∧ Below wr.heap.size wr w' from in_below (allN low high) (some ⟨w.heap.size, 0, none⟩) 5 wr.heap.size (low - 1 + k) (by simp [allN, maxLen]) wr ((AL.out.below hbb.out).more hbb.out.size)
        have h4i : (k : Int) ≤ 3 := by omega
        have v1 : IntKind.i64.wrap (low - 1 + (k : Int) + 1) = low - 1 + (k : Int) + 1 := IntWalk.i64_in _ (by omega)
        by_cases hc : (allN low high).contains (low - 1 + k) = true ∧ low ≤ low - 1 + k ∧ low - 1 + k ≤ high
        · have WS := Lib.hid (show wantA low high (k + 1) = z ++ [low - 1 + (k : Int)] by rw [hz.out]; show _ ++ (if _ then _ else _) = _; rw [if_pos hc])
          rw [hc.1] at CN
          have CN := Lib.hid CN
          have c2 := hc.2.1
          have c3 := hc.2.2
          clear hc
          have RA := Lib.hid (fun (W : World) => one_at W (low - 1 + k))
          have RB := Lib.hid (fun (W : World) => belx W (.cells #[.int .i64 (low - 1 + (k : Int))] 3))
          go_wp2_with fail
          ((with_reducible refine CN.out.mono ?_))
          rintro ee w4 ⟨rfl, hb4⟩
          have O4 := Lib.hid ((ho.out.below hb4).below (RB.out w4))
          have Q4 := Lib.hid (And.intro hbb.out.size hb4.size)
          have B4 := Lib.hid ((hbb.out.trans (hb4.mono hbb.out.size)).trans ((RB.out w4).mono (Nat.le_trans hbb.out.size hb4.size)))
          clear hb4 CN
          go_wp2_with (
            at_builtin
            refine wpList_append_ints rfl (.tmp 69) (.tmp 71) rfl w1.heap.size c A z O4.out _ (some ⟨w4.heap.size, 0, none⟩) 1 [low - 1 + (k : Int)] (RA.out w4) rfl rfl (by have := ZL.out; simp; omega) B4.out.size ?_
            intro A5 c5 w5 z5 hz5 own5 g5 r5
            have O5 := Lib.hid own5
            have HZ5 := Lib.hid (show z5 = wantA low high (k + 1) by rw [hz5.out, WS.out])
            have B5 := Lib.hid (B4.out.grown g5 B4.out.size (fun g hg => O4.out.ge g hg))
            clear own5 g5 r5)
          go_roundw
          case rel => exact ⟨k + 1, A5, c5, z5, by omega, by rw [show low - 1 + ((k + 1 : Nat) : Int) = low - 1 + (k : Int) + 1 by omega], rfl, HZ5.out, O5.out, B5.out⟩
          case measure => simp [intOf]; omega
        · have WS := Lib.hid (show wantA low high (k + 1) = z by rw [hz.out]; show _ ++ (if _ then _ else _) = _; rw [if_neg hc, List.append_nil])
          cases hcc : (allN low high).contains (low - 1 + k) with
          | false =>
            rw [hcc] at CN
            have CN := Lib.hid CN
            clear hcc hc
            go_wp2_with fail
            ((with_reducible refine CN.out.mono ?_))
            rintro ee w4 ⟨rfl, hb4⟩
            have O4 := Lib.hid (ho.out.below hb4)
            have B4 := Lib.hid (hbb.out.trans (hb4.mono hbb.out.size))
            clear hb4 CN
            go_wp2_with fail
            go_roundw
            case rel => exact ⟨k + 1, A, c, z, by omega, by rw [show low - 1 + ((k + 1 : Nat) : Int) = low - 1 + (k : Int) + 1 by omega], rfl, WS.out.symm, O4.out, B4.out⟩
            case measure => simp [intOf]; omega
          | true =>
            rw [hcc] at CN
            have CN := Lib.hid CN
            have hc2 : ¬ (low ≤ low - 1 + k ∧ low - 1 + k ≤ high) := fun h => hc ⟨hcc, h⟩
            clear hcc hc
            by_cases hlo : low ≤ low - 1 + k
            · have hhi : ¬ (low - 1 + (k : Int) ≤ high) := fun h => hc2 ⟨hlo, h⟩
              go_wp2_with fail
              ((with_reducible refine CN.out.mono ?_))
              rintro ee w4 ⟨rfl, hb4⟩
              have O4 := Lib.hid (ho.out.below hb4)
              have B4 := Lib.hid (hbb.out.trans (hb4.mono hbb.out.size))
              clear hb4 CN
              go_wp2_with fail
              go_roundw
              case rel => exact ⟨k + 1, A, c, z, by omega, by rw [show low - 1 + ((k + 1 : Nat) : Int) = low - 1 + (k : Int) + 1 by omega], rfl, WS.out.symm, O4.out, B4.out⟩
              case measure => simp [intOf]; omega
            · go_wp2_with fail
              ((with_reducible refine CN.out.mono ?_))
              rintro ee w4 ⟨rfl, hb4⟩
              have O4 := Lib.hid (ho.out.below hb4)
              have B4 := Lib.hid (hbb.out.trans (hb4.mono hbb.out.size))
              clear hb4 CN
              go_wp2_with fail
              go_roundw
              case rel => exact ⟨k + 1, A, c, z, by omega, by rw [show low - 1 + ((k + 1 : Nat) : Int) = low - 1 + (k : Int) + 1 by omega], rfl, WS.out.symm, O4.out, B4.out⟩
              case measure => simp [intOf]; omega
      · obtain rfl : k = 4 := by omega
        have AM := Lib.hid ((AL.out.below hbb.out))
        obtain ⟨ab, ao, ae, _, acell⟩ := AM.out (by simp)
        injection ae with ae
        injection ae with ae1 ae2
        subst ae1
        subst ae2
        have a2 : wr.cell? ⟨w.heap.size, 2, none⟩ = some (.int .i64 (low + (high - low) / 2)) := acell 2 (by simp)
        clear acell AM
        have RL := Lib.hid (three_at wr (low + (high - low) / 2) (high - 1) high)
        have RB := Lib.hid (belx wr (.cells #[.int .i64 (low + (high - low) / 2), .int .i64 (high - 1), .int .i64 high] 3))
        have BZ := Lib.hid (hbb.out.trans (RB.out.mono hbb.out.size))
        have QZ := Lib.hid (show wr.heap.size < (wr.alloc (.cells #[.int .i64 (low + (high - low) / 2), .int .i64 (high - 1), .int .i64 high] 3)).heap.size by simp)
        have NZ := Lib.hid (row_old ho.out)
        have O0 := Lib.hid (ho.out.below RB.out)
        have Z0 := Lib.hid (show z = wantB low high 0 from hz.out)
        go_wp2_with fail
        clear a2
        generalize wr.alloc (.cells #[.int .i64 (low + (high - low) / 2), .int .i64 (high - 1), .int .i64 high] 3) = w2 at *
        generalize wr.heap.size = rb at *
        go_loopw [8, 12] (fun v iv wq => ∃ (k : Nat) (A : Option Addr) (c : Nat) (z : List Int), k ≤ 3 ∧ iv = .int .i64 k ∧ v = .slice A z.length c ∧ Hid (z = wantB low high k) ∧ Hid (Own wq w1.heap.size A c z) ∧ Hid (Below w1.heap.size w1 wq) ∧ Hid (wq.heap[rb]? = w2.heap[rb]? ∧ rb < wq.heap.size) ∧ Hid (rowOf A ≠ some rb)) (fun _ iv _ => 3 - (intOf iv).toNat)
        case atStart => exact ⟨0, A, c, z, by omega, rfl, rfl, Z0.out, O0.out, BZ.out, Lib.hid ⟨rfl, QZ.out⟩, NZ.out⟩
        case round =>
          obtain ⟨k, A, c, z, hk, rfl, rfl, hz, ho, hbb, hrb, hne⟩ := hrel
          have BQ := Lib.hid (below_trans BA.out hbb.out)
          have ZL := Lib.hid (show z.length ≤ 7 by rw [hz.out]; exact Nat.le_trans (wantB_le low high k) (by omega))
          by_cases h3 : k < 3
          · have h3i : (k : Int) < 3 := by omega
            obtain ⟨rb', ro, re, _, rcell⟩ := RL.out (by simp)
            injection re with re
            injection re with re1 re2
            subst re1
            subst re2
            have rk := (World.cell?_of_block hrb.out.1).trans (rcell k h3)
            have RR := Lib.hid (show [low + (high - low) / 2, high - 1, high].getD k 0 = restN low high k by
              obtain rfl | rfl | rfl : k = 0 ∨ k = 1 ∨ k = 2 := by omega
              all_goals rfl)
            rw [RR.out, Nat.zero_add] at rk
            clear rcell
            have WP := Lib.hid (fun (h : low + 2 < restN low high k) (h2 : z.contains (restN low high k) = false) => show wantB low high (k + 1) = z ++ [restN low high k] by rw [hz.out] at h2 ⊢; show _ ++ (if _ then _ else _) = _; rw [if_pos ⟨h, h2⟩])
            have WN := Lib.hid (fun (h : ¬ (low + 2 < restN low high k ∧ z.contains (restN low high k) = false)) => show wantB low high (k + 1) = z by rw [hz.out] at h ⊢; show _ ++ (if _ then _ else _) = _; rw [if_neg h, List.append_nil])
            have CN := in_below z A c wr.heap.size (restN low high k) (by have := ZL.out; simp only [maxLen]; omega) wr ho.out.at_
            clear RR
            generalize restN low high k = r at *
            by_cases hr2 : low + 2 < r
            · cases hcc : z.contains r with
              | true =>
                rw [hcc] at CN
                have CN := Lib.hid CN
                have WS := Lib.hid (WN.out (fun h => by rw [hcc] at h; exact absurd h.2 (by decide)))
                clear hcc
                go_wp2_with fail
                ((with_reducible refine CN.out.mono ?_))
                rintro ee w4 ⟨rfl, hb4⟩
                have O4 := Lib.hid (ho.out.below hb4)
                have B4 := Lib.hid (hbb.out.trans (hb4.mono hbb.out.size))
                have R4 := Lib.hid (And.intro ((hb4.block rb hrb.out.2).trans hrb.out.1) (Nat.lt_of_lt_of_le hrb.out.2 hb4.size))
                clear hb4 CN
                go_wp2_with fail
                go_roundw
                case rel => exact ⟨k + 1, A, c, z, by omega, by go_num, rfl, WS.out.symm, O4.out, B4.out, R4.out, hne.out⟩
                case measure => simp [intOf]; omega
              | false =>
                rw [hcc] at CN
                have CN := Lib.hid CN
                have WS := Lib.hid (WP.out hr2 hcc)
                clear hcc
                have RA := Lib.hid (fun (W : World) => one_at W r)
                have RB2 := Lib.hid (fun (W : World) => belx W (.cells #[.int .i64 r] 3))
                have RK := Lib.hid rk
                go_wp2_with fail
                ((with_reducible refine CN.out.mono ?_))
                rintro ee w4 ⟨rfl, hb4⟩
                have O4 := Lib.hid ((ho.out.below hb4).below (RB2.out w4))
                have B4 := Lib.hid ((hbb.out.trans (hb4.mono hbb.out.size)).trans ((RB2.out w4).mono (Nat.le_trans hbb.out.size hb4.size)))
                have R4 := Lib.hid (And.intro ((((RB2.out w4).block rb (Nat.lt_of_lt_of_le hrb.out.2 hb4.size)).trans (hb4.block rb hrb.out.2)).trans hrb.out.1) (Nat.lt_of_lt_of_le (Nat.lt_of_lt_of_le hrb.out.2 hb4.size) (RB2.out w4).size))
                have Q4 := Lib.hid (Nat.lt_of_lt_of_le hrb.out.2 hb4.size)
                have rk4 : w4.cell? ⟨rb, k, none⟩ = some (.int .i64 r) := (hb4.cell (p := ⟨rb, k, none⟩) (World.block_lt_of_cell? _ _ RK.out)).trans RK.out
                clear hb4 CN rk
                go_wp2_with (
                  at_builtin
                  refine wpList_append_ints rfl (.tmp 100) (.tmp 105) rfl w1.heap.size c A z O4.out _ (some ⟨w4.heap.size, 0, none⟩) 1 [r] (RA.out w4) rfl rfl (by have := ZL.out; simp; omega) B4.out.size ?_
                  intro A5 c5 w5 z5 hz5 own5 g5 r5
                  have O5 := Lib.hid own5
                  have HZ5 := Lib.hid (show z5 = wantB low high (k + 1) by rw [hz5.out, WS.out])
                  have B5 := Lib.hid (B4.out.grown g5 B4.out.size (fun g hg => O4.out.ge g hg))
                  have R5 := Lib.hid (And.intro ((g5.block rb R4.out.2 (fun e => hne.out e.symm)).trans R4.out.1) (Nat.lt_of_lt_of_le R4.out.2 g5.size))
                  have N5 := Lib.hid (show rowOf A5 ≠ some rb from fun e => by
                    rcases r5 with h | h
                    · exact hne.out (by rw [← h]; exact e)
                    · rw [h] at e
                      injection e with e
                      have h1 := Q4.out
                      have h2 := (RB2.out w4).size
                      omega)
                  clear own5 g5 r5)
                go_roundw
                case rel => exact ⟨k + 1, A5, c5, z5, by omega, by go_num, rfl, HZ5.out, O5.out, B5.out, R5.out, N5.out⟩
                case measure => simp [intOf]; omega
            · have WS := Lib.hid (WN.out (fun h => hr2 h.1))
              clear CN
              go_wp2_with fail
              go_roundw
              case rel => exact ⟨k + 1, A, c, z, by omega, by go_num, rfl, WS.out.symm, ho.out, hbb.out, hrb.out, hne.out⟩
              case measure => simp [intOf]; omega
          · obtain rfl : k = 3 := by omega
            obtain rfl : z = edV low high := by rw [hz.out, EV.out]
            have WA := Lib.hid ho.out.at_
            have hr := HR.out
            by_cases hp : PartB low high n
            · obtain ⟨_, hp1, hp2, hp3⟩ := hp
              have PC := Lib.hid (show errOf (paE low high n) = errOf 0 by unfold paE; rw [if_pos ⟨hr, hp1, hp2, hp3⟩])
              have PL := Lib.hid (show ((paV low high n).length : Int) = n by unfold paV; rw [if_pos ⟨hr, hp1, hp2, hp3⟩, pc_len]; omega)
              clear hr HR EV hz ZL RL RB BZ QZ O0 Z0 NZ hrb hne
              have E1 := Lib.hid (ED.out wr)
              go_wp2_with fail
              ((with_reducible refine E1.out.mono ?_))
              rintro ee x1 ⟨A1, c1, rfl, ho1, hb1⟩
              have O1 := Lib.hid ho1
              have B1 := Lib.hid (below_trans BQ.out hb1)
              have WX1 := Lib.hid ((WA.out.below hb1).more hb1.size)
              clear ho1 hb1 E1
              rw [EC.out]
              have T1 := Lib.hid (ER.out 0 x1 B1.out)
              go_wp2_with fail
              ((with_reducible refine T1.out.mono ?_))
              rintro ee x2 ⟨rfl, hb2⟩
              have B2 := Lib.hid (below_trans B1.out hb2)
              have S2 := Lib.hid (same_below (edV low high) (edV low high) A1 A c1 c x2.heap.size LE.out LE.out x2 (O1.out.below hb2).at_ ((WX1.out.below hb2).more hb2.size))
              clear hb2 T1 O1 WX1 B1
              go_wp2_with fail
              ((with_reducible refine S2.out.mono ?_))
              rintro ee x3 ⟨rfl, hb3⟩
              have B3 := Lib.hid (below_trans B2.out hb3)
              have P3 := Lib.hid (PR.out x3)
              clear hb3 S2 B2
              go_wp2_with fail
              ((with_reducible refine P3.out.mono ?_))
              rintro ee x4 ⟨A4, c4, rfl, hb4⟩
              have B4 := Lib.hid (below_trans B3.out hb4)
              have T4 := Lib.hid (ER.out 0 x4 B4.out)
              clear hb4 P3 B3
              rw [PC.out]
              generalize (paV low high n).length = pn at *
              have pl := PL.out
              go_wp2_with fail
              ((with_reducible refine T4.out.mono ?_))
              rintro ee x5 ⟨rfl, hb5⟩
              have B5 := Lib.hid (below_trans B4.out hb5)
              have F5 := Lib.hid (EF.out x5)
              clear hb5 T4 B4
              go_wp2_with fail
              ((with_reducible refine F5.out.mono ?_))
              rintro ee x6 ⟨A6, c6, rfl, hb6⟩
              have B6 := Lib.hid (below_trans B5.out hb6)
              clear hb6 F5 B5
              go_wp2_with fail
              go_ret
              exact ⟨ret_b (by simp), B6.out⟩
            · have PC := Lib.hid (show errOf (paE low high n) = errOf 1 by unfold paE; rw [if_neg hp])
              have PL := Lib.hid (show (paV low high n).length = 0 by unfold paV; rw [if_neg hp]; rfl)
              have HP := Lib.hid (show ¬ (1 ≤ n ∧ n ≤ high - low + 1 ∧ n ≤ 1000) from fun h => hp ⟨hr, h⟩)
              clear hr HR EV hz ZL RL RB BZ QZ O0 Z0 NZ hrb hne hp
              by_cases n1 : n < 1
              · skip
                have E1 := Lib.hid (ED.out wr)
                go_wp2_with fail
                ((with_reducible refine E1.out.mono ?_))
                rintro ee x1 ⟨A1, c1, rfl, ho1, hb1⟩
                have O1 := Lib.hid ho1
                have B1 := Lib.hid (below_trans BQ.out hb1)
                have WX1 := Lib.hid ((WA.out.below hb1).more hb1.size)
                clear ho1 hb1 E1
                rw [EC.out]
                have T1 := Lib.hid (ER.out 0 x1 B1.out)
                go_wp2_with fail
                ((with_reducible refine T1.out.mono ?_))
                rintro ee x2 ⟨rfl, hb2⟩
                have B2 := Lib.hid (below_trans B1.out hb2)
                have S2 := Lib.hid (same_below (edV low high) (edV low high) A1 A c1 c x2.heap.size LE.out LE.out x2 (O1.out.below hb2).at_ ((WX1.out.below hb2).more hb2.size))
                clear hb2 T1 O1 WX1 B1
                go_wp2_with fail
                ((with_reducible refine S2.out.mono ?_))
                rintro ee x3 ⟨rfl, hb3⟩
                have B3 := Lib.hid (below_trans B2.out hb3)
                have P3 := Lib.hid (PR.out x3)
                clear hb3 S2 B2
                go_wp2_with fail
                ((with_reducible refine P3.out.mono ?_))
                rintro ee x4 ⟨A4, c4, rfl, hb4⟩
                have B4 := Lib.hid (below_trans B3.out hb4)
                have T4 := Lib.hid (ER.out 1 x4 B4.out)
                clear hb4 P3 B3
                rw [PC.out]
                generalize (paV low high n).length = pn at *
                have pl := PL.out
                go_wp2_with fail
                ((with_reducible refine T4.out.mono ?_))
                rintro ee x5 ⟨rfl, hb5⟩
                have B5 := Lib.hid (below_trans B4.out hb5)
                have F5 := Lib.hid (EF.out x5)
                clear hb5 T4 B4
                go_wp2_with fail
                ((with_reducible refine F5.out.mono ?_))
                rintro ee x6 ⟨A6, c6, rfl, hb6⟩
                have B6 := Lib.hid (below_trans B5.out hb6)
                clear hb6 F5 B5
                go_wp2_with fail
                go_ret
                exact ⟨ret_b (by simp), B6.out⟩
              · by_cases n2 : high - low + 1 < n
                · skip
                  have E1 := Lib.hid (ED.out wr)
                  go_wp2_with fail
                  ((with_reducible refine E1.out.mono ?_))
                  rintro ee x1 ⟨A1, c1, rfl, ho1, hb1⟩
                  have O1 := Lib.hid ho1
                  have B1 := Lib.hid (below_trans BQ.out hb1)
                  have WX1 := Lib.hid ((WA.out.below hb1).more hb1.size)
                  clear ho1 hb1 E1
                  rw [EC.out]
                  have T1 := Lib.hid (ER.out 0 x1 B1.out)
                  go_wp2_with fail
                  ((with_reducible refine T1.out.mono ?_))
                  rintro ee x2 ⟨rfl, hb2⟩
                  have B2 := Lib.hid (below_trans B1.out hb2)
                  have S2 := Lib.hid (same_below (edV low high) (edV low high) A1 A c1 c x2.heap.size LE.out LE.out x2 (O1.out.below hb2).at_ ((WX1.out.below hb2).more hb2.size))
                  clear hb2 T1 O1 WX1 B1
                  go_wp2_with fail
                  ((with_reducible refine S2.out.mono ?_))
                  rintro ee x3 ⟨rfl, hb3⟩
                  have B3 := Lib.hid (below_trans B2.out hb3)
                  have P3 := Lib.hid (PR.out x3)
                  clear hb3 S2 B2
                  go_wp2_with fail
                  ((with_reducible refine P3.out.mono ?_))
                  rintro ee x4 ⟨A4, c4, rfl, hb4⟩
                  have B4 := Lib.hid (below_trans B3.out hb4)
                  have T4 := Lib.hid (ER.out 1 x4 B4.out)
                  clear hb4 P3 B3
                  rw [PC.out]
                  generalize (paV low high n).length = pn at *
                  have pl := PL.out
                  go_wp2_with fail
                  ((with_reducible refine T4.out.mono ?_))
                  rintro ee x5 ⟨rfl, hb5⟩
                  have B5 := Lib.hid (below_trans B4.out hb5)
                  have F5 := Lib.hid (EF.out x5)
                  clear hb5 T4 B4
                  go_wp2_with fail
                  ((with_reducible refine F5.out.mono ?_))
                  rintro ee x6 ⟨A6, c6, rfl, hb6⟩
                  have B6 := Lib.hid (below_trans B5.out hb6)
                  clear hb6 F5 B5
                  go_wp2_with fail
                  go_ret
                  exact ⟨ret_b (by simp), B6.out⟩
                · have n3 : (1000 : Int) < n := by have := HP.out; omega
                  have E1 := Lib.hid (ED.out wr)
                  go_wp2_with fail
                  ((with_reducible refine E1.out.mono ?_))
                  rintro ee x1 ⟨A1, c1, rfl, ho1, hb1⟩
                  have O1 := Lib.hid ho1
                  have B1 := Lib.hid (below_trans BQ.out hb1)
                  have WX1 := Lib.hid ((WA.out.below hb1).more hb1.size)
                  clear ho1 hb1 E1
                  rw [EC.out]
                  have T1 := Lib.hid (ER.out 0 x1 B1.out)
                  go_wp2_with fail
                  ((with_reducible refine T1.out.mono ?_))
                  rintro ee x2 ⟨rfl, hb2⟩
                  have B2 := Lib.hid (below_trans B1.out hb2)
                  have S2 := Lib.hid (same_below (edV low high) (edV low high) A1 A c1 c x2.heap.size LE.out LE.out x2 (O1.out.below hb2).at_ ((WX1.out.below hb2).more hb2.size))
                  clear hb2 T1 O1 WX1 B1
                  go_wp2_with fail
                  ((with_reducible refine S2.out.mono ?_))
                  rintro ee x3 ⟨rfl, hb3⟩
                  have B3 := Lib.hid (below_trans B2.out hb3)
                  have P3 := Lib.hid (PR.out x3)
                  clear hb3 S2 B2
                  go_wp2_with fail
                  ((with_reducible refine P3.out.mono ?_))
                  rintro ee x4 ⟨A4, c4, rfl, hb4⟩
                  have B4 := Lib.hid (below_trans B3.out hb4)
                  have T4 := Lib.hid (ER.out 1 x4 B4.out)
                  clear hb4 P3 B3
                  rw [PC.out]
                  generalize (paV low high n).length = pn at *
                  have pl := PL.out
                  go_wp2_with fail
                  ((with_reducible refine T4.out.mono ?_))
                  rintro ee x5 ⟨rfl, hb5⟩
                  have B5 := Lib.hid (below_trans B4.out hb5)
                  have F5 := Lib.hid (EF.out x5)
                  clear hb5 T4 B4
                  go_wp2_with fail
                  ((with_reducible refine F5.out.mono ?_))
                  rintro ee x6 ⟨A6, c6, rfl, hb6⟩
                  have B6 := Lib.hid (below_trans B5.out hb6)
                  clear hb6 F5 B5
                  go_wp2_with fail
                  go_ret
                  exact ⟨ret_b (by simp), B6.out⟩
  · have hq : low ≤ high → -1073741824 ≤ low → high ≤ 1073741824 → False := fun h1 h2 h3 => hr ⟨h1, h2, h3⟩
    have HQ := Lib.hid hq
    have EC := Lib.hid (show errOf (edE low high) = errOf 1 by unfold edE; rw [if_neg hr])
    have EV := Lib.hid (show edV low high = [] by unfold edV; rw [if_neg hr])
    have LE := Lib.hid (show (edV low high).length ≤ maxLen by rw [EV.out]; simp [maxLen])
    have PC := Lib.hid (show errOf (paE low high n) = errOf 1 by unfold paE; rw [if_neg (fun h => hr h.1)])
    have PL := Lib.hid (show (paV low high n).length = 0 by unfold paV; rw [if_neg (fun h => hr h.1)]; rfl)
    have AWL := Lib.hid (show (0 : Nat) = (edV low high).length by rw [EV.out]; rfl)
    have WA := Lib.hid (show At w w.heap.size none (edV low high) by rw [EV.out]; exact At.nil)
    have BW := Lib.hid (Below.refl w.heap.size w)
    clear hq hr
    go_enter Tryd.func3, Tryd.ntmps3
    by_cases h1 : high < low
    · skip
      have E1 := Lib.hid (ED.out w)
      go_wp2_with fail
      ((with_reducible refine E1.out.mono ?_))
      rintro ee x1 ⟨A1, c1, rfl, ho1, hb1⟩
      have O1 := Lib.hid ho1
      have B1 := Lib.hid (below_trans BW.out hb1)
      have WX1 := Lib.hid ((WA.out.below hb1).more hb1.size)
      clear ho1 hb1 E1
      rw [EC.out]
      have T1 := Lib.hid (ER.out 1 x1 B1.out)
      go_wp2_with fail
      ((with_reducible refine T1.out.mono ?_))
      rintro ee x2 ⟨rfl, hb2⟩
      have B2 := Lib.hid (below_trans B1.out hb2)
      have S2 := Lib.hid (show Calls Tryd.prog 7 #[.slice A1 (edV low high).length c1, .slice none 0 0] x2 fun e w' => e = .returned (.bool true) ∧ Below x2.heap.size x2 w' by
        have := same_below (edV low high) [] A1 none c1 0 x2.heap.size LE.out (by simp [maxLen]) x2 (O1.out.below hb2).at_ At.nil
        rw [show decide (edV low high = []) = true by rw [EV.out]; rfl] at this
        exact this)
      clear hb2 T1 O1 WX1 B1
      go_wp2_with fail
      ((with_reducible refine S2.out.mono ?_))
      rintro ee x3 ⟨rfl, hb3⟩
      have B3 := Lib.hid (below_trans B2.out hb3)
      have P3 := Lib.hid (PR.out x3)
      clear hb3 S2 B2
      go_wp2_with fail
      ((with_reducible refine P3.out.mono ?_))
      rintro ee x4 ⟨A4, c4, rfl, hb4⟩
      have B4 := Lib.hid (below_trans B3.out hb4)
      have T4 := Lib.hid (ER.out 1 x4 B4.out)
      clear hb4 P3 B3
      rw [PC.out]
      generalize (paV low high n).length = pn at *
      have pl := PL.out
      go_wp2_with fail
      ((with_reducible refine T4.out.mono ?_))
      rintro ee x5 ⟨rfl, hb5⟩
      have B5 := Lib.hid (below_trans B4.out hb5)
      have F5 := Lib.hid (EF.out x5)
      clear hb5 T4 B4
      go_wp2_with fail
      ((with_reducible refine F5.out.mono ?_))
      rintro ee x6 ⟨A6, c6, rfl, hb6⟩
      have B6 := Lib.hid (below_trans B5.out hb6)
      clear hb6 F5 B5
      go_wp2_with fail
      go_ret
      exact ⟨ret_b (by simp), B6.out⟩
    · by_cases h2 : low < -1073741824
      · skip
        have E1 := Lib.hid (ED.out w)
        go_wp2_with fail
        ((with_reducible refine E1.out.mono ?_))
        rintro ee x1 ⟨A1, c1, rfl, ho1, hb1⟩
        have O1 := Lib.hid ho1
        have B1 := Lib.hid (below_trans BW.out hb1)
        have WX1 := Lib.hid ((WA.out.below hb1).more hb1.size)
        clear ho1 hb1 E1
        rw [EC.out]
        have T1 := Lib.hid (ER.out 1 x1 B1.out)
        go_wp2_with fail
        ((with_reducible refine T1.out.mono ?_))
        rintro ee x2 ⟨rfl, hb2⟩
        have B2 := Lib.hid (below_trans B1.out hb2)
        have S2 := Lib.hid (show Calls Tryd.prog 7 #[.slice A1 (edV low high).length c1, .slice none 0 0] x2 fun e w' => e = .returned (.bool true) ∧ Below x2.heap.size x2 w' by
          have := same_below (edV low high) [] A1 none c1 0 x2.heap.size LE.out (by simp [maxLen]) x2 (O1.out.below hb2).at_ At.nil
          rw [show decide (edV low high = []) = true by rw [EV.out]; rfl] at this
          exact this)
        clear hb2 T1 O1 WX1 B1
        go_wp2_with fail
        ((with_reducible refine S2.out.mono ?_))
        rintro ee x3 ⟨rfl, hb3⟩
        have B3 := Lib.hid (below_trans B2.out hb3)
        have P3 := Lib.hid (PR.out x3)
        clear hb3 S2 B2
        go_wp2_with fail
        ((with_reducible refine P3.out.mono ?_))
        rintro ee x4 ⟨A4, c4, rfl, hb4⟩
        have B4 := Lib.hid (below_trans B3.out hb4)
        have T4 := Lib.hid (ER.out 1 x4 B4.out)
        clear hb4 P3 B3
        rw [PC.out]
        generalize (paV low high n).length = pn at *
        have pl := PL.out
        go_wp2_with fail
        ((with_reducible refine T4.out.mono ?_))
        rintro ee x5 ⟨rfl, hb5⟩
        have B5 := Lib.hid (below_trans B4.out hb5)
        have F5 := Lib.hid (EF.out x5)
        clear hb5 T4 B4
        go_wp2_with fail
        ((with_reducible refine F5.out.mono ?_))
        rintro ee x6 ⟨A6, c6, rfl, hb6⟩
        have B6 := Lib.hid (below_trans B5.out hb6)
        clear hb6 F5 B5
        go_wp2_with fail
        go_ret
        exact ⟨ret_b (by simp), B6.out⟩
      · have h3 : 1073741824 < high := by
          apply Classical.byContradiction
          intro hc
          exact HQ.out (by omega) (by omega) (by omega)
        have E1 := Lib.hid (ED.out w)
        go_wp2_with fail
        ((with_reducible refine E1.out.mono ?_))
        rintro ee x1 ⟨A1, c1, rfl, ho1, hb1⟩
        have O1 := Lib.hid ho1
        have B1 := Lib.hid (below_trans BW.out hb1)
        have WX1 := Lib.hid ((WA.out.below hb1).more hb1.size)
        clear ho1 hb1 E1
        rw [EC.out]
        have T1 := Lib.hid (ER.out 1 x1 B1.out)
        go_wp2_with fail
        ((with_reducible refine T1.out.mono ?_))
        rintro ee x2 ⟨rfl, hb2⟩
        have B2 := Lib.hid (below_trans B1.out hb2)
        have S2 := Lib.hid (show Calls Tryd.prog 7 #[.slice A1 (edV low high).length c1, .slice none 0 0] x2 fun e w' => e = .returned (.bool true) ∧ Below x2.heap.size x2 w' by
          have := same_below (edV low high) [] A1 none c1 0 x2.heap.size LE.out (by simp [maxLen]) x2 (O1.out.below hb2).at_ At.nil
          rw [show decide (edV low high = []) = true by rw [EV.out]; rfl] at this
          exact this)
        clear hb2 T1 O1 WX1 B1
        go_wp2_with fail
        ((with_reducible refine S2.out.mono ?_))
        rintro ee x3 ⟨rfl, hb3⟩
        have B3 := Lib.hid (below_trans B2.out hb3)
        have P3 := Lib.hid (PR.out x3)
        clear hb3 S2 B2
        go_wp2_with fail
        ((with_reducible refine P3.out.mono ?_))
        rintro ee x4 ⟨A4, c4, rfl, hb4⟩
        have B4 := Lib.hid (below_trans B3.out hb4)
        have T4 := Lib.hid (ER.out 1 x4 B4.out)
        clear hb4 P3 B3
        rw [PC.out]
        generalize (paV low high n).length = pn at *
        have pl := PL.out
        go_wp2_with fail
        ((with_reducible refine T4.out.mono ?_))
        rintro ee x5 ⟨rfl, hb5⟩
        have B5 := Lib.hid (below_trans B4.out hb5)
        have F5 := Lib.hid (EF.out x5)
        clear hb5 T4 B4
        go_wp2_with fail
        ((with_reducible refine F5.out.mono ?_))
        rintro ee x6 ⟨A6, c6, rfl, hb6⟩
        have B6 := Lib.hid (below_trans B5.out hb6)
        clear hb6 F5 B5
        go_wp2_with fail
        go_ret
        exact ⟨ret_b (by simp), B6.out⟩
end Go.Proofs.YteaicmjihckbjaaDoor.BndTellsLaw
