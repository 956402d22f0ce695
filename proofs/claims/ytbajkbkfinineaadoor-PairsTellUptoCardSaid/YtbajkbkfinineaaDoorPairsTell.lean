/- PairsTell: the walk. Conditions: the sizes; the library's variable that errors.As reads. Made by wip/tools/gen_pairstell.py. -/
import Derived.Test.YtbajkbkfinineaaDoorPair
import Derived.Test.YtbajkbkfinineaaDoorRefMiss
import Derived.Test.YtbajkbkfinineaaDoorFours
import Derived.Test.YtbajkbkfinineaaDoorErrOk
import Derived.Test.YtbajkbkfinineaaDoorRowsIn
namespace Go.Proofs.YtbajkbkfinineaaDoor.PairsTellLaw
open Go.RowKit Ints Lists Vals Arr Pair Owns
set_option linter.unusedVariables false

theorem belt (w : World) (o : Obj) : Below w.heap.size w (w.alloc o) := (Below.refl _ _).alloc (Nat.le_refl _) _
theorem two_two (w : World) : At (w.alloc (.cells #[.int .i64 2, .int .i64 2] 3)) (w.alloc (.cells #[.int .i64 2, .int .i64 2] 3)).heap.size (some ⟨w.heap.size, 0, none⟩) [2, 2] := fun _ =>
  ⟨w.heap.size, 0, rfl, by simp, fun j hj => by
    have hj : j < 2 := hj
    obtain rfl | rfl : j = 0 ∨ j = 1 := by omega
    all_goals rw [Lib.cell_of_heap (heap_new2 w _)]; rfl⟩
/-- the fact: of 2 and 2 there are four -/
theorem rows_fact (w : World) : Calls Tryd.prog 12 #[.slice (some ⟨w.heap.size, 0, none⟩) 2 2] (w.alloc (.cells #[.int .i64 2, .int .i64 2] 3)) fun e w' => ∃ (A : Option Addr) (c : Nat), e = .returned (.tuple #[.slice A 4 c, .nilIface]) ∧ Below w.heap.size w w' := by
  refine (rows_prog (levels := [2, 2]) (lc := 2) _ (two_two w) (by simp) (by simp)).mono ?_
  rintro e w' ⟨A, c, rfl, _, hb⟩
  have h0 : levE [2, 2] = 0 := by decide
  have h1 : lv [2, 2] 0 * lv [2, 2] 1 ≤ (rowsV [2, 2]).length := rows_least (rows_ok h0) (a := 0) (b := 1) (by omega) (by simp)
  have h2 : (rowsV [2, 2]).length ≤ lv [2, 2] 0 * lv [2, 2] 1 := two_most (rows_ok h0) (.inl (by simp))
  have h3 : lv [2, 2] 0 * lv [2, 2] 1 = 4 := by decide
  have h5 : (rowsV [2, 2]).length = 4 := by omega
  rw [h0, h5, errOf_ok]
  exact ⟨A, c, rfl, below_trans (belt w _) hb⟩

set_option maxHeartbeats 16000000 in
set_option maxRecDepth 100000 in
theorem walk (levels : List Int) (L : Option Addr) (lc : Nat) (rows : List (List Int)) (R : Option Addr) (rc : Nat) (hbulk : levels.length + partsR rows ≤ 1048576) (w : World) (hl : At w w.heap.size L levels) (hcap : levels.length ≤ lc) (hR : RowsAt w w.heap.size R rows) (hrc : rows.length ≤ rc) (hh : Told.Handle w) :
    Calls Tryd.prog 3 #[.slice L levels.length lc, .slice R rows.length rc] w fun e w' => e = .returned (.bool true) ∧ Below w.heap.size w w' := by
  have hpl := parts_len rows
  have hpe : ∀ r ∈ rows, r.length ≤ 1048576 := fun r hr => by have := parts_each hr; omega
  have ER := Lib.hid (fun (f : Int) (W : World) (hb : Below w.heap.size w W) => err_ok f W (hh.below hb))
  have LF := Lib.hid (levelfault_any levels L lc w.heap.size (by simp only [maxLen]; omega) w hl)
  have CK := Lib.hid (check_prog w hl (by omega) hcap)
  have RQ := Lib.hid (fun (W : World) (hb : Below w.heap.size w W) (r : List Int) (D : Option Addr) (d : Nat) (hr : r.length ≤ 1048576) (hD : At W W.heap.size D r) => rowfault_any levels r L D lc d W.heap.size (by simp only [maxLen]; omega) (by simp only [maxLen]; omega) W ((hl.below hb).more hb.size) hD)
  have MI := Lib.hid (fun (W : World) (hb : Below w.heap.size w W) => show Calls Tryd.prog 10 #[.slice L levels.length lc, .slice R rows.length rc] W fun e w' => ∃ (A : Option Addr) (c : Nat), e = .returned (.tuple #[.slice A (misV levels rows).length c, errOf (misE levels rows)]) ∧ AtE 4 four w' (fun b => W.heap.size ≤ b ∧ b < w'.heap.size) A (misV levels rows) ∧ Below W.heap.size W w' from missing_prog W ((hl.below hb).more hb.size) (by omega) hcap (RowsP.more (RowsP.below hR hb) hb.size) (by omega) hrc (fun r hr => by have := hpe r hr; omega))
  have MO := Lib.hid (fun (h0 : levE levels = 0) (hrow : ∀ r ∈ rows, r.length = levels.length) (W : World) (hb : Below w.heap.size w W) => missingof_any levels rows L R lc rc h0 hrow (by omega) W ((hl.below hb).more hb.size) (RowsP.more (RowsP.below hR hb) hb.size))
  have RW := Lib.hid (fun (W : World) (hb : Below w.heap.size w W) => show Calls Tryd.prog 12 #[.slice L levels.length lc] W fun e w' => ∃ (A : Option Addr) (c : Nat), e = .returned (.tuple #[.slice A (rowsV levels).length c, errOf (levE levels)]) ∧ Below W.heap.size W w' from (rows_prog W ((hl.below hb).more hb.size) (by omega) hcap).mono fun _ _ ⟨A, c, h1, _, h3⟩ => ⟨A, c, h1, h3⟩)
  have RF := Lib.hid (fun (W : World) => rows_fact W)
  have HR := Lib.hid (fun (W : World) (hb : Below w.heap.size w W) => show RowsAt W W.heap.size R rows from RowsP.more (RowsP.below hR hb) hb.size)
  have PE := Lib.hid hpe
  have rni : (rows.length : Int) ≤ 1048576 := by omega
  have NR := Lib.hid (rows_no (levels := levels))
  clear hl hcap hR hrc hh hbulk hpl hpe
  by_cases h0 : levE levels = 0
  · have LE := Lib.hid h0
    have MOO := Lib.hid (MO.out h0)
    have MIS := Lib.hid (show misE levels rows = if rows.all (rowB levels) = true then 0 else 3 by unfold misE; rw [if_pos h0])
    have RV := Lib.hid (show True ∨ (rowsV levels).length = 0 from .inl trivial)
    rw [h0] at LF CK
    clear h0 MO
    go_enter Tryd.func3, Tryd.ntmps3
    go_wp2_with fail
    ((with_reducible refine LF.out.mono ?_))
    rintro ee w1 ⟨rfl, rfl⟩
    go_wp2_with fail
    ((with_reducible refine CK.out.mono ?_))
    rintro ee w2 ⟨rfl, hb2⟩
    have B2 := Lib.hid hb2
    have T2 := Lib.hid (ER.out 0 w2 hb2)
    clear hb2 CK LF
    go_wp2_with fail
    ((with_reducible refine T2.out.mono ?_))
    rintro ee w3 ⟨rfl, hb3⟩
    have B3 := Lib.hid (below_trans B2.out hb3)
    clear hb3 T2 B2
    go_wp2_with fail
    go_loopw [7, 8] (fun fv iv wr => ∃ (k : Nat) (q : Int), k ≤ rows.length ∧ iv = .int .i64 k ∧ fv = .int .i64 q ∧ Hid ((q = 0 ∧ ∀ r ∈ rows.take k, rowB levels r = true) ∨ (q = 3 ∧ ∃ r ∈ rows, rowB levels r = false)) ∧ Hid (Below w3.heap.size w3 wr)) (fun _ iv _ => rows.length - (intOf iv).toNat)
    case atStart => exact ⟨0, 0, Nat.zero_le _, rfl, rfl, Lib.hid (.inl ⟨rfl, fun r hr => by simp at hr⟩), Below.refl _ _⟩
    case round =>
      obtain ⟨k, q, hk, rfl, rfl, hq, hbb⟩ := hrel
      have BW := Lib.hid (below_trans B3.out hbb.out)
      rcases hq.out with ⟨rfl, hall⟩ | ⟨rfl, hbad⟩
      · by_cases hlt : k < rows.length
        · obtain ⟨rb, ro, rfl, _, rcell⟩ := (HR.out wr BW.out) (by omega)
          obtain ⟨D, d, r0, _, rD⟩ := rcell k hlt
          have C1 := RQ.out wr BW.out rows[k] D d (PE.out rows[k] (List.getElem_mem hlt)) rD.at_
          have AL := Lib.hid (fun (h : rowB levels rows[k] = true) => show ∀ r ∈ rows.take (k + 1), rowB levels r = true by
            intro r hr
            rw [List.take_succ_eq_append_getElem hlt, List.mem_append] at hr
            rcases hr with hr | hr
            · exact hall r hr
            · have : r = rows[k] := by simpa using hr
              rw [this]; exact h)
          have BD := Lib.hid (fun (h : rowB levels rows[k] = false) => show ∃ r ∈ rows, rowB levels r = false from ⟨rows[k], List.getElem_mem hlt, h⟩)
          have hki : (k : Int) < rows.length := by omega
          clear rcell rD hall hq
          generalize rows[k].length = rl at *
          cases hr : rowB levels rows[k] with
          | true =>
            rw [hr] at C1
            have C1 := Lib.hid C1
            have A2 := Lib.hid (AL.out hr)
            clear hr
            go_wp2_with fail
            ((with_reducible refine C1.out.mono ?_))
            rintro ee w5 ⟨rfl, dn, rfl⟩
            go_wp2_with fail
            go_roundw
            case rel => exact ⟨k + 1, 0, by omega, by go_num, rfl, Lib.hid (.inl ⟨rfl, A2.out⟩), hbb.out.trans ⟨rfl, rfl, rfl, Nat.le_refl _, fun _ _ => rfl⟩⟩
            case measure => simp [intOf]; omega
          | false =>
            rw [hr] at C1
            have C1 := Lib.hid C1
            have A2 := Lib.hid (BD.out hr)
            clear hr
            go_wp2_with fail
            ((with_reducible refine C1.out.mono ?_))
            rintro ee w5 ⟨rfl, dn, rfl⟩
            go_wp2_with fail
            go_roundw
            case rel => exact ⟨k + 1, 3, by omega, by go_num, rfl, Lib.hid (.inr ⟨rfl, A2.out⟩), hbb.out.trans ⟨rfl, rfl, rfl, Nat.le_refl _, fun _ _ => rfl⟩⟩
            case measure => simp [intOf]; omega
        · have hall2 : ∀ r ∈ rows, rowB levels r = true := by rwa [List.take_of_length_le (by omega)] at hall
          have ME := Lib.hid (show misE levels rows = 0 by rw [MIS.out, if_pos (List.all_eq_true.2 hall2)])
          have MV := Lib.hid (show misV levels rows = missL levels rows by unfold misV; rw [if_pos ME.out])
          have ZL := Lib.hid (show (missL levels rows).length ≤ maxLen by have := miss_le (lev_ok LE.out).1 (lev_ok LE.out).2 rows; simp only [maxLen]; omega)
          have C4 := Lib.hid (MOO.out (fun r hr => (row_right (hall2 r hr)).1) wr BW.out)
          clear hall hall2 hq hbb
          go_wp2_with fail
          ((with_reducible refine C4.out.mono ?_))
          rintro ee w4 ⟨A4, c4, rfl, hz4, hb4⟩
          have B4 := Lib.hid (below_trans BW.out hb4)
          have WA := Lib.hid hz4
          clear hz4 hb4 C4
          have C5 := MI.out w4 B4.out
          rw [ME.out, MV.out] at C5
          have C5 := Lib.hid C5
          go_wp2_with fail
          ((with_reducible refine C5.out.mono ?_))
          rintro ee w5 ⟨A5, c5, rfl, hz5, hb5⟩
          have B5 := Lib.hid (below_trans B4.out hb5)
          have Z5 := Lib.hid hz5
          have W5 := Lib.hid (WA.out.keep (S' := fun b => b < w5.heap.size) fun b hb => ⟨Nat.lt_of_lt_of_le hb.2 hb5.size, fun o => hb5.cell (p := ⟨b, o, none⟩) hb.2⟩)
          have T5 := Lib.hid (ER.out 0 w5 B5.out)
          clear hb5 hz5 C5 WA
          go_wp2_with fail
          ((with_reducible refine T5.out.mono ?_))
          rintro ee w6 ⟨rfl, hb6⟩
          have B6 := Lib.hid (below_trans B5.out hb6)
          have F6 := Lib.hid (fours_same (missL levels rows) A5 A4 c5 c4 ZL.out w6 (Z5.out.below (fun b hb => hb.2) hb6) (W5.out.below (fun b hb => hb) hb6))
          clear hb6 T5 B5
          go_wp2_with fail
          ((with_reducible refine F6.out.mono ?_))
          rintro ee w7 ⟨rfl, hb7⟩
          have B7 := Lib.hid (below_trans B6.out hb7)
          have R7 := RW.out w7 B7.out
          rw [LE.out] at R7
          have R7 := Lib.hid R7
          clear hb7 F6 B6
          go_wp2_with fail
          ((with_reducible refine R7.out.mono ?_))
          rintro ee w8 ⟨A8, c8, rfl, hb8⟩
          have B8 := Lib.hid (below_trans B7.out hb8)
          have T8 := Lib.hid (ER.out 0 w8 B8.out)
          clear hb8 R7 B7
          have rv := RV.out
          generalize (rowsV levels).length = rn at *
          go_wp2_with fail
          ((with_reducible refine T8.out.mono ?_))
          rintro ee w9 ⟨rfl, hb9⟩
          have B9 := Lib.hid (below_trans B8.out hb9)
          have F9 := Lib.hid (RF.out w9)
          clear hb9 T8 B8
          go_wp2_with fail
          ((with_reducible refine F9.out.mono ?_))
          rintro ee w10 ⟨A10, c10, rfl, hb10⟩
          have B10 := Lib.hid (below_trans B9.out hb10)
          clear hb10 F9 B9
          go_wp2_with fail
          go_ret
          exact ⟨ret_b (by simp), B10.out⟩
      · have ME := Lib.hid (show misE levels rows = 3 by
          rw [MIS.out, if_neg]
          intro h
          obtain ⟨r, hr, h2⟩ := hbad
          rw [List.all_eq_true.1 h r hr] at h2
          cases h2)
        have MV := Lib.hid (show misV levels rows = [] by unfold misV; rw [if_neg (by rw [ME.out]; decide)])
        have ZL := Lib.hid (show ([] : List Quad).length ≤ maxLen by simp [maxLen])
        have WA := Lib.hid (show AtE 4 four wr (fun b => wr.heap.size ≤ b ∧ b < wr.heap.size) none [] from fun h => by simp at h)
        clear hbad hq hbb
        have C5 := MI.out wr BW.out
        rw [ME.out, MV.out] at C5
        have C5 := Lib.hid C5
        go_wp2_with fail
        ((with_reducible refine C5.out.mono ?_))
        rintro ee w5 ⟨A5, c5, rfl, hz5, hb5⟩
        have B5 := Lib.hid (below_trans BW.out hb5)
        have Z5 := Lib.hid hz5
        have W5 := Lib.hid (WA.out.keep (S' := fun b => b < w5.heap.size) fun b hb => ⟨Nat.lt_of_lt_of_le hb.2 hb5.size, fun o => hb5.cell (p := ⟨b, o, none⟩) hb.2⟩)
        have T5 := Lib.hid (ER.out 3 w5 B5.out)
        clear hb5 hz5 C5 WA
        go_wp2_with fail
        ((with_reducible refine T5.out.mono ?_))
        rintro ee w6 ⟨rfl, hb6⟩
        have B6 := Lib.hid (below_trans B5.out hb6)
        have F6 := Lib.hid (show Calls Tryd.prog 11 #[.slice A5 0 c5, .slice none 0 0] w6 fun e w' => e = .returned (.bool true) ∧ Below w6.heap.size w6 w' from fours_same [] A5 none c5 0 ZL.out w6 (Z5.out.below (fun b hb => hb.2) hb6) (W5.out.below (fun b hb => hb) hb6))
        clear hb6 T5 B5
        go_wp2_with fail
        ((with_reducible refine F6.out.mono ?_))
        rintro ee w7 ⟨rfl, hb7⟩
        have B7 := Lib.hid (below_trans B6.out hb7)
        have R7 := RW.out w7 B7.out
        rw [LE.out] at R7
        have R7 := Lib.hid R7
        clear hb7 F6 B6
        go_wp2_with fail
        ((with_reducible refine R7.out.mono ?_))
        rintro ee w8 ⟨A8, c8, rfl, hb8⟩
        have B8 := Lib.hid (below_trans B7.out hb8)
        have T8 := Lib.hid (ER.out 0 w8 B8.out)
        clear hb8 R7 B7
        have rv := RV.out
        generalize (rowsV levels).length = rn at *
        go_wp2_with fail
        ((with_reducible refine T8.out.mono ?_))
        rintro ee w9 ⟨rfl, hb9⟩
        have B9 := Lib.hid (below_trans B8.out hb9)
        have F9 := Lib.hid (RF.out w9)
        clear hb9 T8 B8
        go_wp2_with fail
        ((with_reducible refine F9.out.mono ?_))
        rintro ee w10 ⟨A10, c10, rfl, hb10⟩
        have B10 := Lib.hid (below_trans B9.out hb10)
        clear hb10 F9 B9
        go_wp2_with fail
        go_ret
        exact ⟨ret_b (by simp), B10.out⟩
  · have ME := Lib.hid (show misE levels rows = levE levels by unfold misE; rw [if_neg h0])
    have MV := Lib.hid (show misV levels rows = [] by unfold misV; rw [if_neg (by rw [ME.out]; exact h0)])
    have ZL := Lib.hid (show ([] : List Quad).length ≤ maxLen by simp [maxLen])
    have RV := Lib.hid (show (rowsV levels).length = 0 by rw [NR.out h0]; rfl)
    have WA := Lib.hid (show AtE 4 four w (fun b => w.heap.size ≤ b ∧ b < w.heap.size) none [] from fun h => by simp at h)
    clear MO
    generalize levE levels = q at *
    have q0 : (q == 0) = false := by rw [beq_eq_false_iff_ne]; exact h0
    go_enter Tryd.func3, Tryd.ntmps3
    go_wp2_with fail
    ((with_reducible refine LF.out.mono ?_))
    rintro ee w1 ⟨rfl, rfl⟩
    go_wp2_with fail
    ((with_reducible refine CK.out.mono ?_))
    rintro ee w2 ⟨rfl, hb2⟩
    have B2 := Lib.hid hb2
    have T2 := Lib.hid (ER.out q w2 hb2)
    clear hb2 CK LF
    go_wp2_with fail
    ((with_reducible refine T2.out.mono ?_))
    rintro ee w3 ⟨rfl, hb3⟩
    have B3 := Lib.hid (below_trans B2.out hb3)
    clear hb3 T2 B2 WA
    go_wp2_with fail
    go_loopw [7, 8] (fun fv iv wr => fv = .int .i64 q ∧ iv = .int .i64 0 ∧ wr = w3) (fun _ iv _ => rows.length - (intOf iv).toNat)
    case atStart => exact ⟨rfl, rfl, rfl⟩
    case round =>
      obtain ⟨rfl, rfl, rfl⟩ := hrel
      have WA := Lib.hid (show AtE 4 four wr (fun b => wr.heap.size ≤ b ∧ b < wr.heap.size) none [] from fun h => by simp at h)
      have C5 := MI.out wr B3.out
      rw [ME.out, MV.out] at C5
      have C5 := Lib.hid C5
      go_wp2_with fail
      ((with_reducible refine C5.out.mono ?_))
      rintro ee w5 ⟨A5, c5, rfl, hz5, hb5⟩
      have B5 := Lib.hid (below_trans B3.out hb5)
      have Z5 := Lib.hid hz5
      have W5 := Lib.hid (WA.out.keep (S' := fun b => b < w5.heap.size) fun b hb => ⟨Nat.lt_of_lt_of_le hb.2 hb5.size, fun o => hb5.cell (p := ⟨b, o, none⟩) hb.2⟩)
      have T5 := Lib.hid (ER.out q w5 B5.out)
      clear hb5 hz5 C5 WA
      go_wp2_with fail
      ((with_reducible refine T5.out.mono ?_))
      rintro ee w6 ⟨rfl, hb6⟩
      have B6 := Lib.hid (below_trans B5.out hb6)
      have F6 := Lib.hid (show Calls Tryd.prog 11 #[.slice A5 0 c5, .slice none 0 0] w6 fun e w' => e = .returned (.bool true) ∧ Below w6.heap.size w6 w' from fours_same [] A5 none c5 0 ZL.out w6 (Z5.out.below (fun b hb => hb.2) hb6) (W5.out.below (fun b hb => hb) hb6))
      clear hb6 T5 B5
      go_wp2_with fail
      ((with_reducible refine F6.out.mono ?_))
      rintro ee w7 ⟨rfl, hb7⟩
      have B7 := Lib.hid (below_trans B6.out hb7)
      have R7 := RW.out w7 B7.out
      have R7 := Lib.hid R7
      clear hb7 F6 B6
      go_wp2_with fail
      ((with_reducible refine R7.out.mono ?_))
      rintro ee w8 ⟨A8, c8, rfl, hb8⟩
      have B8 := Lib.hid (below_trans B7.out hb8)
      have T8 := Lib.hid (ER.out q w8 B8.out)
      clear hb8 R7 B7
      have rv := RV.out
      generalize (rowsV levels).length = rn at *
      go_wp2_with fail
      ((with_reducible refine T8.out.mono ?_))
      rintro ee w9 ⟨rfl, hb9⟩
      have B9 := Lib.hid (below_trans B8.out hb9)
      have F9 := Lib.hid (RF.out w9)
      clear hb9 T8 B8
      go_wp2_with fail
      ((with_reducible refine F9.out.mono ?_))
      rintro ee w10 ⟨A10, c10, rfl, hb10⟩
      have B10 := Lib.hid (below_trans B9.out hb10)
      clear hb10 F9 B9
      go_wp2_with fail
      go_ret
      exact ⟨ret_b (by simp), B10.out⟩
end Go.Proofs.YtbajkbkfinineaaDoor.PairsTellLaw
