/- RunsTell, part 42 of the proof: The document's own Told and Bad. Conditions: the size; a right expression. -/
import Derived.Test.YtabkihellcflhaaGreatDoorRunsTellZ40
import Derived.Test.YtabkihellcflhaaGreatDoorRunsTellZ20
import Derived.Test.YtabkihellcflhaaGreatDoorRunsTellZ41
/- The document's own Told and Bad. Conditions: the size; a right expression. -/
namespace Go.Proofs.YtabkihellcflhaaGreatDoor.Exprs
open Go.RowKit Lists Ints Gens Rng Vals
set_option linter.unusedVariables false

theorem one_any (b : Bool) (w : World) : Calls Tryz.prog 111 #[.bool b] w fun e w' => e = .returned (.int .i64 (one b)) ∧ w = w' := by
  cases b
  all_goals
    go_enter Tryz.func111, Tryz.ntmps111
    go_wp2
    go_ret
    exact ⟨rfl, rfl⟩
def TPost (r : Option Int) (w : World) (e : Ending) (w' : World) : Prop := e = .returned (.tuple #[.int .i64 (evN r), .bool r.isSome]) ∧ Below w.heap.size w w'
theorem TPost.mk {r : Option Int} {x : Int} {b : Bool} {w w' : World} {e : Ending} (h : r = if b = true then some x else none) (hx : b = false → x = 0) (he : e = .returned (.tuple #[.int .i64 x, .bool b])) (hb : Below w.heap.size w w') : TPost r w e w' := by
  subst h he
  cases b with
  | true => exact ⟨rfl, hb⟩
  | false => rw [hx rfl]; exact ⟨rfl, hb⟩
theorem TPost.is {r : Option Int} {x : Int} {w w' : World} {e : Ending} (h : r = some x) (he : e = .returned (.tuple #[.int .i64 x, .bool true])) (hb : Below w.heap.size w w') : TPost r w e w' := by subst h he; exact ⟨rfl, hb⟩
theorem TPost.no {r : Option Int} {w w' : World} {e : Ending} (h : r = none) (he : e = .returned (.tuple #[.int .i64 0, .bool false])) (hb : Below w.heap.size w w') : TPost r w e w' := by subst h he; exact ⟨rfl, hb⟩
def ToldOK (n : Nat) : Prop := ∀ (g : Gn) (v : Value) (t : Tr) (A : Option Addr) (c m B : Nat) (w : World), EAt w (EBel B) n v g → TAt w (Bel B) m (vv t A c) t → B ≤ w.heap.size → formE g = true → t.size ≤ 1073741824 →
    Calls Tryz.prog 86 #[v, vv t A c] w (TPost (numE t g) w)
theorem topS_take (l : List Int) (k : Nat) (hk : k < l.length) : topS (l.take (k + 1)) none = some (match topS (l.take k) none with | none => l[k]'hk | some m => if m < l[k]'hk then l[k]'hk else m) := by
  rw [List.take_succ_eq_append_getElem hk]; exact topS_snoc _ _
theorem sumL_take (l : List Int) (k : Nat) (hk : k < l.length) : sumL (l.take (k + 1)) 0 = wrap64 (sumL (l.take k) 0 + l[k]'hk) := by
  rw [List.take_succ_eq_append_getElem hk, sumL_app]; rfl
theorem topS_some (l : List Int) (k : Nat) (h0 : 0 < k) (hk : k ≤ l.length) : ∃ m, topS (l.take k) none = some m := by
  obtain ⟨j, rfl⟩ : ∃ j, k = j + 1 := ⟨k - 1, by omega⟩
  exact ⟨_, topS_take l j (by omega)⟩
section
variable {n m c vcp B : Nat} {A VA : Option Addr} {t : Tr} {w : World}
set_option maxHeartbeats 1000000 in
set_option maxRecDepth 100000 in
theorem told_lit (a : Int) (l : Nat) (s : List Gn) (hv : TAt w (Bel B) m (vv t VA vcp) t) (hB : B ≤ w.heap.size) (hs : t.size ≤ 1073741824) :
    Calls Tryz.prog 86 #[.agg #[.int .i64 1, .int .i64 a, .slice A l c], vv t VA vcp] w (TPost (numE t (.node 1 a 0 s)) w) := by
  have H0 := ebel2 w (.cells #[.int .i64 1, .int .i64 a, .slice A l c] 27) (vc t VA vcp)
  have SC := Lib.hid (fun (W : World) (hb : Below ((w.alloc (.cells #[.int .i64 1, .int .i64 a, .slice A l c] 27)).alloc (vc t VA vcp)).heap.size ((w.alloc (.cells #[.int .i64 1, .int .i64 a, .slice A l c] 27)).alloc (vc t VA vcp)) W) => show W.cell? ⟨w.heap.size, 0, none⟩ = some (.int .i64 1) ∧ W.cell? ⟨w.heap.size, 1, none⟩ = some (.int .i64 a) ∧ W.cell? ⟨w.heap.size, 2, none⟩ = some (.slice A l c) ∧ W.cell? ⟨w.heap.size + 1, 0, none⟩ = some (.bool t.list) ∧ W.cell? ⟨w.heap.size + 1, 1, none⟩ = some (.int .i64 t.num) ∧ W.cell? ⟨w.heap.size + 1, 2, none⟩ = some (.slice VA t.items.length vcp) from by
    obtain ⟨z1, z2⟩ := ebox2 w (.int .i64 1) (.int .i64 a) (.slice A l c) (.bool t.list) (.int .i64 t.num) (.slice VA t.items.length vcp) W hb
    exact ⟨z1.1, z1.2.1, z1.2.2, z2.1, z2.2.1, z2.2.2⟩)
  have LV := Lib.hid (leaves_any m t (vv t VA vcp) B _ (hv.below (H0.mono hB)) (Nat.le_trans hB H0.size) hs)
  have H0 := Lib.hid H0
  have hln : t.items.length ≤ 1073741824 := by have := len_sizes t.items; have := size_items t; omega
  have EV := Lib.hid (show numE t (.node 1 a 0 s) = some (a) from numE_eq t _)
  have LL := Lib.hid (leaves_len t)
  have HS := Lib.hid hs
  clear hv hB hs
  go_enter Tryz.func86, Tryz.ntmps86
  go_wp2_with fail
  refine LV.out.mono ?_
  rintro e w1 ⟨LA, lc, rfl, lo, X1⟩
  obtain ⟨a0, a1, a2, a3, a4, a5⟩ := SC.out w1 X1
  have BX := Lib.hid (Rng.on H0.out X1)
  clear X1
  go_wp2_with fail
  go_ret2
  exact TPost.is EV.out rfl BX.out
set_option maxHeartbeats 1000000 in
set_option maxRecDepth 100000 in
theorem told_len (a : Int) (l : Nat) (s : List Gn) (hv : TAt w (Bel B) m (vv t VA vcp) t) (hB : B ≤ w.heap.size) (hs : t.size ≤ 1073741824) :
    Calls Tryz.prog 86 #[.agg #[.int .i64 4, .int .i64 a, .slice A l c], vv t VA vcp] w (TPost (numE t (.node 4 a 0 s)) w) := by
  have H0 := ebel2 w (.cells #[.int .i64 4, .int .i64 a, .slice A l c] 27) (vc t VA vcp)
  have SC := Lib.hid (fun (W : World) (hb : Below ((w.alloc (.cells #[.int .i64 4, .int .i64 a, .slice A l c] 27)).alloc (vc t VA vcp)).heap.size ((w.alloc (.cells #[.int .i64 4, .int .i64 a, .slice A l c] 27)).alloc (vc t VA vcp)) W) => show W.cell? ⟨w.heap.size, 0, none⟩ = some (.int .i64 4) ∧ W.cell? ⟨w.heap.size, 1, none⟩ = some (.int .i64 a) ∧ W.cell? ⟨w.heap.size, 2, none⟩ = some (.slice A l c) ∧ W.cell? ⟨w.heap.size + 1, 0, none⟩ = some (.bool t.list) ∧ W.cell? ⟨w.heap.size + 1, 1, none⟩ = some (.int .i64 t.num) ∧ W.cell? ⟨w.heap.size + 1, 2, none⟩ = some (.slice VA t.items.length vcp) from by
    obtain ⟨z1, z2⟩ := ebox2 w (.int .i64 4) (.int .i64 a) (.slice A l c) (.bool t.list) (.int .i64 t.num) (.slice VA t.items.length vcp) W hb
    exact ⟨z1.1, z1.2.1, z1.2.2, z2.1, z2.2.1, z2.2.2⟩)
  have LV := Lib.hid (leaves_any m t (vv t VA vcp) B _ (hv.below (H0.mono hB)) (Nat.le_trans hB H0.size) hs)
  have H0 := Lib.hid H0
  have hln : t.items.length ≤ 1073741824 := by have := len_sizes t.items; have := size_items t; omega
  have EV := Lib.hid (show numE t (.node 4 a 0 s) = some ((t.items.length : Int)) from numE_eq t _)
  have LL := Lib.hid (leaves_len t)
  have HS := Lib.hid hs
  clear hv hB hs
  go_enter Tryz.func86, Tryz.ntmps86
  go_wp2_with fail
  refine LV.out.mono ?_
  rintro e w1 ⟨LA, lc, rfl, lo, X1⟩
  obtain ⟨a0, a1, a2, a3, a4, a5⟩ := SC.out w1 X1
  have BX := Lib.hid (Rng.on H0.out X1)
  clear X1
  go_wp2_with fail
  go_ret2
  exact TPost.is EV.out rfl BX.out
set_option maxHeartbeats 1000000 in
set_option maxRecDepth 100000 in
theorem told_sum (a : Int) (l : Nat) (s : List Gn) (hv : TAt w (Bel B) m (vv t VA vcp) t) (hB : B ≤ w.heap.size) (hs : t.size ≤ 1073741824) :
    Calls Tryz.prog 86 #[.agg #[.int .i64 2, .int .i64 a, .slice A l c], vv t VA vcp] w (TPost (numE t (.node 2 a 0 s)) w) := by
  have H0 := ebel2 w (.cells #[.int .i64 2, .int .i64 a, .slice A l c] 27) (vc t VA vcp)
  have SC := Lib.hid (fun (W : World) (hb : Below ((w.alloc (.cells #[.int .i64 2, .int .i64 a, .slice A l c] 27)).alloc (vc t VA vcp)).heap.size ((w.alloc (.cells #[.int .i64 2, .int .i64 a, .slice A l c] 27)).alloc (vc t VA vcp)) W) => show W.cell? ⟨w.heap.size, 0, none⟩ = some (.int .i64 2) ∧ W.cell? ⟨w.heap.size, 1, none⟩ = some (.int .i64 a) ∧ W.cell? ⟨w.heap.size, 2, none⟩ = some (.slice A l c) ∧ W.cell? ⟨w.heap.size + 1, 0, none⟩ = some (.bool t.list) ∧ W.cell? ⟨w.heap.size + 1, 1, none⟩ = some (.int .i64 t.num) ∧ W.cell? ⟨w.heap.size + 1, 2, none⟩ = some (.slice VA t.items.length vcp) from by
    obtain ⟨z1, z2⟩ := ebox2 w (.int .i64 2) (.int .i64 a) (.slice A l c) (.bool t.list) (.int .i64 t.num) (.slice VA t.items.length vcp) W hb
    exact ⟨z1.1, z1.2.1, z1.2.2, z2.1, z2.2.1, z2.2.2⟩)
  have LV := Lib.hid (leaves_any m t (vv t VA vcp) B _ (hv.below (H0.mono hB)) (Nat.le_trans hB H0.size) hs)
  have H0 := Lib.hid H0
  have hln : t.items.length ≤ 1073741824 := by have := len_sizes t.items; have := size_items t; omega
  have EV := Lib.hid (show numE t (.node 2 a 0 s) = some (sumT t) from numE_eq t _)
  have LL := Lib.hid (leaves_len t)
  have HS := Lib.hid hs
  clear hv hB hs
  go_enter Tryz.func86, Tryz.ntmps86
  go_wp2_with fail
  refine LV.out.mono ?_
  rintro e w1 ⟨LA, lc, rfl, lo, X1⟩
  obtain ⟨a0, a1, a2, a3, a4, a5⟩ := SC.out w1 X1
  have BX := Lib.hid (Rng.on H0.out X1)
  have AT := Lib.hid (lo.at_)
  have CL := Lib.hid (fun (h : 0 < (leavesT t).length) => lo.at_ h)
  clear X1 lo a1 a2 a3 a4 a5
  have ST := Lib.hid (show sumT t = sumL (leavesT t) 0 from rfl)
  have TT := Lib.hid (show topT t = (topS (leavesT t) none).getD 0 from rfl)
  have LB := Lib.hid (show (leavesT t).length ≤ 1073741824 by have := LL.out; have := HS.out; omega)
  obtain ⟨z, hz⟩ : ∃ z, z = leavesT t := ⟨_, rfl⟩
  rw [← hz] at AT CL ST TT LB
  rw [← hz]
  clear hz LL
  have lb := LB.out
  go_wp2_with fail
  go_loopw [7, 8, 9] (fun s p i wr => ∃ k : Nat, k ≤ z.length ∧ i = .int .i64 k ∧ s = .int .i64 (sumL (z.take k) 0) ∧ p = .int .i64 ((topS (z.take k) none).getD 0) ∧ w1 = wr) (fun _ _ i _ => z.length - (intOf i).toNat)
  case atStart => exact ⟨0, Nat.zero_le _, rfl, rfl, rfl, rfl⟩
  case round =>
    obtain ⟨k, hk, rfl, rfl, rfl, rfl⟩ := hrel
    by_cases hlt : k < z.length
    · obtain ⟨lb', lof, rfl, _, hc⟩ := CL.out (by omega)
      have e0 : w1.cell? ⟨lb', lof + k, none⟩ = some (.int .i64 (z[k]'hlt)) := by
        have := hc k hlt
        simpa [List.getD, hlt] using this
      have SK := Lib.hid (sumL_take z k hlt)
      have TK := Lib.hid (topS_take z k hlt)
      have T0 := Lib.hid (fun h0 => topS_some z k h0 hk)
      clear hc
      generalize z[k]'hlt = y at SK TK e0
      generalize sumL (z.take k) 0 = s at *
      by_cases h0 : k = 0
      · have TK2 := Lib.hid (show topS (z.take (k + 1)) none = some y by rw [TK.out, show topS (z.take k) none = none by rw [h0]; rfl])
        have hk0 : ((k : Int) == 0) = true := by rw [beq_iff_eq]; omega
        clear h0 T0 TK
        go_wp2_with fail
        go_roundw
        case rel => exact ⟨k + 1, by omega, by go_num, by rw [SK.out], by rw [TK2.out]; rfl, trivial⟩
        case measure => simp [intOf]; omega
      · obtain ⟨p, hp⟩ := T0.out (by omega)
        have hk0 : ((k : Int) == 0) = false := by rw [beq_eq_false_iff_ne]; omega
        have TK2 := Lib.hid (show topS (z.take (k + 1)) none = some (if p < y then y else p) by rw [TK.out, hp])
        rw [hp]
        simp only [Option.getD_some]
        clear hp TK T0
        by_cases hy : p < y
        · have g := decide_eq_true hy
          have TK3 := Lib.hid (show topS (z.take (k + 1)) none = some y by rw [TK2.out, if_pos hy])
          clear hy TK2
          go_wp2_with fail
          go_roundw
          case rel => exact ⟨k + 1, by omega, by go_num, by rw [SK.out], by rw [TK3.out]; rfl, trivial⟩
          case measure => simp [intOf]; omega
        · have g := decide_eq_false hy
          have TK3 := Lib.hid (show topS (z.take (k + 1)) none = some p by rw [TK2.out, if_neg hy])
          clear hy TK2
          go_wp2_with fail
          go_roundw
          case rel => exact ⟨k + 1, by omega, by go_num, by rw [SK.out], by rw [TK3.out]; rfl, trivial⟩
          case measure => simp [intOf]; omega
    · have EZ := Lib.hid (show z.take k = z from List.take_of_length_le (by omega))
      rw [EZ.out]
      go_wp2_with fail
      go_ret2
      exact TPost.is (EV.out.trans (by rw [ST.out])) rfl BX.out
set_option maxHeartbeats 1000000 in
set_option maxRecDepth 100000 in
theorem told_top (a : Int) (l : Nat) (s : List Gn) (hv : TAt w (Bel B) m (vv t VA vcp) t) (hB : B ≤ w.heap.size) (hs : t.size ≤ 1073741824) :
    Calls Tryz.prog 86 #[.agg #[.int .i64 3, .int .i64 a, .slice A l c], vv t VA vcp] w (TPost (numE t (.node 3 a 0 s)) w) := by
  have H0 := ebel2 w (.cells #[.int .i64 3, .int .i64 a, .slice A l c] 27) (vc t VA vcp)
  have SC := Lib.hid (fun (W : World) (hb : Below ((w.alloc (.cells #[.int .i64 3, .int .i64 a, .slice A l c] 27)).alloc (vc t VA vcp)).heap.size ((w.alloc (.cells #[.int .i64 3, .int .i64 a, .slice A l c] 27)).alloc (vc t VA vcp)) W) => show W.cell? ⟨w.heap.size, 0, none⟩ = some (.int .i64 3) ∧ W.cell? ⟨w.heap.size, 1, none⟩ = some (.int .i64 a) ∧ W.cell? ⟨w.heap.size, 2, none⟩ = some (.slice A l c) ∧ W.cell? ⟨w.heap.size + 1, 0, none⟩ = some (.bool t.list) ∧ W.cell? ⟨w.heap.size + 1, 1, none⟩ = some (.int .i64 t.num) ∧ W.cell? ⟨w.heap.size + 1, 2, none⟩ = some (.slice VA t.items.length vcp) from by
    obtain ⟨z1, z2⟩ := ebox2 w (.int .i64 3) (.int .i64 a) (.slice A l c) (.bool t.list) (.int .i64 t.num) (.slice VA t.items.length vcp) W hb
    exact ⟨z1.1, z1.2.1, z1.2.2, z2.1, z2.2.1, z2.2.2⟩)
  have LV := Lib.hid (leaves_any m t (vv t VA vcp) B _ (hv.below (H0.mono hB)) (Nat.le_trans hB H0.size) hs)
  have H0 := Lib.hid H0
  have hln : t.items.length ≤ 1073741824 := by have := len_sizes t.items; have := size_items t; omega
  have EV := Lib.hid (show numE t (.node 3 a 0 s) = some (topT t) from numE_eq t _)
  have LL := Lib.hid (leaves_len t)
  have HS := Lib.hid hs
  clear hv hB hs
  go_enter Tryz.func86, Tryz.ntmps86
  go_wp2_with fail
  refine LV.out.mono ?_
  rintro e w1 ⟨LA, lc, rfl, lo, X1⟩
  obtain ⟨a0, a1, a2, a3, a4, a5⟩ := SC.out w1 X1
  have BX := Lib.hid (Rng.on H0.out X1)
  have AT := Lib.hid (lo.at_)
  have CL := Lib.hid (fun (h : 0 < (leavesT t).length) => lo.at_ h)
  clear X1 lo a1 a2 a3 a4 a5
  have ST := Lib.hid (show sumT t = sumL (leavesT t) 0 from rfl)
  have TT := Lib.hid (show topT t = (topS (leavesT t) none).getD 0 from rfl)
  have LB := Lib.hid (show (leavesT t).length ≤ 1073741824 by have := LL.out; have := HS.out; omega)
  obtain ⟨z, hz⟩ : ∃ z, z = leavesT t := ⟨_, rfl⟩
  rw [← hz] at AT CL ST TT LB
  rw [← hz]
  clear hz LL
  have lb := LB.out
  go_wp2_with fail
  go_loopw [7, 8, 9] (fun s p i wr => ∃ k : Nat, k ≤ z.length ∧ i = .int .i64 k ∧ s = .int .i64 (sumL (z.take k) 0) ∧ p = .int .i64 ((topS (z.take k) none).getD 0) ∧ w1 = wr) (fun _ _ i _ => z.length - (intOf i).toNat)
  case atStart => exact ⟨0, Nat.zero_le _, rfl, rfl, rfl, rfl⟩
  case round =>
    obtain ⟨k, hk, rfl, rfl, rfl, rfl⟩ := hrel
    by_cases hlt : k < z.length
    · obtain ⟨lb', lof, rfl, _, hc⟩ := CL.out (by omega)
      have e0 : w1.cell? ⟨lb', lof + k, none⟩ = some (.int .i64 (z[k]'hlt)) := by
        have := hc k hlt
        simpa [List.getD, hlt] using this
      have SK := Lib.hid (sumL_take z k hlt)
      have TK := Lib.hid (topS_take z k hlt)
      have T0 := Lib.hid (fun h0 => topS_some z k h0 hk)
      clear hc
      generalize z[k]'hlt = y at SK TK e0
      generalize sumL (z.take k) 0 = s at *
      by_cases h0 : k = 0
      · have TK2 := Lib.hid (show topS (z.take (k + 1)) none = some y by rw [TK.out, show topS (z.take k) none = none by rw [h0]; rfl])
        have hk0 : ((k : Int) == 0) = true := by rw [beq_iff_eq]; omega
        clear h0 T0 TK
        go_wp2_with fail
        go_roundw
        case rel => exact ⟨k + 1, by omega, by go_num, by rw [SK.out], by rw [TK2.out]; rfl, trivial⟩
        case measure => simp [intOf]; omega
      · obtain ⟨p, hp⟩ := T0.out (by omega)
        have hk0 : ((k : Int) == 0) = false := by rw [beq_eq_false_iff_ne]; omega
        have TK2 := Lib.hid (show topS (z.take (k + 1)) none = some (if p < y then y else p) by rw [TK.out, hp])
        rw [hp]
        simp only [Option.getD_some]
        clear hp TK T0
        by_cases hy : p < y
        · have g := decide_eq_true hy
          have TK3 := Lib.hid (show topS (z.take (k + 1)) none = some y by rw [TK2.out, if_pos hy])
          clear hy TK2
          go_wp2_with fail
          go_roundw
          case rel => exact ⟨k + 1, by omega, by go_num, by rw [SK.out], by rw [TK3.out]; rfl, trivial⟩
          case measure => simp [intOf]; omega
        · have g := decide_eq_false hy
          have TK3 := Lib.hid (show topS (z.take (k + 1)) none = some p by rw [TK2.out, if_neg hy])
          clear hy TK2
          go_wp2_with fail
          go_roundw
          case rel => exact ⟨k + 1, by omega, by go_num, by rw [SK.out], by rw [TK3.out]; rfl, trivial⟩
          case measure => simp [intOf]; omega
    · have EZ := Lib.hid (show z.take k = z from List.take_of_length_le (by omega))
      rw [EZ.out]
      go_wp2_with fail
      go_ret2
      exact TPost.is (EV.out.trans (by rw [TT.out])) rfl BX.out
set_option maxHeartbeats 4000000 in
set_option maxRecDepth 100000 in
theorem told_not (ih : ToldOK n) (a : Int) (x : Gn) (hit : 0 < [x].length → ∃ b off, A = some ⟨b, off, none⟩ ∧ EBel B b ∧ ∀ j (h : j < [x].length), ∃ x0 x1 x2, w.cell? ⟨b, off + j * 3, none⟩ = some x0 ∧ w.cell? ⟨b, off + j * 3 + 1, none⟩ = some x1 ∧ w.cell? ⟨b, off + j * 3 + 2, none⟩ = some x2 ∧ EAt w (EBel B) n (.agg #[x0, x1, x2]) ([x][j]'h))
    (hv : TAt w (Bel B) m (vv t VA vcp) t) (hB : B ≤ w.heap.size) (hf : formE x = true) (hs : t.size ≤ 1073741824) :
    Calls Tryz.prog 86 #[.agg #[.int .i64 9, .int .i64 a, .slice A 1 c], vv t VA vcp] w (TPost (numE t (.node 9 a 0 [x])) w) := by
  obtain ⟨b, off, D, d, rfl, c0, c1, c2, hti⟩ := esub_as hit (Below.refl B w) 0 (by simp)
  simp only [Nat.zero_mul, Nat.add_zero, List.getElem_cons_zero] at c0 c1 c2 hti
  have IH1 := Lib.hid (fun (W1 : World) (hb : Below w.heap.size w W1) => ih x (ev x D d) t VA vcp m B W1 (hti.below (hb.mono hB)) (hv.below (hb.mono hB)) (Nat.le_trans hB hb.size) hf hs)
  have H0 := ebel2 w (.cells #[.int .i64 9, .int .i64 a, .slice (some ⟨b, off, none⟩) 1 c] 27) (vc t VA vcp)
  have SC := Lib.hid (fun (W : World) (hb : Below ((w.alloc (.cells #[.int .i64 9, .int .i64 a, .slice (some ⟨b, off, none⟩) 1 c] 27)).alloc (vc t VA vcp)).heap.size ((w.alloc (.cells #[.int .i64 9, .int .i64 a, .slice (some ⟨b, off, none⟩) 1 c] 27)).alloc (vc t VA vcp)) W) => show W.cell? ⟨w.heap.size, 0, none⟩ = some (.int .i64 9) ∧ W.cell? ⟨w.heap.size, 1, none⟩ = some (.int .i64 a) ∧ W.cell? ⟨w.heap.size, 2, none⟩ = some (.slice (some ⟨b, off, none⟩) 1 c) ∧ W.cell? ⟨w.heap.size + 1, 0, none⟩ = some (.bool t.list) ∧ W.cell? ⟨w.heap.size + 1, 1, none⟩ = some (.int .i64 t.num) ∧ W.cell? ⟨w.heap.size + 1, 2, none⟩ = some (.slice VA t.items.length vcp) ∧ W.cell? ⟨b, off, none⟩ = some (.int .i64 x.kind) ∧ W.cell? ⟨b, off + 1, none⟩ = some (.int .i64 x.a) ∧ W.cell? ⟨b, off + 2, none⟩ = some (.slice D x.subs.length d) from by
    obtain ⟨z1, z2⟩ := ebox2 w (.int .i64 9) (.int .i64 a) (.slice (some ⟨b, off, none⟩) 1 c) (.bool t.list) (.int .i64 t.num) (.slice VA t.items.length vcp) W hb
    exact ⟨z1.1, z1.2.1, z1.2.2, z2.1, z2.2.1, z2.2.2, cell_later (H0.trans (hb.mono H0.size)) c0, cell_later (H0.trans (hb.mono H0.size)) c1, cell_later (H0.trans (hb.mono H0.size)) c2⟩)
  have LV := Lib.hid (leaves_any m t (vv t VA vcp) B _ (hv.below (H0.mono hB)) (Nat.le_trans hB H0.size) hs)
  have H0 := Lib.hid H0
  have hln : t.items.length ≤ 1073741824 := by have := len_sizes t.items; have := size_items t; omega
  have EQ := Lib.hid (show numE t (.node 9 a 0 [x]) = (match numE t x with | none => none | some y => some (one (decide (y = 0)))) by rw [numE_eq]; rfl)
  have ON := Lib.hid one_any
  clear ih hit hv hB hf hs hti c0 c1 c2
  generalize hr : numE t x = r at *
  clear hr
  go_enter Tryz.func86, Tryz.ntmps86
  go_wp2_with fail
  refine LV.out.mono ?_
  rintro e w1 ⟨LA, lc, rfl, lo, X1⟩
  obtain ⟨a0, a1, a2, a3, a4, a5, a6, a7, a8⟩ := SC.out w1 X1
  go_wp2_with fail
  generalize (w.alloc (.cells #[.int .i64 9, .int .i64 a, .slice (some ⟨b, off, none⟩) 1 c] 27)).alloc (vc t VA vcp) = W0 at *
  cases r with
  | none =>
    have IH1 := Lib.hid (show ∀ (W1 : World) (hb : Below w.heap.size w W1), Calls Tryz.prog 86 #[ev x D d, vv t VA vcp] W1 (fun e w' => e = .returned (.tuple #[.int .i64 0, .bool false]) ∧ Below W1.heap.size W1 w') from IH1.out)
    clear a0 a1 a2 a3 a4 a5 a6 a7 a8
    have XC : Below W0.heap.size W0 w1.drew := ebel_drew X1
    go_region_held2 (fun w' => w'.cell? ⟨w.heap.size, 0, none⟩ = some (.int .i64 9) ∧ w'.cell? ⟨w.heap.size, 1, none⟩ = some (.int .i64 a) ∧ w'.cell? ⟨w.heap.size, 2, none⟩ = some (.slice (some ⟨b, off, none⟩) 1 c) ∧ w'.cell? ⟨w.heap.size + 1, 0, none⟩ = some (.bool t.list) ∧ w'.cell? ⟨w.heap.size + 1, 1, none⟩ = some (.int .i64 t.num) ∧ w'.cell? ⟨w.heap.size + 1, 2, none⟩ = some (.slice VA t.items.length vcp) ∧ w'.cell? ⟨b, off, none⟩ = some (.int .i64 x.kind) ∧ w'.cell? ⟨b, off + 1, none⟩ = some (.int .i64 x.a) ∧ w'.cell? ⟨b, off + 2, none⟩ = some (.slice D x.subs.length d)) (first | exact SC.out _ (by assumption) | go_keep) (first
      | (with_reducible refine (IH1.out _ (Rng.on H0.out XC)).mono ?_
         rintro e w2 ⟨rfl, bb⟩
         have X2 := Rng.on XC bb
         clear bb XC
         have XC := X2))
    clear XC
    obtain ⟨a0, a1, a2, a3, a4, a5, a6, a7, a8⟩ := SC.out w2 X2
    have BX := Lib.hid (Rng.on H0.out X2)
    clear X2
    go_wp2_with fail
    refine (ON.out _ _).mono ?_
    rintro e w3 ⟨rfl, rfl⟩
    go_wp2_with fail
    go_ret2
    exact TPost.no EQ.out rfl BX.out
  | some x1 =>
    have IH1 := Lib.hid (show ∀ (W1 : World) (hb : Below w.heap.size w W1), Calls Tryz.prog 86 #[ev x D d, vv t VA vcp] W1 (fun e w' => e = .returned (.tuple #[.int .i64 x1, .bool true]) ∧ Below W1.heap.size W1 w') from IH1.out)
    clear a0 a1 a2 a3 a4 a5 a6 a7 a8
    have XC : Below W0.heap.size W0 w1.drew := ebel_drew X1
    go_region_held2 (fun w' => w'.cell? ⟨w.heap.size, 0, none⟩ = some (.int .i64 9) ∧ w'.cell? ⟨w.heap.size, 1, none⟩ = some (.int .i64 a) ∧ w'.cell? ⟨w.heap.size, 2, none⟩ = some (.slice (some ⟨b, off, none⟩) 1 c) ∧ w'.cell? ⟨w.heap.size + 1, 0, none⟩ = some (.bool t.list) ∧ w'.cell? ⟨w.heap.size + 1, 1, none⟩ = some (.int .i64 t.num) ∧ w'.cell? ⟨w.heap.size + 1, 2, none⟩ = some (.slice VA t.items.length vcp) ∧ w'.cell? ⟨b, off, none⟩ = some (.int .i64 x.kind) ∧ w'.cell? ⟨b, off + 1, none⟩ = some (.int .i64 x.a) ∧ w'.cell? ⟨b, off + 2, none⟩ = some (.slice D x.subs.length d)) (first | exact SC.out _ (by assumption) | go_keep) (first
      | (with_reducible refine (IH1.out _ (Rng.on H0.out XC)).mono ?_
         rintro e w2 ⟨rfl, bb⟩
         have X2 := Rng.on XC bb
         clear bb XC
         have XC := X2))
    clear XC
    obtain ⟨a0, a1, a2, a3, a4, a5, a6, a7, a8⟩ := SC.out w2 X2
    have BX := Lib.hid (Rng.on H0.out X2)
    clear X2
    go_wp2_with fail
    refine (ON.out _ _).mono ?_
    rintro e w3 ⟨rfl, rfl⟩
    go_wp2_with fail
    go_ret2
    exact TPost.is (x := one (x1 == 0)) (by rw [EQ.out]; show some (one (decide (x1 = 0))) = some (one (x1 == 0)); congr 2) rfl BX.out
set_option maxHeartbeats 4000000 in
set_option maxRecDepth 100000 in
theorem told_add (ih : ToldOK n) (a : Int) (x : Gn) (y : Gn) (hit : 0 < [x, y].length → ∃ b off, A = some ⟨b, off, none⟩ ∧ EBel B b ∧ ∀ j (h : j < [x, y].length), ∃ x0 x1 x2, w.cell? ⟨b, off + j * 3, none⟩ = some x0 ∧ w.cell? ⟨b, off + j * 3 + 1, none⟩ = some x1 ∧ w.cell? ⟨b, off + j * 3 + 2, none⟩ = some x2 ∧ EAt w (EBel B) n (.agg #[x0, x1, x2]) ([x, y][j]'h))
    (hv : TAt w (Bel B) m (vv t VA vcp) t) (hB : B ≤ w.heap.size) (hf : formE x = true) (hf2 : formE y = true) (hs : t.size ≤ 1073741824) :
    Calls Tryz.prog 86 #[.agg #[.int .i64 5, .int .i64 a, .slice A 2 c], vv t VA vcp] w (TPost (numE t (.node 5 a 0 [x, y])) w) := by
  obtain ⟨b, off, D, d, rfl, c0, c1, c2, hti⟩ := esub_as hit (Below.refl B w) 0 (by simp)
  obtain ⟨b', off', D2, d2, hbb, q0, q1, q2, htj⟩ := esub_as hit (Below.refl B w) 1 (by simp)
  obtain ⟨rfl, rfl⟩ : b = b' ∧ off = off' := by simpa using hbb
  clear hbb
  simp only [Nat.zero_mul, Nat.one_mul, Nat.add_zero, List.getElem_cons_zero, List.getElem_cons_succ] at c0 c1 c2 hti q0 q1 q2 htj
  have IH1 := Lib.hid (fun (W1 : World) (hb : Below w.heap.size w W1) => ih x (ev x D d) t VA vcp m B W1 (hti.below (hb.mono hB)) (hv.below (hb.mono hB)) (Nat.le_trans hB hb.size) hf hs)
  have IH2 := Lib.hid (fun (W1 : World) (hb : Below w.heap.size w W1) => ih y (ev y D2 d2) t VA vcp m B W1 (htj.below (hb.mono hB)) (hv.below (hb.mono hB)) (Nat.le_trans hB hb.size) hf2 hs)
  have H0 := ebel2 w (.cells #[.int .i64 5, .int .i64 a, .slice (some ⟨b, off, none⟩) 2 c] 27) (vc t VA vcp)
  have SC := Lib.hid (fun (W : World) (hb : Below ((w.alloc (.cells #[.int .i64 5, .int .i64 a, .slice (some ⟨b, off, none⟩) 2 c] 27)).alloc (vc t VA vcp)).heap.size ((w.alloc (.cells #[.int .i64 5, .int .i64 a, .slice (some ⟨b, off, none⟩) 2 c] 27)).alloc (vc t VA vcp)) W) => show W.cell? ⟨w.heap.size, 0, none⟩ = some (.int .i64 5) ∧ W.cell? ⟨w.heap.size, 1, none⟩ = some (.int .i64 a) ∧ W.cell? ⟨w.heap.size, 2, none⟩ = some (.slice (some ⟨b, off, none⟩) 2 c) ∧ W.cell? ⟨w.heap.size + 1, 0, none⟩ = some (.bool t.list) ∧ W.cell? ⟨w.heap.size + 1, 1, none⟩ = some (.int .i64 t.num) ∧ W.cell? ⟨w.heap.size + 1, 2, none⟩ = some (.slice VA t.items.length vcp) ∧ W.cell? ⟨b, off, none⟩ = some (.int .i64 x.kind) ∧ W.cell? ⟨b, off + 1, none⟩ = some (.int .i64 x.a) ∧ W.cell? ⟨b, off + 2, none⟩ = some (.slice D x.subs.length d) ∧ W.cell? ⟨b, off + 3, none⟩ = some (.int .i64 y.kind) ∧ W.cell? ⟨b, off + 3 + 1, none⟩ = some (.int .i64 y.a) ∧ W.cell? ⟨b, off + 3 + 2, none⟩ = some (.slice D2 y.subs.length d2) from by
    obtain ⟨z1, z2⟩ := ebox2 w (.int .i64 5) (.int .i64 a) (.slice (some ⟨b, off, none⟩) 2 c) (.bool t.list) (.int .i64 t.num) (.slice VA t.items.length vcp) W hb
    exact ⟨z1.1, z1.2.1, z1.2.2, z2.1, z2.2.1, z2.2.2, cell_later (H0.trans (hb.mono H0.size)) c0, cell_later (H0.trans (hb.mono H0.size)) c1, cell_later (H0.trans (hb.mono H0.size)) c2, cell_later (H0.trans (hb.mono H0.size)) q0, cell_later (H0.trans (hb.mono H0.size)) q1, cell_later (H0.trans (hb.mono H0.size)) q2⟩)
  have LV := Lib.hid (leaves_any m t (vv t VA vcp) B _ (hv.below (H0.mono hB)) (Nat.le_trans hB H0.size) hs)
  have H0 := Lib.hid H0
  have hln : t.items.length ≤ 1073741824 := by have := len_sizes t.items; have := size_items t; omega
  have EQ := Lib.hid (show numE t (.node 5 a 0 [x, y]) = (match numE t x with | none => none | some x1 => if (5 : Int) = 10 ∧ x1 = 0 then some x1 else if (5 : Int) = 11 ∧ ¬ x1 = 0 then some x1 else match numE t y with | none => none | some y1 => bin 5 x1 y1) by rw [numE_eq]; show comb 5 a t [numE t x, numE t y] = _; exact comb_two 5 a t _ _ (by omega) (by omega))
  have ON := Lib.hid one_any
  clear ih hit hv hB hf hf2 hs hti htj c0 c1 c2 q0 q1 q2
  generalize hr : numE t x = r at *
  clear hr
  go_enter Tryz.func86, Tryz.ntmps86
  go_wp2_with fail
  refine LV.out.mono ?_
  rintro e w1 ⟨LA, lc, rfl, lo, X1⟩
  obtain ⟨a0, a1, a2, a3, a4, a5, a6, a7, a8, a9, a10, a11⟩ := SC.out w1 X1
  go_wp2_with fail
  generalize (w.alloc (.cells #[.int .i64 5, .int .i64 a, .slice (some ⟨b, off, none⟩) 2 c] 27)).alloc (vc t VA vcp) = W0 at *
  cases r with
  | none =>
    have IH1 := Lib.hid (show ∀ (W1 : World) (hb : Below w.heap.size w W1), Calls Tryz.prog 86 #[ev x D d, vv t VA vcp] W1 (fun e w' => e = .returned (.tuple #[.int .i64 0, .bool false]) ∧ Below W1.heap.size W1 w') from IH1.out)
    clear a0 a1 a2 a3 a4 a5 a6 a7 a8 a9 a10 a11
    have XC : Below W0.heap.size W0 w1.drew := ebel_drew X1
    go_region_held2 (fun w' => w'.cell? ⟨w.heap.size, 0, none⟩ = some (.int .i64 5) ∧ w'.cell? ⟨w.heap.size, 1, none⟩ = some (.int .i64 a) ∧ w'.cell? ⟨w.heap.size, 2, none⟩ = some (.slice (some ⟨b, off, none⟩) 2 c) ∧ w'.cell? ⟨w.heap.size + 1, 0, none⟩ = some (.bool t.list) ∧ w'.cell? ⟨w.heap.size + 1, 1, none⟩ = some (.int .i64 t.num) ∧ w'.cell? ⟨w.heap.size + 1, 2, none⟩ = some (.slice VA t.items.length vcp) ∧ w'.cell? ⟨b, off, none⟩ = some (.int .i64 x.kind) ∧ w'.cell? ⟨b, off + 1, none⟩ = some (.int .i64 x.a) ∧ w'.cell? ⟨b, off + 2, none⟩ = some (.slice D x.subs.length d) ∧ w'.cell? ⟨b, off + 3, none⟩ = some (.int .i64 y.kind) ∧ w'.cell? ⟨b, off + 3 + 1, none⟩ = some (.int .i64 y.a) ∧ w'.cell? ⟨b, off + 3 + 2, none⟩ = some (.slice D2 y.subs.length d2)) (first | exact SC.out _ (by assumption) | go_keep) (first
      | (with_reducible refine (IH1.out _ (Rng.on H0.out XC)).mono ?_
         rintro e w2 ⟨rfl, bb⟩
         have X2 := Rng.on XC bb
         clear bb XC
         have XC := X2))
    clear XC
    obtain ⟨a0, a1, a2, a3, a4, a5, a6, a7, a8, a9, a10, a11⟩ := SC.out w2 X2
    have BX := Lib.hid (Rng.on H0.out X2)
    clear X2
    go_wp2_with fail
    refine (ON.out _ _).mono ?_
    rintro e w3 ⟨rfl, rfl⟩
    go_wp2_with fail
    go_ret2
    exact TPost.no EQ.out rfl BX.out
  | some x1 =>
    have IH1 := Lib.hid (show ∀ (W1 : World) (hb : Below w.heap.size w W1), Calls Tryz.prog 86 #[ev x D d, vv t VA vcp] W1 (fun e w' => e = .returned (.tuple #[.int .i64 x1, .bool true]) ∧ Below W1.heap.size W1 w') from IH1.out)
    clear a0 a1 a2 a3 a4 a5 a6 a7 a8 a9 a10 a11
    have XC : Below W0.heap.size W0 w1.drew := ebel_drew X1
    go_region_held2 (fun w' => w'.cell? ⟨w.heap.size, 0, none⟩ = some (.int .i64 5) ∧ w'.cell? ⟨w.heap.size, 1, none⟩ = some (.int .i64 a) ∧ w'.cell? ⟨w.heap.size, 2, none⟩ = some (.slice (some ⟨b, off, none⟩) 2 c) ∧ w'.cell? ⟨w.heap.size + 1, 0, none⟩ = some (.bool t.list) ∧ w'.cell? ⟨w.heap.size + 1, 1, none⟩ = some (.int .i64 t.num) ∧ w'.cell? ⟨w.heap.size + 1, 2, none⟩ = some (.slice VA t.items.length vcp) ∧ w'.cell? ⟨b, off, none⟩ = some (.int .i64 x.kind) ∧ w'.cell? ⟨b, off + 1, none⟩ = some (.int .i64 x.a) ∧ w'.cell? ⟨b, off + 2, none⟩ = some (.slice D x.subs.length d) ∧ w'.cell? ⟨b, off + 3, none⟩ = some (.int .i64 y.kind) ∧ w'.cell? ⟨b, off + 3 + 1, none⟩ = some (.int .i64 y.a) ∧ w'.cell? ⟨b, off + 3 + 2, none⟩ = some (.slice D2 y.subs.length d2)) (first | exact SC.out _ (by assumption) | go_keep) (first
      | (with_reducible refine (IH1.out _ (Rng.on H0.out XC)).mono ?_
         rintro e w2 ⟨rfl, bb⟩
         have X2 := Rng.on XC bb
         clear bb XC
         have XC := X2))
    clear XC
    obtain ⟨a0, a1, a2, a3, a4, a5, a6, a7, a8, a9, a10, a11⟩ := SC.out w2 X2
    have EQ2 := Lib.hid (show numE t (.node 5 a 0 [x, y]) = (match numE t y with | none => none | some y1 => bin 5 x1 y1) by rw [EQ.out]; simp)
    go_wp2_with fail
    generalize hr2 : numE t y = r2 at *
    clear hr2
    cases r2 with
    | none =>
      have IH2 := Lib.hid (show ∀ (W1 : World) (hb : Below w.heap.size w W1), Calls Tryz.prog 86 #[ev y D2 d2, vv t VA vcp] W1 (fun e w' => e = .returned (.tuple #[.int .i64 0, .bool false]) ∧ Below W1.heap.size W1 w') from IH2.out)
      clear a0 a1 a2 a3 a4 a5 a6 a7 a8 a9 a10 a11
      have XC : Below W0.heap.size W0 w2.drew := ebel_drew X2
      go_region_held2 (fun w' => w'.cell? ⟨w.heap.size, 0, none⟩ = some (.int .i64 5) ∧ w'.cell? ⟨w.heap.size, 1, none⟩ = some (.int .i64 a) ∧ w'.cell? ⟨w.heap.size, 2, none⟩ = some (.slice (some ⟨b, off, none⟩) 2 c) ∧ w'.cell? ⟨w.heap.size + 1, 0, none⟩ = some (.bool t.list) ∧ w'.cell? ⟨w.heap.size + 1, 1, none⟩ = some (.int .i64 t.num) ∧ w'.cell? ⟨w.heap.size + 1, 2, none⟩ = some (.slice VA t.items.length vcp) ∧ w'.cell? ⟨b, off, none⟩ = some (.int .i64 x.kind) ∧ w'.cell? ⟨b, off + 1, none⟩ = some (.int .i64 x.a) ∧ w'.cell? ⟨b, off + 2, none⟩ = some (.slice D x.subs.length d) ∧ w'.cell? ⟨b, off + 3, none⟩ = some (.int .i64 y.kind) ∧ w'.cell? ⟨b, off + 3 + 1, none⟩ = some (.int .i64 y.a) ∧ w'.cell? ⟨b, off + 3 + 2, none⟩ = some (.slice D2 y.subs.length d2)) (first | exact SC.out _ (by assumption) | go_keep) (first
        | (with_reducible refine (IH2.out _ (Rng.on H0.out XC)).mono ?_
           rintro e w3 ⟨rfl, bb⟩
           have X3 := Rng.on XC bb
           clear bb XC
           have XC := X3))
      clear XC
      obtain ⟨a0, a1, a2, a3, a4, a5, a6, a7, a8, a9, a10, a11⟩ := SC.out w3 X3
      have BX := Lib.hid (Rng.on H0.out X3)
      clear X3
      go_wp2_with fail
      go_ret2
      exact TPost.no EQ2.out rfl BX.out
    | some y1 =>
      have IH2 := Lib.hid (show ∀ (W1 : World) (hb : Below w.heap.size w W1), Calls Tryz.prog 86 #[ev y D2 d2, vv t VA vcp] W1 (fun e w' => e = .returned (.tuple #[.int .i64 y1, .bool true]) ∧ Below W1.heap.size W1 w') from IH2.out)
      clear a0 a1 a2 a3 a4 a5 a6 a7 a8 a9 a10 a11
      have XC : Below W0.heap.size W0 w2.drew := ebel_drew X2
      go_region_held2 (fun w' => w'.cell? ⟨w.heap.size, 0, none⟩ = some (.int .i64 5) ∧ w'.cell? ⟨w.heap.size, 1, none⟩ = some (.int .i64 a) ∧ w'.cell? ⟨w.heap.size, 2, none⟩ = some (.slice (some ⟨b, off, none⟩) 2 c) ∧ w'.cell? ⟨w.heap.size + 1, 0, none⟩ = some (.bool t.list) ∧ w'.cell? ⟨w.heap.size + 1, 1, none⟩ = some (.int .i64 t.num) ∧ w'.cell? ⟨w.heap.size + 1, 2, none⟩ = some (.slice VA t.items.length vcp) ∧ w'.cell? ⟨b, off, none⟩ = some (.int .i64 x.kind) ∧ w'.cell? ⟨b, off + 1, none⟩ = some (.int .i64 x.a) ∧ w'.cell? ⟨b, off + 2, none⟩ = some (.slice D x.subs.length d) ∧ w'.cell? ⟨b, off + 3, none⟩ = some (.int .i64 y.kind) ∧ w'.cell? ⟨b, off + 3 + 1, none⟩ = some (.int .i64 y.a) ∧ w'.cell? ⟨b, off + 3 + 2, none⟩ = some (.slice D2 y.subs.length d2)) (first | exact SC.out _ (by assumption) | go_keep) (first
        | (with_reducible refine (IH2.out _ (Rng.on H0.out XC)).mono ?_
           rintro e w3 ⟨rfl, bb⟩
           have X3 := Rng.on XC bb
           clear bb XC
           have XC := X3))
      clear XC
      obtain ⟨a0, a1, a2, a3, a4, a5, a6, a7, a8, a9, a10, a11⟩ := SC.out w3 X3
      have EQ3 := Lib.hid (show numE t (.node 5 a 0 [x, y]) = bin 5 x1 y1 from EQ2.out)
      have BX := Lib.hid (Rng.on H0.out X3)
      clear X3
      go_wp2_with fail
      go_ret2
      exact TPost.is EQ3.out rfl BX.out
set_option maxHeartbeats 4000000 in
set_option maxRecDepth 100000 in
theorem told_rem (ih : ToldOK n) (a : Int) (x : Gn) (y : Gn) (hit : 0 < [x, y].length → ∃ b off, A = some ⟨b, off, none⟩ ∧ EBel B b ∧ ∀ j (h : j < [x, y].length), ∃ x0 x1 x2, w.cell? ⟨b, off + j * 3, none⟩ = some x0 ∧ w.cell? ⟨b, off + j * 3 + 1, none⟩ = some x1 ∧ w.cell? ⟨b, off + j * 3 + 2, none⟩ = some x2 ∧ EAt w (EBel B) n (.agg #[x0, x1, x2]) ([x, y][j]'h))
    (hv : TAt w (Bel B) m (vv t VA vcp) t) (hB : B ≤ w.heap.size) (hf : formE x = true) (hf2 : formE y = true) (hs : t.size ≤ 1073741824) :
    Calls Tryz.prog 86 #[.agg #[.int .i64 6, .int .i64 a, .slice A 2 c], vv t VA vcp] w (TPost (numE t (.node 6 a 0 [x, y])) w) := by
  obtain ⟨b, off, D, d, rfl, c0, c1, c2, hti⟩ := esub_as hit (Below.refl B w) 0 (by simp)
  obtain ⟨b', off', D2, d2, hbb, q0, q1, q2, htj⟩ := esub_as hit (Below.refl B w) 1 (by simp)
  obtain ⟨rfl, rfl⟩ : b = b' ∧ off = off' := by simpa using hbb
  clear hbb
  simp only [Nat.zero_mul, Nat.one_mul, Nat.add_zero, List.getElem_cons_zero, List.getElem_cons_succ] at c0 c1 c2 hti q0 q1 q2 htj
  have IH1 := Lib.hid (fun (W1 : World) (hb : Below w.heap.size w W1) => ih x (ev x D d) t VA vcp m B W1 (hti.below (hb.mono hB)) (hv.below (hb.mono hB)) (Nat.le_trans hB hb.size) hf hs)
  have IH2 := Lib.hid (fun (W1 : World) (hb : Below w.heap.size w W1) => ih y (ev y D2 d2) t VA vcp m B W1 (htj.below (hb.mono hB)) (hv.below (hb.mono hB)) (Nat.le_trans hB hb.size) hf2 hs)
  have H0 := ebel2 w (.cells #[.int .i64 6, .int .i64 a, .slice (some ⟨b, off, none⟩) 2 c] 27) (vc t VA vcp)
  have SC := Lib.hid (fun (W : World) (hb : Below ((w.alloc (.cells #[.int .i64 6, .int .i64 a, .slice (some ⟨b, off, none⟩) 2 c] 27)).alloc (vc t VA vcp)).heap.size ((w.alloc (.cells #[.int .i64 6, .int .i64 a, .slice (some ⟨b, off, none⟩) 2 c] 27)).alloc (vc t VA vcp)) W) => show W.cell? ⟨w.heap.size, 0, none⟩ = some (.int .i64 6) ∧ W.cell? ⟨w.heap.size, 1, none⟩ = some (.int .i64 a) ∧ W.cell? ⟨w.heap.size, 2, none⟩ = some (.slice (some ⟨b, off, none⟩) 2 c) ∧ W.cell? ⟨w.heap.size + 1, 0, none⟩ = some (.bool t.list) ∧ W.cell? ⟨w.heap.size + 1, 1, none⟩ = some (.int .i64 t.num) ∧ W.cell? ⟨w.heap.size + 1, 2, none⟩ = some (.slice VA t.items.length vcp) ∧ W.cell? ⟨b, off, none⟩ = some (.int .i64 x.kind) ∧ W.cell? ⟨b, off + 1, none⟩ = some (.int .i64 x.a) ∧ W.cell? ⟨b, off + 2, none⟩ = some (.slice D x.subs.length d) ∧ W.cell? ⟨b, off + 3, none⟩ = some (.int .i64 y.kind) ∧ W.cell? ⟨b, off + 3 + 1, none⟩ = some (.int .i64 y.a) ∧ W.cell? ⟨b, off + 3 + 2, none⟩ = some (.slice D2 y.subs.length d2) from by
    obtain ⟨z1, z2⟩ := ebox2 w (.int .i64 6) (.int .i64 a) (.slice (some ⟨b, off, none⟩) 2 c) (.bool t.list) (.int .i64 t.num) (.slice VA t.items.length vcp) W hb
    exact ⟨z1.1, z1.2.1, z1.2.2, z2.1, z2.2.1, z2.2.2, cell_later (H0.trans (hb.mono H0.size)) c0, cell_later (H0.trans (hb.mono H0.size)) c1, cell_later (H0.trans (hb.mono H0.size)) c2, cell_later (H0.trans (hb.mono H0.size)) q0, cell_later (H0.trans (hb.mono H0.size)) q1, cell_later (H0.trans (hb.mono H0.size)) q2⟩)
  have LV := Lib.hid (leaves_any m t (vv t VA vcp) B _ (hv.below (H0.mono hB)) (Nat.le_trans hB H0.size) hs)
  have H0 := Lib.hid H0
  have hln : t.items.length ≤ 1073741824 := by have := len_sizes t.items; have := size_items t; omega
  have EQ := Lib.hid (show numE t (.node 6 a 0 [x, y]) = (match numE t x with | none => none | some x1 => if (6 : Int) = 10 ∧ x1 = 0 then some x1 else if (6 : Int) = 11 ∧ ¬ x1 = 0 then some x1 else match numE t y with | none => none | some y1 => bin 6 x1 y1) by rw [numE_eq]; show comb 6 a t [numE t x, numE t y] = _; exact comb_two 6 a t _ _ (by omega) (by omega))
  have ON := Lib.hid one_any
  clear ih hit hv hB hf hf2 hs hti htj c0 c1 c2 q0 q1 q2
  generalize hr : numE t x = r at *
  clear hr
  go_enter Tryz.func86, Tryz.ntmps86
  go_wp2_with fail
  refine LV.out.mono ?_
  rintro e w1 ⟨LA, lc, rfl, lo, X1⟩
  obtain ⟨a0, a1, a2, a3, a4, a5, a6, a7, a8, a9, a10, a11⟩ := SC.out w1 X1
  go_wp2_with fail
  generalize (w.alloc (.cells #[.int .i64 6, .int .i64 a, .slice (some ⟨b, off, none⟩) 2 c] 27)).alloc (vc t VA vcp) = W0 at *
  cases r with
  | none =>
    have IH1 := Lib.hid (show ∀ (W1 : World) (hb : Below w.heap.size w W1), Calls Tryz.prog 86 #[ev x D d, vv t VA vcp] W1 (fun e w' => e = .returned (.tuple #[.int .i64 0, .bool false]) ∧ Below W1.heap.size W1 w') from IH1.out)
    clear a0 a1 a2 a3 a4 a5 a6 a7 a8 a9 a10 a11
    have XC : Below W0.heap.size W0 w1.drew := ebel_drew X1
    go_region_held2 (fun w' => w'.cell? ⟨w.heap.size, 0, none⟩ = some (.int .i64 6) ∧ w'.cell? ⟨w.heap.size, 1, none⟩ = some (.int .i64 a) ∧ w'.cell? ⟨w.heap.size, 2, none⟩ = some (.slice (some ⟨b, off, none⟩) 2 c) ∧ w'.cell? ⟨w.heap.size + 1, 0, none⟩ = some (.bool t.list) ∧ w'.cell? ⟨w.heap.size + 1, 1, none⟩ = some (.int .i64 t.num) ∧ w'.cell? ⟨w.heap.size + 1, 2, none⟩ = some (.slice VA t.items.length vcp) ∧ w'.cell? ⟨b, off, none⟩ = some (.int .i64 x.kind) ∧ w'.cell? ⟨b, off + 1, none⟩ = some (.int .i64 x.a) ∧ w'.cell? ⟨b, off + 2, none⟩ = some (.slice D x.subs.length d) ∧ w'.cell? ⟨b, off + 3, none⟩ = some (.int .i64 y.kind) ∧ w'.cell? ⟨b, off + 3 + 1, none⟩ = some (.int .i64 y.a) ∧ w'.cell? ⟨b, off + 3 + 2, none⟩ = some (.slice D2 y.subs.length d2)) (first | exact SC.out _ (by assumption) | go_keep) (first
      | (with_reducible refine (IH1.out _ (Rng.on H0.out XC)).mono ?_
         rintro e w2 ⟨rfl, bb⟩
         have X2 := Rng.on XC bb
         clear bb XC
         have XC := X2))
    clear XC
    obtain ⟨a0, a1, a2, a3, a4, a5, a6, a7, a8, a9, a10, a11⟩ := SC.out w2 X2
    have BX := Lib.hid (Rng.on H0.out X2)
    clear X2
    go_wp2_with fail
    refine (ON.out _ _).mono ?_
    rintro e w3 ⟨rfl, rfl⟩
    go_wp2_with fail
    go_ret2
    exact TPost.no EQ.out rfl BX.out
  | some x1 =>
    have IH1 := Lib.hid (show ∀ (W1 : World) (hb : Below w.heap.size w W1), Calls Tryz.prog 86 #[ev x D d, vv t VA vcp] W1 (fun e w' => e = .returned (.tuple #[.int .i64 x1, .bool true]) ∧ Below W1.heap.size W1 w') from IH1.out)
    clear a0 a1 a2 a3 a4 a5 a6 a7 a8 a9 a10 a11
    have XC : Below W0.heap.size W0 w1.drew := ebel_drew X1
    go_region_held2 (fun w' => w'.cell? ⟨w.heap.size, 0, none⟩ = some (.int .i64 6) ∧ w'.cell? ⟨w.heap.size, 1, none⟩ = some (.int .i64 a) ∧ w'.cell? ⟨w.heap.size, 2, none⟩ = some (.slice (some ⟨b, off, none⟩) 2 c) ∧ w'.cell? ⟨w.heap.size + 1, 0, none⟩ = some (.bool t.list) ∧ w'.cell? ⟨w.heap.size + 1, 1, none⟩ = some (.int .i64 t.num) ∧ w'.cell? ⟨w.heap.size + 1, 2, none⟩ = some (.slice VA t.items.length vcp) ∧ w'.cell? ⟨b, off, none⟩ = some (.int .i64 x.kind) ∧ w'.cell? ⟨b, off + 1, none⟩ = some (.int .i64 x.a) ∧ w'.cell? ⟨b, off + 2, none⟩ = some (.slice D x.subs.length d) ∧ w'.cell? ⟨b, off + 3, none⟩ = some (.int .i64 y.kind) ∧ w'.cell? ⟨b, off + 3 + 1, none⟩ = some (.int .i64 y.a) ∧ w'.cell? ⟨b, off + 3 + 2, none⟩ = some (.slice D2 y.subs.length d2)) (first | exact SC.out _ (by assumption) | go_keep) (first
      | (with_reducible refine (IH1.out _ (Rng.on H0.out XC)).mono ?_
         rintro e w2 ⟨rfl, bb⟩
         have X2 := Rng.on XC bb
         clear bb XC
         have XC := X2))
    clear XC
    obtain ⟨a0, a1, a2, a3, a4, a5, a6, a7, a8, a9, a10, a11⟩ := SC.out w2 X2
    have EQ2 := Lib.hid (show numE t (.node 6 a 0 [x, y]) = (match numE t y with | none => none | some y1 => bin 6 x1 y1) by rw [EQ.out]; simp)
    go_wp2_with fail
    generalize hr2 : numE t y = r2 at *
    clear hr2
    cases r2 with
    | none =>
      have IH2 := Lib.hid (show ∀ (W1 : World) (hb : Below w.heap.size w W1), Calls Tryz.prog 86 #[ev y D2 d2, vv t VA vcp] W1 (fun e w' => e = .returned (.tuple #[.int .i64 0, .bool false]) ∧ Below W1.heap.size W1 w') from IH2.out)
      clear a0 a1 a2 a3 a4 a5 a6 a7 a8 a9 a10 a11
      have XC : Below W0.heap.size W0 w2.drew := ebel_drew X2
      go_region_held2 (fun w' => w'.cell? ⟨w.heap.size, 0, none⟩ = some (.int .i64 6) ∧ w'.cell? ⟨w.heap.size, 1, none⟩ = some (.int .i64 a) ∧ w'.cell? ⟨w.heap.size, 2, none⟩ = some (.slice (some ⟨b, off, none⟩) 2 c) ∧ w'.cell? ⟨w.heap.size + 1, 0, none⟩ = some (.bool t.list) ∧ w'.cell? ⟨w.heap.size + 1, 1, none⟩ = some (.int .i64 t.num) ∧ w'.cell? ⟨w.heap.size + 1, 2, none⟩ = some (.slice VA t.items.length vcp) ∧ w'.cell? ⟨b, off, none⟩ = some (.int .i64 x.kind) ∧ w'.cell? ⟨b, off + 1, none⟩ = some (.int .i64 x.a) ∧ w'.cell? ⟨b, off + 2, none⟩ = some (.slice D x.subs.length d) ∧ w'.cell? ⟨b, off + 3, none⟩ = some (.int .i64 y.kind) ∧ w'.cell? ⟨b, off + 3 + 1, none⟩ = some (.int .i64 y.a) ∧ w'.cell? ⟨b, off + 3 + 2, none⟩ = some (.slice D2 y.subs.length d2)) (first | exact SC.out _ (by assumption) | go_keep) (first
        | (with_reducible refine (IH2.out _ (Rng.on H0.out XC)).mono ?_
           rintro e w3 ⟨rfl, bb⟩
           have X3 := Rng.on XC bb
           clear bb XC
           have XC := X3))
      clear XC
      obtain ⟨a0, a1, a2, a3, a4, a5, a6, a7, a8, a9, a10, a11⟩ := SC.out w3 X3
      have BX := Lib.hid (Rng.on H0.out X3)
      clear X3
      go_wp2_with fail
      go_ret2
      exact TPost.no EQ2.out rfl BX.out
    | some y1 =>
      have IH2 := Lib.hid (show ∀ (W1 : World) (hb : Below w.heap.size w W1), Calls Tryz.prog 86 #[ev y D2 d2, vv t VA vcp] W1 (fun e w' => e = .returned (.tuple #[.int .i64 y1, .bool true]) ∧ Below W1.heap.size W1 w') from IH2.out)
      clear a0 a1 a2 a3 a4 a5 a6 a7 a8 a9 a10 a11
      have XC : Below W0.heap.size W0 w2.drew := ebel_drew X2
      go_region_held2 (fun w' => w'.cell? ⟨w.heap.size, 0, none⟩ = some (.int .i64 6) ∧ w'.cell? ⟨w.heap.size, 1, none⟩ = some (.int .i64 a) ∧ w'.cell? ⟨w.heap.size, 2, none⟩ = some (.slice (some ⟨b, off, none⟩) 2 c) ∧ w'.cell? ⟨w.heap.size + 1, 0, none⟩ = some (.bool t.list) ∧ w'.cell? ⟨w.heap.size + 1, 1, none⟩ = some (.int .i64 t.num) ∧ w'.cell? ⟨w.heap.size + 1, 2, none⟩ = some (.slice VA t.items.length vcp) ∧ w'.cell? ⟨b, off, none⟩ = some (.int .i64 x.kind) ∧ w'.cell? ⟨b, off + 1, none⟩ = some (.int .i64 x.a) ∧ w'.cell? ⟨b, off + 2, none⟩ = some (.slice D x.subs.length d) ∧ w'.cell? ⟨b, off + 3, none⟩ = some (.int .i64 y.kind) ∧ w'.cell? ⟨b, off + 3 + 1, none⟩ = some (.int .i64 y.a) ∧ w'.cell? ⟨b, off + 3 + 2, none⟩ = some (.slice D2 y.subs.length d2)) (first | exact SC.out _ (by assumption) | go_keep) (first
        | (with_reducible refine (IH2.out _ (Rng.on H0.out XC)).mono ?_
           rintro e w3 ⟨rfl, bb⟩
           have X3 := Rng.on XC bb
           clear bb XC
           have XC := X3))
      clear XC
      obtain ⟨a0, a1, a2, a3, a4, a5, a6, a7, a8, a9, a10, a11⟩ := SC.out w3 X3
      have EQ3 := Lib.hid (show numE t (.node 6 a 0 [x, y]) = bin 6 x1 y1 from EQ2.out)
      have BX := Lib.hid (Rng.on H0.out X3)
      clear X3
      by_cases hy : y1 = 0
      · have z1 : (y1 == 0) = true := by rw [beq_iff_eq]; exact hy
        have EV := Lib.hid (show numE t (.node 6 a 0 [x, y]) = none by rw [EQ3.out]; simp [bin, hy])
        clear hy
        go_wp2_with fail
        go_ret2
        exact TPost.no EV.out rfl BX.out
      · have z1 : (y1 == 0) = false := by rw [beq_eq_false_iff_ne]; exact hy
        have EV := Lib.hid (show numE t (.node 6 a 0 [x, y]) = some (x1.tmod y1) by rw [EQ3.out]; simp [bin, hy])
        go_wp2_with fail
        go_ret2
        exact TPost.is EV.out rfl BX.out
set_option maxHeartbeats 4000000 in
set_option maxRecDepth 100000 in
theorem told_less (ih : ToldOK n) (a : Int) (x : Gn) (y : Gn) (hit : 0 < [x, y].length → ∃ b off, A = some ⟨b, off, none⟩ ∧ EBel B b ∧ ∀ j (h : j < [x, y].length), ∃ x0 x1 x2, w.cell? ⟨b, off + j * 3, none⟩ = some x0 ∧ w.cell? ⟨b, off + j * 3 + 1, none⟩ = some x1 ∧ w.cell? ⟨b, off + j * 3 + 2, none⟩ = some x2 ∧ EAt w (EBel B) n (.agg #[x0, x1, x2]) ([x, y][j]'h))
    (hv : TAt w (Bel B) m (vv t VA vcp) t) (hB : B ≤ w.heap.size) (hf : formE x = true) (hf2 : formE y = true) (hs : t.size ≤ 1073741824) :
    Calls Tryz.prog 86 #[.agg #[.int .i64 7, .int .i64 a, .slice A 2 c], vv t VA vcp] w (TPost (numE t (.node 7 a 0 [x, y])) w) := by
  obtain ⟨b, off, D, d, rfl, c0, c1, c2, hti⟩ := esub_as hit (Below.refl B w) 0 (by simp)
  obtain ⟨b', off', D2, d2, hbb, q0, q1, q2, htj⟩ := esub_as hit (Below.refl B w) 1 (by simp)
  obtain ⟨rfl, rfl⟩ : b = b' ∧ off = off' := by simpa using hbb
  clear hbb
  simp only [Nat.zero_mul, Nat.one_mul, Nat.add_zero, List.getElem_cons_zero, List.getElem_cons_succ] at c0 c1 c2 hti q0 q1 q2 htj
  have IH1 := Lib.hid (fun (W1 : World) (hb : Below w.heap.size w W1) => ih x (ev x D d) t VA vcp m B W1 (hti.below (hb.mono hB)) (hv.below (hb.mono hB)) (Nat.le_trans hB hb.size) hf hs)
  have IH2 := Lib.hid (fun (W1 : World) (hb : Below w.heap.size w W1) => ih y (ev y D2 d2) t VA vcp m B W1 (htj.below (hb.mono hB)) (hv.below (hb.mono hB)) (Nat.le_trans hB hb.size) hf2 hs)
  have H0 := ebel2 w (.cells #[.int .i64 7, .int .i64 a, .slice (some ⟨b, off, none⟩) 2 c] 27) (vc t VA vcp)
  have SC := Lib.hid (fun (W : World) (hb : Below ((w.alloc (.cells #[.int .i64 7, .int .i64 a, .slice (some ⟨b, off, none⟩) 2 c] 27)).alloc (vc t VA vcp)).heap.size ((w.alloc (.cells #[.int .i64 7, .int .i64 a, .slice (some ⟨b, off, none⟩) 2 c] 27)).alloc (vc t VA vcp)) W) => show W.cell? ⟨w.heap.size, 0, none⟩ = some (.int .i64 7) ∧ W.cell? ⟨w.heap.size, 1, none⟩ = some (.int .i64 a) ∧ W.cell? ⟨w.heap.size, 2, none⟩ = some (.slice (some ⟨b, off, none⟩) 2 c) ∧ W.cell? ⟨w.heap.size + 1, 0, none⟩ = some (.bool t.list) ∧ W.cell? ⟨w.heap.size + 1, 1, none⟩ = some (.int .i64 t.num) ∧ W.cell? ⟨w.heap.size + 1, 2, none⟩ = some (.slice VA t.items.length vcp) ∧ W.cell? ⟨b, off, none⟩ = some (.int .i64 x.kind) ∧ W.cell? ⟨b, off + 1, none⟩ = some (.int .i64 x.a) ∧ W.cell? ⟨b, off + 2, none⟩ = some (.slice D x.subs.length d) ∧ W.cell? ⟨b, off + 3, none⟩ = some (.int .i64 y.kind) ∧ W.cell? ⟨b, off + 3 + 1, none⟩ = some (.int .i64 y.a) ∧ W.cell? ⟨b, off + 3 + 2, none⟩ = some (.slice D2 y.subs.length d2) from by
    obtain ⟨z1, z2⟩ := ebox2 w (.int .i64 7) (.int .i64 a) (.slice (some ⟨b, off, none⟩) 2 c) (.bool t.list) (.int .i64 t.num) (.slice VA t.items.length vcp) W hb
    exact ⟨z1.1, z1.2.1, z1.2.2, z2.1, z2.2.1, z2.2.2, cell_later (H0.trans (hb.mono H0.size)) c0, cell_later (H0.trans (hb.mono H0.size)) c1, cell_later (H0.trans (hb.mono H0.size)) c2, cell_later (H0.trans (hb.mono H0.size)) q0, cell_later (H0.trans (hb.mono H0.size)) q1, cell_later (H0.trans (hb.mono H0.size)) q2⟩)
  have LV := Lib.hid (leaves_any m t (vv t VA vcp) B _ (hv.below (H0.mono hB)) (Nat.le_trans hB H0.size) hs)
  have H0 := Lib.hid H0
  have hln : t.items.length ≤ 1073741824 := by have := len_sizes t.items; have := size_items t; omega
  have EQ := Lib.hid (show numE t (.node 7 a 0 [x, y]) = (match numE t x with | none => none | some x1 => if (7 : Int) = 10 ∧ x1 = 0 then some x1 else if (7 : Int) = 11 ∧ ¬ x1 = 0 then some x1 else match numE t y with | none => none | some y1 => bin 7 x1 y1) by rw [numE_eq]; show comb 7 a t [numE t x, numE t y] = _; exact comb_two 7 a t _ _ (by omega) (by omega))
  have ON := Lib.hid one_any
  clear ih hit hv hB hf hf2 hs hti htj c0 c1 c2 q0 q1 q2
  generalize hr : numE t x = r at *
  clear hr
  go_enter Tryz.func86, Tryz.ntmps86
  go_wp2_with fail
  refine LV.out.mono ?_
  rintro e w1 ⟨LA, lc, rfl, lo, X1⟩
  obtain ⟨a0, a1, a2, a3, a4, a5, a6, a7, a8, a9, a10, a11⟩ := SC.out w1 X1
  go_wp2_with fail
  generalize (w.alloc (.cells #[.int .i64 7, .int .i64 a, .slice (some ⟨b, off, none⟩) 2 c] 27)).alloc (vc t VA vcp) = W0 at *
  cases r with
  | none =>
    have IH1 := Lib.hid (show ∀ (W1 : World) (hb : Below w.heap.size w W1), Calls Tryz.prog 86 #[ev x D d, vv t VA vcp] W1 (fun e w' => e = .returned (.tuple #[.int .i64 0, .bool false]) ∧ Below W1.heap.size W1 w') from IH1.out)
    clear a0 a1 a2 a3 a4 a5 a6 a7 a8 a9 a10 a11
    have XC : Below W0.heap.size W0 w1.drew := ebel_drew X1
    go_region_held2 (fun w' => w'.cell? ⟨w.heap.size, 0, none⟩ = some (.int .i64 7) ∧ w'.cell? ⟨w.heap.size, 1, none⟩ = some (.int .i64 a) ∧ w'.cell? ⟨w.heap.size, 2, none⟩ = some (.slice (some ⟨b, off, none⟩) 2 c) ∧ w'.cell? ⟨w.heap.size + 1, 0, none⟩ = some (.bool t.list) ∧ w'.cell? ⟨w.heap.size + 1, 1, none⟩ = some (.int .i64 t.num) ∧ w'.cell? ⟨w.heap.size + 1, 2, none⟩ = some (.slice VA t.items.length vcp) ∧ w'.cell? ⟨b, off, none⟩ = some (.int .i64 x.kind) ∧ w'.cell? ⟨b, off + 1, none⟩ = some (.int .i64 x.a) ∧ w'.cell? ⟨b, off + 2, none⟩ = some (.slice D x.subs.length d) ∧ w'.cell? ⟨b, off + 3, none⟩ = some (.int .i64 y.kind) ∧ w'.cell? ⟨b, off + 3 + 1, none⟩ = some (.int .i64 y.a) ∧ w'.cell? ⟨b, off + 3 + 2, none⟩ = some (.slice D2 y.subs.length d2)) (first | exact SC.out _ (by assumption) | go_keep) (first
      | (with_reducible refine (IH1.out _ (Rng.on H0.out XC)).mono ?_
         rintro e w2 ⟨rfl, bb⟩
         have X2 := Rng.on XC bb
         clear bb XC
         have XC := X2))
    clear XC
    obtain ⟨a0, a1, a2, a3, a4, a5, a6, a7, a8, a9, a10, a11⟩ := SC.out w2 X2
    have BX := Lib.hid (Rng.on H0.out X2)
    clear X2
    go_wp2_with fail
    refine (ON.out _ _).mono ?_
    rintro e w3 ⟨rfl, rfl⟩
    go_wp2_with fail
    go_ret2
    exact TPost.no EQ.out rfl BX.out
  | some x1 =>
    have IH1 := Lib.hid (show ∀ (W1 : World) (hb : Below w.heap.size w W1), Calls Tryz.prog 86 #[ev x D d, vv t VA vcp] W1 (fun e w' => e = .returned (.tuple #[.int .i64 x1, .bool true]) ∧ Below W1.heap.size W1 w') from IH1.out)
    clear a0 a1 a2 a3 a4 a5 a6 a7 a8 a9 a10 a11
    have XC : Below W0.heap.size W0 w1.drew := ebel_drew X1
    go_region_held2 (fun w' => w'.cell? ⟨w.heap.size, 0, none⟩ = some (.int .i64 7) ∧ w'.cell? ⟨w.heap.size, 1, none⟩ = some (.int .i64 a) ∧ w'.cell? ⟨w.heap.size, 2, none⟩ = some (.slice (some ⟨b, off, none⟩) 2 c) ∧ w'.cell? ⟨w.heap.size + 1, 0, none⟩ = some (.bool t.list) ∧ w'.cell? ⟨w.heap.size + 1, 1, none⟩ = some (.int .i64 t.num) ∧ w'.cell? ⟨w.heap.size + 1, 2, none⟩ = some (.slice VA t.items.length vcp) ∧ w'.cell? ⟨b, off, none⟩ = some (.int .i64 x.kind) ∧ w'.cell? ⟨b, off + 1, none⟩ = some (.int .i64 x.a) ∧ w'.cell? ⟨b, off + 2, none⟩ = some (.slice D x.subs.length d) ∧ w'.cell? ⟨b, off + 3, none⟩ = some (.int .i64 y.kind) ∧ w'.cell? ⟨b, off + 3 + 1, none⟩ = some (.int .i64 y.a) ∧ w'.cell? ⟨b, off + 3 + 2, none⟩ = some (.slice D2 y.subs.length d2)) (first | exact SC.out _ (by assumption) | go_keep) (first
      | (with_reducible refine (IH1.out _ (Rng.on H0.out XC)).mono ?_
         rintro e w2 ⟨rfl, bb⟩
         have X2 := Rng.on XC bb
         clear bb XC
         have XC := X2))
    clear XC
    obtain ⟨a0, a1, a2, a3, a4, a5, a6, a7, a8, a9, a10, a11⟩ := SC.out w2 X2
    have EQ2 := Lib.hid (show numE t (.node 7 a 0 [x, y]) = (match numE t y with | none => none | some y1 => bin 7 x1 y1) by rw [EQ.out]; simp)
    go_wp2_with fail
    generalize hr2 : numE t y = r2 at *
    clear hr2
    cases r2 with
    | none =>
      have IH2 := Lib.hid (show ∀ (W1 : World) (hb : Below w.heap.size w W1), Calls Tryz.prog 86 #[ev y D2 d2, vv t VA vcp] W1 (fun e w' => e = .returned (.tuple #[.int .i64 0, .bool false]) ∧ Below W1.heap.size W1 w') from IH2.out)
      clear a0 a1 a2 a3 a4 a5 a6 a7 a8 a9 a10 a11
      have XC : Below W0.heap.size W0 w2.drew := ebel_drew X2
      go_region_held2 (fun w' => w'.cell? ⟨w.heap.size, 0, none⟩ = some (.int .i64 7) ∧ w'.cell? ⟨w.heap.size, 1, none⟩ = some (.int .i64 a) ∧ w'.cell? ⟨w.heap.size, 2, none⟩ = some (.slice (some ⟨b, off, none⟩) 2 c) ∧ w'.cell? ⟨w.heap.size + 1, 0, none⟩ = some (.bool t.list) ∧ w'.cell? ⟨w.heap.size + 1, 1, none⟩ = some (.int .i64 t.num) ∧ w'.cell? ⟨w.heap.size + 1, 2, none⟩ = some (.slice VA t.items.length vcp) ∧ w'.cell? ⟨b, off, none⟩ = some (.int .i64 x.kind) ∧ w'.cell? ⟨b, off + 1, none⟩ = some (.int .i64 x.a) ∧ w'.cell? ⟨b, off + 2, none⟩ = some (.slice D x.subs.length d) ∧ w'.cell? ⟨b, off + 3, none⟩ = some (.int .i64 y.kind) ∧ w'.cell? ⟨b, off + 3 + 1, none⟩ = some (.int .i64 y.a) ∧ w'.cell? ⟨b, off + 3 + 2, none⟩ = some (.slice D2 y.subs.length d2)) (first | exact SC.out _ (by assumption) | go_keep) (first
        | (with_reducible refine (IH2.out _ (Rng.on H0.out XC)).mono ?_
           rintro e w3 ⟨rfl, bb⟩
           have X3 := Rng.on XC bb
           clear bb XC
           have XC := X3))
      clear XC
      obtain ⟨a0, a1, a2, a3, a4, a5, a6, a7, a8, a9, a10, a11⟩ := SC.out w3 X3
      have BX := Lib.hid (Rng.on H0.out X3)
      clear X3
      go_wp2_with fail
      go_ret2
      exact TPost.no EQ2.out rfl BX.out
    | some y1 =>
      have IH2 := Lib.hid (show ∀ (W1 : World) (hb : Below w.heap.size w W1), Calls Tryz.prog 86 #[ev y D2 d2, vv t VA vcp] W1 (fun e w' => e = .returned (.tuple #[.int .i64 y1, .bool true]) ∧ Below W1.heap.size W1 w') from IH2.out)
      clear a0 a1 a2 a3 a4 a5 a6 a7 a8 a9 a10 a11
      have XC : Below W0.heap.size W0 w2.drew := ebel_drew X2
      go_region_held2 (fun w' => w'.cell? ⟨w.heap.size, 0, none⟩ = some (.int .i64 7) ∧ w'.cell? ⟨w.heap.size, 1, none⟩ = some (.int .i64 a) ∧ w'.cell? ⟨w.heap.size, 2, none⟩ = some (.slice (some ⟨b, off, none⟩) 2 c) ∧ w'.cell? ⟨w.heap.size + 1, 0, none⟩ = some (.bool t.list) ∧ w'.cell? ⟨w.heap.size + 1, 1, none⟩ = some (.int .i64 t.num) ∧ w'.cell? ⟨w.heap.size + 1, 2, none⟩ = some (.slice VA t.items.length vcp) ∧ w'.cell? ⟨b, off, none⟩ = some (.int .i64 x.kind) ∧ w'.cell? ⟨b, off + 1, none⟩ = some (.int .i64 x.a) ∧ w'.cell? ⟨b, off + 2, none⟩ = some (.slice D x.subs.length d) ∧ w'.cell? ⟨b, off + 3, none⟩ = some (.int .i64 y.kind) ∧ w'.cell? ⟨b, off + 3 + 1, none⟩ = some (.int .i64 y.a) ∧ w'.cell? ⟨b, off + 3 + 2, none⟩ = some (.slice D2 y.subs.length d2)) (first | exact SC.out _ (by assumption) | go_keep) (first
        | (with_reducible refine (IH2.out _ (Rng.on H0.out XC)).mono ?_
           rintro e w3 ⟨rfl, bb⟩
           have X3 := Rng.on XC bb
           clear bb XC
           have XC := X3))
      clear XC
      obtain ⟨a0, a1, a2, a3, a4, a5, a6, a7, a8, a9, a10, a11⟩ := SC.out w3 X3
      have EQ3 := Lib.hid (show numE t (.node 7 a 0 [x, y]) = bin 7 x1 y1 from EQ2.out)
      have BX := Lib.hid (Rng.on H0.out X3)
      clear X3
      go_wp2_with fail
      refine (ON.out _ _).mono ?_
      rintro e w4 ⟨rfl, rfl⟩
      go_wp2_with fail
      go_ret2
      exact TPost.is EQ3.out rfl BX.out
set_option maxHeartbeats 4000000 in
set_option maxRecDepth 100000 in
theorem told_same (ih : ToldOK n) (a : Int) (x : Gn) (y : Gn) (hit : 0 < [x, y].length → ∃ b off, A = some ⟨b, off, none⟩ ∧ EBel B b ∧ ∀ j (h : j < [x, y].length), ∃ x0 x1 x2, w.cell? ⟨b, off + j * 3, none⟩ = some x0 ∧ w.cell? ⟨b, off + j * 3 + 1, none⟩ = some x1 ∧ w.cell? ⟨b, off + j * 3 + 2, none⟩ = some x2 ∧ EAt w (EBel B) n (.agg #[x0, x1, x2]) ([x, y][j]'h))
    (hv : TAt w (Bel B) m (vv t VA vcp) t) (hB : B ≤ w.heap.size) (hf : formE x = true) (hf2 : formE y = true) (hs : t.size ≤ 1073741824) :
    Calls Tryz.prog 86 #[.agg #[.int .i64 8, .int .i64 a, .slice A 2 c], vv t VA vcp] w (TPost (numE t (.node 8 a 0 [x, y])) w) := by
  obtain ⟨b, off, D, d, rfl, c0, c1, c2, hti⟩ := esub_as hit (Below.refl B w) 0 (by simp)
  obtain ⟨b', off', D2, d2, hbb, q0, q1, q2, htj⟩ := esub_as hit (Below.refl B w) 1 (by simp)
  obtain ⟨rfl, rfl⟩ : b = b' ∧ off = off' := by simpa using hbb
  clear hbb
  simp only [Nat.zero_mul, Nat.one_mul, Nat.add_zero, List.getElem_cons_zero, List.getElem_cons_succ] at c0 c1 c2 hti q0 q1 q2 htj
  have IH1 := Lib.hid (fun (W1 : World) (hb : Below w.heap.size w W1) => ih x (ev x D d) t VA vcp m B W1 (hti.below (hb.mono hB)) (hv.below (hb.mono hB)) (Nat.le_trans hB hb.size) hf hs)
  have IH2 := Lib.hid (fun (W1 : World) (hb : Below w.heap.size w W1) => ih y (ev y D2 d2) t VA vcp m B W1 (htj.below (hb.mono hB)) (hv.below (hb.mono hB)) (Nat.le_trans hB hb.size) hf2 hs)
  have H0 := ebel2 w (.cells #[.int .i64 8, .int .i64 a, .slice (some ⟨b, off, none⟩) 2 c] 27) (vc t VA vcp)
  have SC := Lib.hid (fun (W : World) (hb : Below ((w.alloc (.cells #[.int .i64 8, .int .i64 a, .slice (some ⟨b, off, none⟩) 2 c] 27)).alloc (vc t VA vcp)).heap.size ((w.alloc (.cells #[.int .i64 8, .int .i64 a, .slice (some ⟨b, off, none⟩) 2 c] 27)).alloc (vc t VA vcp)) W) => show W.cell? ⟨w.heap.size, 0, none⟩ = some (.int .i64 8) ∧ W.cell? ⟨w.heap.size, 1, none⟩ = some (.int .i64 a) ∧ W.cell? ⟨w.heap.size, 2, none⟩ = some (.slice (some ⟨b, off, none⟩) 2 c) ∧ W.cell? ⟨w.heap.size + 1, 0, none⟩ = some (.bool t.list) ∧ W.cell? ⟨w.heap.size + 1, 1, none⟩ = some (.int .i64 t.num) ∧ W.cell? ⟨w.heap.size + 1, 2, none⟩ = some (.slice VA t.items.length vcp) ∧ W.cell? ⟨b, off, none⟩ = some (.int .i64 x.kind) ∧ W.cell? ⟨b, off + 1, none⟩ = some (.int .i64 x.a) ∧ W.cell? ⟨b, off + 2, none⟩ = some (.slice D x.subs.length d) ∧ W.cell? ⟨b, off + 3, none⟩ = some (.int .i64 y.kind) ∧ W.cell? ⟨b, off + 3 + 1, none⟩ = some (.int .i64 y.a) ∧ W.cell? ⟨b, off + 3 + 2, none⟩ = some (.slice D2 y.subs.length d2) from by
    obtain ⟨z1, z2⟩ := ebox2 w (.int .i64 8) (.int .i64 a) (.slice (some ⟨b, off, none⟩) 2 c) (.bool t.list) (.int .i64 t.num) (.slice VA t.items.length vcp) W hb
    exact ⟨z1.1, z1.2.1, z1.2.2, z2.1, z2.2.1, z2.2.2, cell_later (H0.trans (hb.mono H0.size)) c0, cell_later (H0.trans (hb.mono H0.size)) c1, cell_later (H0.trans (hb.mono H0.size)) c2, cell_later (H0.trans (hb.mono H0.size)) q0, cell_later (H0.trans (hb.mono H0.size)) q1, cell_later (H0.trans (hb.mono H0.size)) q2⟩)
  have LV := Lib.hid (leaves_any m t (vv t VA vcp) B _ (hv.below (H0.mono hB)) (Nat.le_trans hB H0.size) hs)
  have H0 := Lib.hid H0
  have hln : t.items.length ≤ 1073741824 := by have := len_sizes t.items; have := size_items t; omega
  have EQ := Lib.hid (show numE t (.node 8 a 0 [x, y]) = (match numE t x with | none => none | some x1 => if (8 : Int) = 10 ∧ x1 = 0 then some x1 else if (8 : Int) = 11 ∧ ¬ x1 = 0 then some x1 else match numE t y with | none => none | some y1 => bin 8 x1 y1) by rw [numE_eq]; show comb 8 a t [numE t x, numE t y] = _; exact comb_two 8 a t _ _ (by omega) (by omega))
  have ON := Lib.hid one_any
  clear ih hit hv hB hf hf2 hs hti htj c0 c1 c2 q0 q1 q2
  generalize hr : numE t x = r at *
  clear hr
  go_enter Tryz.func86, Tryz.ntmps86
  go_wp2_with fail
  refine LV.out.mono ?_
  rintro e w1 ⟨LA, lc, rfl, lo, X1⟩
  obtain ⟨a0, a1, a2, a3, a4, a5, a6, a7, a8, a9, a10, a11⟩ := SC.out w1 X1
  go_wp2_with fail
  generalize (w.alloc (.cells #[.int .i64 8, .int .i64 a, .slice (some ⟨b, off, none⟩) 2 c] 27)).alloc (vc t VA vcp) = W0 at *
  cases r with
  | none =>
    have IH1 := Lib.hid (show ∀ (W1 : World) (hb : Below w.heap.size w W1), Calls Tryz.prog 86 #[ev x D d, vv t VA vcp] W1 (fun e w' => e = .returned (.tuple #[.int .i64 0, .bool false]) ∧ Below W1.heap.size W1 w') from IH1.out)
    clear a0 a1 a2 a3 a4 a5 a6 a7 a8 a9 a10 a11
    have XC : Below W0.heap.size W0 w1.drew := ebel_drew X1
    go_region_held2 (fun w' => w'.cell? ⟨w.heap.size, 0, none⟩ = some (.int .i64 8) ∧ w'.cell? ⟨w.heap.size, 1, none⟩ = some (.int .i64 a) ∧ w'.cell? ⟨w.heap.size, 2, none⟩ = some (.slice (some ⟨b, off, none⟩) 2 c) ∧ w'.cell? ⟨w.heap.size + 1, 0, none⟩ = some (.bool t.list) ∧ w'.cell? ⟨w.heap.size + 1, 1, none⟩ = some (.int .i64 t.num) ∧ w'.cell? ⟨w.heap.size + 1, 2, none⟩ = some (.slice VA t.items.length vcp) ∧ w'.cell? ⟨b, off, none⟩ = some (.int .i64 x.kind) ∧ w'.cell? ⟨b, off + 1, none⟩ = some (.int .i64 x.a) ∧ w'.cell? ⟨b, off + 2, none⟩ = some (.slice D x.subs.length d) ∧ w'.cell? ⟨b, off + 3, none⟩ = some (.int .i64 y.kind) ∧ w'.cell? ⟨b, off + 3 + 1, none⟩ = some (.int .i64 y.a) ∧ w'.cell? ⟨b, off + 3 + 2, none⟩ = some (.slice D2 y.subs.length d2)) (first | exact SC.out _ (by assumption) | go_keep) (first
      | (with_reducible refine (IH1.out _ (Rng.on H0.out XC)).mono ?_
         rintro e w2 ⟨rfl, bb⟩
         have X2 := Rng.on XC bb
         clear bb XC
         have XC := X2))
    clear XC
    obtain ⟨a0, a1, a2, a3, a4, a5, a6, a7, a8, a9, a10, a11⟩ := SC.out w2 X2
    have BX := Lib.hid (Rng.on H0.out X2)
    clear X2
    go_wp2_with fail
    refine (ON.out _ _).mono ?_
    rintro e w3 ⟨rfl, rfl⟩
    go_wp2_with fail
    go_ret2
    exact TPost.no EQ.out rfl BX.out
  | some x1 =>
    have IH1 := Lib.hid (show ∀ (W1 : World) (hb : Below w.heap.size w W1), Calls Tryz.prog 86 #[ev x D d, vv t VA vcp] W1 (fun e w' => e = .returned (.tuple #[.int .i64 x1, .bool true]) ∧ Below W1.heap.size W1 w') from IH1.out)
    clear a0 a1 a2 a3 a4 a5 a6 a7 a8 a9 a10 a11
    have XC : Below W0.heap.size W0 w1.drew := ebel_drew X1
    go_region_held2 (fun w' => w'.cell? ⟨w.heap.size, 0, none⟩ = some (.int .i64 8) ∧ w'.cell? ⟨w.heap.size, 1, none⟩ = some (.int .i64 a) ∧ w'.cell? ⟨w.heap.size, 2, none⟩ = some (.slice (some ⟨b, off, none⟩) 2 c) ∧ w'.cell? ⟨w.heap.size + 1, 0, none⟩ = some (.bool t.list) ∧ w'.cell? ⟨w.heap.size + 1, 1, none⟩ = some (.int .i64 t.num) ∧ w'.cell? ⟨w.heap.size + 1, 2, none⟩ = some (.slice VA t.items.length vcp) ∧ w'.cell? ⟨b, off, none⟩ = some (.int .i64 x.kind) ∧ w'.cell? ⟨b, off + 1, none⟩ = some (.int .i64 x.a) ∧ w'.cell? ⟨b, off + 2, none⟩ = some (.slice D x.subs.length d) ∧ w'.cell? ⟨b, off + 3, none⟩ = some (.int .i64 y.kind) ∧ w'.cell? ⟨b, off + 3 + 1, none⟩ = some (.int .i64 y.a) ∧ w'.cell? ⟨b, off + 3 + 2, none⟩ = some (.slice D2 y.subs.length d2)) (first | exact SC.out _ (by assumption) | go_keep) (first
      | (with_reducible refine (IH1.out _ (Rng.on H0.out XC)).mono ?_
         rintro e w2 ⟨rfl, bb⟩
         have X2 := Rng.on XC bb
         clear bb XC
         have XC := X2))
    clear XC
    obtain ⟨a0, a1, a2, a3, a4, a5, a6, a7, a8, a9, a10, a11⟩ := SC.out w2 X2
    have EQ2 := Lib.hid (show numE t (.node 8 a 0 [x, y]) = (match numE t y with | none => none | some y1 => bin 8 x1 y1) by rw [EQ.out]; simp)
    go_wp2_with fail
    generalize hr2 : numE t y = r2 at *
    clear hr2
    cases r2 with
    | none =>
      have IH2 := Lib.hid (show ∀ (W1 : World) (hb : Below w.heap.size w W1), Calls Tryz.prog 86 #[ev y D2 d2, vv t VA vcp] W1 (fun e w' => e = .returned (.tuple #[.int .i64 0, .bool false]) ∧ Below W1.heap.size W1 w') from IH2.out)
      clear a0 a1 a2 a3 a4 a5 a6 a7 a8 a9 a10 a11
      have XC : Below W0.heap.size W0 w2.drew := ebel_drew X2
      go_region_held2 (fun w' => w'.cell? ⟨w.heap.size, 0, none⟩ = some (.int .i64 8) ∧ w'.cell? ⟨w.heap.size, 1, none⟩ = some (.int .i64 a) ∧ w'.cell? ⟨w.heap.size, 2, none⟩ = some (.slice (some ⟨b, off, none⟩) 2 c) ∧ w'.cell? ⟨w.heap.size + 1, 0, none⟩ = some (.bool t.list) ∧ w'.cell? ⟨w.heap.size + 1, 1, none⟩ = some (.int .i64 t.num) ∧ w'.cell? ⟨w.heap.size + 1, 2, none⟩ = some (.slice VA t.items.length vcp) ∧ w'.cell? ⟨b, off, none⟩ = some (.int .i64 x.kind) ∧ w'.cell? ⟨b, off + 1, none⟩ = some (.int .i64 x.a) ∧ w'.cell? ⟨b, off + 2, none⟩ = some (.slice D x.subs.length d) ∧ w'.cell? ⟨b, off + 3, none⟩ = some (.int .i64 y.kind) ∧ w'.cell? ⟨b, off + 3 + 1, none⟩ = some (.int .i64 y.a) ∧ w'.cell? ⟨b, off + 3 + 2, none⟩ = some (.slice D2 y.subs.length d2)) (first | exact SC.out _ (by assumption) | go_keep) (first
        | (with_reducible refine (IH2.out _ (Rng.on H0.out XC)).mono ?_
           rintro e w3 ⟨rfl, bb⟩
           have X3 := Rng.on XC bb
           clear bb XC
           have XC := X3))
      clear XC
      obtain ⟨a0, a1, a2, a3, a4, a5, a6, a7, a8, a9, a10, a11⟩ := SC.out w3 X3
      have BX := Lib.hid (Rng.on H0.out X3)
      clear X3
      go_wp2_with fail
      go_ret2
      exact TPost.no EQ2.out rfl BX.out
    | some y1 =>
      have IH2 := Lib.hid (show ∀ (W1 : World) (hb : Below w.heap.size w W1), Calls Tryz.prog 86 #[ev y D2 d2, vv t VA vcp] W1 (fun e w' => e = .returned (.tuple #[.int .i64 y1, .bool true]) ∧ Below W1.heap.size W1 w') from IH2.out)
      clear a0 a1 a2 a3 a4 a5 a6 a7 a8 a9 a10 a11
      have XC : Below W0.heap.size W0 w2.drew := ebel_drew X2
      go_region_held2 (fun w' => w'.cell? ⟨w.heap.size, 0, none⟩ = some (.int .i64 8) ∧ w'.cell? ⟨w.heap.size, 1, none⟩ = some (.int .i64 a) ∧ w'.cell? ⟨w.heap.size, 2, none⟩ = some (.slice (some ⟨b, off, none⟩) 2 c) ∧ w'.cell? ⟨w.heap.size + 1, 0, none⟩ = some (.bool t.list) ∧ w'.cell? ⟨w.heap.size + 1, 1, none⟩ = some (.int .i64 t.num) ∧ w'.cell? ⟨w.heap.size + 1, 2, none⟩ = some (.slice VA t.items.length vcp) ∧ w'.cell? ⟨b, off, none⟩ = some (.int .i64 x.kind) ∧ w'.cell? ⟨b, off + 1, none⟩ = some (.int .i64 x.a) ∧ w'.cell? ⟨b, off + 2, none⟩ = some (.slice D x.subs.length d) ∧ w'.cell? ⟨b, off + 3, none⟩ = some (.int .i64 y.kind) ∧ w'.cell? ⟨b, off + 3 + 1, none⟩ = some (.int .i64 y.a) ∧ w'.cell? ⟨b, off + 3 + 2, none⟩ = some (.slice D2 y.subs.length d2)) (first | exact SC.out _ (by assumption) | go_keep) (first
        | (with_reducible refine (IH2.out _ (Rng.on H0.out XC)).mono ?_
           rintro e w3 ⟨rfl, bb⟩
           have X3 := Rng.on XC bb
           clear bb XC
           have XC := X3))
      clear XC
      obtain ⟨a0, a1, a2, a3, a4, a5, a6, a7, a8, a9, a10, a11⟩ := SC.out w3 X3
      have EQ3 := Lib.hid (show numE t (.node 8 a 0 [x, y]) = bin 8 x1 y1 from EQ2.out)
      have BX := Lib.hid (Rng.on H0.out X3)
      clear X3
      go_wp2_with fail
      refine (ON.out _ _).mono ?_
      rintro e w4 ⟨rfl, rfl⟩
      go_wp2_with fail
      go_ret2
      exact TPost.is (x := one (x1 == y1)) (by rw [EQ3.out]; show some (one (decide (x1 = y1))) = some (one (x1 == y1)); congr 2) rfl BX.out
set_option maxHeartbeats 4000000 in
set_option maxRecDepth 100000 in
theorem told_and (ih : ToldOK n) (a : Int) (x : Gn) (y : Gn) (hit : 0 < [x, y].length → ∃ b off, A = some ⟨b, off, none⟩ ∧ EBel B b ∧ ∀ j (h : j < [x, y].length), ∃ x0 x1 x2, w.cell? ⟨b, off + j * 3, none⟩ = some x0 ∧ w.cell? ⟨b, off + j * 3 + 1, none⟩ = some x1 ∧ w.cell? ⟨b, off + j * 3 + 2, none⟩ = some x2 ∧ EAt w (EBel B) n (.agg #[x0, x1, x2]) ([x, y][j]'h))
    (hv : TAt w (Bel B) m (vv t VA vcp) t) (hB : B ≤ w.heap.size) (hf : formE x = true) (hf2 : formE y = true) (hs : t.size ≤ 1073741824) :
    Calls Tryz.prog 86 #[.agg #[.int .i64 10, .int .i64 a, .slice A 2 c], vv t VA vcp] w (TPost (numE t (.node 10 a 0 [x, y])) w) := by
  obtain ⟨b, off, D, d, rfl, c0, c1, c2, hti⟩ := esub_as hit (Below.refl B w) 0 (by simp)
  obtain ⟨b', off', D2, d2, hbb, q0, q1, q2, htj⟩ := esub_as hit (Below.refl B w) 1 (by simp)
  obtain ⟨rfl, rfl⟩ : b = b' ∧ off = off' := by simpa using hbb
  clear hbb
  simp only [Nat.zero_mul, Nat.one_mul, Nat.add_zero, List.getElem_cons_zero, List.getElem_cons_succ] at c0 c1 c2 hti q0 q1 q2 htj
  have IH1 := Lib.hid (fun (W1 : World) (hb : Below w.heap.size w W1) => ih x (ev x D d) t VA vcp m B W1 (hti.below (hb.mono hB)) (hv.below (hb.mono hB)) (Nat.le_trans hB hb.size) hf hs)
  have IH2 := Lib.hid (fun (W1 : World) (hb : Below w.heap.size w W1) => ih y (ev y D2 d2) t VA vcp m B W1 (htj.below (hb.mono hB)) (hv.below (hb.mono hB)) (Nat.le_trans hB hb.size) hf2 hs)
  have H0 := ebel2 w (.cells #[.int .i64 10, .int .i64 a, .slice (some ⟨b, off, none⟩) 2 c] 27) (vc t VA vcp)
  have SC := Lib.hid (fun (W : World) (hb : Below ((w.alloc (.cells #[.int .i64 10, .int .i64 a, .slice (some ⟨b, off, none⟩) 2 c] 27)).alloc (vc t VA vcp)).heap.size ((w.alloc (.cells #[.int .i64 10, .int .i64 a, .slice (some ⟨b, off, none⟩) 2 c] 27)).alloc (vc t VA vcp)) W) => show W.cell? ⟨w.heap.size, 0, none⟩ = some (.int .i64 10) ∧ W.cell? ⟨w.heap.size, 1, none⟩ = some (.int .i64 a) ∧ W.cell? ⟨w.heap.size, 2, none⟩ = some (.slice (some ⟨b, off, none⟩) 2 c) ∧ W.cell? ⟨w.heap.size + 1, 0, none⟩ = some (.bool t.list) ∧ W.cell? ⟨w.heap.size + 1, 1, none⟩ = some (.int .i64 t.num) ∧ W.cell? ⟨w.heap.size + 1, 2, none⟩ = some (.slice VA t.items.length vcp) ∧ W.cell? ⟨b, off, none⟩ = some (.int .i64 x.kind) ∧ W.cell? ⟨b, off + 1, none⟩ = some (.int .i64 x.a) ∧ W.cell? ⟨b, off + 2, none⟩ = some (.slice D x.subs.length d) ∧ W.cell? ⟨b, off + 3, none⟩ = some (.int .i64 y.kind) ∧ W.cell? ⟨b, off + 3 + 1, none⟩ = some (.int .i64 y.a) ∧ W.cell? ⟨b, off + 3 + 2, none⟩ = some (.slice D2 y.subs.length d2) from by
    obtain ⟨z1, z2⟩ := ebox2 w (.int .i64 10) (.int .i64 a) (.slice (some ⟨b, off, none⟩) 2 c) (.bool t.list) (.int .i64 t.num) (.slice VA t.items.length vcp) W hb
    exact ⟨z1.1, z1.2.1, z1.2.2, z2.1, z2.2.1, z2.2.2, cell_later (H0.trans (hb.mono H0.size)) c0, cell_later (H0.trans (hb.mono H0.size)) c1, cell_later (H0.trans (hb.mono H0.size)) c2, cell_later (H0.trans (hb.mono H0.size)) q0, cell_later (H0.trans (hb.mono H0.size)) q1, cell_later (H0.trans (hb.mono H0.size)) q2⟩)
  have LV := Lib.hid (leaves_any m t (vv t VA vcp) B _ (hv.below (H0.mono hB)) (Nat.le_trans hB H0.size) hs)
  have H0 := Lib.hid H0
  have hln : t.items.length ≤ 1073741824 := by have := len_sizes t.items; have := size_items t; omega
  have EQ := Lib.hid (show numE t (.node 10 a 0 [x, y]) = (match numE t x with | none => none | some x1 => if (10 : Int) = 10 ∧ x1 = 0 then some x1 else if (10 : Int) = 11 ∧ ¬ x1 = 0 then some x1 else match numE t y with | none => none | some y1 => bin 10 x1 y1) by rw [numE_eq]; show comb 10 a t [numE t x, numE t y] = _; exact comb_two 10 a t _ _ (by omega) (by omega))
  have ON := Lib.hid one_any
  clear ih hit hv hB hf hf2 hs hti htj c0 c1 c2 q0 q1 q2
  generalize hr : numE t x = r at *
  clear hr
  go_enter Tryz.func86, Tryz.ntmps86
  go_wp2_with fail
  refine LV.out.mono ?_
  rintro e w1 ⟨LA, lc, rfl, lo, X1⟩
  obtain ⟨a0, a1, a2, a3, a4, a5, a6, a7, a8, a9, a10, a11⟩ := SC.out w1 X1
  go_wp2_with fail
  generalize (w.alloc (.cells #[.int .i64 10, .int .i64 a, .slice (some ⟨b, off, none⟩) 2 c] 27)).alloc (vc t VA vcp) = W0 at *
  cases r with
  | none =>
    have IH1 := Lib.hid (show ∀ (W1 : World) (hb : Below w.heap.size w W1), Calls Tryz.prog 86 #[ev x D d, vv t VA vcp] W1 (fun e w' => e = .returned (.tuple #[.int .i64 0, .bool false]) ∧ Below W1.heap.size W1 w') from IH1.out)
    clear a0 a1 a2 a3 a4 a5 a6 a7 a8 a9 a10 a11
    have XC : Below W0.heap.size W0 w1.drew := ebel_drew X1
    go_region_held2 (fun w' => w'.cell? ⟨w.heap.size, 0, none⟩ = some (.int .i64 10) ∧ w'.cell? ⟨w.heap.size, 1, none⟩ = some (.int .i64 a) ∧ w'.cell? ⟨w.heap.size, 2, none⟩ = some (.slice (some ⟨b, off, none⟩) 2 c) ∧ w'.cell? ⟨w.heap.size + 1, 0, none⟩ = some (.bool t.list) ∧ w'.cell? ⟨w.heap.size + 1, 1, none⟩ = some (.int .i64 t.num) ∧ w'.cell? ⟨w.heap.size + 1, 2, none⟩ = some (.slice VA t.items.length vcp) ∧ w'.cell? ⟨b, off, none⟩ = some (.int .i64 x.kind) ∧ w'.cell? ⟨b, off + 1, none⟩ = some (.int .i64 x.a) ∧ w'.cell? ⟨b, off + 2, none⟩ = some (.slice D x.subs.length d) ∧ w'.cell? ⟨b, off + 3, none⟩ = some (.int .i64 y.kind) ∧ w'.cell? ⟨b, off + 3 + 1, none⟩ = some (.int .i64 y.a) ∧ w'.cell? ⟨b, off + 3 + 2, none⟩ = some (.slice D2 y.subs.length d2)) (first | exact SC.out _ (by assumption) | go_keep) (first
      | (with_reducible refine (IH1.out _ (Rng.on H0.out XC)).mono ?_
         rintro e w2 ⟨rfl, bb⟩
         have X2 := Rng.on XC bb
         clear bb XC
         have XC := X2))
    clear XC
    obtain ⟨a0, a1, a2, a3, a4, a5, a6, a7, a8, a9, a10, a11⟩ := SC.out w2 X2
    have BX := Lib.hid (Rng.on H0.out X2)
    clear X2
    go_wp2_with fail
    refine (ON.out _ _).mono ?_
    rintro e w3 ⟨rfl, rfl⟩
    go_wp2_with fail
    go_ret2
    exact TPost.no EQ.out rfl BX.out
  | some x1 =>
    have IH1 := Lib.hid (show ∀ (W1 : World) (hb : Below w.heap.size w W1), Calls Tryz.prog 86 #[ev x D d, vv t VA vcp] W1 (fun e w' => e = .returned (.tuple #[.int .i64 x1, .bool true]) ∧ Below W1.heap.size W1 w') from IH1.out)
    clear a0 a1 a2 a3 a4 a5 a6 a7 a8 a9 a10 a11
    have XC : Below W0.heap.size W0 w1.drew := ebel_drew X1
    go_region_held2 (fun w' => w'.cell? ⟨w.heap.size, 0, none⟩ = some (.int .i64 10) ∧ w'.cell? ⟨w.heap.size, 1, none⟩ = some (.int .i64 a) ∧ w'.cell? ⟨w.heap.size, 2, none⟩ = some (.slice (some ⟨b, off, none⟩) 2 c) ∧ w'.cell? ⟨w.heap.size + 1, 0, none⟩ = some (.bool t.list) ∧ w'.cell? ⟨w.heap.size + 1, 1, none⟩ = some (.int .i64 t.num) ∧ w'.cell? ⟨w.heap.size + 1, 2, none⟩ = some (.slice VA t.items.length vcp) ∧ w'.cell? ⟨b, off, none⟩ = some (.int .i64 x.kind) ∧ w'.cell? ⟨b, off + 1, none⟩ = some (.int .i64 x.a) ∧ w'.cell? ⟨b, off + 2, none⟩ = some (.slice D x.subs.length d) ∧ w'.cell? ⟨b, off + 3, none⟩ = some (.int .i64 y.kind) ∧ w'.cell? ⟨b, off + 3 + 1, none⟩ = some (.int .i64 y.a) ∧ w'.cell? ⟨b, off + 3 + 2, none⟩ = some (.slice D2 y.subs.length d2)) (first | exact SC.out _ (by assumption) | go_keep) (first
      | (with_reducible refine (IH1.out _ (Rng.on H0.out XC)).mono ?_
         rintro e w2 ⟨rfl, bb⟩
         have X2 := Rng.on XC bb
         clear bb XC
         have XC := X2))
    clear XC
    obtain ⟨a0, a1, a2, a3, a4, a5, a6, a7, a8, a9, a10, a11⟩ := SC.out w2 X2
    by_cases hx : x1 = 0
    · have z1 : (x1 == 0) = true := by rw [beq_iff_eq]; exact hx
      have z2 : (x1 != 0) = false := by rw [bne_eq_false_iff_eq]; exact hx
      have EV := Lib.hid (show numE t (.node 10 a 0 [x, y]) = some x1 by rw [EQ.out]; simp [hx])
      clear hx
      have BX := Lib.hid (Rng.on H0.out X2)
      clear X2
      go_wp2_with fail
      go_ret2
      exact TPost.is EV.out rfl BX.out
    · have z1 : (x1 == 0) = false := by rw [beq_eq_false_iff_ne]; exact hx
      have z2 : (x1 != 0) = true := by rw [bne_iff_ne]; exact hx
      have EQ2 := Lib.hid (show numE t (.node 10 a 0 [x, y]) = (match numE t y with | none => none | some y1 => bin 10 x1 y1) by rw [EQ.out]; simp [hx])
      clear hx
      go_wp2_with fail
      generalize hr2 : numE t y = r2 at *
      clear hr2
      cases r2 with
      | none =>
        have IH2 := Lib.hid (show ∀ (W1 : World) (hb : Below w.heap.size w W1), Calls Tryz.prog 86 #[ev y D2 d2, vv t VA vcp] W1 (fun e w' => e = .returned (.tuple #[.int .i64 0, .bool false]) ∧ Below W1.heap.size W1 w') from IH2.out)
        clear a0 a1 a2 a3 a4 a5 a6 a7 a8 a9 a10 a11
        have XC : Below W0.heap.size W0 w2.drew := ebel_drew X2
        go_region_held2 (fun w' => w'.cell? ⟨w.heap.size, 0, none⟩ = some (.int .i64 10) ∧ w'.cell? ⟨w.heap.size, 1, none⟩ = some (.int .i64 a) ∧ w'.cell? ⟨w.heap.size, 2, none⟩ = some (.slice (some ⟨b, off, none⟩) 2 c) ∧ w'.cell? ⟨w.heap.size + 1, 0, none⟩ = some (.bool t.list) ∧ w'.cell? ⟨w.heap.size + 1, 1, none⟩ = some (.int .i64 t.num) ∧ w'.cell? ⟨w.heap.size + 1, 2, none⟩ = some (.slice VA t.items.length vcp) ∧ w'.cell? ⟨b, off, none⟩ = some (.int .i64 x.kind) ∧ w'.cell? ⟨b, off + 1, none⟩ = some (.int .i64 x.a) ∧ w'.cell? ⟨b, off + 2, none⟩ = some (.slice D x.subs.length d) ∧ w'.cell? ⟨b, off + 3, none⟩ = some (.int .i64 y.kind) ∧ w'.cell? ⟨b, off + 3 + 1, none⟩ = some (.int .i64 y.a) ∧ w'.cell? ⟨b, off + 3 + 2, none⟩ = some (.slice D2 y.subs.length d2)) (first | exact SC.out _ (by assumption) | go_keep) (first
          | (with_reducible refine (IH2.out _ (Rng.on H0.out XC)).mono ?_
             rintro e w3 ⟨rfl, bb⟩
             have X3 := Rng.on XC bb
             clear bb XC
             have XC := X3))
        clear XC
        obtain ⟨a0, a1, a2, a3, a4, a5, a6, a7, a8, a9, a10, a11⟩ := SC.out w3 X3
        have BX := Lib.hid (Rng.on H0.out X3)
        clear X3
        go_wp2_with fail
        go_ret2
        exact TPost.no EQ2.out rfl BX.out
      | some y1 =>
        have IH2 := Lib.hid (show ∀ (W1 : World) (hb : Below w.heap.size w W1), Calls Tryz.prog 86 #[ev y D2 d2, vv t VA vcp] W1 (fun e w' => e = .returned (.tuple #[.int .i64 y1, .bool true]) ∧ Below W1.heap.size W1 w') from IH2.out)
        clear a0 a1 a2 a3 a4 a5 a6 a7 a8 a9 a10 a11
        have XC : Below W0.heap.size W0 w2.drew := ebel_drew X2
        go_region_held2 (fun w' => w'.cell? ⟨w.heap.size, 0, none⟩ = some (.int .i64 10) ∧ w'.cell? ⟨w.heap.size, 1, none⟩ = some (.int .i64 a) ∧ w'.cell? ⟨w.heap.size, 2, none⟩ = some (.slice (some ⟨b, off, none⟩) 2 c) ∧ w'.cell? ⟨w.heap.size + 1, 0, none⟩ = some (.bool t.list) ∧ w'.cell? ⟨w.heap.size + 1, 1, none⟩ = some (.int .i64 t.num) ∧ w'.cell? ⟨w.heap.size + 1, 2, none⟩ = some (.slice VA t.items.length vcp) ∧ w'.cell? ⟨b, off, none⟩ = some (.int .i64 x.kind) ∧ w'.cell? ⟨b, off + 1, none⟩ = some (.int .i64 x.a) ∧ w'.cell? ⟨b, off + 2, none⟩ = some (.slice D x.subs.length d) ∧ w'.cell? ⟨b, off + 3, none⟩ = some (.int .i64 y.kind) ∧ w'.cell? ⟨b, off + 3 + 1, none⟩ = some (.int .i64 y.a) ∧ w'.cell? ⟨b, off + 3 + 2, none⟩ = some (.slice D2 y.subs.length d2)) (first | exact SC.out _ (by assumption) | go_keep) (first
          | (with_reducible refine (IH2.out _ (Rng.on H0.out XC)).mono ?_
             rintro e w3 ⟨rfl, bb⟩
             have X3 := Rng.on XC bb
             clear bb XC
             have XC := X3))
        clear XC
        obtain ⟨a0, a1, a2, a3, a4, a5, a6, a7, a8, a9, a10, a11⟩ := SC.out w3 X3
        have EQ3 := Lib.hid (show numE t (.node 10 a 0 [x, y]) = bin 10 x1 y1 from EQ2.out)
        have BX := Lib.hid (Rng.on H0.out X3)
        clear X3
        go_wp2_with fail
        go_ret2
        exact TPost.is EQ3.out rfl BX.out
set_option maxHeartbeats 4000000 in
set_option maxRecDepth 100000 in
theorem told_or (ih : ToldOK n) (a : Int) (x : Gn) (y : Gn) (hit : 0 < [x, y].length → ∃ b off, A = some ⟨b, off, none⟩ ∧ EBel B b ∧ ∀ j (h : j < [x, y].length), ∃ x0 x1 x2, w.cell? ⟨b, off + j * 3, none⟩ = some x0 ∧ w.cell? ⟨b, off + j * 3 + 1, none⟩ = some x1 ∧ w.cell? ⟨b, off + j * 3 + 2, none⟩ = some x2 ∧ EAt w (EBel B) n (.agg #[x0, x1, x2]) ([x, y][j]'h))
    (hv : TAt w (Bel B) m (vv t VA vcp) t) (hB : B ≤ w.heap.size) (hf : formE x = true) (hf2 : formE y = true) (hs : t.size ≤ 1073741824) :
    Calls Tryz.prog 86 #[.agg #[.int .i64 11, .int .i64 a, .slice A 2 c], vv t VA vcp] w (TPost (numE t (.node 11 a 0 [x, y])) w) := by
  obtain ⟨b, off, D, d, rfl, c0, c1, c2, hti⟩ := esub_as hit (Below.refl B w) 0 (by simp)
  obtain ⟨b', off', D2, d2, hbb, q0, q1, q2, htj⟩ := esub_as hit (Below.refl B w) 1 (by simp)
  obtain ⟨rfl, rfl⟩ : b = b' ∧ off = off' := by simpa using hbb
  clear hbb
  simp only [Nat.zero_mul, Nat.one_mul, Nat.add_zero, List.getElem_cons_zero, List.getElem_cons_succ] at c0 c1 c2 hti q0 q1 q2 htj
  have IH1 := Lib.hid (fun (W1 : World) (hb : Below w.heap.size w W1) => ih x (ev x D d) t VA vcp m B W1 (hti.below (hb.mono hB)) (hv.below (hb.mono hB)) (Nat.le_trans hB hb.size) hf hs)
  have IH2 := Lib.hid (fun (W1 : World) (hb : Below w.heap.size w W1) => ih y (ev y D2 d2) t VA vcp m B W1 (htj.below (hb.mono hB)) (hv.below (hb.mono hB)) (Nat.le_trans hB hb.size) hf2 hs)
  have H0 := ebel2 w (.cells #[.int .i64 11, .int .i64 a, .slice (some ⟨b, off, none⟩) 2 c] 27) (vc t VA vcp)
  have SC := Lib.hid (fun (W : World) (hb : Below ((w.alloc (.cells #[.int .i64 11, .int .i64 a, .slice (some ⟨b, off, none⟩) 2 c] 27)).alloc (vc t VA vcp)).heap.size ((w.alloc (.cells #[.int .i64 11, .int .i64 a, .slice (some ⟨b, off, none⟩) 2 c] 27)).alloc (vc t VA vcp)) W) => show W.cell? ⟨w.heap.size, 0, none⟩ = some (.int .i64 11) ∧ W.cell? ⟨w.heap.size, 1, none⟩ = some (.int .i64 a) ∧ W.cell? ⟨w.heap.size, 2, none⟩ = some (.slice (some ⟨b, off, none⟩) 2 c) ∧ W.cell? ⟨w.heap.size + 1, 0, none⟩ = some (.bool t.list) ∧ W.cell? ⟨w.heap.size + 1, 1, none⟩ = some (.int .i64 t.num) ∧ W.cell? ⟨w.heap.size + 1, 2, none⟩ = some (.slice VA t.items.length vcp) ∧ W.cell? ⟨b, off, none⟩ = some (.int .i64 x.kind) ∧ W.cell? ⟨b, off + 1, none⟩ = some (.int .i64 x.a) ∧ W.cell? ⟨b, off + 2, none⟩ = some (.slice D x.subs.length d) ∧ W.cell? ⟨b, off + 3, none⟩ = some (.int .i64 y.kind) ∧ W.cell? ⟨b, off + 3 + 1, none⟩ = some (.int .i64 y.a) ∧ W.cell? ⟨b, off + 3 + 2, none⟩ = some (.slice D2 y.subs.length d2) from by
    obtain ⟨z1, z2⟩ := ebox2 w (.int .i64 11) (.int .i64 a) (.slice (some ⟨b, off, none⟩) 2 c) (.bool t.list) (.int .i64 t.num) (.slice VA t.items.length vcp) W hb
    exact ⟨z1.1, z1.2.1, z1.2.2, z2.1, z2.2.1, z2.2.2, cell_later (H0.trans (hb.mono H0.size)) c0, cell_later (H0.trans (hb.mono H0.size)) c1, cell_later (H0.trans (hb.mono H0.size)) c2, cell_later (H0.trans (hb.mono H0.size)) q0, cell_later (H0.trans (hb.mono H0.size)) q1, cell_later (H0.trans (hb.mono H0.size)) q2⟩)
  have LV := Lib.hid (leaves_any m t (vv t VA vcp) B _ (hv.below (H0.mono hB)) (Nat.le_trans hB H0.size) hs)
  have H0 := Lib.hid H0
  have hln : t.items.length ≤ 1073741824 := by have := len_sizes t.items; have := size_items t; omega
  have EQ := Lib.hid (show numE t (.node 11 a 0 [x, y]) = (match numE t x with | none => none | some x1 => if (11 : Int) = 10 ∧ x1 = 0 then some x1 else if (11 : Int) = 11 ∧ ¬ x1 = 0 then some x1 else match numE t y with | none => none | some y1 => bin 11 x1 y1) by rw [numE_eq]; show comb 11 a t [numE t x, numE t y] = _; exact comb_two 11 a t _ _ (by omega) (by omega))
  have ON := Lib.hid one_any
  clear ih hit hv hB hf hf2 hs hti htj c0 c1 c2 q0 q1 q2
  generalize hr : numE t x = r at *
  clear hr
  go_enter Tryz.func86, Tryz.ntmps86
  go_wp2_with fail
  refine LV.out.mono ?_
  rintro e w1 ⟨LA, lc, rfl, lo, X1⟩
  obtain ⟨a0, a1, a2, a3, a4, a5, a6, a7, a8, a9, a10, a11⟩ := SC.out w1 X1
  go_wp2_with fail
  generalize (w.alloc (.cells #[.int .i64 11, .int .i64 a, .slice (some ⟨b, off, none⟩) 2 c] 27)).alloc (vc t VA vcp) = W0 at *
  cases r with
  | none =>
    have IH1 := Lib.hid (show ∀ (W1 : World) (hb : Below w.heap.size w W1), Calls Tryz.prog 86 #[ev x D d, vv t VA vcp] W1 (fun e w' => e = .returned (.tuple #[.int .i64 0, .bool false]) ∧ Below W1.heap.size W1 w') from IH1.out)
    clear a0 a1 a2 a3 a4 a5 a6 a7 a8 a9 a10 a11
    have XC : Below W0.heap.size W0 w1.drew := ebel_drew X1
    go_region_held2 (fun w' => w'.cell? ⟨w.heap.size, 0, none⟩ = some (.int .i64 11) ∧ w'.cell? ⟨w.heap.size, 1, none⟩ = some (.int .i64 a) ∧ w'.cell? ⟨w.heap.size, 2, none⟩ = some (.slice (some ⟨b, off, none⟩) 2 c) ∧ w'.cell? ⟨w.heap.size + 1, 0, none⟩ = some (.bool t.list) ∧ w'.cell? ⟨w.heap.size + 1, 1, none⟩ = some (.int .i64 t.num) ∧ w'.cell? ⟨w.heap.size + 1, 2, none⟩ = some (.slice VA t.items.length vcp) ∧ w'.cell? ⟨b, off, none⟩ = some (.int .i64 x.kind) ∧ w'.cell? ⟨b, off + 1, none⟩ = some (.int .i64 x.a) ∧ w'.cell? ⟨b, off + 2, none⟩ = some (.slice D x.subs.length d) ∧ w'.cell? ⟨b, off + 3, none⟩ = some (.int .i64 y.kind) ∧ w'.cell? ⟨b, off + 3 + 1, none⟩ = some (.int .i64 y.a) ∧ w'.cell? ⟨b, off + 3 + 2, none⟩ = some (.slice D2 y.subs.length d2)) (first | exact SC.out _ (by assumption) | go_keep) (first
      | (with_reducible refine (IH1.out _ (Rng.on H0.out XC)).mono ?_
         rintro e w2 ⟨rfl, bb⟩
         have X2 := Rng.on XC bb
         clear bb XC
         have XC := X2))
    clear XC
    obtain ⟨a0, a1, a2, a3, a4, a5, a6, a7, a8, a9, a10, a11⟩ := SC.out w2 X2
    have BX := Lib.hid (Rng.on H0.out X2)
    clear X2
    go_wp2_with fail
    refine (ON.out _ _).mono ?_
    rintro e w3 ⟨rfl, rfl⟩
    go_wp2_with fail
    go_ret2
    exact TPost.no EQ.out rfl BX.out
  | some x1 =>
    have IH1 := Lib.hid (show ∀ (W1 : World) (hb : Below w.heap.size w W1), Calls Tryz.prog 86 #[ev x D d, vv t VA vcp] W1 (fun e w' => e = .returned (.tuple #[.int .i64 x1, .bool true]) ∧ Below W1.heap.size W1 w') from IH1.out)
    clear a0 a1 a2 a3 a4 a5 a6 a7 a8 a9 a10 a11
    have XC : Below W0.heap.size W0 w1.drew := ebel_drew X1
    go_region_held2 (fun w' => w'.cell? ⟨w.heap.size, 0, none⟩ = some (.int .i64 11) ∧ w'.cell? ⟨w.heap.size, 1, none⟩ = some (.int .i64 a) ∧ w'.cell? ⟨w.heap.size, 2, none⟩ = some (.slice (some ⟨b, off, none⟩) 2 c) ∧ w'.cell? ⟨w.heap.size + 1, 0, none⟩ = some (.bool t.list) ∧ w'.cell? ⟨w.heap.size + 1, 1, none⟩ = some (.int .i64 t.num) ∧ w'.cell? ⟨w.heap.size + 1, 2, none⟩ = some (.slice VA t.items.length vcp) ∧ w'.cell? ⟨b, off, none⟩ = some (.int .i64 x.kind) ∧ w'.cell? ⟨b, off + 1, none⟩ = some (.int .i64 x.a) ∧ w'.cell? ⟨b, off + 2, none⟩ = some (.slice D x.subs.length d) ∧ w'.cell? ⟨b, off + 3, none⟩ = some (.int .i64 y.kind) ∧ w'.cell? ⟨b, off + 3 + 1, none⟩ = some (.int .i64 y.a) ∧ w'.cell? ⟨b, off + 3 + 2, none⟩ = some (.slice D2 y.subs.length d2)) (first | exact SC.out _ (by assumption) | go_keep) (first
      | (with_reducible refine (IH1.out _ (Rng.on H0.out XC)).mono ?_
         rintro e w2 ⟨rfl, bb⟩
         have X2 := Rng.on XC bb
         clear bb XC
         have XC := X2))
    clear XC
    obtain ⟨a0, a1, a2, a3, a4, a5, a6, a7, a8, a9, a10, a11⟩ := SC.out w2 X2
    by_cases hx : x1 = 0
    · have z1 : (x1 == 0) = true := by rw [beq_iff_eq]; exact hx
      have z2 : (x1 != 0) = false := by rw [bne_eq_false_iff_eq]; exact hx
      have EQ2 := Lib.hid (show numE t (.node 11 a 0 [x, y]) = (match numE t y with | none => none | some y1 => bin 11 x1 y1) by rw [EQ.out]; simp [hx])
      clear hx
      go_wp2_with fail
      generalize hr2 : numE t y = r2 at *
      clear hr2
      cases r2 with
      | none =>
        have IH2 := Lib.hid (show ∀ (W1 : World) (hb : Below w.heap.size w W1), Calls Tryz.prog 86 #[ev y D2 d2, vv t VA vcp] W1 (fun e w' => e = .returned (.tuple #[.int .i64 0, .bool false]) ∧ Below W1.heap.size W1 w') from IH2.out)
        clear a0 a1 a2 a3 a4 a5 a6 a7 a8 a9 a10 a11
        have XC : Below W0.heap.size W0 w2.drew := ebel_drew X2
        go_region_held2 (fun w' => w'.cell? ⟨w.heap.size, 0, none⟩ = some (.int .i64 11) ∧ w'.cell? ⟨w.heap.size, 1, none⟩ = some (.int .i64 a) ∧ w'.cell? ⟨w.heap.size, 2, none⟩ = some (.slice (some ⟨b, off, none⟩) 2 c) ∧ w'.cell? ⟨w.heap.size + 1, 0, none⟩ = some (.bool t.list) ∧ w'.cell? ⟨w.heap.size + 1, 1, none⟩ = some (.int .i64 t.num) ∧ w'.cell? ⟨w.heap.size + 1, 2, none⟩ = some (.slice VA t.items.length vcp) ∧ w'.cell? ⟨b, off, none⟩ = some (.int .i64 x.kind) ∧ w'.cell? ⟨b, off + 1, none⟩ = some (.int .i64 x.a) ∧ w'.cell? ⟨b, off + 2, none⟩ = some (.slice D x.subs.length d) ∧ w'.cell? ⟨b, off + 3, none⟩ = some (.int .i64 y.kind) ∧ w'.cell? ⟨b, off + 3 + 1, none⟩ = some (.int .i64 y.a) ∧ w'.cell? ⟨b, off + 3 + 2, none⟩ = some (.slice D2 y.subs.length d2)) (first | exact SC.out _ (by assumption) | go_keep) (first
          | (with_reducible refine (IH2.out _ (Rng.on H0.out XC)).mono ?_
             rintro e w3 ⟨rfl, bb⟩
             have X3 := Rng.on XC bb
             clear bb XC
             have XC := X3))
        clear XC
        obtain ⟨a0, a1, a2, a3, a4, a5, a6, a7, a8, a9, a10, a11⟩ := SC.out w3 X3
        have BX := Lib.hid (Rng.on H0.out X3)
        clear X3
        go_wp2_with fail
        go_ret2
        exact TPost.no EQ2.out rfl BX.out
      | some y1 =>
        have IH2 := Lib.hid (show ∀ (W1 : World) (hb : Below w.heap.size w W1), Calls Tryz.prog 86 #[ev y D2 d2, vv t VA vcp] W1 (fun e w' => e = .returned (.tuple #[.int .i64 y1, .bool true]) ∧ Below W1.heap.size W1 w') from IH2.out)
        clear a0 a1 a2 a3 a4 a5 a6 a7 a8 a9 a10 a11
        have XC : Below W0.heap.size W0 w2.drew := ebel_drew X2
        go_region_held2 (fun w' => w'.cell? ⟨w.heap.size, 0, none⟩ = some (.int .i64 11) ∧ w'.cell? ⟨w.heap.size, 1, none⟩ = some (.int .i64 a) ∧ w'.cell? ⟨w.heap.size, 2, none⟩ = some (.slice (some ⟨b, off, none⟩) 2 c) ∧ w'.cell? ⟨w.heap.size + 1, 0, none⟩ = some (.bool t.list) ∧ w'.cell? ⟨w.heap.size + 1, 1, none⟩ = some (.int .i64 t.num) ∧ w'.cell? ⟨w.heap.size + 1, 2, none⟩ = some (.slice VA t.items.length vcp) ∧ w'.cell? ⟨b, off, none⟩ = some (.int .i64 x.kind) ∧ w'.cell? ⟨b, off + 1, none⟩ = some (.int .i64 x.a) ∧ w'.cell? ⟨b, off + 2, none⟩ = some (.slice D x.subs.length d) ∧ w'.cell? ⟨b, off + 3, none⟩ = some (.int .i64 y.kind) ∧ w'.cell? ⟨b, off + 3 + 1, none⟩ = some (.int .i64 y.a) ∧ w'.cell? ⟨b, off + 3 + 2, none⟩ = some (.slice D2 y.subs.length d2)) (first | exact SC.out _ (by assumption) | go_keep) (first
          | (with_reducible refine (IH2.out _ (Rng.on H0.out XC)).mono ?_
             rintro e w3 ⟨rfl, bb⟩
             have X3 := Rng.on XC bb
             clear bb XC
             have XC := X3))
        clear XC
        obtain ⟨a0, a1, a2, a3, a4, a5, a6, a7, a8, a9, a10, a11⟩ := SC.out w3 X3
        have EQ3 := Lib.hid (show numE t (.node 11 a 0 [x, y]) = bin 11 x1 y1 from EQ2.out)
        have BX := Lib.hid (Rng.on H0.out X3)
        clear X3
        go_wp2_with fail
        go_ret2
        exact TPost.is EQ3.out rfl BX.out
    · have z1 : (x1 == 0) = false := by rw [beq_eq_false_iff_ne]; exact hx
      have z2 : (x1 != 0) = true := by rw [bne_iff_ne]; exact hx
      have EV := Lib.hid (show numE t (.node 11 a 0 [x, y]) = some x1 by rw [EQ.out]; simp [hx])
      clear hx
      have BX := Lib.hid (Rng.on H0.out X2)
      clear X2
      go_wp2_with fail
      go_ret2
      exact TPost.is EV.out rfl BX.out
end
theorem told_any : ∀ n, ToldOK n
  | 0 => fun g v t A c m B w h => h.elim
  | n + 1 => by
    intro g v t VA vcp m B w h hv hB hf hs
    obtain ⟨n', A, c, e, hw, rfl, hit⟩ := h.open_
    obtain rfl : n = n' := by omega
    have ih := told_any n
    obtain ⟨hk, hfs⟩ := form_subs hf
    obtain ⟨k1, k11⟩ := form_kind hf
    cases g with | node k a b s =>
    simp only [Gn.kind, Gn.subs, Gn.a, ev] at *
    rw [numE_b]
    by_cases h4 : k ≤ 4
    · rcases (show k = 1 ∨ k = 2 ∨ k = 3 ∨ k = 4 by omega) with rfl | rfl | rfl | rfl
      · exact told_lit a s.length s hv hB hs
      · exact told_sum a s.length s hv hB hs
      · exact told_top a s.length s hv hB hs
      · exact told_len a s.length s hv hB hs
    · by_cases h9 : k = 9
      · subst h9
        match s, hk with
        | [x], _ => exact told_not ih a x hit hv hB (hfs x (by simp)) hs
      · have hs2 : s.length = 2 := by
          unfold subsE at hk
          rw [if_neg (by omega), if_neg h4, if_neg h9] at hk
          omega
        match s, hs2 with
        | [x, y], _ =>
          rcases (show k = 5 ∨ k = 6 ∨ k = 7 ∨ k = 8 ∨ k = 10 ∨ k = 11 by omega) with rfl | rfl | rfl | rfl | rfl | rfl
          · exact told_add ih a x y hit hv hB (hfs x (by simp)) (hfs y (by simp)) hs
          · exact told_rem ih a x y hit hv hB (hfs x (by simp)) (hfs y (by simp)) hs
          · exact told_less ih a x y hit hv hB (hfs x (by simp)) (hfs y (by simp)) hs
          · exact told_same ih a x y hit hv hB (hfs x (by simp)) (hfs y (by simp)) hs
          · exact told_and ih a x y hit hv hB (hfs x (by simp)) (hfs y (by simp)) hs
          · exact told_or ih a x y hit hv hB (hfs x (by simp)) (hfs y (by simp)) hs
set_option maxHeartbeats 1000000 in
set_option maxRecDepth 100000 in
theorem bad_any {n m c vcp B : Nat} {A VA : Option Addr} {g : Gn} {t : Tr} (w : World) (h : EAt w (EBel B) n (ev g A c) g) (hv : TAt w (Bel B) m (vv t VA vcp) t) (hB : B ≤ w.heap.size) (hf : formE g = true) (hs : t.size ≤ 1073741824) :
    Calls Tryz.prog 53 #[ev g A c, vv t VA vcp] w fun e w' => e = .returned (.bool (badN (numE t g))) ∧ Below w.heap.size w w' := by
  have H0 := ebel2 w (ec g A c) (vc t VA vcp)
  have T1 := told_any n g (ev g A c) t VA vcp m B _ (h.below (H0.mono hB)) (hv.below (H0.mono hB)) (Nat.le_trans hB H0.size) hf hs
  have H0 := Lib.hid H0
  clear h hv hB hf hs
  generalize numE t g = r at *
  have T1 := Lib.hid T1
  cases r with
  | none =>
    have T1 := Lib.hid (show Calls Tryz.prog 86 #[ev g A c, vv t VA vcp] ((w.alloc (ec g A c)).alloc (vc t VA vcp)) (fun e w' => e = .returned (.tuple #[.int .i64 0, .bool false]) ∧ Below ((w.alloc (ec g A c)).alloc (vc t VA vcp)).heap.size ((w.alloc (ec g A c)).alloc (vc t VA vcp)) w') from T1.out)
    go_enter Tryz.func53, Tryz.ntmps53
    go_wp2_with fail
    refine T1.out.mono ?_
    rintro e w1 ⟨rfl, b1⟩
    have B1 := Lib.hid (Rng.on H0.out b1)
    clear b1
    go_wp2_with fail
    go_ret
    exact ⟨rfl, B1.out⟩
  | some x =>
    have T1 := Lib.hid (show Calls Tryz.prog 86 #[ev g A c, vv t VA vcp] ((w.alloc (ec g A c)).alloc (vc t VA vcp)) (fun e w' => e = .returned (.tuple #[.int .i64 x, .bool true]) ∧ Below ((w.alloc (ec g A c)).alloc (vc t VA vcp)).heap.size ((w.alloc (ec g A c)).alloc (vc t VA vcp)) w') from T1.out)
    go_enter Tryz.func53, Tryz.ntmps53
    go_wp2_with fail
    refine T1.out.mono ?_
    rintro e w1 ⟨rfl, b1⟩
    have B1 := Lib.hid (Rng.on H0.out b1)
    clear b1
    go_wp2_with fail
    go_ret
    exact ⟨rfl, B1.out⟩
end Go.Proofs.YtabkihellcflhaaGreatDoor.Exprs
