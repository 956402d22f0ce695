/- PairsMore: the walk. Conditions: the sizes. -/
import Derived.Test.YtbajkbkfinineaaPair
import Derived.Test.YtbajkbkfinineaaSlices
import Derived.Test.YtbajkbkfinineaaRowsIn
import Derived.Test.YtbajkbkfinineaaGrowS
import Derived.BigQuiet
namespace Go.Proofs.Ytbajkbkfinineaa.PairsMoreLaw
open Go.RowKit Ints Lists Vals Arr Pair
set_option linter.unusedVariables false

theorem belm (w : World) (o : Obj) : Below w.heap.size w (w.alloc o) := (Below.refl _ _).alloc (Nat.le_refl _) _
theorem two_two (w : World) : At (w.alloc (.cells #[.int .i64 2, .int .i64 2] 3)) (w.alloc (.cells #[.int .i64 2, .int .i64 2] 3)).heap.size (some ⟨w.heap.size, 0, none⟩) [2, 2] := fun _ =>
  ⟨w.heap.size, 0, rfl, by simp, fun j hj => by
    have hj : j < 2 := hj
    obtain rfl | rfl : j = 0 ∨ j = 1 := by omega
    all_goals rw [Lib.cell_of_heap (heap_new2 w _)]; rfl⟩
/-- the fact: of 2 and 2 there are four -/
theorem rows_fact (w : World) : Calls Try.prog 6 #[.slice (some ⟨w.heap.size, 0, none⟩) 2 2] (w.alloc (.cells #[.int .i64 2, .int .i64 2] 3)) fun e w' => ∃ (A : Option Addr) (c : Nat), e = .returned (.tuple #[.slice A 4 c, .nilIface]) ∧ Below w.heap.size w w' := by
  refine (rows_prog (levels := [2, 2]) (lc := 2) _ (two_two w) (by simp) (by simp)).mono ?_
  rintro e w' ⟨A, c, rfl, _, hb⟩
  have h0 : levE [2, 2] = 0 := by decide
  have h1 : lv [2, 2] 0 * lv [2, 2] 1 ≤ (rowsV [2, 2]).length := rows_least (rows_ok h0) (a := 0) (b := 1) (by omega) (by simp)
  have h2 : (rowsV [2, 2]).length ≤ lv [2, 2] 0 * lv [2, 2] 1 := two_most (rows_ok h0) (.inl (by simp))
  have h3 : lv [2, 2] 0 * lv [2, 2] 1 = 4 := by decide
  have h5 : (rowsV [2, 2]).length = 4 := by omega
  rw [h0, h5, errOf_ok]
  exact ⟨A, c, rfl, below_trans (belm w _) hb⟩
theorem rows_empty {w : World} {b : Nat} (h : w.heap[b]? = some (.cells #[] 22 (0, 0))) : OwnRows w 0 (some ⟨b, 0, none⟩) 0 [] :=
  ⟨[], rfl, ⟨rfl, .inr ⟨b, 0, #[], rfl, Nat.zero_le _, h, Nat.le_refl _, Nat.zero_le _, rfl, rfl⟩⟩, fun j h => by simp at h⟩
theorem bel_drewq (w : World) (n B : Nat) : Below B w (w.drewN n) := ⟨rfl, rfl, rfl, Nat.le_refl _, fun _ _ => rfl⟩
/-- of those that are met, up to a place -/
def metK (z : List Quad) (r : List Int) (i : Nat) : Nat := ((z.take i).filter fun q => metQ q r).length
theorem met_step (z : List Quad) (r : List Int) (i : Nat) (h : i < z.length) : metK z r (i + 1) = metK z r i + (if metQ z[i] r = true then 1 else 0) := by
  unfold metK
  rw [List.take_succ_eq_append_getElem h, List.filter_append, List.length_append]
  by_cases hc : metQ z[i] r = true
  · rw [if_pos hc]; simp [hc]
  · rw [if_neg hc]; simp [hc]
theorem met_le (z : List Quad) (r : List Int) (i : Nat) : metK z r i ≤ i := by
  unfold metK
  have := List.length_filter_le (fun q => metQ q r) (z.take i)
  have := List.length_take_le i z
  omega
/-- with a row more -/
theorem more_told {levels : List Int} {rows : List (List Int)} {r : List Int} (h1 : misE levels rows = 0) (h2 : misE levels (rows ++ [r]) = 0) : (misV levels (rows ++ [r])).length + metK (misV levels rows) r (misV levels rows).length = (misV levels rows).length ∧ (misV levels rows).length ≤ 4000 ∧ rowB levels r = true ∧ ∀ q ∈ misV levels rows, q.a < levels.length ∧ q.b < levels.length := by
  have a1 : misV levels rows = missL levels rows := by unfold misV; rw [if_pos h1]
  have a2 : misV levels (rows ++ [r]) = missL levels (rows ++ [r]) := by unfold misV; rw [if_pos h2]
  obtain ⟨b1, b2⟩ := mis_ok h2
  obtain ⟨b3, b4⟩ := lev_ok b1
  rw [a1, a2]
  refine ⟨?_, miss_le b3 b4 rows, b2 r (by simp), fun q hq => ?_⟩
  · unfold metK
    rw [List.take_length]
    exact more_count levels rows r
  · obtain ⟨h3, _⟩ := mem_miss.1 hq
    obtain ⟨h4, h5, _⟩ := mem_quads.1 h3
    omega

set_option maxHeartbeats 8000000 in
set_option maxRecDepth 100000 in
theorem walk (levels : List Int) (L : Option Addr) (lc : Nat) (rows : List (List Int)) (R : Option Addr) (rc : Nat) (row : List Int) (A : Option Addr) (ac : Nat) (hbulk : levels.length + partsR rows + row.length ≤ 1048576) (w : World) (hl : At w w.heap.size L levels) (hcap : levels.length ≤ lc) (hR : RowsAt w w.heap.size R rows) (hrc : rows.length ≤ rc) (hA : At w w.heap.size A row) (hac : row.length ≤ ac) :
    Calls Try.prog 4 #[.slice L levels.length lc, .slice R rows.length rc, .slice A row.length ac] w fun e w' => e = .returned (.bool true) ∧ Below w.heap.size w w' := by
  have RF := Lib.hid (rows_fact w)
  have hpl := parts_len rows
  have hpe : ∀ r ∈ rows, r.length ≤ 1048576 := fun r hr => by have := parts_each hr; omega
  have MS := Lib.hid (fun (W : World) (hb : Below w.heap.size w W) (rs : List (List Int)) (B : Option Addr) (bc : Nat) (hB : RowsAt W W.heap.size B rs) (h1 : rs.length ≤ 4294967296) (h2 : rs.length ≤ bc) (h3 : ∀ r ∈ rs, r.length ≤ 4294967296) => show Calls Try.prog 7 #[.slice L levels.length lc, .slice B rs.length bc] W fun e w' => ∃ (A : Option Addr) (c : Nat), e = .returned (.tuple #[.slice A (misV levels rs).length c, errOf (misE levels rs)]) ∧ AtE 4 four w' (fun b => W.heap.size ≤ b ∧ b < w'.heap.size) A (misV levels rs) ∧ Below W.heap.size W w' from missing_prog W ((hl.below hb).more hb.size) (by omega) hcap hB h1 h2 h3)
  have HR := Lib.hid (fun (W : World) (hb : Below w.heap.size w W) => show RowsAt W W.heap.size R rows from RowsP.more (RowsP.below hR hb) hb.size)
  have HA := Lib.hid (fun (W : World) (hb : Below w.heap.size w W) => show At W W.heap.size A row from (hA.below hb).more hb.size)
  have LN := Lib.hid (show rows.length ≤ 1048576 ∧ (∀ r ∈ rows, r.length ≤ 4294967296) ∧ row.length ≤ 1048576 ∧ rows.length ≤ rc ∧ row.length ≤ ac from ⟨by omega, fun r hr => by have := hpe r hr; omega, by omega, hrc, hac⟩)
  clear hl hcap hR hrc hA hac hbulk hpl hpe
  go_enter Try.func4, Try.ntmps4
  go_wp2_with fail
  ((with_reducible refine RF.out.mono ?_))
  rintro e w1 ⟨A1, c1, rfl, hb1⟩
  have B1 := Lib.hid hb1
  have C1 := Lib.hid (MS.out w1 hb1 rows R rc (HR.out w1 hb1) (by have := LN.out.1; omega) LN.out.2.2.2.1 LN.out.2.1)
  clear hb1 RF
  go_wp2_with fail
  ((with_reducible refine C1.out.mono ?_))
  rintro e w2 ⟨A2, c2, rfl, hz2, hb2⟩
  have Z2 := Lib.hid hz2
  have B2 := Lib.hid (below_trans B1.out hb2)
  clear hz2 hb2 C1 B1
  have OE := Lib.hid (rows_empty (heap_new2 w2 (.cells #[] 22)))
  have BE := Lib.hid (belm w2 (.cells #[] 22))
  have SE := Lib.hid (show (w2.alloc (.cells #[] 22)).heap.size = w2.heap.size + 1 by simp)
  have RE := Lib.hid (show RowsP (w2.alloc (.cells #[] 22)) (fun _ => True) (fun b => 0 ≤ b ∧ b < (w2.alloc (.cells #[] 22)).heap.size ∧ rowOf (some ⟨w2.heap.size, 0, none⟩ : Option Addr) ≠ some b) R rows from (HR.out w2 B2.out).keep (fun b hb => ⟨trivial, fun o => BE.out.cell (p := ⟨b, o, none⟩) hb⟩) (fun b hb => ⟨⟨Nat.zero_le _, Nat.lt_of_lt_of_le hb BE.out.size, fun e => by
    have : w2.heap.size = b := by simpa [rowOf] using e
    have hb : b < w2.heap.size := hb
    omega⟩, fun o => BE.out.cell (p := ⟨b, o, none⟩) hb⟩))
  have RW := Lib.hid (fun (W : World) (A5 : Option Addr) (hb : Below w2.heap.size w2 W) (h5 : ∀ g, rowOf A5 = some g → w2.heap.size ≤ g) => show RowsP (W.alloc (.cells #[.slice A row.length ac] 22)) (fun _ => True) (fun b => 0 ≤ b ∧ b < (W.alloc (.cells #[.slice A row.length ac] 22)).heap.size ∧ rowOf A5 ≠ some b) (some ⟨W.heap.size, 0, none⟩) [row] from fun _ =>
    ⟨W.heap.size, 0, rfl, trivial, fun j hj => by
      have hj : j < 1 := hj
      obtain rfl : j = 0 := by omega
      refine ⟨A, ac, by rw [Lib.cell_of_heap (heap_new2 W _)]; rfl, LN.out.2.2.2.2, ?_⟩
      have hA2 := AtP.of_at (HA.out w2 B2.out)
      refine hA2.keep fun b hb2 => ?_
      have hb2 : b < w2.heap.size := hb2
      have hs := (belm W (.cells #[.slice A row.length ac] 22)).size
      refine ⟨⟨Nat.zero_le _, by have := hb.size; omega, fun e => by have := h5 b e; omega⟩, fun o => ?_⟩
      exact ((belm W (.cells #[.slice A row.length ac] 22)).cell (p := ⟨b, o, none⟩) (Nat.lt_of_lt_of_le hb2 hb.size)).trans (hb.cell (p := ⟨b, o, none⟩) hb2)⟩)
  go_wp2_with (first
    | (at_builtin
       refine wpList_append_rows rfl (.tmp 36) (.tmp 37) rfl 0 0 (some ⟨w2.heap.size, 0, none⟩) [] OE.out R rc rows RE.out rfl rfl (by have := LN.out.1; simp; omega) (Nat.zero_le _) ?_
       intro A5 c5 w5 z5 hz5 own5 g5 r5
       obtain rfl : z5 = rows := hz5.out
       have B5 := Lib.hid (BE.out.grown g5 BE.out.size (fun g hg => by have : w2.heap.size = g := by simpa [rowOf] using hg
                                                                       omega))
       have N5 := Lib.hid (show ∀ g, rowOf A5 = some g → w2.heap.size ≤ g from fun g hg => by
         rcases r5 with h | h
         · rw [hg] at h
           have : g = w2.heap.size := by simpa [rowOf] using h
           omega
         · rw [hg] at h
           have : g = w2.heap.size + 1 := by have := SE.out; injection h with h; omega
           omega)
       have BA5 := Lib.hid (belm w5 (.cells #[.slice A row.length ac] 22))
       have O5 := Lib.hid (own5.below BA5.out)
       have RW5 := Lib.hid (RW.out w5 A5 B5.out N5.out)
       clear own5 g5 r5)
    | (at_builtin
       refine wpList_append_rows rfl (.tmp 38) (.tmp 40) rfl 0 c5 A5 z5 O5.out (some ⟨w5.heap.size, 0, none⟩) 1 [row] RW5.out rfl rfl (by have := LN.out.1; simp; omega) (Nat.zero_le _) ?_
       intro A6 c6 w6 z6 hz6 own6 g6 r6
       have B6 := Lib.hid (B5.out.trans ((BA5.out.mono B5.out.size).grown g6 (Nat.le_trans B5.out.size BA5.out.size) (fun g hg => N5.out g hg)))
       have O6 := Lib.hid own6
       have H6 := Lib.hid hz6.out
       clear own6 g6 r6))
  obtain rfl : z6 = z5 ++ [row] := H6.out
  have B6w := Lib.hid (below_trans B2.out B6.out)
  have C6 := Lib.hid (MS.out w6 B6w.out (z5 ++ [row]) A6 c6 O6.out.at_ (by have := LN.out.1; simp; omega) O6.out.cap_ (by
    intro r hr
    rw [List.mem_append] at hr
    rcases hr with hr | hr
    · exact LN.out.2.1 r hr
    · have : r = row := by simpa using hr
      subst this
      have := LN.out.2.2.1
      omega))
  have Z6 := Lib.hid (Z2.out.keep (S' := fun b => b < w6.heap.size) fun b hb => ⟨Nat.lt_of_lt_of_le hb.2 B6.out.size, fun o => B6.out.cell (p := ⟨b, o, none⟩) hb.2⟩)
  clear OE BE SE RE RW B5 N5 BA5 O5 RW5 B6 O6 H6 Z2 MS HR
  ((with_reducible refine C6.out.mono ?_))
  rintro e w7 ⟨A7, c7, rfl, _, hb7⟩
  have B7 := Lib.hid (below_trans B6w.out hb7)
  have Z7 := Lib.hid (Z6.out.keep (S' := fun b => b < w7.heap.size) fun b hb => by
    have hlt : b < w6.heap.size := hb
    exact ⟨Nat.lt_of_lt_of_le hlt hb7.size, fun o => hb7.cell (p := ⟨b, o, none⟩) hlt⟩)
  clear C6 hb7 Z6 B6w
  by_cases h1 : misE levels z5 = 0
  · by_cases h2 : misE levels (z5 ++ [row]) = 0
    · have MT := more_told h1 h2
      rw [h1, h2, errOf_ok]
      clear h1 h2
      generalize misV levels z5 = z at *
      generalize (misV levels (z5 ++ [row])).length = nb at *
      have hz4 : (z.length : Int) ≤ 4000 := by have := MT.2.1; omega
      have MT := Lib.hid MT
      go_wp2_with fail
      go_loopw [13, 14] (fun mv iv wr => ∃ k : Nat, k ≤ z.length ∧ iv = .int .i64 k ∧ mv = .int .i64 (metK z row k) ∧ Hid (Below w7.heap.size w7 wr)) (fun _ iv _ => z.length - (intOf iv).toNat)
      case atStart => exact ⟨0, Nat.zero_le _, rfl, rfl, Below.refl _ _⟩
      case round =>
        obtain ⟨k, hk, rfl, rfl, hbb⟩ := hrel
        have hml := met_le z row k
        by_cases hlt : k < z.length
        · have BW := Lib.hid (below_trans B7.out hbb.out)
          obtain ⟨zb, zo, rfl, hzb, zc⟩ := four_cells (Z7.out.below (fun b hb => hb) hbb.out) (by omega)
          obtain ⟨p0, p1, p2, p3⟩ := zc k hlt
          have BI := Lib.hid (MT.out.2.2.2 z[k] (List.getElem_mem hlt))
          have RR := Lib.hid (row_right MT.out.2.2.1)
          have MK := Lib.hid (met_step z row k hlt)
          have MQ := Lib.hid (show metQ z[k] row = (row.getD z[k].a 0 == (z[k].x : Int) && row.getD z[k].b 0 == (z[k].y : Int)) from rfl)
          obtain ⟨rb, ro, rfl, hrb, rcell⟩ := HA.out wr BW.out (by have := RR.out.1; have := BI.out; omega)
          have ha : z[k].a < row.length := by rw [RR.out.1]; exact BI.out.1
          have hb : z[k].b < row.length := by rw [RR.out.1]; exact BI.out.2
          have BX := Lib.hid (belm wr (.cells #[.int .i64 z[k].a, .int .i64 z[k].x, .int .i64 z[k].b, .int .i64 z[k].y] 32))
          have hx := heap_new2 wr (.cells #[.int .i64 z[k].a, .int .i64 z[k].x, .int .i64 z[k].b, .int .i64 z[k].y] 32)
          have r0 := (BX.out.cell (p := ⟨rb, ro + z[k].a, none⟩) hrb).trans (rcell _ ha)
          have r1 := (BX.out.cell (p := ⟨rb, ro + z[k].b, none⟩) hrb).trans (rcell _ hb)
          have x0 : (wr.alloc (.cells #[.int .i64 z[k].a, .int .i64 z[k].x, .int .i64 z[k].b, .int .i64 z[k].y] 32)).cell? ⟨wr.heap.size, 0, none⟩ = some (.int .i64 z[k].a) := by rw [Lib.cell_of_heap hx]; rfl
          have x1 : (wr.alloc (.cells #[.int .i64 z[k].a, .int .i64 z[k].x, .int .i64 z[k].b, .int .i64 z[k].y] 32)).cell? ⟨wr.heap.size, 1, none⟩ = some (.int .i64 z[k].x) := by rw [Lib.cell_of_heap hx]; rfl
          have x2 : (wr.alloc (.cells #[.int .i64 z[k].a, .int .i64 z[k].x, .int .i64 z[k].b, .int .i64 z[k].y] 32)).cell? ⟨wr.heap.size, 2, none⟩ = some (.int .i64 z[k].b) := by rw [Lib.cell_of_heap hx]; rfl
          have x3 : (wr.alloc (.cells #[.int .i64 z[k].a, .int .i64 z[k].x, .int .i64 z[k].b, .int .i64 z[k].y] 32)).cell? ⟨wr.heap.size, 3, none⟩ = some (.int .i64 z[k].y) := by rw [Lib.cell_of_heap hx]; rfl
          have ai : (z[k].a : Int) < row.length := by omega
          have bi : (z[k].b : Int) < row.length := by omega
          have BN := Lib.hid (hbb.out.trans (BX.out.mono hbb.out.size))
          clear zc rcell hx BI RR
          rw [MQ.out] at MK
          clear MQ
          generalize row.getD z[k].a 0 = u at *
          generalize row.getD z[k].b 0 = v at *
          generalize z[k].a = qa at *
          generalize z[k].x = qx at *
          generalize z[k].b = qb at *
          generalize z[k].y = qy at *
          have hki : (k : Int) < z.length := by omega
          go_wp2_with fail
          generalize wr.alloc (.cells #[.int .i64 qa, .int .i64 qx, .int .i64 qb, .int .i64 qy] 32) = wx at *
          generalize wr.heap.size = bx at *
          by_cases hu : u = (qx : Int)
          · have hu1 : (u == (qx : Int)) = true := by rw [beq_iff_eq]; exact hu
            by_cases hv : v = (qy : Int)
            · have hv1 : (v == (qy : Int)) = true := by rw [beq_iff_eq]; exact hv
              rw [hu1, hv1] at MK
              have MK2 := Lib.hid (show metK z row (k + 1) = metK z row k + 1 by rw [MK.out]; rfl)
              subst hu
              subst hv
              go_quiet (fail)
              go_wp2_with fail
              go_roundw
              case rel => exact ⟨k + 1, by omega, by go_num, by rw [MK2.out]; go_num, BN.out.trans (bel_drewq _ _ _)⟩
              case measure => simp [intOf]; omega
            · have hv1 : (v == (qy : Int)) = false := by rw [beq_eq_false_iff_ne]; exact hv
              rw [hu1, hv1] at MK
              have MK2 := Lib.hid (show metK z row (k + 1) = metK z row k by rw [MK.out]; rfl)
              subst hu
              go_quiet (fail)
              go_wp2_with fail
              go_roundw
              case rel => exact ⟨k + 1, by omega, by go_num, by rw [MK2.out], BN.out.trans (bel_drewq _ _ _)⟩
              case measure => simp [intOf]; omega
          · have hu1 : (u == (qx : Int)) = false := by rw [beq_eq_false_iff_ne]; exact hu
            rw [hu1, Bool.false_and] at MK
            have MK2 := Lib.hid (show metK z row (k + 1) = metK z row k by rw [MK.out]; rfl)
            go_quiet (fail)
            go_wp2_with fail
            go_roundw
            case rel => exact ⟨k + 1, by omega, by go_num, by rw [MK2.out], BN.out.trans (bel_drewq _ _ _)⟩
            case measure => simp [intOf]; omega
        · obtain rfl : k = z.length := by omega
          have hm := MT.out.1
          have hmi : (nb : Int) = (z.length : Int) - (metK z row z.length : Int) := by omega
          have hml2 : (metK z row z.length : Int) ≤ z.length := by omega
          have v1 : IntKind.i64.wrap ((z.length : Int) - (metK z row z.length : Int)) = (z.length : Int) - (metK z row z.length : Int) := IntWalk.i64_in _ (by omega)
          have BZ := Lib.hid (below_trans B7.out hbb.out)
          clear hbb
          go_wp2_with fail
          go_ret
          exact ⟨ret_b (by first | rfl | (rw [eq_comm, beq_iff_eq]; omega) | (simp; omega) | simp), BZ.out⟩
    · rw [h1, errOf_ok, errOf_no h2]
      clear h1 h2
      generalize misE levels (z5 ++ [row]) = q at *
      go_wp2_with fail
      go_ret
      exact ⟨ret_b (by simp), B7.out⟩
  · rw [errOf_no h1]
    clear h1
    generalize misE levels z5 = q at *
    generalize errOf (misE levels (z5 ++ [row])) = q2 at *
    go_wp2_with fail
    go_ret
    exact ⟨ret_b (by simp), B7.out⟩
end Go.Proofs.Ytbajkbkfinineaa.PairsMoreLaw
