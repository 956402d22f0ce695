/- PairsOwn: the walk. Conditions: the sizes; the library's variable that errors.As reads. -/
import Derived.Test.YtbajkbkfinineaaDoorPair
import Derived.Test.YtbajkbkfinineaaDoorRowsIn
import Derived.Test.YtbajkbkfinineaaDoorOwnRows
import Derived.Test.YtbajkbkfinineaaDoorSameRows
import Derived.Test.YtbajkbkfinineaaDoorToldSame
import Derived.Deep.RegionHeld3
namespace Go.Proofs.YtbajkbkfinineaaDoor.PairsOwnLaw
open Go.RowKit Lists Ints Vals Owns Pair
set_option linter.unusedVariables false

theorem belt (w : World) (o : Obj) : Below w.heap.size w (w.alloc o) := (Below.refl _ _).alloc (Nat.le_refl _) _
theorem two_two (w : World) : At (w.alloc (.cells #[.int .i64 2, .int .i64 2] 3)) (w.alloc (.cells #[.int .i64 2, .int .i64 2] 3)).heap.size (some ⟨w.heap.size, 0, none⟩) [2, 2] := fun _ =>
  ⟨w.heap.size, 0, rfl, by simp, fun j hj => by
    have hj : j < 2 := hj
    obtain rfl | rfl : j = 0 ∨ j = 1 := by omega
    all_goals rw [Lib.cell_of_heap (heap_new2 w _)]; rfl⟩
/-- the fact: of 2 and 2 there are four -/
theorem rows_fact (w : World) : Calls Tryd.prog 12 #[.slice (some ⟨w.heap.size, 0, none⟩) 2 2] (w.alloc (.cells #[.int .i64 2, .int .i64 2] 3)) fun e w' => ∃ (A : Option Addr) (c : Nat), e = .returned (.tuple #[.slice A 4 c, .nilIface]) ∧ Below w.heap.size w w' := by
  refine (rows_prog (levels := [2, 2]) (lc := 2) _ (two_two w) (by simp) (by simp)).mono ?_
  rintro e w' ⟨A, c, rfl, _, hb⟩
  have h0 : levE [2, 2] = 0 := by decide
  have h1 : lv [2, 2] 0 * lv [2, 2] 1 ≤ (rowsV [2, 2]).length := rows_least (rows_ok h0) (a := 0) (b := 1) (by omega) (by simp)
  have h2 : (rowsV [2, 2]).length ≤ lv [2, 2] 0 * lv [2, 2] 1 := two_most (rows_ok h0) (.inl (by simp))
  have h3 : lv [2, 2] 0 * lv [2, 2] 1 = 4 := by decide
  have h5 : (rowsV [2, 2]).length = 4 := by omega
  rw [h0, h5, errOf_ok]
  exact ⟨A, c, rfl, below_trans (belt w _) hb⟩
theorem rows_sizes (levels : List Int) : (rowsV levels).length ≤ 4000 ∧ ∀ r ∈ rowsV levels, r.length ≤ 12 := by
  by_cases h : levE levels = 0
  · refine ⟨?_, fun r hr => by rw [((rows_ok h).right r hr).1]; exact (lev_ok h).1⟩
    unfold rowsV
    rw [if_pos h]
    have hm := made_ok (lev_ok h).2 (quads levels).length (Nat.le_refl _)
    have hd := need_ok hm.full hm.tot (fun q hq => by
      obtain ⟨j, hj, rfl⟩ := List.mem_iff_getElem.1 hq
      exact hm.has j hj hj) (madeN levels (quads levels).length).1.length (Nat.le_refl _)
    have h1 := hd.len
    have h2 := hm.len
    have h3 := quads_le h
    unfold rowsG
    omega
  · rw [rows_no h]
    exact ⟨by simp, fun r hr => by simp at hr⟩
theorem ownrows_keep {w w' : World} {base c : Nat} {A : Option Addr} {zs : List (List Int)} (h : OwnRows w base A c zs) (hs : w.heap.size ≤ w'.heap.size) (hk : ∀ b, base ≤ b → b < w.heap.size → w'.heap[b]? = w.heap[b]?) : OwnRows w' base A c zs := by
  obtain ⟨xs, h1, h2, h3⟩ := h
  refine ⟨xs, h1, ⟨h2.1, ?_⟩, fun j hj hj' => ?_⟩
  · rcases h2.2 with h0 | ⟨g, cap, cur, he, hg, hh, h4⟩
    · exact .inl h0
    · exact .inr ⟨g, cap, cur, he, hg, (hk g hg (Array.getElem?_eq_some_iff.1 hh).1).trans hh, h4⟩
  · obtain ⟨D, d, e, hd, ha⟩ := h3 j hj hj'
    exact ⟨D, d, e, hd, ha.keep fun b hB => ⟨⟨hB.1, Nat.lt_of_lt_of_le hB.2.1 hs, hB.2.2⟩, fun o => World.cell?_of_block (hk b hB.1 hB.2.1)⟩⟩

theorem own_rowkept {w w' : World} {base c : Nat} {A : Option Addr} {z : List Int} (h : Own w base A c z) (hk : ∀ g, rowOf A = some g → w'.heap[g]? = w.heap[g]?) : Own w' base A c z := by
  refine ⟨h.1, ?_⟩
  rcases h.2 with h0 | ⟨g, cap, cur, he, hg, hh, h5⟩
  · exact .inl h0
  · refine .inr ⟨g, cap, cur, he, hg, ?_, h5⟩
    injection he with he
    exact (hk g (by rw [he]; rfl)).trans hh

set_option maxHeartbeats 16000000 in
set_option maxRecDepth 100000 in
theorem walk (levels : List Int) (L : Option Addr) (lc : Nat) (rows : List (List Int)) (R : Option Addr) (rc : Nat) (x : Int) (hbulk : levels.length + partsR rows ≤ 1048576) (w : World) (hl : At w w.heap.size L levels) (hcap : levels.length ≤ lc) (hR : RowsAt w w.heap.size R rows) (hrc : rows.length ≤ rc) (wx : (Lit.int .i64 x).wf = true) (hh : Told.Handle w) :
    Calls Tryd.prog 4 #[.slice L levels.length lc, .slice R rows.length rc, .int .i64 x] w fun e w' => e = .returned (.bool true) ∧ Below w.heap.size w w' := by
  have hpl := parts_len rows
  have hpe : ∀ r ∈ rows, r.length ≤ 1048576 := fun r hr => by have := parts_each hr; omega
  have RO := Lib.hid (fun (W : World) (L : Option Addr) (lc : Nat) (hl : At W W.heap.size L levels) (hcap : levels.length ≤ lc) => show Calls Tryd.prog 12 #[.slice L levels.length lc] W fun e w' => ∃ (A : Option Addr) (c : Nat), e = .returned (.tuple #[.slice A (rowsV levels).length c, errOf (levE levels)]) ∧ OwnRowsD w' W.heap.size A c (rowsV levels) ∧ Below W.heap.size W w' from rows_prog W hl (by omega) hcap)
  have MI := Lib.hid (fun (W : World) (L : Option Addr) (lc : Nat) (hl : At W W.heap.size L levels) (hcap : levels.length ≤ lc) (R : Option Addr) (rc : Nat) (hR : RowsAt W W.heap.size R rows) (hrc : rows.length ≤ rc) => show Calls Tryd.prog 10 #[.slice L levels.length lc, .slice R rows.length rc] W fun e w' => ∃ (A : Option Addr) (c : Nat), e = .returned (.tuple #[.slice A (misV levels rows).length c, errOf (misE levels rows)]) ∧ Below W.heap.size W w' from (missing_prog W hl (by omega) hcap hR (by omega) hrc (fun r hr => by have := hpe r hr; omega)).mono fun _ _ ⟨A, c, h1, _, h3⟩ => ⟨A, c, h1, h3⟩)
  have TS := Lib.hid (fun (W : World) (hb : Below w.heap.size w W) => told_same (levE levels) W (hh.below hb))
  have TM := Lib.hid (fun (W : World) (hb : Below w.heap.size w W) => told_same (misE levels rows) W (hh.below hb))
  have HL := Lib.hid (fun (W : World) (hb : Below w.heap.size w W) => show At W W.heap.size L levels from (hl.below hb).more hb.size)
  have HR := Lib.hid (fun (W : World) (hb : Below w.heap.size w W) => show RowsAt W W.heap.size R rows from RowsP.more (RowsP.below hR hb) hb.size)
  have LN := Lib.hid (show levels.length ≤ 4294967296 ∧ levels.length ≤ maxLen ∧ levels.length ≤ lc ∧ rows.length ≤ 1048576 ∧ rows.length ≤ rc by simp only [maxLen]; omega)
  have PE := Lib.hid hpe
  have RS := Lib.hid (rows_sizes levels)
  have RF := Lib.hid (fun (W : World) => rows_fact W)
  have rni : (rows.length : Int) ≤ 1048576 := by omega
  clear hl hcap hR hrc hh wx hbulk hpl hpe
  generalize errOf (levE levels) = ev at *
  generalize errOf (misE levels rows) = em at *
  generalize (misV levels rows).length = nm at *
  generalize rowsV levels = z at *
  go_enter Tryd.func4, Tryd.ntmps4
  -- own
  have I1 := Lib.hid (ints_ok (lc := lc) w (HL.out w (Below.refl _ _)) LN.out.1)
  go_wp2_with fail
  ((with_reducible refine I1.out.mono ?_))
  rintro e w1 ⟨A1, c1, rfl, ho1, hb1⟩
  have B1 := Lib.hid hb1
  have O1 := Lib.hid ho1
  clear hb1 ho1 I1
  -- all
  have K1 := Lib.hid (Owns.rows_ok rows R rc w1.heap.size w1 (HR.out w1 B1.out) (Nat.le_refl _) (by have := LN.out; omega) (fun r hr => by have := PE.out r hr; omega))
  go_wp2_with fail
  ((with_reducible refine K1.out.mono ?_))
  rintro e w2 ⟨A2, c2, rfl, ho2, hb2⟩
  have B2 := Lib.hid (below_trans B1.out hb2)
  have O2 := Lib.hid (O1.out.below hb2)
  have Q2 := Lib.hid ho2
  clear hb2 ho2 K1 O1
  -- m, e1
  have R2 := Lib.hid (RO.out w2 A1 c1 O2.out.at_ O2.out.cap_)
  go_wp2_with fail
  ((with_reducible refine R2.out.mono ?_))
  rintro e w3 ⟨A3, c3, rfl, ho3, hb3⟩
  have B3 := Lib.hid (below_trans B2.out hb3)
  have O3 := Lib.hid (O2.out.below hb3)
  have Q3 := Lib.hid (Q2.out.below hb3)
  have M3 := Lib.hid ho3
  have S23 := Lib.hid hb3.size
  clear hb3 ho3 R2 O2 Q2
  -- e2
  have E3 := Lib.hid (MI.out w3 A1 c1 O3.out.at_ O3.out.cap_ A2 c2 Q3.out.at_ Q3.out.cap_)
  go_wp2_with fail
  ((with_reducible refine E3.out.mono ?_))
  rintro e w4 ⟨A4, c4, rfl, hb4⟩
  have B4 := Lib.hid (below_trans B3.out hb4)
  have O4 := Lib.hid (O3.out.below hb4)
  have Q4 := Lib.hid (Q3.out.below hb4)
  have M4 := Lib.hid (M3.out.below hb4)
  have S34 := Lib.hid hb4.size
  clear hb4 E3 O3 Q3 M3
  -- the fact
  have F4 := Lib.hid (RF.out w4)
  go_wp2_with fail
  ((with_reducible refine F4.out.mono ?_))
  rintro e w5 ⟨A5, c5, rfl, hb5⟩
  have B5 := Lib.hid (below_trans B4.out hb5)
  have O5 := Lib.hid (O4.out.below hb5)
  have Q5 := Lib.hid (Q4.out.below hb5)
  have M5 := Lib.hid (M4.out.below hb5)
  clear hb5 F4 O4 Q4 M4
  -- one
  have SM1 := same_below levels levels A1 L c1 lc w5.heap.size LN.out.2.1 LN.out.2.1 w5 O5.out.at_ (HL.out w5 B5.out)
  rw [decide_eq_true (rfl : levels = levels)] at SM1
  have SM1 := Lib.hid SM1
  go_wp2_with fail
  ((with_reducible refine SM1.out.mono ?_))
  rintro e w6 ⟨rfl, hb6⟩
  have B6 := Lib.hid (below_trans B5.out hb6)
  have Q6 := Lib.hid (Q5.out.below hb6)
  have M6 := Lib.hid (M5.out.below hb6)
  clear hb6 SM1 O5 Q5 M5
  -- two
  have SR1 := samerows rows rows A2 R c2 rc w6.heap.size w6 Q6.out.at_.weak (HR.out w6 B6.out).weak (Nat.le_refl _) (by have := LN.out; omega) (by have := LN.out; omega) (fun y hy => by have := PE.out y hy; simp only [maxLen]; omega) (fun y hy => by have := PE.out y hy; simp only [maxLen]; omega)
  rw [decide_eq_true (rfl : rows = rows)] at SR1
  have SR1 := Lib.hid SR1
  go_wp2_with fail
  ((with_reducible refine SR1.out.mono ?_))
  rintro e w7 ⟨rfl, hb7⟩
  have B7 := Lib.hid (below_trans B6.out hb7)
  have M7 := Lib.hid (M6.out.below hb7)
  clear hb7 SR1 Q6 M6
  -- was
  obtain ⟨Ds, ds, hD1, hD2⟩ := M7.out.open_
  have DB := Lib.hid (fun k (hk : k < z.length) b (hb : rowOf (Ds k) = some b) => own_blk (hD1 k hk).2.1 b hb)
  have HD1 := Lib.hid hD1
  have HD2 := Lib.hid hD2
  have RK := Lib.hid (Owns.rows_ok z A3 c3 w7.heap.size w7 M7.out.at_ (Nat.le_refl _) (by have := RS.out.1; omega) (fun y hy => by have := RS.out.2 y hy; omega))
  clear hD1 hD2
  go_wp2_with fail
  ((with_reducible refine RK.out.mono ?_))
  rintro e w8 ⟨A8, c8, rfl, ho8, hb8⟩
  have B8 := Lib.hid (below_trans B7.out hb8)
  have C8 := Lib.hid ho8
  have S78 := Lib.hid hb8.size
  have W8 := Lib.hid (fun k (hk : k < z.length) => show Own w8 w2.heap.size (Ds k) (ds k) z[k] from (HD1.out k hk).2.1.below hb8)
  have MC := Lib.hid (fun (W : World) (hk : ∀ b, b < w8.heap.size → (∀ g, rowOf (Ds 0) = some g → b ≠ g) → W.heap[b]? = w8.heap[b]?) (k : Nat) (hkz : k < z.length) => show ∃ g, A3 = some ⟨g, 0, none⟩ ∧ W.cell? ⟨g, k, none⟩ = some (.slice (Ds k) (z[k]'hkz).length (ds k)) from by
    obtain ⟨⟨g, e1, e2, e3, e4⟩, _, _⟩ := HD1.out k hkz
    refine ⟨g, e1, ?_⟩
    have h1 := hk g (Nat.lt_of_lt_of_le e3 hb8.size) (fun g' hg' e => (HD1.out 0 (by omega)).2.2 g' hg' (by rw [e1, e]; rfl))
    rw [World.cell?_of_block (w := w8) (w' := W) (a := ⟨g, k, none⟩) h1, hb8.cell (p := ⟨g, k, none⟩) e3]
    exact e4)
  clear hb8 ho8 RK
  have zi : (z.length : Int) ≤ 4000 := by have := RS.out.1; omega
  by_cases hz : 0 < z.length
  case' pos =>
    obtain ⟨g, rfl, e0⟩ := MC.out w8 (fun _ _ _ => rfl) 0 hz
    have SK := Lib.hid (spoil_ok w8 x (W8.out 0 hz) (by have := RS.out.2 _ (List.getElem_mem hz); omega))
    have D0 := Lib.hid (fun b (hb : rowOf (Ds 0) = some b) => DB.out 0 hz b hb)
    generalize z[0]'hz = y0 at *
    go_wp2_with fail
    ((with_reducible refine SK.out.mono ?_))
    rintro e ws ⟨rfl, g9⟩
    have KS := Lib.hid (show ∀ b, b < w8.heap.size → (∀ g, rowOf (Ds 0) = some g → b ≠ g) → ws.heap[b]? = w8.heap[b]? from fun b hb hne => g9.block b hb (fun e => hne b e.symm rfl))
    have SS := Lib.hid g9.size
    have BS := Lib.hid (B8.out.grown g9 B8.out.size (fun j hj => Nat.le_trans B2.out.size (D0.out j hj).1))
    have CS := Lib.hid (show OwnRows ws w7.heap.size A8 c8 z from ownrows_keep C8.out g9.size (fun b hb hl => KS.out b hl (fun g hg e => by have := (D0.out g hg).2; omega)))
    clear g9 SK e0 D0
    go_wp2_with fail
  case' neg =>
    obtain ⟨ws, hws⟩ : ∃ ws : World, ws = w8 := ⟨_, rfl⟩
    have KS := Lib.hid (show ∀ b, b < w8.heap.size → (∀ g, rowOf (Ds 0) = some g → b ≠ g) → ws.heap[b]? = w8.heap[b]? from fun b hb hne => by rw [hws])
    have SS := Lib.hid (show w8.heap.size ≤ ws.heap.size by rw [hws]; exact Nat.le_refl _)
    have BS := Lib.hid (show Below w.heap.size w ws by rw [hws]; exact B8.out)
    have CS := Lib.hid (show OwnRows ws w7.heap.size A8 c8 z by rw [hws]; exact C8.out)
    have hzi : ¬ (0 : Int) < z.length := by omega
    rw [← hws]
    clear hws
    go_wp2_with fail
  all_goals (
    go_loopw [18] (fun iv wr => ∃ k : Nat, 1 ≤ k ∧ (k ≤ z.length ∨ k = 1) ∧ iv = .int .i64 k ∧ Hid (Below ws.heap.size ws wr)) (fun iv _ => z.length + 1 - (intOf iv).toNat)
    case atStart => exact ⟨1, Nat.le_refl _, .inr rfl, rfl, Below.refl _ _⟩
    case round =>
      obtain ⟨k, hk1, hk2, rfl, hbb⟩ := hrel
      by_cases hlt : k < z.length
      · first
        | (exfalso; omega)
        | (
          obtain ⟨g2, hA, e0⟩ := MC.out ws KS.out k hlt
          injection hA with hA
          injection hA with hA _
          subst hA
          have p0 := (hbb.out.cell (p := ⟨g, k, none⟩) (World.block_lt_of_cell? _ _ e0)).trans e0
          obtain ⟨rb, ro, rfl, hrb, hrc'⟩ := CS.out.at_ (by omega)
          obtain ⟨E, e', q0, _, q1⟩ := hrc' k hlt
          have q0 := (hbb.out.cell (p := ⟨rb, ro + k, none⟩) hrb).trans q0
          have OK := own_rowkept (W8.out k hlt) (w' := ws) (fun g hg => KS.out g (Nat.lt_of_lt_of_le (DB.out k hlt g hg).2 S78.out) (fun g' hg' e => HD2.out 0 k (by omega) hlt (by omega) g' hg' (by rw [hg, e])))
          have PA := OK.at_.below hbb.out
          have YL : (z[k]'hlt).length ≤ maxLen := by have := RS.out.2 _ (List.getElem_mem hlt); simp only [maxLen]; omega
          have QA : At wr ws.heap.size E (z[k]'hlt) := q1.keep fun b hb => ⟨hb, fun o => hbb.out.cell (p := ⟨b, o, none⟩) hb⟩
          have SM := same_below (z[k]'hlt) (z[k]'hlt) (Ds k) E (ds k) e' ws.heap.size YL YL wr.drew PA.drew QA.drew
          rw [decide_eq_true (rfl : z[k]'hlt = z[k]'hlt)] at SM
          have SM := Lib.hid SM
          have g1 : g < wr.heap.size := World.block_lt_of_cell? _ _ p0
          have g2' : rb < wr.heap.size := World.block_lt_of_cell? _ _ q0
          have hki : (k : Int) < z.length := by omega
          clear e0 hrc' q1 PA QA YL hrb OK
          generalize z[k]'hlt = y at *
          generalize Ds k = Dk at *
          generalize ds k = dk at *
          go_wp2_with fail
          go_region_held3 (fun w' => w'.cell? ⟨g, k, none⟩ = some (.slice Dk y.length dk) ∧ w'.cell? ⟨rb, ro + k, none⟩ = some (.slice E y.length e')) (first | exact ⟨p0, q0⟩ | exact ⟨p2, q2⟩) (((with_reducible refine SM.out.mono ?_); rintro e w7 ⟨rfl, hb7⟩; have p2 := (hb7.cell (p := ⟨g, k, none⟩) g1).trans p0; have q2 := (hb7.cell (p := ⟨rb, ro + k, none⟩) g2').trans q0))
          have B7' := Lib.hid (show Below ws.heap.size ws w7 from hbb.out.trans (Below.mono (w := wr) ⟨hb7.os, hb7.tape, hb7.output, hb7.size, hb7.block⟩ hbb.out.size))
          clear hb7 p0 q0 p2 q2 SM
          go_wp2_with fail
          go_roundw
          case rel => exact ⟨k + 1, by omega, .inl (by omega), by go_num, B7'.out⟩
          case measure => simp [intOf]; omega)
      · have BT := Lib.hid (below_trans BS.out hbb.out)
        have CR := Lib.hid (show RowsWAt wr wr.heap.size A8 z from ((CS.out.at_.below hbb.out).more hbb.out.size).weak)
        have R9 := Lib.hid (RO.out wr L lc (HL.out wr BT.out) LN.out.2.2.1)
        have hki : ¬ (k : Int) < z.length := by omega
        clear KS SS CS hbb
        go_wp2_with fail
        ((with_reducible refine R9.out.mono ?_))
        rintro e w9 ⟨A9, c9, rfl, ho9, hb9⟩
        have B9 := Lib.hid (below_trans BT.out hb9)
        have SR := samerows z z A9 A8 c9 c8 w9.heap.size w9 ho9.at_.weak ((CR.out.below hb9).more hb9.size) (Nat.le_refl _) (by have := RS.out.1; omega) (by have := RS.out.1; omega) (fun y hy => by have := RS.out.2 y hy; simp only [maxLen]; omega) (fun y hy => by have := RS.out.2 y hy; simp only [maxLen]; omega)
        rw [decide_eq_true (rfl : z = z)] at SR
        have SR := Lib.hid SR
        clear hb9 ho9 R9
        go_wp2_with fail
        ((with_reducible refine SR.out.mono ?_))
        rintro e w10 ⟨rfl, hb10⟩
        have B10 := Lib.hid (below_trans B9.out hb10)
        have T10 := Lib.hid (TS.out w10 B10.out)
        clear hb10 SR
        go_wp2_with fail
        ((with_reducible refine T10.out.mono ?_))
        rintro e w11 ⟨rfl, hb11⟩
        have B11 := Lib.hid (below_trans B10.out hb11)
        have M11 := Lib.hid (MI.out w11 L lc (HL.out w11 B11.out) LN.out.2.2.1 R rc (HR.out w11 B11.out) LN.out.2.2.2.2)
        clear hb11 T10
        go_wp2_with fail
        ((with_reducible refine M11.out.mono ?_))
        rintro e w12 ⟨A12, c12, rfl, hb12⟩
        have B12 := Lib.hid (below_trans B11.out hb12)
        have T12 := Lib.hid (TM.out w12 B12.out)
        clear hb12 M11
        go_wp2_with fail
        ((with_reducible refine T12.out.mono ?_))
        rintro e w13 ⟨rfl, hb13⟩
        have B13 := Lib.hid (below_trans B12.out hb13)
        clear hb13 T12
        go_wp2_with fail
        go_ret
        exact ⟨rfl, B13.out⟩)
end Go.Proofs.YtbajkbkfinineaaDoor.PairsOwnLaw
