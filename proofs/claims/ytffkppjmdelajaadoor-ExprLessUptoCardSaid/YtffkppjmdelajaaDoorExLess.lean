/-
  ExprLess: of any two expressions one is less, or the other, or they are the same; what is added to both changes nothing of that.
  Conditions: the second form's bound on what comes in; the program's table subsByKind.
-/
import Derived.Test.YtffkppjmdelajaaDoorExLaw
import Derived.Deep.RegionHeld2
namespace Go.Proofs.YtffkppjmdelajaaDoor.ExprLessLaw
open Go.ChangeShapes Go.WideShapes Go.ChangeAt Go.RowKit Lists Gens Rng Vals Exprs
set_option linter.unusedVariables false

set_option maxHeartbeats 16000000 in
set_option maxRecDepth 100000 in
theorem walk (x : Gn) (Ax : Option Addr) (cx nx : Nat) (y : Gn) (Ay : Option Addr) (cy ny : Nat) (z : Gn) (Az : Option Addr) (cz nz : Nat) (t : Tr) (VA : Option Addr) (vcp nv : Nat) (hbulk : x.size + y.size + z.size + t.size ≤ 1048576) (w : World) (hx : EAt w (EBel w.heap.size) nx (ev x Ax cx) x) (hy : EAt w (EBel w.heap.size) ny (ev y Ay cy) y) (hz : EAt w (EBel w.heap.size) nz (ev z Az cz) z) (hv : TAt w (Bel w.heap.size) nv (vv t VA vcp) t) (hsub : Subs w) :
    Calls Tryd.prog 7 #[ev x Ax cx, ev y Ay cy, ev z Az cz, vv t VA vcp] w fun e w' => e = .returned (.bool true) ∧ Below w.heap.size w w' := by
  have B4 := boxes4 w (.int .i64 x.kind) (.int .i64 x.a) (.slice Ax x.subs.length cx) (.int .i64 y.kind) (.int .i64 y.a) (.slice Ay y.subs.length cy) (.int .i64 z.kind) (.int .i64 z.a) (.slice Az z.subs.length cz) (.bool t.list) (.int .i64 t.num) (.slice VA t.items.length vcp) 61 61 61 38
  have H0 := Lib.hid B4.2
  have SC := Lib.hid (fun (W : World) (hb : Below ((((w.alloc (ec x Ax cx)).alloc (ec y Ay cy)).alloc (ec z Az cz)).alloc (vc t VA vcp)).heap.size ((((w.alloc (ec x Ax cx)).alloc (ec y Ay cy)).alloc (ec z Az cz)).alloc (vc t VA vcp)) W) => show W.cell? ⟨w.heap.size, 0, none⟩ = some (.int .i64 x.kind) ∧ W.cell? ⟨w.heap.size, 1, none⟩ = some (.int .i64 x.a) ∧ W.cell? ⟨w.heap.size, 2, none⟩ = some (.slice Ax x.subs.length cx) ∧ W.cell? ⟨w.heap.size + 1, 0, none⟩ = some (.int .i64 y.kind) ∧ W.cell? ⟨w.heap.size + 1, 1, none⟩ = some (.int .i64 y.a) ∧ W.cell? ⟨w.heap.size + 1, 2, none⟩ = some (.slice Ay y.subs.length cy) ∧ W.cell? ⟨w.heap.size + 1 + 1, 0, none⟩ = some (.int .i64 z.kind) ∧ W.cell? ⟨w.heap.size + 1 + 1, 1, none⟩ = some (.int .i64 z.a) ∧ W.cell? ⟨w.heap.size + 1 + 1, 2, none⟩ = some (.slice Az z.subs.length cz) ∧ W.cell? ⟨w.heap.size + 1 + 1 + 1, 0, none⟩ = some (.bool t.list) ∧ W.cell? ⟨w.heap.size + 1 + 1 + 1, 1, none⟩ = some (.int .i64 t.num) ∧ W.cell? ⟨w.heap.size + 1 + 1 + 1, 2, none⟩ = some (.slice VA t.items.length vcp) from by
    obtain ⟨z0, z1, z2, z3⟩ := B4.1
    exact ⟨(z0.later hb).1, (z0.later hb).2.1, (z0.later hb).2.2, (z1.later hb).1, (z1.later hb).2.1, (z1.later hb).2.2, (z2.later hb).1, (z2.later hb).2.1, (z2.later hb).2.2, (z3.later hb).1, (z3.later hb).2.1, (z3.later hb).2.2⟩)
  have Hx := Lib.hid (fun (W : World) (hb : Below w.heap.size w W) => show EAt W (EBel W.heap.size) (nx + ny + nz) (ev x Ax cx) x from ((EAt.up (show nx ≤ nx + ny + nz by omega) hx).below hb).more hb.size)
  have Hy := Lib.hid (fun (W : World) (hb : Below w.heap.size w W) => show EAt W (EBel W.heap.size) (nx + ny + nz) (ev y Ay cy) y from ((EAt.up (show ny ≤ nx + ny + nz by omega) hy).below hb).more hb.size)
  have Hz := Lib.hid (fun (W : World) (hb : Below w.heap.size w W) => show EAt W (EBel W.heap.size) (nx + ny + nz) (ev z Az cz) z from ((EAt.up (show nz ≤ nx + ny + nz by omega) hz).below hb).more hb.size)
  have AS := Lib.hid (fun (W : World) (hb : Below w.heap.size w W) => asked_ok W (hsub.below hb))
  have EV := Lib.hid (fun (g : Gn) (v : Value) (n : Nat) (W : World) (hb : Below w.heap.size w W) (hg : EAt W (EBel W.heap.size) n v g) (hs : g.size ≤ 4294967296) => eval_w (u := vv t VA vcp) W hg ((hv.below hb).more hb.size) (Nat.le_refl _) hs (by omega) (hsub.below hb))
  have HZ := Lib.hid (show x.size ≤ 1048576 ∧ y.size ≤ 1048576 ∧ z.size ≤ 1048576 from ⟨by omega, by omega, by omega⟩)
  have HR := Lib.hid (show gI x ∧ gI y ∧ gI z ∧ tI t ∧ t.items.length ≤ 4294967296 from ⟨eat_b hx, eat_b hy, eat_b hz, tat_b hv, by have := len_sizes t.items; have := size_items t; omega⟩)
  clear hx hy hz hv hbulk hsub B4
  go_enter Tryd.func7, Tryd.ntmps7
  go_wp2_with fail
  refine (AS.out _ H0.out).mono ?_
  rintro e w1 ⟨rfl, X1⟩
  obtain ⟨a0, a1, a2, a3, a4, a5, a6, a7, a8, a9, a10, a11⟩ := SC.out w1 X1
  clear a0 a1 a2 a3 a4 a5 a6 a7 a8 a9 a10 a11
  go_wp2_with fail
  have XC : Below ((((w.alloc (ec x Ax cx)).alloc (ec y Ay cy)).alloc (ec z Az cz)).alloc (vc t VA vcp)).heap.size ((((w.alloc (ec x Ax cx)).alloc (ec y Ay cy)).alloc (ec z Az cz)).alloc (vc t VA vcp)) w1.drew := ebel_drew X1
  go_region_held2 (fun w' => w'.cell? ⟨w.heap.size, 0, none⟩ = some (.int .i64 x.kind) ∧ w'.cell? ⟨w.heap.size, 1, none⟩ = some (.int .i64 x.a) ∧ w'.cell? ⟨w.heap.size, 2, none⟩ = some (.slice Ax x.subs.length cx) ∧ w'.cell? ⟨w.heap.size + 1, 0, none⟩ = some (.int .i64 y.kind) ∧ w'.cell? ⟨w.heap.size + 1, 1, none⟩ = some (.int .i64 y.a) ∧ w'.cell? ⟨w.heap.size + 1, 2, none⟩ = some (.slice Ay y.subs.length cy) ∧ w'.cell? ⟨w.heap.size + 1 + 1, 0, none⟩ = some (.int .i64 z.kind) ∧ w'.cell? ⟨w.heap.size + 1 + 1, 1, none⟩ = some (.int .i64 z.a) ∧ w'.cell? ⟨w.heap.size + 1 + 1, 2, none⟩ = some (.slice Az z.subs.length cz) ∧ w'.cell? ⟨w.heap.size + 1 + 1 + 1, 0, none⟩ = some (.bool t.list) ∧ w'.cell? ⟨w.heap.size + 1 + 1 + 1, 1, none⟩ = some (.int .i64 t.num) ∧ w'.cell? ⟨w.heap.size + 1 + 1 + 1, 2, none⟩ = some (.slice VA t.items.length vcp)) (first | exact SC.out _ (by assumption) | go_keep) (first
    | (with_reducible refine (both_w (x := x) (y := y) (n := nx + ny + nz + 0) 7 (by decide) _ (Hx.out _ (on H0.out XC)) (Hy.out _ (on H0.out XC)) (Nat.le_refl _)).mono ?_
       intro e wp hs
       obtain ⟨Ap1, cp1, rfl, hp1, bb⟩ := hs
       have hp1l : EAt _ _ _ (.agg #[.int .i64 7, .int .i64 0, .slice Ap1 2 cp1]) _ := hp1
       clear hp1
       have hp1 := hp1l
       clear hp1l
       have XC2 := on XC bb
       clear XC bb
       have XC := XC2
       clear XC2)
    | (with_reducible refine (EV.out (.node 7 0 0 [x, y]) _ _ _ (on H0.out XC) hp1 (by have := HZ.out; simp only [Gn.size, gsizes]; omega)).mono ?_
       intro e w2 hs
       obtain ⟨x1, E1, rfl, HN1, HE1, bb⟩ := hs
       have XC2 := on XC bb
       clear XC bb
       have XC := XC2
       clear XC2))
  have X2 := XC
  clear XC
  obtain ⟨a0, a1, a2, a3, a4, a5, a6, a7, a8, a9, a10, a11⟩ := SC.out w2 X2
  clear a0 a1 a2 a3 a4 a5 a6 a7 a8 a9 a10 a11
  go_wp2_with fail
  have XC : Below ((((w.alloc (ec x Ax cx)).alloc (ec y Ay cy)).alloc (ec z Az cz)).alloc (vc t VA vcp)).heap.size ((((w.alloc (ec x Ax cx)).alloc (ec y Ay cy)).alloc (ec z Az cz)).alloc (vc t VA vcp)) w2.drew := ebel_drew X2
  go_region_held2 (fun w' => w'.cell? ⟨w.heap.size, 0, none⟩ = some (.int .i64 x.kind) ∧ w'.cell? ⟨w.heap.size, 1, none⟩ = some (.int .i64 x.a) ∧ w'.cell? ⟨w.heap.size, 2, none⟩ = some (.slice Ax x.subs.length cx) ∧ w'.cell? ⟨w.heap.size + 1, 0, none⟩ = some (.int .i64 y.kind) ∧ w'.cell? ⟨w.heap.size + 1, 1, none⟩ = some (.int .i64 y.a) ∧ w'.cell? ⟨w.heap.size + 1, 2, none⟩ = some (.slice Ay y.subs.length cy) ∧ w'.cell? ⟨w.heap.size + 1 + 1, 0, none⟩ = some (.int .i64 z.kind) ∧ w'.cell? ⟨w.heap.size + 1 + 1, 1, none⟩ = some (.int .i64 z.a) ∧ w'.cell? ⟨w.heap.size + 1 + 1, 2, none⟩ = some (.slice Az z.subs.length cz) ∧ w'.cell? ⟨w.heap.size + 1 + 1 + 1, 0, none⟩ = some (.bool t.list) ∧ w'.cell? ⟨w.heap.size + 1 + 1 + 1, 1, none⟩ = some (.int .i64 t.num) ∧ w'.cell? ⟨w.heap.size + 1 + 1 + 1, 2, none⟩ = some (.slice VA t.items.length vcp)) (first | exact SC.out _ (by assumption) | go_keep) (first
    | (with_reducible refine (both_w (x := y) (y := x) (n := nx + ny + nz + 0) 7 (by decide) _ (Hy.out _ (on H0.out XC)) (Hx.out _ (on H0.out XC)) (Nat.le_refl _)).mono ?_
       intro e wp hs
       obtain ⟨Ap1, cp1, rfl, hp1, bb⟩ := hs
       have hp1l : EAt _ _ _ (.agg #[.int .i64 7, .int .i64 0, .slice Ap1 2 cp1]) _ := hp1
       clear hp1
       have hp1 := hp1l
       clear hp1l
       have XC2 := on XC bb
       clear XC bb
       have XC := XC2
       clear XC2)
    | (with_reducible refine (EV.out (.node 7 0 0 [y, x]) _ _ _ (on H0.out XC) hp1 (by have := HZ.out; simp only [Gn.size, gsizes]; omega)).mono ?_
       intro e w3 hs
       obtain ⟨x2, E2, rfl, HN2, HE2, bb⟩ := hs
       have XC2 := on XC bb
       clear XC bb
       have XC := XC2
       clear XC2))
  have X3 := XC
  clear XC
  obtain ⟨a0, a1, a2, a3, a4, a5, a6, a7, a8, a9, a10, a11⟩ := SC.out w3 X3
  clear a0 a1 a2 a3 a4 a5 a6 a7 a8 a9 a10 a11
  go_wp2_with fail
  have XC : Below ((((w.alloc (ec x Ax cx)).alloc (ec y Ay cy)).alloc (ec z Az cz)).alloc (vc t VA vcp)).heap.size ((((w.alloc (ec x Ax cx)).alloc (ec y Ay cy)).alloc (ec z Az cz)).alloc (vc t VA vcp)) w3.drew := ebel_drew X3
  go_region_held2 (fun w' => w'.cell? ⟨w.heap.size, 0, none⟩ = some (.int .i64 x.kind) ∧ w'.cell? ⟨w.heap.size, 1, none⟩ = some (.int .i64 x.a) ∧ w'.cell? ⟨w.heap.size, 2, none⟩ = some (.slice Ax x.subs.length cx) ∧ w'.cell? ⟨w.heap.size + 1, 0, none⟩ = some (.int .i64 y.kind) ∧ w'.cell? ⟨w.heap.size + 1, 1, none⟩ = some (.int .i64 y.a) ∧ w'.cell? ⟨w.heap.size + 1, 2, none⟩ = some (.slice Ay y.subs.length cy) ∧ w'.cell? ⟨w.heap.size + 1 + 1, 0, none⟩ = some (.int .i64 z.kind) ∧ w'.cell? ⟨w.heap.size + 1 + 1, 1, none⟩ = some (.int .i64 z.a) ∧ w'.cell? ⟨w.heap.size + 1 + 1, 2, none⟩ = some (.slice Az z.subs.length cz) ∧ w'.cell? ⟨w.heap.size + 1 + 1 + 1, 0, none⟩ = some (.bool t.list) ∧ w'.cell? ⟨w.heap.size + 1 + 1 + 1, 1, none⟩ = some (.int .i64 t.num) ∧ w'.cell? ⟨w.heap.size + 1 + 1 + 1, 2, none⟩ = some (.slice VA t.items.length vcp)) (first | exact SC.out _ (by assumption) | go_keep) (first
    | (with_reducible refine (both_w (x := x) (y := y) (n := nx + ny + nz + 0) 8 (by decide) _ (Hx.out _ (on H0.out XC)) (Hy.out _ (on H0.out XC)) (Nat.le_refl _)).mono ?_
       intro e wp hs
       obtain ⟨Ap1, cp1, rfl, hp1, bb⟩ := hs
       have hp1l : EAt _ _ _ (.agg #[.int .i64 8, .int .i64 0, .slice Ap1 2 cp1]) _ := hp1
       clear hp1
       have hp1 := hp1l
       clear hp1l
       have XC2 := on XC bb
       clear XC bb
       have XC := XC2
       clear XC2)
    | (with_reducible refine (EV.out (.node 8 0 0 [x, y]) _ _ _ (on H0.out XC) hp1 (by have := HZ.out; simp only [Gn.size, gsizes]; omega)).mono ?_
       intro e w4 hs
       obtain ⟨x3, E3, rfl, HN3, HE3, bb⟩ := hs
       have XC2 := on XC bb
       clear XC bb
       have XC := XC2
       clear XC2))
  have X4 := XC
  clear XC
  obtain ⟨a0, a1, a2, a3, a4, a5, a6, a7, a8, a9, a10, a11⟩ := SC.out w4 X4
  clear a0 a1 a2 a3 a4 a5 a6 a7 a8 a9 a10 a11
  go_wp2_with fail
  have XC : Below ((((w.alloc (ec x Ax cx)).alloc (ec y Ay cy)).alloc (ec z Az cz)).alloc (vc t VA vcp)).heap.size ((((w.alloc (ec x Ax cx)).alloc (ec y Ay cy)).alloc (ec z Az cz)).alloc (vc t VA vcp)) w4.drew := ebel_drew X4
  go_region_held2 (fun w' => w'.cell? ⟨w.heap.size, 0, none⟩ = some (.int .i64 x.kind) ∧ w'.cell? ⟨w.heap.size, 1, none⟩ = some (.int .i64 x.a) ∧ w'.cell? ⟨w.heap.size, 2, none⟩ = some (.slice Ax x.subs.length cx) ∧ w'.cell? ⟨w.heap.size + 1, 0, none⟩ = some (.int .i64 y.kind) ∧ w'.cell? ⟨w.heap.size + 1, 1, none⟩ = some (.int .i64 y.a) ∧ w'.cell? ⟨w.heap.size + 1, 2, none⟩ = some (.slice Ay y.subs.length cy) ∧ w'.cell? ⟨w.heap.size + 1 + 1, 0, none⟩ = some (.int .i64 z.kind) ∧ w'.cell? ⟨w.heap.size + 1 + 1, 1, none⟩ = some (.int .i64 z.a) ∧ w'.cell? ⟨w.heap.size + 1 + 1, 2, none⟩ = some (.slice Az z.subs.length cz) ∧ w'.cell? ⟨w.heap.size + 1 + 1 + 1, 0, none⟩ = some (.bool t.list) ∧ w'.cell? ⟨w.heap.size + 1 + 1 + 1, 1, none⟩ = some (.int .i64 t.num) ∧ w'.cell? ⟨w.heap.size + 1 + 1 + 1, 2, none⟩ = some (.slice VA t.items.length vcp)) (first | exact SC.out _ (by assumption) | go_keep) (first
    | (with_reducible refine (both_w (x := x) (y := z) (n := nx + ny + nz + 0) 5 (by decide) _ (Hx.out _ (on H0.out XC)) (Hz.out _ (on H0.out XC)) (Nat.le_refl _)).mono ?_
       intro e wp hs
       obtain ⟨Ap1, cp1, rfl, hp1, bb⟩ := hs
       have hp1l : EAt _ _ _ (.agg #[.int .i64 5, .int .i64 0, .slice Ap1 2 cp1]) _ := hp1
       clear hp1
       have hp1 := hp1l
       clear hp1l
       (try (have hp22 := (EAt.below hp2 bb).more bb.size; clear hp2; have hp2 := hp22; clear hp22))
       have XC2 := on XC bb
       clear XC bb
       have XC := XC2
       clear XC2)
    | (with_reducible refine (both_w (x := y) (y := z) (n := nx + ny + nz + 0) 5 (by decide) _ (Hy.out _ (on H0.out XC)) (Hz.out _ (on H0.out XC)) (Nat.le_refl _)).mono ?_
       intro e wp hs
       obtain ⟨Ap2, cp2, rfl, hp2, bb⟩ := hs
       have hp2l : EAt _ _ _ (.agg #[.int .i64 5, .int .i64 0, .slice Ap2 2 cp2]) _ := hp2
       clear hp2
       have hp2 := hp2l
       clear hp2l
       (try (have hp12 := (EAt.below hp1 bb).more bb.size; clear hp1; have hp1 := hp12; clear hp12))
       have XC2 := on XC bb
       clear XC bb
       have XC := XC2
       clear XC2)
    | (with_reducible refine (both_w (x := .node 5 0 0 [x, z]) (y := .node 5 0 0 [y, z]) (n := nx + ny + nz + 1) 8 (by decide) _ (hp1) (hp2) (Nat.le_refl _)).mono ?_
       intro e wp hs
       obtain ⟨Ap3, cp3, rfl, hp3, bb⟩ := hs
       have hp3l : EAt _ _ _ (.agg #[.int .i64 8, .int .i64 0, .slice Ap3 2 cp3]) _ := hp3
       clear hp3
       have hp3 := hp3l
       clear hp3l
       have XC2 := on XC bb
       clear XC bb
       have XC := XC2
       clear XC2)
    | (with_reducible refine (EV.out (.node 8 0 0 [.node 5 0 0 [x, z], .node 5 0 0 [y, z]]) _ _ _ (on H0.out XC) hp3 (by have := HZ.out; simp only [Gn.size, gsizes]; omega)).mono ?_
       intro e w5 hs
       obtain ⟨x4, E4, rfl, HN4, HE4, bb⟩ := hs
       have XC2 := on XC bb
       clear XC bb
       have XC := XC2
       clear XC2))
  have X5 := XC
  clear XC
  all_goals
    rcases HE1.out with ⟨f1, rfl⟩ | ⟨q1, hq1, f1, rfl⟩
    rotate_left
    · go_wp2_with fail
      go_ret
      exact ⟨rfl, on H0.out X5⟩
    rcases HE2.out with ⟨f2, rfl⟩ | ⟨q2, hq2, f2, rfl⟩
    rotate_left
    · go_wp2_with fail
      go_ret
      exact ⟨rfl, on H0.out X5⟩
    rcases HE3.out with ⟨f3, rfl⟩ | ⟨q3, hq3, f3, rfl⟩
    rotate_left
    · go_wp2_with fail
      go_ret
      exact ⟨rfl, on H0.out X5⟩
    obtain ⟨p, q, hp, hq, e1, e2, e3⟩ := less_three f1 f2 f3
    have D4 := ei_one HE4.out (fun h => (HN4.out.trans (less_added hp hq (num_b t HR.out.2.2.2.1 HR.out.2.2.2.2 x HR.out.1 p hp) (num_b t HR.out.2.2.2.1 HR.out.2.2.2.2 y HR.out.2.1 q hq) (fun r hr => num_b t HR.out.2.2.2.1 HR.out.2.2.2.2 z HR.out.2.2.1 r hr) h)).trans (HN3.out.trans e3).symm)
    have e1 := HN1.out.trans e1
    have e2 := HN2.out.trans e2
    have e3 := HN3.out.trans e3
    have S3 := three_sum p q
    rw [← e1, ← e2, ← e3] at S3
    have r1 := one_01 (decide (p < q))
    rw [← e1] at r1
    have r2 := one_01 (decide (q < p))
    rw [← e2] at r2
    have r3 := one_01 (decide (p = q))
    rw [← e3] at r3
    clear e1 e2 e3 hp hq f1 f2 f3 HE1 HE2 HE3 HE4 HN1 HN2 HN3 HN4
    obtain ⟨r1, s1⟩ := r1
    obtain ⟨r2, s2⟩ := r2
    obtain ⟨r3, s3⟩ := r3
    have S4 : (x1 + x2 + x3 == 1) = true := by rw [beq_iff_eq]; exact S3
    clear S3
    have g1 : decide (0 ≤ x1) = true := decide_eq_true r1
    have g2 : decide (0 ≤ x2) = true := decide_eq_true r2
    have g3 : decide (0 ≤ x3) = true := decide_eq_true r3
    rcases D4 with ⟨rfl, rfl⟩ | ⟨q4, rfl⟩
    all_goals
      go_wp2_with fail
      go_ret
      exact ⟨by simp, on H0.out X5⟩
end Go.Proofs.YtffkppjmdelajaaDoor.ExprLessLaw
