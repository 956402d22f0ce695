/-
  ExprMorgan: of any two expressions and any value: not both is one not; what is not not so fails just if it fails; each is the same as itself.
  Conditions: the second form's bound on what comes in; the program's table subsByKind.
-/
import Derived.Test.YtffkppjmdelajaaDoorExLaw
import Derived.Deep.RegionHeld2
namespace Go.Proofs.YtffkppjmdelajaaDoor.ExprMorganLaw
open Go.ChangeShapes Go.WideShapes Go.ChangeAt Go.RowKit Lists Gens Rng Vals Exprs
set_option linter.unusedVariables false

set_option maxHeartbeats 16000000 in
set_option maxRecDepth 100000 in
theorem walk (x : Gn) (Ax : Option Addr) (cx nx : Nat) (y : Gn) (Ay : Option Addr) (cy ny : Nat) (t : Tr) (VA : Option Addr) (vcp nv : Nat) (hbulk : x.size + y.size + t.size ≤ 1048576) (w : World) (hx : EAt w (EBel w.heap.size) nx (ev x Ax cx) x) (hy : EAt w (EBel w.heap.size) ny (ev y Ay cy) y) (hv : TAt w (Bel w.heap.size) nv (vv t VA vcp) t) (hsub : Subs w) :
    Calls Tryd.prog 6 #[ev x Ax cx, ev y Ay cy, vv t VA vcp] w fun e w' => e = .returned (.bool true) ∧ Below w.heap.size w w' := by
  have B4 := boxes3 w (.int .i64 x.kind) (.int .i64 x.a) (.slice Ax x.subs.length cx) (.int .i64 y.kind) (.int .i64 y.a) (.slice Ay y.subs.length cy) (.bool t.list) (.int .i64 t.num) (.slice VA t.items.length vcp) 61 61 38
  have H0 := Lib.hid B4.2
  have SC := Lib.hid (fun (W : World) (hb : Below (((w.alloc (ec x Ax cx)).alloc (ec y Ay cy)).alloc (vc t VA vcp)).heap.size (((w.alloc (ec x Ax cx)).alloc (ec y Ay cy)).alloc (vc t VA vcp)) W) => show W.cell? ⟨w.heap.size, 0, none⟩ = some (.int .i64 x.kind) ∧ W.cell? ⟨w.heap.size, 1, none⟩ = some (.int .i64 x.a) ∧ W.cell? ⟨w.heap.size, 2, none⟩ = some (.slice Ax x.subs.length cx) ∧ W.cell? ⟨w.heap.size + 1, 0, none⟩ = some (.int .i64 y.kind) ∧ W.cell? ⟨w.heap.size + 1, 1, none⟩ = some (.int .i64 y.a) ∧ W.cell? ⟨w.heap.size + 1, 2, none⟩ = some (.slice Ay y.subs.length cy) ∧ W.cell? ⟨w.heap.size + 1 + 1, 0, none⟩ = some (.bool t.list) ∧ W.cell? ⟨w.heap.size + 1 + 1, 1, none⟩ = some (.int .i64 t.num) ∧ W.cell? ⟨w.heap.size + 1 + 1, 2, none⟩ = some (.slice VA t.items.length vcp) from by
    obtain ⟨z0, z1, z2⟩ := B4.1
    exact ⟨(z0.later hb).1, (z0.later hb).2.1, (z0.later hb).2.2, (z1.later hb).1, (z1.later hb).2.1, (z1.later hb).2.2, (z2.later hb).1, (z2.later hb).2.1, (z2.later hb).2.2⟩)
  have Hx := Lib.hid (fun (W : World) (hb : Below w.heap.size w W) => show EAt W (EBel W.heap.size) (nx + ny) (ev x Ax cx) x from ((EAt.up (show nx ≤ nx + ny by omega) hx).below hb).more hb.size)
  have Hy := Lib.hid (fun (W : World) (hb : Below w.heap.size w W) => show EAt W (EBel W.heap.size) (nx + ny) (ev y Ay cy) y from ((EAt.up (show ny ≤ nx + ny by omega) hy).below hb).more hb.size)
  have AS := Lib.hid (fun (W : World) (hb : Below w.heap.size w W) => asked_ok W (hsub.below hb))
  have EV := Lib.hid (fun (g : Gn) (v : Value) (n : Nat) (W : World) (hb : Below w.heap.size w W) (hg : EAt W (EBel W.heap.size) n v g) (hs : g.size ≤ 4294967296) => eval_w (u := vv t VA vcp) W hg ((hv.below hb).more hb.size) (Nat.le_refl _) hs (by omega) (hsub.below hb))
  have FV := Lib.hid (fun (g : Gn) (v : Value) (n : Nat) (W : World) (hb : Below w.heap.size w W) (hg : EAt W (EBel W.heap.size) n v g) (hs : g.size ≤ 4294967296) => fails_w (u := vv t VA vcp) W hg ((hv.below hb).more hb.size) (Nat.le_refl _) hs (by omega) (hsub.below hb))
  have HZ := Lib.hid (show x.size ≤ 1048576 ∧ y.size ≤ 1048576 from ⟨by omega, by omega⟩)
  have HR := Lib.hid (show gI x ∧ gI y ∧ tI t ∧ t.items.length ≤ 4294967296 from ⟨eat_b hx, eat_b hy, tat_b hv, by have := len_sizes t.items; have := size_items t; omega⟩)
  clear hx hy hv hbulk hsub B4
  go_enter Tryd.func6, Tryd.ntmps6
  go_wp2_with fail
  refine (AS.out _ H0.out).mono ?_
  rintro e w1 ⟨rfl, X1⟩
  obtain ⟨a0, a1, a2, a3, a4, a5, a6, a7, a8⟩ := SC.out w1 X1
  go_wp2_with fail
  refine (EV.out x _ _ _ (on H0.out X1) (Hx.out _ (on H0.out X1)) (by have := HZ.out; omega)).mono ?_
  rintro e w2 ⟨x1, E1, rfl, HN1, HE1, b2⟩
  have X2 := on X1 b2
  clear b2 X1 a0 a1 a2 a3 a4 a5 a6 a7 a8
  obtain ⟨a0, a1, a2, a3, a4, a5, a6, a7, a8⟩ := SC.out w2 X2
  go_wp2_with fail
  refine (EV.out y _ _ _ (on H0.out X2) (Hy.out _ (on H0.out X2)) (by have := HZ.out; omega)).mono ?_
  rintro e w3 ⟨x2, E2, rfl, HN2, HE2, b3⟩
  have X3 := on X2 b3
  clear b3 X2 a0 a1 a2 a3 a4 a5 a6 a7 a8
  obtain ⟨a0, a1, a2, a3, a4, a5, a6, a7, a8⟩ := SC.out w3 X3
  rcases HE1.out with ⟨f1, rfl⟩ | ⟨q1, hq1, f1, rfl⟩
  rotate_left
  · go_wp2_with fail
    go_ret
    exact ⟨rfl, on H0.out X3⟩
  rcases HE2.out with ⟨f2, rfl⟩ | ⟨q2, hq2, f2, rfl⟩
  rotate_left
  · go_wp2_with fail
    go_ret
    exact ⟨rfl, on H0.out X3⟩
  clear a0 a1 a2 a3 a4 a5 a6 a7 a8
  go_wp2_with fail
  have XC : Below (((w.alloc (ec x Ax cx)).alloc (ec y Ay cy)).alloc (vc t VA vcp)).heap.size (((w.alloc (ec x Ax cx)).alloc (ec y Ay cy)).alloc (vc t VA vcp)) w3.drew := ebel_drew X3
  go_region_held2 (fun w' => w'.cell? ⟨w.heap.size, 0, none⟩ = some (.int .i64 x.kind) ∧ w'.cell? ⟨w.heap.size, 1, none⟩ = some (.int .i64 x.a) ∧ w'.cell? ⟨w.heap.size, 2, none⟩ = some (.slice Ax x.subs.length cx) ∧ w'.cell? ⟨w.heap.size + 1, 0, none⟩ = some (.int .i64 y.kind) ∧ w'.cell? ⟨w.heap.size + 1, 1, none⟩ = some (.int .i64 y.a) ∧ w'.cell? ⟨w.heap.size + 1, 2, none⟩ = some (.slice Ay y.subs.length cy) ∧ w'.cell? ⟨w.heap.size + 1 + 1, 0, none⟩ = some (.bool t.list) ∧ w'.cell? ⟨w.heap.size + 1 + 1, 1, none⟩ = some (.int .i64 t.num) ∧ w'.cell? ⟨w.heap.size + 1 + 1, 2, none⟩ = some (.slice VA t.items.length vcp)) (first | exact SC.out _ (by assumption) | go_keep) (first
    | (with_reducible refine (both_w (x := x) (y := y) (n := nx + ny + 0) 10 (by decide) _ (Hx.out _ (on H0.out XC)) (Hy.out _ (on H0.out XC)) (Nat.le_refl _)).mono ?_
       intro e wp hs
       obtain ⟨Ap1, cp1, rfl, hp1, bb⟩ := hs
       have hp1l : EAt _ _ _ (.agg #[.int .i64 10, .int .i64 0, .slice Ap1 2 cp1]) _ := hp1
       clear hp1
       have hp1 := hp1l
       clear hp1l
       have XC2 := on XC bb
       clear XC bb
       have XC := XC2
       clear XC2)
    | (with_reducible refine (not_w (x := .node 10 0 0 [x, y]) (n := nx + ny + 1) _ (hp1) (Nat.le_refl _)).mono ?_
       intro e wp hs
       obtain ⟨Ap2, cp2, rfl, hp2, bb⟩ := hs
       have hp2l : EAt _ _ _ (.agg #[.int .i64 9, .int .i64 0, .slice Ap2 1 cp2]) _ := hp2
       clear hp2
       have hp2 := hp2l
       clear hp2l
       have XC2 := on XC bb
       clear XC bb
       have XC := XC2
       clear XC2)
    | (with_reducible refine (EV.out (.node 9 0 0 [.node 10 0 0 [x, y]]) _ _ _ (on H0.out XC) hp2 (by have := HZ.out; simp only [Gn.size, gsizes]; omega)).mono ?_
       intro e w4 hs
       obtain ⟨x3, E3, rfl, HN3, HE3, bb⟩ := hs
       have XC2 := on XC bb
       clear XC bb
       have XC := XC2
       clear XC2))
  have X4 := XC
  clear XC
  obtain ⟨a0, a1, a2, a3, a4, a5, a6, a7, a8⟩ := SC.out w4 X4
  clear a0 a1 a2 a3 a4 a5 a6 a7 a8
  go_wp2_with fail
  have XC : Below (((w.alloc (ec x Ax cx)).alloc (ec y Ay cy)).alloc (vc t VA vcp)).heap.size (((w.alloc (ec x Ax cx)).alloc (ec y Ay cy)).alloc (vc t VA vcp)) w4.drew := ebel_drew X4
  go_region_held2 (fun w' => w'.cell? ⟨w.heap.size, 0, none⟩ = some (.int .i64 x.kind) ∧ w'.cell? ⟨w.heap.size, 1, none⟩ = some (.int .i64 x.a) ∧ w'.cell? ⟨w.heap.size, 2, none⟩ = some (.slice Ax x.subs.length cx) ∧ w'.cell? ⟨w.heap.size + 1, 0, none⟩ = some (.int .i64 y.kind) ∧ w'.cell? ⟨w.heap.size + 1, 1, none⟩ = some (.int .i64 y.a) ∧ w'.cell? ⟨w.heap.size + 1, 2, none⟩ = some (.slice Ay y.subs.length cy) ∧ w'.cell? ⟨w.heap.size + 1 + 1, 0, none⟩ = some (.bool t.list) ∧ w'.cell? ⟨w.heap.size + 1 + 1, 1, none⟩ = some (.int .i64 t.num) ∧ w'.cell? ⟨w.heap.size + 1 + 1, 2, none⟩ = some (.slice VA t.items.length vcp)) (first | exact SC.out _ (by assumption) | go_keep) (first
    | (with_reducible refine (not_w (x := x) (n := nx + ny + 0) _ (Hx.out _ (on H0.out XC)) (Nat.le_refl _)).mono ?_
       intro e wp hs
       obtain ⟨Ap1, cp1, rfl, hp1, bb⟩ := hs
       have hp1l : EAt _ _ _ (.agg #[.int .i64 9, .int .i64 0, .slice Ap1 1 cp1]) _ := hp1
       clear hp1
       have hp1 := hp1l
       clear hp1l
       (try (have hp22 := (EAt.below hp2 bb).more bb.size; clear hp2; have hp2 := hp22; clear hp22))
       have XC2 := on XC bb
       clear XC bb
       have XC := XC2
       clear XC2)
    | (with_reducible refine (not_w (x := y) (n := nx + ny + 0) _ (Hy.out _ (on H0.out XC)) (Nat.le_refl _)).mono ?_
       intro e wp hs
       obtain ⟨Ap2, cp2, rfl, hp2, bb⟩ := hs
       have hp2l : EAt _ _ _ (.agg #[.int .i64 9, .int .i64 0, .slice Ap2 1 cp2]) _ := hp2
       clear hp2
       have hp2 := hp2l
       clear hp2l
       (try (have hp12 := (EAt.below hp1 bb).more bb.size; clear hp1; have hp1 := hp12; clear hp12))
       have XC2 := on XC bb
       clear XC bb
       have XC := XC2
       clear XC2)
    | (with_reducible refine (both_w (x := .node 9 0 0 [x]) (y := .node 9 0 0 [y]) (n := nx + ny + 1) 11 (by decide) _ (hp1) (hp2) (Nat.le_refl _)).mono ?_
       intro e wp hs
       obtain ⟨Ap3, cp3, rfl, hp3, bb⟩ := hs
       have hp3l : EAt _ _ _ (.agg #[.int .i64 11, .int .i64 0, .slice Ap3 2 cp3]) _ := hp3
       clear hp3
       have hp3 := hp3l
       clear hp3l
       have XC2 := on XC bb
       clear XC bb
       have XC := XC2
       clear XC2)
    | (with_reducible refine (EV.out (.node 11 0 0 [.node 9 0 0 [x], .node 9 0 0 [y]]) _ _ _ (on H0.out XC) hp3 (by have := HZ.out; simp only [Gn.size, gsizes]; omega)).mono ?_
       intro e w5 hs
       obtain ⟨x4, E4, rfl, HN4, HE4, bb⟩ := hs
       have XC2 := on XC bb
       clear XC bb
       have XC := XC2
       clear XC2))
  have X5 := XC
  clear XC
  all_goals
    obtain ⟨a0, a1, a2, a3, a4, a5, a6, a7, a8⟩ := SC.out w5 X5
    go_wp2_with fail
    refine (FV.out x _ _ _ (on H0.out X5) (Hx.out _ (on H0.out X5)) (by have := HZ.out; omega)).mono ?_
    rintro e w6 ⟨x5, E5, rfl, HN5, HE5, b6⟩
    have X6 := on X5 b6
    clear b6 X5 a0 a1 a2 a3 a4 a5 a6 a7 a8
    obtain ⟨a0, a1, a2, a3, a4, a5, a6, a7, a8⟩ := SC.out w6 X6
    clear a0 a1 a2 a3 a4 a5 a6 a7 a8
    go_wp2_with fail
    have XC : Below (((w.alloc (ec x Ax cx)).alloc (ec y Ay cy)).alloc (vc t VA vcp)).heap.size (((w.alloc (ec x Ax cx)).alloc (ec y Ay cy)).alloc (vc t VA vcp)) w6.drew := ebel_drew X6
    go_region_held2 (fun w' => w'.cell? ⟨w.heap.size, 0, none⟩ = some (.int .i64 x.kind) ∧ w'.cell? ⟨w.heap.size, 1, none⟩ = some (.int .i64 x.a) ∧ w'.cell? ⟨w.heap.size, 2, none⟩ = some (.slice Ax x.subs.length cx) ∧ w'.cell? ⟨w.heap.size + 1, 0, none⟩ = some (.int .i64 y.kind) ∧ w'.cell? ⟨w.heap.size + 1, 1, none⟩ = some (.int .i64 y.a) ∧ w'.cell? ⟨w.heap.size + 1, 2, none⟩ = some (.slice Ay y.subs.length cy) ∧ w'.cell? ⟨w.heap.size + 1 + 1, 0, none⟩ = some (.bool t.list) ∧ w'.cell? ⟨w.heap.size + 1 + 1, 1, none⟩ = some (.int .i64 t.num) ∧ w'.cell? ⟨w.heap.size + 1 + 1, 2, none⟩ = some (.slice VA t.items.length vcp)) (first | exact SC.out _ (by assumption) | go_keep) (first
      | (with_reducible refine (not_w (x := x) (n := nx + ny + 0) _ (Hx.out _ (on H0.out XC)) (Nat.le_refl _)).mono ?_
         intro e wp hs
         obtain ⟨Ap1, cp1, rfl, hp1, bb⟩ := hs
         have hp1l : EAt _ _ _ (.agg #[.int .i64 9, .int .i64 0, .slice Ap1 1 cp1]) _ := hp1
         clear hp1
         have hp1 := hp1l
         clear hp1l
         have XC2 := on XC bb
         clear XC bb
         have XC := XC2
         clear XC2)
      | (with_reducible refine (not_w (x := .node 9 0 0 [x]) (n := nx + ny + 1) _ (hp1) (Nat.le_refl _)).mono ?_
         intro e wp hs
         obtain ⟨Ap2, cp2, rfl, hp2, bb⟩ := hs
         have hp2l : EAt _ _ _ (.agg #[.int .i64 9, .int .i64 0, .slice Ap2 1 cp2]) _ := hp2
         clear hp2
         have hp2 := hp2l
         clear hp2l
         have XC2 := on XC bb
         clear XC bb
         have XC := XC2
         clear XC2)
      | (with_reducible refine (FV.out (.node 9 0 0 [.node 9 0 0 [x]]) _ _ _ (on H0.out XC) hp2 (by have := HZ.out; simp only [Gn.size, gsizes]; omega)).mono ?_
         intro e w7 hs
         obtain ⟨x6, E6, rfl, HN6, HE6, bb⟩ := hs
         have XC2 := on XC bb
         clear XC bb
         have XC := XC2
         clear XC2))
    have X7 := XC
    clear XC
    obtain ⟨a0, a1, a2, a3, a4, a5, a6, a7, a8⟩ := SC.out w7 X7
    clear a0 a1 a2 a3 a4 a5 a6 a7 a8
    go_wp2_with fail
    have XC : Below (((w.alloc (ec x Ax cx)).alloc (ec y Ay cy)).alloc (vc t VA vcp)).heap.size (((w.alloc (ec x Ax cx)).alloc (ec y Ay cy)).alloc (vc t VA vcp)) w7.drew := ebel_drew X7
    go_region_held2 (fun w' => w'.cell? ⟨w.heap.size, 0, none⟩ = some (.int .i64 x.kind) ∧ w'.cell? ⟨w.heap.size, 1, none⟩ = some (.int .i64 x.a) ∧ w'.cell? ⟨w.heap.size, 2, none⟩ = some (.slice Ax x.subs.length cx) ∧ w'.cell? ⟨w.heap.size + 1, 0, none⟩ = some (.int .i64 y.kind) ∧ w'.cell? ⟨w.heap.size + 1, 1, none⟩ = some (.int .i64 y.a) ∧ w'.cell? ⟨w.heap.size + 1, 2, none⟩ = some (.slice Ay y.subs.length cy) ∧ w'.cell? ⟨w.heap.size + 1 + 1, 0, none⟩ = some (.bool t.list) ∧ w'.cell? ⟨w.heap.size + 1 + 1, 1, none⟩ = some (.int .i64 t.num) ∧ w'.cell? ⟨w.heap.size + 1 + 1, 2, none⟩ = some (.slice VA t.items.length vcp)) (first | exact SC.out _ (by assumption) | go_keep) (first
      | (with_reducible refine (both_w (x := x) (y := x) (n := nx + ny + 0) 8 (by decide) _ (Hx.out _ (on H0.out XC)) (Hx.out _ (on H0.out XC)) (Nat.le_refl _)).mono ?_
         intro e wp hs
         obtain ⟨Ap1, cp1, rfl, hp1, bb⟩ := hs
         have hp1l : EAt _ _ _ (.agg #[.int .i64 8, .int .i64 0, .slice Ap1 2 cp1]) _ := hp1
         clear hp1
         have hp1 := hp1l
         clear hp1l
         have XC2 := on XC bb
         clear XC bb
         have XC := XC2
         clear XC2)
      | (with_reducible refine (EV.out (.node 8 0 0 [x, x]) _ _ _ (on H0.out XC) hp1 (by have := HZ.out; simp only [Gn.size, gsizes]; omega)).mono ?_
         intro e w8 hs
         obtain ⟨x7, E7, rfl, HN7, HE7, bb⟩ := hs
         have XC2 := on XC bb
         clear XC bb
         have XC := XC2
         clear XC2))
    have X8 := XC
    clear XC
    have D7 := ei_one HE7.out (fun h => HN7.out.trans (morgan_same h))
    have D5 := ei_two HE5.out HE6.out (fun h5 h6 => (HN5.out.trans (morgan_fail h5 h6)).trans HN6.out.symm)
    have D3 := ei_two HE3.out HE4.out (fun h3 h4 => (HN3.out.trans (morgan_num f1 f2 h3 h4)).trans HN4.out.symm)
    clear HE1 HE2 HE3 HE4 HE5 HE6 HE7 HN1 HN2 HN3 HN4 HN5 HN6 HN7 f1 f2
    rcases D7 with ⟨rfl, rfl⟩ | ⟨q7, rfl⟩ <;> rcases D5 with ⟨rfl, rfl, rfl⟩ | ⟨rfl, q6, rfl⟩ | ⟨q5, rfl⟩ <;> rcases D3 with ⟨rfl, rfl, rfl⟩ | ⟨rfl, q4, rfl⟩ | ⟨q3, rfl⟩
    all_goals
      go_wp2_with fail
      go_ret
      exact ⟨by simp, on H0.out X8⟩
end Go.Proofs.YtffkppjmdelajaaDoor.ExprMorganLaw
