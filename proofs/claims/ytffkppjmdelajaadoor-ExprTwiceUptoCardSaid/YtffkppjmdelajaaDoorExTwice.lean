/-
  ExprTwice: an expression and itself, or itself, is it; with 0 added it stays; and three are the same, whichever two are taken first.
  Conditions: the second form's bound on what comes in; the program's table subsByKind.
-/
import Derived.Test.YtffkppjmdelajaaDoorExLaw
import Derived.Deep.RegionHeld2
import Derived.Deep.DeepCutAuto
namespace Go.Proofs.YtffkppjmdelajaaDoor.ExprTwiceLaw
open Go.ChangeShapes Go.WideShapes Go.ChangeAt Go.RowKit Lists Gens Rng Vals Exprs
set_option linter.unusedVariables false

set_option maxHeartbeats 16000000 in
set_option maxRecDepth 100000 in
theorem walk (x : Gn) (Ax : Option Addr) (cx nx : Nat) (y : Gn) (Ay : Option Addr) (cy ny : Nat) (z : Gn) (Az : Option Addr) (cz nz : Nat) (t : Tr) (VA : Option Addr) (vcp nv : Nat) (hbulk : x.size + y.size + z.size + t.size ≤ 1048576) (w : World) (hx : EAt w (EBel w.heap.size) nx (ev x Ax cx) x) (hy : EAt w (EBel w.heap.size) ny (ev y Ay cy) y) (hz : EAt w (EBel w.heap.size) nz (ev z Az cz) z) (hv : TAt w (Bel w.heap.size) nv (vv t VA vcp) t) (hsub : Subs w) :
    Calls Tryd.prog 9 #[ev x Ax cx, ev y Ay cy, ev z Az cz, vv t VA vcp] w fun e w' => e = .returned (.bool true) ∧ Below w.heap.size w w' := by
  have B4 := boxes4 w (.int .i64 x.kind) (.int .i64 x.a) (.slice Ax x.subs.length cx) (.int .i64 y.kind) (.int .i64 y.a) (.slice Ay y.subs.length cy) (.int .i64 z.kind) (.int .i64 z.a) (.slice Az z.subs.length cz) (.bool t.list) (.int .i64 t.num) (.slice VA t.items.length vcp) 61 61 61 38
  have H0 := Lib.hid B4.2
  have SC := Lib.hid (fun (W : World) (hb : Below ((((w.alloc (ec x Ax cx)).alloc (ec y Ay cy)).alloc (ec z Az cz)).alloc (vc t VA vcp)).heap.size ((((w.alloc (ec x Ax cx)).alloc (ec y Ay cy)).alloc (ec z Az cz)).alloc (vc t VA vcp)) W) => show W.cell? ⟨w.heap.size, 0, none⟩ = some (.int .i64 x.kind) ∧ W.cell? ⟨w.heap.size, 1, none⟩ = some (.int .i64 x.a) ∧ W.cell? ⟨w.heap.size, 2, none⟩ = some (.slice Ax x.subs.length cx) ∧ W.cell? ⟨w.heap.size + 1, 0, none⟩ = some (.int .i64 y.kind) ∧ W.cell? ⟨w.heap.size + 1, 1, none⟩ = some (.int .i64 y.a) ∧ W.cell? ⟨w.heap.size + 1, 2, none⟩ = some (.slice Ay y.subs.length cy) ∧ W.cell? ⟨w.heap.size + 1 + 1, 0, none⟩ = some (.int .i64 z.kind) ∧ W.cell? ⟨w.heap.size + 1 + 1, 1, none⟩ = some (.int .i64 z.a) ∧ W.cell? ⟨w.heap.size + 1 + 1, 2, none⟩ = some (.slice Az z.subs.length cz) ∧ W.cell? ⟨w.heap.size + 1 + 1 + 1, 0, none⟩ = some (.bool t.list) ∧ W.cell? ⟨w.heap.size + 1 + 1 + 1, 1, none⟩ = some (.int .i64 t.num) ∧ W.cell? ⟨w.heap.size + 1 + 1 + 1, 2, none⟩ = some (.slice VA t.items.length vcp) from by
    obtain ⟨z0, z1, z2, z3⟩ := B4.1
    exact ⟨(z0.later hb).1, (z0.later hb).2.1, (z0.later hb).2.2, (z1.later hb).1, (z1.later hb).2.1, (z1.later hb).2.2, (z2.later hb).1, (z2.later hb).2.1, (z2.later hb).2.2, (z3.later hb).1, (z3.later hb).2.1, (z3.later hb).2.2⟩)
  have Hx := Lib.hid (fun (W : World) (hb : Below w.heap.size w W) => show EAt W (EBel W.heap.size) (nx + ny + nz) (ev x Ax cx) x from ((EAt.up (show nx ≤ nx + ny + nz by omega) hx).below hb).more hb.size)
  have Hy := Lib.hid (fun (W : World) (hb : Below w.heap.size w W) => show EAt W (EBel W.heap.size) (nx + ny + nz) (ev y Ay cy) y from ((EAt.up (show ny ≤ nx + ny + nz by omega) hy).below hb).more hb.size)
  have Hz := Lib.hid (fun (W : World) (hb : Below w.heap.size w W) => show EAt W (EBel W.heap.size) (nx + ny + nz) (ev z Az cz) z from ((EAt.up (show nz ≤ nx + ny + nz by omega) hz).below hb).more hb.size)
  have AS := Lib.hid (fun (W : World) (hb : Below w.heap.size w W) => seven_ok W (hsub.below hb))
  have EV := Lib.hid (fun (g : Gn) (v : Value) (n : Nat) (W : World) (hb : Below w.heap.size w W) (hg : EAt W (EBel W.heap.size) n v g) (hs : g.size ≤ 4294967296) => eval_w (u := vv t VA vcp) W hg ((hv.below hb).more hb.size) (Nat.le_refl _) hs (by omega) (hsub.below hb))
  have HZ := Lib.hid (show x.size ≤ 1048576 ∧ y.size ≤ 1048576 ∧ z.size ≤ 1048576 from ⟨by omega, by omega, by omega⟩)
  have HR := Lib.hid (show gI x ∧ gI y ∧ gI z ∧ tI t ∧ t.items.length ≤ 4294967296 from ⟨eat_b hx, eat_b hy, eat_b hz, tat_b hv, by have := len_sizes t.items; have := size_items t; omega⟩)
  clear hx hy hz hv hbulk hsub B4
  go_enter Tryd.func9, Tryd.ntmps9
  go_wp2_with fail
  refine (AS.out _ H0.out).mono ?_
  rintro e w1 ⟨rfl, X1⟩
  obtain ⟨a0, a1, a2, a3, a4, a5, a6, a7, a8, a9, a10, a11⟩ := SC.out w1 X1
  go_wp2_with fail
  refine (EV.out x _ _ _ (on H0.out X1) (Hx.out _ (on H0.out X1)) (by have := HZ.out; omega)).mono ?_
  rintro e w2 ⟨x1, E1, rfl, HN1, HE1, b2⟩
  have X2 := on X1 b2
  clear b2 X1 a0 a1 a2 a3 a4 a5 a6 a7 a8 a9 a10 a11
  obtain ⟨a0, a1, a2, a3, a4, a5, a6, a7, a8, a9, a10, a11⟩ := SC.out w2 X2
  clear a0 a1 a2 a3 a4 a5 a6 a7 a8 a9 a10 a11
  go_wp2_with fail
  have XC : Below ((((w.alloc (ec x Ax cx)).alloc (ec y Ay cy)).alloc (ec z Az cz)).alloc (vc t VA vcp)).heap.size ((((w.alloc (ec x Ax cx)).alloc (ec y Ay cy)).alloc (ec z Az cz)).alloc (vc t VA vcp)) w2.drew := ebel_drew X2
  go_region_held2 (fun w' => w'.cell? ⟨w.heap.size, 0, none⟩ = some (.int .i64 x.kind) ∧ w'.cell? ⟨w.heap.size, 1, none⟩ = some (.int .i64 x.a) ∧ w'.cell? ⟨w.heap.size, 2, none⟩ = some (.slice Ax x.subs.length cx) ∧ w'.cell? ⟨w.heap.size + 1, 0, none⟩ = some (.int .i64 y.kind) ∧ w'.cell? ⟨w.heap.size + 1, 1, none⟩ = some (.int .i64 y.a) ∧ w'.cell? ⟨w.heap.size + 1, 2, none⟩ = some (.slice Ay y.subs.length cy) ∧ w'.cell? ⟨w.heap.size + 1 + 1, 0, none⟩ = some (.int .i64 z.kind) ∧ w'.cell? ⟨w.heap.size + 1 + 1, 1, none⟩ = some (.int .i64 z.a) ∧ w'.cell? ⟨w.heap.size + 1 + 1, 2, none⟩ = some (.slice Az z.subs.length cz) ∧ w'.cell? ⟨w.heap.size + 1 + 1 + 1, 0, none⟩ = some (.bool t.list) ∧ w'.cell? ⟨w.heap.size + 1 + 1 + 1, 1, none⟩ = some (.int .i64 t.num) ∧ w'.cell? ⟨w.heap.size + 1 + 1 + 1, 2, none⟩ = some (.slice VA t.items.length vcp)) (first | exact SC.out _ (by assumption) | go_keep) (first
    | (with_reducible refine (both6_w (x := x) (y := x) (n := nx + ny + nz + 0) 10 (by decide) _ (Hx.out _ (on H0.out XC)) (Hx.out _ (on H0.out XC)) (Nat.le_refl _)).mono ?_
       intro e wp hs
       obtain ⟨Ap1, cp1, rfl, hp1, bb⟩ := hs
       have hp1l : EAt _ _ _ (.agg #[.int .i64 10, .int .i64 0, .slice Ap1 2 cp1]) _ := hp1
       clear hp1
       have hp1 := hp1l
       clear hp1l
       have XC2 := on XC bb
       clear XC bb
       have XC := XC2
       clear XC2)
    | (with_reducible refine (EV.out (.node 10 0 0 [x, x]) _ _ _ (on H0.out XC) hp1 (by have := HZ.out; simp only [Gn.size, gsizes]; omega)).mono ?_
       intro e w3 hs
       obtain ⟨x2, E2, rfl, HN2, HE2, bb⟩ := hs
       have XC2 := on XC bb
       clear XC bb
       have XC := XC2
       clear XC2))
  have X3 := XC
  clear XC
  obtain ⟨a0, a1, a2, a3, a4, a5, a6, a7, a8, a9, a10, a11⟩ := SC.out w3 X3
  clear a0 a1 a2 a3 a4 a5 a6 a7 a8 a9 a10 a11
  go_wp2_with fail
  have XC : Below ((((w.alloc (ec x Ax cx)).alloc (ec y Ay cy)).alloc (ec z Az cz)).alloc (vc t VA vcp)).heap.size ((((w.alloc (ec x Ax cx)).alloc (ec y Ay cy)).alloc (ec z Az cz)).alloc (vc t VA vcp)) w3.drew := ebel_drew X3
  go_region_held2 (fun w' => w'.cell? ⟨w.heap.size, 0, none⟩ = some (.int .i64 x.kind) ∧ w'.cell? ⟨w.heap.size, 1, none⟩ = some (.int .i64 x.a) ∧ w'.cell? ⟨w.heap.size, 2, none⟩ = some (.slice Ax x.subs.length cx) ∧ w'.cell? ⟨w.heap.size + 1, 0, none⟩ = some (.int .i64 y.kind) ∧ w'.cell? ⟨w.heap.size + 1, 1, none⟩ = some (.int .i64 y.a) ∧ w'.cell? ⟨w.heap.size + 1, 2, none⟩ = some (.slice Ay y.subs.length cy) ∧ w'.cell? ⟨w.heap.size + 1 + 1, 0, none⟩ = some (.int .i64 z.kind) ∧ w'.cell? ⟨w.heap.size + 1 + 1, 1, none⟩ = some (.int .i64 z.a) ∧ w'.cell? ⟨w.heap.size + 1 + 1, 2, none⟩ = some (.slice Az z.subs.length cz) ∧ w'.cell? ⟨w.heap.size + 1 + 1 + 1, 0, none⟩ = some (.bool t.list) ∧ w'.cell? ⟨w.heap.size + 1 + 1 + 1, 1, none⟩ = some (.int .i64 t.num) ∧ w'.cell? ⟨w.heap.size + 1 + 1 + 1, 2, none⟩ = some (.slice VA t.items.length vcp)) (first | exact SC.out _ (by assumption) | go_keep) (first
    | (with_reducible refine (both6_w (x := x) (y := x) (n := nx + ny + nz + 0) 11 (by decide) _ (Hx.out _ (on H0.out XC)) (Hx.out _ (on H0.out XC)) (Nat.le_refl _)).mono ?_
       intro e wp hs
       obtain ⟨Ap1, cp1, rfl, hp1, bb⟩ := hs
       have hp1l : EAt _ _ _ (.agg #[.int .i64 11, .int .i64 0, .slice Ap1 2 cp1]) _ := hp1
       clear hp1
       have hp1 := hp1l
       clear hp1l
       have XC2 := on XC bb
       clear XC bb
       have XC := XC2
       clear XC2)
    | (with_reducible refine (EV.out (.node 11 0 0 [x, x]) _ _ _ (on H0.out XC) hp1 (by have := HZ.out; simp only [Gn.size, gsizes]; omega)).mono ?_
       intro e w4 hs
       obtain ⟨x3, E3, rfl, HN3, HE3, bb⟩ := hs
       have XC2 := on XC bb
       clear XC bb
       have XC := XC2
       clear XC2))
  have X4 := XC
  clear XC
  obtain ⟨a0, a1, a2, a3, a4, a5, a6, a7, a8, a9, a10, a11⟩ := SC.out w4 X4
  clear a0 a1 a2 a3 a4 a5 a6 a7 a8 a9 a10 a11
  go_wp2_with fail
  have XC : Below ((((w.alloc (ec x Ax cx)).alloc (ec y Ay cy)).alloc (ec z Az cz)).alloc (vc t VA vcp)).heap.size ((((w.alloc (ec x Ax cx)).alloc (ec y Ay cy)).alloc (ec z Az cz)).alloc (vc t VA vcp)) w4.drew := ebel_drew X4
  go_region_held2 (fun w' => w'.cell? ⟨w.heap.size, 0, none⟩ = some (.int .i64 x.kind) ∧ w'.cell? ⟨w.heap.size, 1, none⟩ = some (.int .i64 x.a) ∧ w'.cell? ⟨w.heap.size, 2, none⟩ = some (.slice Ax x.subs.length cx) ∧ w'.cell? ⟨w.heap.size + 1, 0, none⟩ = some (.int .i64 y.kind) ∧ w'.cell? ⟨w.heap.size + 1, 1, none⟩ = some (.int .i64 y.a) ∧ w'.cell? ⟨w.heap.size + 1, 2, none⟩ = some (.slice Ay y.subs.length cy) ∧ w'.cell? ⟨w.heap.size + 1 + 1, 0, none⟩ = some (.int .i64 z.kind) ∧ w'.cell? ⟨w.heap.size + 1 + 1, 1, none⟩ = some (.int .i64 z.a) ∧ w'.cell? ⟨w.heap.size + 1 + 1, 2, none⟩ = some (.slice Az z.subs.length cz) ∧ w'.cell? ⟨w.heap.size + 1 + 1 + 1, 0, none⟩ = some (.bool t.list) ∧ w'.cell? ⟨w.heap.size + 1 + 1 + 1, 1, none⟩ = some (.int .i64 t.num) ∧ w'.cell? ⟨w.heap.size + 1 + 1 + 1, 2, none⟩ = some (.slice VA t.items.length vcp)) (first | exact SC.out _ (by assumption) | go_keep) (first
    | (with_reducible refine (both6_w (x := x) (y := .node 1 0 0 []) (n := nx + ny + nz + 1) 5 (by decide) _ ((EAt.up (show nx + ny + nz + 0 ≤ nx + ny + nz + 1 by omega) (Hx.out _ (on H0.out XC)))) (eat_leaf 1 0 0 (by decide) (by decide) 0) (Nat.le_refl _)).mono ?_
       intro e wp hs
       obtain ⟨Ap1, cp1, rfl, hp1, bb⟩ := hs
       have hp1l : EAt _ _ _ (.agg #[.int .i64 5, .int .i64 0, .slice Ap1 2 cp1]) _ := hp1
       clear hp1
       have hp1 := hp1l
       clear hp1l
       have XC2 := on XC bb
       clear XC bb
       have XC := XC2
       clear XC2)
    | (with_reducible refine (EV.out (.node 5 0 0 [x, .node 1 0 0 []]) _ _ _ (on H0.out XC) hp1 (by have := HZ.out; simp only [Gn.size, gsizes]; omega)).mono ?_
       intro e w5 hs
       obtain ⟨x4, E4, rfl, HN4, HE4, bb⟩ := hs
       have XC2 := on XC bb
       clear XC bb
       have XC := XC2
       clear XC2))
  have X5 := XC
  clear XC
  obtain ⟨a0, a1, a2, a3, a4, a5, a6, a7, a8, a9, a10, a11⟩ := SC.out w5 X5
  have D1 : (E1 = .nilIface ∧ ((E2 = .nilIface ∧ x2 = x1) ∨ ∃ q : Int, E2 = .iface 30 (.int .i64 q)) ∧ ((E3 = .nilIface ∧ x3 = x1) ∨ ∃ q : Int, E3 = .iface 30 (.int .i64 q)) ∧ ((E4 = .nilIface ∧ x4 = x1) ∨ ∃ q : Int, E4 = .iface 30 (.int .i64 q))) ∨ ∃ q : Int, E1 = .iface 30 (.int .i64 q) := by
    rcases HE1.out with ⟨f1, h⟩ | ⟨q, _, _, h⟩
    · have xb := num_b t HR.out.2.2.2.1 HR.out.2.2.2.2 x HR.out.1 _ (ev_ok f1).2.2
      exact .inl ⟨h, ei_one HE2.out (fun h => (HN2.out.trans (twice_and f1 h)).trans HN1.out.symm), ei_one HE3.out (fun h => (HN3.out.trans (twice_or f1 h)).trans HN1.out.symm), ei_one HE4.out (fun h => (HN4.out.trans (twice_add f1 xb h)).trans HN1.out.symm)⟩
    · exact .inr ⟨q, h⟩
  have XK := on H0.out X5
  have KR := Lib.hid (fun (W : World) (hb : Below (w5.alloc (.cells #[.int .i64 5, .int .i64 10, .int .i64 11] 3)).heap.size (w5.alloc (.cells #[.int .i64 5, .int .i64 10, .int .i64 11] 3)) W) => And.intro (SC.out W (on (on X5 ((Below.refl _ _).alloc (Nat.le_refl _) _)) hb)) (ebox w5 W 3 (.int .i64 5) (.int .i64 10) (.int .i64 11) hb))
  have HK := Lib.hid (show Below w.heap.size w (w5.alloc (.cells #[.int .i64 5, .int .i64 10, .int .i64 11] 3)) from on XK ((Below.refl _ _).alloc (Nat.le_refl _) _))
  have SD := Lib.hid (fun (W : World) (hb : Below (w5.alloc (.cells #[.int .i64 5, .int .i64 10, .int .i64 11] 3)).heap.size (w5.alloc (.cells #[.int .i64 5, .int .i64 10, .int .i64 11] 3)) W) => show W.cell? ⟨w.heap.size, 0, none⟩ = some (.int .i64 x.kind) ∧ W.cell? ⟨w.heap.size, 1, none⟩ = some (.int .i64 x.a) ∧ W.cell? ⟨w.heap.size, 2, none⟩ = some (.slice Ax x.subs.length cx) ∧ W.cell? ⟨w.heap.size + 1, 0, none⟩ = some (.int .i64 y.kind) ∧ W.cell? ⟨w.heap.size + 1, 1, none⟩ = some (.int .i64 y.a) ∧ W.cell? ⟨w.heap.size + 1, 2, none⟩ = some (.slice Ay y.subs.length cy) ∧ W.cell? ⟨w.heap.size + 1 + 1, 0, none⟩ = some (.int .i64 z.kind) ∧ W.cell? ⟨w.heap.size + 1 + 1, 1, none⟩ = some (.int .i64 z.a) ∧ W.cell? ⟨w.heap.size + 1 + 1, 2, none⟩ = some (.slice Az z.subs.length cz) ∧ W.cell? ⟨w.heap.size + 1 + 1 + 1, 0, none⟩ = some (.bool t.list) ∧ W.cell? ⟨w.heap.size + 1 + 1 + 1, 1, none⟩ = some (.int .i64 t.num) ∧ W.cell? ⟨w.heap.size + 1 + 1 + 1, 2, none⟩ = some (.slice VA t.items.length vcp) ∧ W.cell? ⟨w5.heap.size, 0, none⟩ = some (.int .i64 5) ∧ W.cell? ⟨w5.heap.size, 1, none⟩ = some (.int .i64 10) ∧ W.cell? ⟨w5.heap.size, 2, none⟩ = some (.int .i64 11) from by
    obtain ⟨⟨z0, z1, z2, z3, z4, z5, z6, z7, z8, z9, z10, z11⟩, k0, k1, k2⟩ := KR.out W hb
    exact ⟨z0, z1, z2, z3, z4, z5, z6, z7, z8, z9, z10, z11, k0, k1, k2⟩)
  clear KR XK HE1 HE2 HE3 HE4 HN1 HN2 HN3 HN4 a0 a1 a2 a3 a4 a5 a6 a7 a8 a9 a10 a11
  have HX5 := Lib.hid X5
  clear X5
  have D1 := Lib.hid D1
  go_upto_region 8 with fail
  go_cut [95] (fun c wx => c = .bool false ∧ w5 = wx)
  case first =>
    rcases D1.out with ⟨rfl, ⟨rfl, rfl⟩ | ⟨q2, rfl⟩, ⟨rfl, rfl⟩ | ⟨q3, rfl⟩, ⟨rfl, rfl⟩ | ⟨q4, rfl⟩⟩ | ⟨q1, rfl⟩
    all_goals
      clear D1
      go_wp2_with fail
      go_meet
      exact ⟨rfl, rfl⟩
  case rest =>
    obtain ⟨rfl, rfl⟩ := hcut
    clear D1
    go_wp2_with fail
    generalize w5.alloc (.cells #[.int .i64 5, .int .i64 10, .int .i64 11] 3) = wK at HK SD ⊢
    go_loopw [20] (fun i wr => (i = .int .i64 0 ∨ i = .int .i64 1 ∨ i = .int .i64 2 ∨ i = .int .i64 3) ∧ Below wK.heap.size wK wr) (fun i _ => 3 - (intOf i).toNat)
    case atStart => exact ⟨.inl rfl, Below.refl _ _⟩
    case round =>
      obtain ⟨hi, X6⟩ := hrel
      rcases hi with rfl | rfl | rfl | rfl
      · skip
        obtain ⟨a0, a1, a2, a3, a4, a5, a6, a7, a8, a9, a10, a11, a12, a13, a14⟩ := SD.out wr X6
        clear a0 a1 a2 a3 a4 a5 a6 a7 a8 a9 a10 a11 a12 a13 a14
        go_wp2_with fail
        have XC : Below (wK).heap.size (wK) wr.drew := ebel_drew X6
        go_region_held2 (fun w' => w'.cell? ⟨w.heap.size, 0, none⟩ = some (.int .i64 x.kind) ∧ w'.cell? ⟨w.heap.size, 1, none⟩ = some (.int .i64 x.a) ∧ w'.cell? ⟨w.heap.size, 2, none⟩ = some (.slice Ax x.subs.length cx) ∧ w'.cell? ⟨w.heap.size + 1, 0, none⟩ = some (.int .i64 y.kind) ∧ w'.cell? ⟨w.heap.size + 1, 1, none⟩ = some (.int .i64 y.a) ∧ w'.cell? ⟨w.heap.size + 1, 2, none⟩ = some (.slice Ay y.subs.length cy) ∧ w'.cell? ⟨w.heap.size + 1 + 1, 0, none⟩ = some (.int .i64 z.kind) ∧ w'.cell? ⟨w.heap.size + 1 + 1, 1, none⟩ = some (.int .i64 z.a) ∧ w'.cell? ⟨w.heap.size + 1 + 1, 2, none⟩ = some (.slice Az z.subs.length cz) ∧ w'.cell? ⟨w.heap.size + 1 + 1 + 1, 0, none⟩ = some (.bool t.list) ∧ w'.cell? ⟨w.heap.size + 1 + 1 + 1, 1, none⟩ = some (.int .i64 t.num) ∧ w'.cell? ⟨w.heap.size + 1 + 1 + 1, 2, none⟩ = some (.slice VA t.items.length vcp) ∧ w'.cell? ⟨w5.heap.size, 0, none⟩ = some (.int .i64 5) ∧ w'.cell? ⟨w5.heap.size, 1, none⟩ = some (.int .i64 10) ∧ w'.cell? ⟨w5.heap.size, 2, none⟩ = some (.int .i64 11)) (first | exact SD.out _ (by assumption) | go_keep) (first
          | (with_reducible refine (both6_w (x := x) (y := y) (n := nx + ny + nz + 0) 5 (by decide) _ (Hx.out _ (on HK.out XC)) (Hy.out _ (on HK.out XC)) (Nat.le_refl _)).mono ?_
             intro e wp hs
             obtain ⟨Ap1, cp1, rfl, hp1, bb⟩ := hs
             have hp1l : EAt _ _ _ (.agg #[.int .i64 5, .int .i64 0, .slice Ap1 2 cp1]) _ := hp1
             clear hp1
             have hp1 := hp1l
             clear hp1l
             have XC2 := on XC bb
             clear XC bb
             have XC := XC2
             clear XC2)
          | (with_reducible refine (both6_w (x := .node 5 0 0 [x, y]) (y := z) (n := nx + ny + nz + 1) 5 (by decide) _ (hp1) ((EAt.up (show nx + ny + nz + 0 ≤ nx + ny + nz + 1 by omega) (Hz.out _ (on HK.out XC)))) (Nat.le_refl _)).mono ?_
             intro e wp hs
             obtain ⟨Ap2, cp2, rfl, hp2, bb⟩ := hs
             have hp2l : EAt _ _ _ (.agg #[.int .i64 5, .int .i64 0, .slice Ap2 2 cp2]) _ := hp2
             clear hp2
             have hp2 := hp2l
             clear hp2l
             have XC2 := on XC bb
             clear XC bb
             have XC := XC2
             clear XC2)
          | (with_reducible refine (EV.out (.node 5 0 0 [.node 5 0 0 [x, y], z]) _ _ _ (on HK.out XC) hp2 (by have := HZ.out; simp only [Gn.size, gsizes]; omega)).mono ?_
             intro e w7 hs
             obtain ⟨x5, E5, rfl, HN5, HE5, bb⟩ := hs
             have XC2 := on XC bb
             clear XC bb
             have XC := XC2
             clear XC2))
        have X7 := XC
        clear XC
        obtain ⟨a0, a1, a2, a3, a4, a5, a6, a7, a8, a9, a10, a11, a12, a13, a14⟩ := SD.out w7 X7
        clear a0 a1 a2 a3 a4 a5 a6 a7 a8 a9 a10 a11 a12 a13 a14
        go_wp2_with fail
        have XC : Below (wK).heap.size (wK) w7.drew := ebel_drew X7
        go_region_held2 (fun w' => w'.cell? ⟨w.heap.size, 0, none⟩ = some (.int .i64 x.kind) ∧ w'.cell? ⟨w.heap.size, 1, none⟩ = some (.int .i64 x.a) ∧ w'.cell? ⟨w.heap.size, 2, none⟩ = some (.slice Ax x.subs.length cx) ∧ w'.cell? ⟨w.heap.size + 1, 0, none⟩ = some (.int .i64 y.kind) ∧ w'.cell? ⟨w.heap.size + 1, 1, none⟩ = some (.int .i64 y.a) ∧ w'.cell? ⟨w.heap.size + 1, 2, none⟩ = some (.slice Ay y.subs.length cy) ∧ w'.cell? ⟨w.heap.size + 1 + 1, 0, none⟩ = some (.int .i64 z.kind) ∧ w'.cell? ⟨w.heap.size + 1 + 1, 1, none⟩ = some (.int .i64 z.a) ∧ w'.cell? ⟨w.heap.size + 1 + 1, 2, none⟩ = some (.slice Az z.subs.length cz) ∧ w'.cell? ⟨w.heap.size + 1 + 1 + 1, 0, none⟩ = some (.bool t.list) ∧ w'.cell? ⟨w.heap.size + 1 + 1 + 1, 1, none⟩ = some (.int .i64 t.num) ∧ w'.cell? ⟨w.heap.size + 1 + 1 + 1, 2, none⟩ = some (.slice VA t.items.length vcp) ∧ w'.cell? ⟨w5.heap.size, 0, none⟩ = some (.int .i64 5) ∧ w'.cell? ⟨w5.heap.size, 1, none⟩ = some (.int .i64 10) ∧ w'.cell? ⟨w5.heap.size, 2, none⟩ = some (.int .i64 11)) (first | exact SD.out _ (by assumption) | go_keep) (first
          | (with_reducible refine (both6_w (x := y) (y := z) (n := nx + ny + nz + 0) 5 (by decide) _ (Hy.out _ (on HK.out XC)) (Hz.out _ (on HK.out XC)) (Nat.le_refl _)).mono ?_
             intro e wp hs
             obtain ⟨Ap1, cp1, rfl, hp1, bb⟩ := hs
             have hp1l : EAt _ _ _ (.agg #[.int .i64 5, .int .i64 0, .slice Ap1 2 cp1]) _ := hp1
             clear hp1
             have hp1 := hp1l
             clear hp1l
             have XC2 := on XC bb
             clear XC bb
             have XC := XC2
             clear XC2)
          | (with_reducible refine (both6_w (x := x) (y := .node 5 0 0 [y, z]) (n := nx + ny + nz + 1) 5 (by decide) _ ((EAt.up (show nx + ny + nz + 0 ≤ nx + ny + nz + 1 by omega) (Hx.out _ (on HK.out XC)))) (hp1) (Nat.le_refl _)).mono ?_
             intro e wp hs
             obtain ⟨Ap2, cp2, rfl, hp2, bb⟩ := hs
             have hp2l : EAt _ _ _ (.agg #[.int .i64 5, .int .i64 0, .slice Ap2 2 cp2]) _ := hp2
             clear hp2
             have hp2 := hp2l
             clear hp2l
             have XC2 := on XC bb
             clear XC bb
             have XC := XC2
             clear XC2)
          | (with_reducible refine (EV.out (.node 5 0 0 [x, .node 5 0 0 [y, z]]) _ _ _ (on HK.out XC) hp2 (by have := HZ.out; simp only [Gn.size, gsizes]; omega)).mono ?_
             intro e w8 hs
             obtain ⟨x6, E6, rfl, HN6, HE6, bb⟩ := hs
             have XC2 := on XC bb
             clear XC bb
             have XC := XC2
             clear XC2))
        have X8 := XC
        clear XC
        obtain ⟨a0, a1, a2, a3, a4, a5, a6, a7, a8, a9, a10, a11, a12, a13, a14⟩ := SD.out w8 X8
        have D5 := ei_two HE5.out HE6.out (fun h5 h6 => (HN5.out.trans (twice_three (by decide) h5 h6)).trans HN6.out.symm)
        clear HE5 HE6 HN5 HN6
        rcases D5 with ⟨rfl, rfl, rfl⟩ | ⟨rfl, q6, rfl⟩ | ⟨q5, rfl⟩
        all_goals
          go_wp2_with fail
          go_roundw
          case rel => exact ⟨.inr (.inl rfl), X8⟩
          case measure => simp [intOf]
      · skip
        obtain ⟨a0, a1, a2, a3, a4, a5, a6, a7, a8, a9, a10, a11, a12, a13, a14⟩ := SD.out wr X6
        clear a0 a1 a2 a3 a4 a5 a6 a7 a8 a9 a10 a11 a12 a13 a14
        go_wp2_with fail
        have XC : Below (wK).heap.size (wK) wr.drew := ebel_drew X6
        go_region_held2 (fun w' => w'.cell? ⟨w.heap.size, 0, none⟩ = some (.int .i64 x.kind) ∧ w'.cell? ⟨w.heap.size, 1, none⟩ = some (.int .i64 x.a) ∧ w'.cell? ⟨w.heap.size, 2, none⟩ = some (.slice Ax x.subs.length cx) ∧ w'.cell? ⟨w.heap.size + 1, 0, none⟩ = some (.int .i64 y.kind) ∧ w'.cell? ⟨w.heap.size + 1, 1, none⟩ = some (.int .i64 y.a) ∧ w'.cell? ⟨w.heap.size + 1, 2, none⟩ = some (.slice Ay y.subs.length cy) ∧ w'.cell? ⟨w.heap.size + 1 + 1, 0, none⟩ = some (.int .i64 z.kind) ∧ w'.cell? ⟨w.heap.size + 1 + 1, 1, none⟩ = some (.int .i64 z.a) ∧ w'.cell? ⟨w.heap.size + 1 + 1, 2, none⟩ = some (.slice Az z.subs.length cz) ∧ w'.cell? ⟨w.heap.size + 1 + 1 + 1, 0, none⟩ = some (.bool t.list) ∧ w'.cell? ⟨w.heap.size + 1 + 1 + 1, 1, none⟩ = some (.int .i64 t.num) ∧ w'.cell? ⟨w.heap.size + 1 + 1 + 1, 2, none⟩ = some (.slice VA t.items.length vcp) ∧ w'.cell? ⟨w5.heap.size, 0, none⟩ = some (.int .i64 5) ∧ w'.cell? ⟨w5.heap.size, 1, none⟩ = some (.int .i64 10) ∧ w'.cell? ⟨w5.heap.size, 2, none⟩ = some (.int .i64 11)) (first | exact SD.out _ (by assumption) | go_keep) (first
          | (with_reducible refine (both6_w (x := x) (y := y) (n := nx + ny + nz + 0) 10 (by decide) _ (Hx.out _ (on HK.out XC)) (Hy.out _ (on HK.out XC)) (Nat.le_refl _)).mono ?_
             intro e wp hs
             obtain ⟨Ap1, cp1, rfl, hp1, bb⟩ := hs
             have hp1l : EAt _ _ _ (.agg #[.int .i64 10, .int .i64 0, .slice Ap1 2 cp1]) _ := hp1
             clear hp1
             have hp1 := hp1l
             clear hp1l
             have XC2 := on XC bb
             clear XC bb
             have XC := XC2
             clear XC2)
          | (with_reducible refine (both6_w (x := .node 10 0 0 [x, y]) (y := z) (n := nx + ny + nz + 1) 10 (by decide) _ (hp1) ((EAt.up (show nx + ny + nz + 0 ≤ nx + ny + nz + 1 by omega) (Hz.out _ (on HK.out XC)))) (Nat.le_refl _)).mono ?_
             intro e wp hs
             obtain ⟨Ap2, cp2, rfl, hp2, bb⟩ := hs
             have hp2l : EAt _ _ _ (.agg #[.int .i64 10, .int .i64 0, .slice Ap2 2 cp2]) _ := hp2
             clear hp2
             have hp2 := hp2l
             clear hp2l
             have XC2 := on XC bb
             clear XC bb
             have XC := XC2
             clear XC2)
          | (with_reducible refine (EV.out (.node 10 0 0 [.node 10 0 0 [x, y], z]) _ _ _ (on HK.out XC) hp2 (by have := HZ.out; simp only [Gn.size, gsizes]; omega)).mono ?_
             intro e w7 hs
             obtain ⟨x5, E5, rfl, HN5, HE5, bb⟩ := hs
             have XC2 := on XC bb
             clear XC bb
             have XC := XC2
             clear XC2))
        have X7 := XC
        clear XC
        obtain ⟨a0, a1, a2, a3, a4, a5, a6, a7, a8, a9, a10, a11, a12, a13, a14⟩ := SD.out w7 X7
        clear a0 a1 a2 a3 a4 a5 a6 a7 a8 a9 a10 a11 a12 a13 a14
        go_wp2_with fail
        have XC : Below (wK).heap.size (wK) w7.drew := ebel_drew X7
        go_region_held2 (fun w' => w'.cell? ⟨w.heap.size, 0, none⟩ = some (.int .i64 x.kind) ∧ w'.cell? ⟨w.heap.size, 1, none⟩ = some (.int .i64 x.a) ∧ w'.cell? ⟨w.heap.size, 2, none⟩ = some (.slice Ax x.subs.length cx) ∧ w'.cell? ⟨w.heap.size + 1, 0, none⟩ = some (.int .i64 y.kind) ∧ w'.cell? ⟨w.heap.size + 1, 1, none⟩ = some (.int .i64 y.a) ∧ w'.cell? ⟨w.heap.size + 1, 2, none⟩ = some (.slice Ay y.subs.length cy) ∧ w'.cell? ⟨w.heap.size + 1 + 1, 0, none⟩ = some (.int .i64 z.kind) ∧ w'.cell? ⟨w.heap.size + 1 + 1, 1, none⟩ = some (.int .i64 z.a) ∧ w'.cell? ⟨w.heap.size + 1 + 1, 2, none⟩ = some (.slice Az z.subs.length cz) ∧ w'.cell? ⟨w.heap.size + 1 + 1 + 1, 0, none⟩ = some (.bool t.list) ∧ w'.cell? ⟨w.heap.size + 1 + 1 + 1, 1, none⟩ = some (.int .i64 t.num) ∧ w'.cell? ⟨w.heap.size + 1 + 1 + 1, 2, none⟩ = some (.slice VA t.items.length vcp) ∧ w'.cell? ⟨w5.heap.size, 0, none⟩ = some (.int .i64 5) ∧ w'.cell? ⟨w5.heap.size, 1, none⟩ = some (.int .i64 10) ∧ w'.cell? ⟨w5.heap.size, 2, none⟩ = some (.int .i64 11)) (first | exact SD.out _ (by assumption) | go_keep) (first
          | (with_reducible refine (both6_w (x := y) (y := z) (n := nx + ny + nz + 0) 10 (by decide) _ (Hy.out _ (on HK.out XC)) (Hz.out _ (on HK.out XC)) (Nat.le_refl _)).mono ?_
             intro e wp hs
             obtain ⟨Ap1, cp1, rfl, hp1, bb⟩ := hs
             have hp1l : EAt _ _ _ (.agg #[.int .i64 10, .int .i64 0, .slice Ap1 2 cp1]) _ := hp1
             clear hp1
             have hp1 := hp1l
             clear hp1l
             have XC2 := on XC bb
             clear XC bb
             have XC := XC2
             clear XC2)
          | (with_reducible refine (both6_w (x := x) (y := .node 10 0 0 [y, z]) (n := nx + ny + nz + 1) 10 (by decide) _ ((EAt.up (show nx + ny + nz + 0 ≤ nx + ny + nz + 1 by omega) (Hx.out _ (on HK.out XC)))) (hp1) (Nat.le_refl _)).mono ?_
             intro e wp hs
             obtain ⟨Ap2, cp2, rfl, hp2, bb⟩ := hs
             have hp2l : EAt _ _ _ (.agg #[.int .i64 10, .int .i64 0, .slice Ap2 2 cp2]) _ := hp2
             clear hp2
             have hp2 := hp2l
             clear hp2l
             have XC2 := on XC bb
             clear XC bb
             have XC := XC2
             clear XC2)
          | (with_reducible refine (EV.out (.node 10 0 0 [x, .node 10 0 0 [y, z]]) _ _ _ (on HK.out XC) hp2 (by have := HZ.out; simp only [Gn.size, gsizes]; omega)).mono ?_
             intro e w8 hs
             obtain ⟨x6, E6, rfl, HN6, HE6, bb⟩ := hs
             have XC2 := on XC bb
             clear XC bb
             have XC := XC2
             clear XC2))
        have X8 := XC
        clear XC
        obtain ⟨a0, a1, a2, a3, a4, a5, a6, a7, a8, a9, a10, a11, a12, a13, a14⟩ := SD.out w8 X8
        have D5 := ei_two HE5.out HE6.out (fun h5 h6 => (HN5.out.trans (twice_three (by decide) h5 h6)).trans HN6.out.symm)
        clear HE5 HE6 HN5 HN6
        rcases D5 with ⟨rfl, rfl, rfl⟩ | ⟨rfl, q6, rfl⟩ | ⟨q5, rfl⟩
        all_goals
          go_wp2_with fail
          go_roundw
          case rel => exact ⟨.inr (.inr (.inl rfl)), X8⟩
          case measure => simp [intOf]
      · skip
        obtain ⟨a0, a1, a2, a3, a4, a5, a6, a7, a8, a9, a10, a11, a12, a13, a14⟩ := SD.out wr X6
        clear a0 a1 a2 a3 a4 a5 a6 a7 a8 a9 a10 a11 a12 a13 a14
        go_wp2_with fail
        have XC : Below (wK).heap.size (wK) wr.drew := ebel_drew X6
        go_region_held2 (fun w' => w'.cell? ⟨w.heap.size, 0, none⟩ = some (.int .i64 x.kind) ∧ w'.cell? ⟨w.heap.size, 1, none⟩ = some (.int .i64 x.a) ∧ w'.cell? ⟨w.heap.size, 2, none⟩ = some (.slice Ax x.subs.length cx) ∧ w'.cell? ⟨w.heap.size + 1, 0, none⟩ = some (.int .i64 y.kind) ∧ w'.cell? ⟨w.heap.size + 1, 1, none⟩ = some (.int .i64 y.a) ∧ w'.cell? ⟨w.heap.size + 1, 2, none⟩ = some (.slice Ay y.subs.length cy) ∧ w'.cell? ⟨w.heap.size + 1 + 1, 0, none⟩ = some (.int .i64 z.kind) ∧ w'.cell? ⟨w.heap.size + 1 + 1, 1, none⟩ = some (.int .i64 z.a) ∧ w'.cell? ⟨w.heap.size + 1 + 1, 2, none⟩ = some (.slice Az z.subs.length cz) ∧ w'.cell? ⟨w.heap.size + 1 + 1 + 1, 0, none⟩ = some (.bool t.list) ∧ w'.cell? ⟨w.heap.size + 1 + 1 + 1, 1, none⟩ = some (.int .i64 t.num) ∧ w'.cell? ⟨w.heap.size + 1 + 1 + 1, 2, none⟩ = some (.slice VA t.items.length vcp) ∧ w'.cell? ⟨w5.heap.size, 0, none⟩ = some (.int .i64 5) ∧ w'.cell? ⟨w5.heap.size, 1, none⟩ = some (.int .i64 10) ∧ w'.cell? ⟨w5.heap.size, 2, none⟩ = some (.int .i64 11)) (first | exact SD.out _ (by assumption) | go_keep) (first
          | (with_reducible refine (both6_w (x := x) (y := y) (n := nx + ny + nz + 0) 11 (by decide) _ (Hx.out _ (on HK.out XC)) (Hy.out _ (on HK.out XC)) (Nat.le_refl _)).mono ?_
             intro e wp hs
             obtain ⟨Ap1, cp1, rfl, hp1, bb⟩ := hs
             have hp1l : EAt _ _ _ (.agg #[.int .i64 11, .int .i64 0, .slice Ap1 2 cp1]) _ := hp1
             clear hp1
             have hp1 := hp1l
             clear hp1l
             have XC2 := on XC bb
             clear XC bb
             have XC := XC2
             clear XC2)
          | (with_reducible refine (both6_w (x := .node 11 0 0 [x, y]) (y := z) (n := nx + ny + nz + 1) 11 (by decide) _ (hp1) ((EAt.up (show nx + ny + nz + 0 ≤ nx + ny + nz + 1 by omega) (Hz.out _ (on HK.out XC)))) (Nat.le_refl _)).mono ?_
             intro e wp hs
             obtain ⟨Ap2, cp2, rfl, hp2, bb⟩ := hs
             have hp2l : EAt _ _ _ (.agg #[.int .i64 11, .int .i64 0, .slice Ap2 2 cp2]) _ := hp2
             clear hp2
             have hp2 := hp2l
             clear hp2l
             have XC2 := on XC bb
             clear XC bb
             have XC := XC2
             clear XC2)
          | (with_reducible refine (EV.out (.node 11 0 0 [.node 11 0 0 [x, y], z]) _ _ _ (on HK.out XC) hp2 (by have := HZ.out; simp only [Gn.size, gsizes]; omega)).mono ?_
             intro e w7 hs
             obtain ⟨x5, E5, rfl, HN5, HE5, bb⟩ := hs
             have XC2 := on XC bb
             clear XC bb
             have XC := XC2
             clear XC2))
        have X7 := XC
        clear XC
        obtain ⟨a0, a1, a2, a3, a4, a5, a6, a7, a8, a9, a10, a11, a12, a13, a14⟩ := SD.out w7 X7
        clear a0 a1 a2 a3 a4 a5 a6 a7 a8 a9 a10 a11 a12 a13 a14
        go_wp2_with fail
        have XC : Below (wK).heap.size (wK) w7.drew := ebel_drew X7
        go_region_held2 (fun w' => w'.cell? ⟨w.heap.size, 0, none⟩ = some (.int .i64 x.kind) ∧ w'.cell? ⟨w.heap.size, 1, none⟩ = some (.int .i64 x.a) ∧ w'.cell? ⟨w.heap.size, 2, none⟩ = some (.slice Ax x.subs.length cx) ∧ w'.cell? ⟨w.heap.size + 1, 0, none⟩ = some (.int .i64 y.kind) ∧ w'.cell? ⟨w.heap.size + 1, 1, none⟩ = some (.int .i64 y.a) ∧ w'.cell? ⟨w.heap.size + 1, 2, none⟩ = some (.slice Ay y.subs.length cy) ∧ w'.cell? ⟨w.heap.size + 1 + 1, 0, none⟩ = some (.int .i64 z.kind) ∧ w'.cell? ⟨w.heap.size + 1 + 1, 1, none⟩ = some (.int .i64 z.a) ∧ w'.cell? ⟨w.heap.size + 1 + 1, 2, none⟩ = some (.slice Az z.subs.length cz) ∧ w'.cell? ⟨w.heap.size + 1 + 1 + 1, 0, none⟩ = some (.bool t.list) ∧ w'.cell? ⟨w.heap.size + 1 + 1 + 1, 1, none⟩ = some (.int .i64 t.num) ∧ w'.cell? ⟨w.heap.size + 1 + 1 + 1, 2, none⟩ = some (.slice VA t.items.length vcp) ∧ w'.cell? ⟨w5.heap.size, 0, none⟩ = some (.int .i64 5) ∧ w'.cell? ⟨w5.heap.size, 1, none⟩ = some (.int .i64 10) ∧ w'.cell? ⟨w5.heap.size, 2, none⟩ = some (.int .i64 11)) (first | exact SD.out _ (by assumption) | go_keep) (first
          | (with_reducible refine (both6_w (x := y) (y := z) (n := nx + ny + nz + 0) 11 (by decide) _ (Hy.out _ (on HK.out XC)) (Hz.out _ (on HK.out XC)) (Nat.le_refl _)).mono ?_
             intro e wp hs
             obtain ⟨Ap1, cp1, rfl, hp1, bb⟩ := hs
             have hp1l : EAt _ _ _ (.agg #[.int .i64 11, .int .i64 0, .slice Ap1 2 cp1]) _ := hp1
             clear hp1
             have hp1 := hp1l
             clear hp1l
             have XC2 := on XC bb
             clear XC bb
             have XC := XC2
             clear XC2)
          | (with_reducible refine (both6_w (x := x) (y := .node 11 0 0 [y, z]) (n := nx + ny + nz + 1) 11 (by decide) _ ((EAt.up (show nx + ny + nz + 0 ≤ nx + ny + nz + 1 by omega) (Hx.out _ (on HK.out XC)))) (hp1) (Nat.le_refl _)).mono ?_
             intro e wp hs
             obtain ⟨Ap2, cp2, rfl, hp2, bb⟩ := hs
             have hp2l : EAt _ _ _ (.agg #[.int .i64 11, .int .i64 0, .slice Ap2 2 cp2]) _ := hp2
             clear hp2
             have hp2 := hp2l
             clear hp2l
             have XC2 := on XC bb
             clear XC bb
             have XC := XC2
             clear XC2)
          | (with_reducible refine (EV.out (.node 11 0 0 [x, .node 11 0 0 [y, z]]) _ _ _ (on HK.out XC) hp2 (by have := HZ.out; simp only [Gn.size, gsizes]; omega)).mono ?_
             intro e w8 hs
             obtain ⟨x6, E6, rfl, HN6, HE6, bb⟩ := hs
             have XC2 := on XC bb
             clear XC bb
             have XC := XC2
             clear XC2))
        have X8 := XC
        clear XC
        obtain ⟨a0, a1, a2, a3, a4, a5, a6, a7, a8, a9, a10, a11, a12, a13, a14⟩ := SD.out w8 X8
        have D5 := ei_two HE5.out HE6.out (fun h5 h6 => (HN5.out.trans (twice_three (by decide) h5 h6)).trans HN6.out.symm)
        clear HE5 HE6 HN5 HN6
        rcases D5 with ⟨rfl, rfl, rfl⟩ | ⟨rfl, q6, rfl⟩ | ⟨q5, rfl⟩
        all_goals
          go_wp2_with fail
          go_roundw
          case rel => exact ⟨.inr (.inr (.inr rfl)), X8⟩
          case measure => simp [intOf]
      · go_wp2_with fail
        go_ret
        exact ⟨rfl, on HK.out X6⟩
end Go.Proofs.YtffkppjmdelajaaDoor.ExprTwiceLaw
