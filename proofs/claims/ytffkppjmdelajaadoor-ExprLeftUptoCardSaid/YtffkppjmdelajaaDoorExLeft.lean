/-
  ExprLeft: what is left of a division is nearer to 0 than what is divided by; by 0 there is nothing; and just that is why an expression has no number.
  Conditions: the second form's bound on what comes in; the program's table subsByKind, the library's variable that errors.As reads.
-/
import Derived.Test.YtffkppjmdelajaaDoorExLaw
import Derived.Test.YtffkppjmdelajaaDoorErrTold
import Derived.Deep.RegionHeld2
namespace Go.Proofs.YtffkppjmdelajaaDoor.ExprLeftLaw
open Go.ChangeShapes Go.WideShapes Go.ChangeAt Go.RowKit Lists Gens Rng Vals Exprs
set_option linter.unusedVariables false

set_option maxHeartbeats 16000000 in
set_option maxRecDepth 100000 in
theorem walk (x : Gn) (Ax : Option Addr) (cx nx : Nat) (y : Gn) (Ay : Option Addr) (cy ny : Nat) (t : Tr) (VA : Option Addr) (vcp nv : Nat) (hbulk : x.size + y.size + t.size ≤ 1048576) (w : World) (hx : EAt w (EBel w.heap.size) nx (ev x Ax cx) x) (hy : EAt w (EBel w.heap.size) ny (ev y Ay cy) y) (hv : TAt w (Bel w.heap.size) nv (vv t VA vcp) t) (hsub : Subs w) (hh : Told.Handle w) :
    Calls Tryd.prog 8 #[ev x Ax cx, ev y Ay cy, vv t VA vcp] w fun e w' => e = .returned (.bool true) ∧ Below w.heap.size w w' := by
  have B4 := boxes3 w (.int .i64 x.kind) (.int .i64 x.a) (.slice Ax x.subs.length cx) (.int .i64 y.kind) (.int .i64 y.a) (.slice Ay y.subs.length cy) (.bool t.list) (.int .i64 t.num) (.slice VA t.items.length vcp) 61 61 38
  have H0 := Lib.hid B4.2
  have SC := Lib.hid (fun (W : World) (hb : Below (((w.alloc (ec x Ax cx)).alloc (ec y Ay cy)).alloc (vc t VA vcp)).heap.size (((w.alloc (ec x Ax cx)).alloc (ec y Ay cy)).alloc (vc t VA vcp)) W) => show W.cell? ⟨w.heap.size, 0, none⟩ = some (.int .i64 x.kind) ∧ W.cell? ⟨w.heap.size, 1, none⟩ = some (.int .i64 x.a) ∧ W.cell? ⟨w.heap.size, 2, none⟩ = some (.slice Ax x.subs.length cx) ∧ W.cell? ⟨w.heap.size + 1, 0, none⟩ = some (.int .i64 y.kind) ∧ W.cell? ⟨w.heap.size + 1, 1, none⟩ = some (.int .i64 y.a) ∧ W.cell? ⟨w.heap.size + 1, 2, none⟩ = some (.slice Ay y.subs.length cy) ∧ W.cell? ⟨w.heap.size + 1 + 1, 0, none⟩ = some (.bool t.list) ∧ W.cell? ⟨w.heap.size + 1 + 1, 1, none⟩ = some (.int .i64 t.num) ∧ W.cell? ⟨w.heap.size + 1 + 1, 2, none⟩ = some (.slice VA t.items.length vcp) from by
    obtain ⟨z0, z1, z2⟩ := B4.1
    exact ⟨(z0.later hb).1, (z0.later hb).2.1, (z0.later hb).2.2, (z1.later hb).1, (z1.later hb).2.1, (z1.later hb).2.2, (z2.later hb).1, (z2.later hb).2.1, (z2.later hb).2.2⟩)
  have Hx := Lib.hid (fun (W : World) (hb : Below w.heap.size w W) => show EAt W (EBel W.heap.size) (nx + ny) (ev x Ax cx) x from ((EAt.up (show nx ≤ nx + ny by omega) hx).below hb).more hb.size)
  have Hy := Lib.hid (fun (W : World) (hb : Below w.heap.size w W) => show EAt W (EBel W.heap.size) (nx + ny) (ev y Ay cy) y from ((EAt.up (show ny ≤ nx + ny by omega) hy).below hb).more hb.size)
  have AS := Lib.hid (fun (W : World) (hb : Below w.heap.size w W) => asked_ok W (hsub.below hb))
  have EV := Lib.hid (fun (g : Gn) (v : Value) (n : Nat) (W : World) (hb : Below w.heap.size w W) (hg : EAt W (EBel W.heap.size) n v g) (hs : g.size ≤ 4294967296) => eval_w (u := vv t VA vcp) W hg ((hv.below hb).more hb.size) (Nat.le_refl _) hs (by omega) (hsub.below hb))
  have HD := Lib.hid (fun (W : World) (hb : Below w.heap.size w W) => hh.below hb)
  have HZ := Lib.hid (show x.size ≤ 1048576 ∧ y.size ≤ 1048576 from ⟨by omega, by omega⟩)
  have HR := Lib.hid (show gI x ∧ gI y ∧ tI t ∧ t.items.length ≤ 4294967296 from ⟨eat_b hx, eat_b hy, tat_b hv, by have := len_sizes t.items; have := size_items t; omega⟩)
  clear hx hy hv hbulk hsub B4 hh
  go_enter Tryd.func8, Tryd.ntmps8
  go_wp2_with fail
  refine (AS.out _ H0.out).mono ?_
  rintro e w1 ⟨rfl, X1⟩
  obtain ⟨a0, a1, a2, a3, a4, a5, a6, a7, a8⟩ := SC.out w1 X1
  go_wp2_with fail
  refine (EV.out x _ _ _ (on H0.out X1) (Hx.out _ (on H0.out X1)) (by have := HZ.out; omega)).mono ?_
  rintro e w2 ⟨x1, E1, rfl, HN1, HE1, b2⟩
  have X2 := on X1 b2
  clear b2 X1 a0 a1 a2 a3 a4 a5 a6 a7 a8
  obtain ⟨a0, a1, a2, a3, a4, a5, a6, a7, a8⟩ := SC.out w2 X2
  go_wp2_with fail
  refine (EV.out y _ _ _ (on H0.out X2) (Hy.out _ (on H0.out X2)) (by have := HZ.out; omega)).mono ?_
  rintro e w3 ⟨x2, E2, rfl, HN2, HE2, b3⟩
  have X3 := on X2 b3
  clear b3 X2 a0 a1 a2 a3 a4 a5 a6 a7 a8
  obtain ⟨a0, a1, a2, a3, a4, a5, a6, a7, a8⟩ := SC.out w3 X3
  clear a0 a1 a2 a3 a4 a5 a6 a7 a8
  go_wp2_with fail
  have XC : Below (((w.alloc (ec x Ax cx)).alloc (ec y Ay cy)).alloc (vc t VA vcp)).heap.size (((w.alloc (ec x Ax cx)).alloc (ec y Ay cy)).alloc (vc t VA vcp)) w3.drew := ebel_drew X3
  go_region_held2 (fun w' => w'.cell? ⟨w.heap.size, 0, none⟩ = some (.int .i64 x.kind) ∧ w'.cell? ⟨w.heap.size, 1, none⟩ = some (.int .i64 x.a) ∧ w'.cell? ⟨w.heap.size, 2, none⟩ = some (.slice Ax x.subs.length cx) ∧ w'.cell? ⟨w.heap.size + 1, 0, none⟩ = some (.int .i64 y.kind) ∧ w'.cell? ⟨w.heap.size + 1, 1, none⟩ = some (.int .i64 y.a) ∧ w'.cell? ⟨w.heap.size + 1, 2, none⟩ = some (.slice Ay y.subs.length cy) ∧ w'.cell? ⟨w.heap.size + 1 + 1, 0, none⟩ = some (.bool t.list) ∧ w'.cell? ⟨w.heap.size + 1 + 1, 1, none⟩ = some (.int .i64 t.num) ∧ w'.cell? ⟨w.heap.size + 1 + 1, 2, none⟩ = some (.slice VA t.items.length vcp)) (first | exact SC.out _ (by assumption) | go_keep) (first
    | (with_reducible refine (both_w (x := x) (y := y) (n := nx + ny + 0) 6 (by decide) _ (Hx.out _ (on H0.out XC)) (Hy.out _ (on H0.out XC)) (Nat.le_refl _)).mono ?_
       intro e wp hs
       obtain ⟨Ap1, cp1, rfl, hp1, bb⟩ := hs
       have hp1l : EAt _ _ _ (.agg #[.int .i64 6, .int .i64 0, .slice Ap1 2 cp1]) _ := hp1
       clear hp1
       have hp1 := hp1l
       clear hp1l
       have XC2 := on XC bb
       clear XC bb
       have XC := XC2
       clear XC2)
    | (with_reducible refine (EV.out (.node 6 0 0 [x, y]) _ _ _ (on H0.out XC) hp1 (by have := HZ.out; simp only [Gn.size, gsizes]; omega)).mono ?_
       intro e w4 hs
       obtain ⟨x3, E3, rfl, HN3, HE3, bb⟩ := hs
       have XC2 := on XC bb
       clear XC bb
       have XC := XC2
       clear XC2))
  have X4 := XC
  clear XC
  rcases HE1.out with ⟨f1, rfl⟩ | ⟨q1, hq1, f1, rfl⟩
  rotate_left
  · go_wp2_with fail
    go_ret
    exact ⟨rfl, on H0.out X4⟩
  rcases HE2.out with ⟨f2, rfl⟩ | ⟨q2, hq2, f2, rfl⟩
  rotate_left
  · go_wp2_with fail
    go_ret
    exact ⟨rfl, on H0.out X4⟩
  have bb := num_b t HR.out.2.2.1 HR.out.2.2.2 y HR.out.2.1 _ (ev_ok f2).2.2
  rw [← HN2.out] at bb
  have ab := num_b t HR.out.2.2.1 HR.out.2.2.2 x HR.out.1 _ (ev_ok f1).2.2
  rw [← HN1.out] at ab
  have ER := Lib.hid (fun (k e : Int) (W : World) (hb : Below w4.heap.size w4 W) => Told.error_errno k e W (HD.out W (on (on H0.out X4) hb)))
  have BX := Lib.hid (on H0.out X4)
  by_cases hz : x2 = 0
  · have g2 : (x2 == 0) = true := by rw [beq_iff_eq]; exact hz
    have D3 : EI E3 6 ∨ EI E3 4 := by rcases left_zero f1 f2 (HN2.out.symm.trans hz) with h | h <;> have h3 := HE3.out <;> rw [h] at h3 <;> simp [h3]
    clear hz HE1 HE2 HE3 HN1 HN2 HN3 f1 f2 bb ab HR
    rcases D3 with (⟨h, _⟩ | ⟨q3, hq3, h, rfl⟩) | (⟨h, _⟩ | ⟨q3, hq3, h, rfl⟩)
    · cases h
    · subst h
      go_wp2_with fail
      refine (ER.out 6 6 _ (Below.refl _ _)).mono ?_
      rintro e wa ⟨rfl, ba⟩
      go_wp2_with fail
      refine (ER.out 6 4 _ ba).mono ?_
      rintro e wb ⟨rfl, bc⟩
      go_wp2_with fail
      go_ret
      exact ⟨rfl, on (on BX.out ba) bc⟩
    · cases h
    · subst h
      go_wp2_with fail
      refine (ER.out 4 6 _ (Below.refl _ _)).mono ?_
      rintro e wa ⟨rfl, ba⟩
      go_wp2_with fail
      refine (ER.out 4 4 _ ba).mono ?_
      rintro e wb ⟨rfl, bc⟩
      go_wp2_with fail
      go_ret
      exact ⟨rfl, on (on BX.out ba) bc⟩
  · have g2 : (x2 == 0) = false := by rw [beq_eq_false_iff_ne]; exact hz
    rcases HE3.out with ⟨f3, rfl⟩ | ⟨q3, hq3, f3, rfl⟩
    rotate_left
    · have h4 := left_err f1 f2 (fun h => hz (HN2.out.trans h)) (by rw [f3]; exact hq3)
      rw [f3] at h4
      subst h4
      clear hz HE1 HE2 HE3 HN1 HN2 HN3 f1 f2 bb ab HR f3
      go_wp2_with fail
      refine (ER.out 4 4 _ (Below.refl _ _)).mono ?_
      rintro e wa ⟨rfl, ba⟩
      go_wp2_with fail
      go_ret
      exact ⟨rfl, on BX.out ba⟩
    · have h3 := (left_num f1 f2 f3).2
      rw [← HN1.out, ← HN2.out, ← HN3.out] at h3
      obtain ⟨_, _, s1, s2, s3⟩ := tmod_bd x1 x2
      rw [← h3] at s1 s2 s3
      have s3 := s3 hz
      clear hz HE1 HE2 HE3 HN1 HN2 HN3 f1 f2 f3 HR h3
      unfold B64 at bb ab
      obtain ⟨b1, b2⟩ := bb
      obtain ⟨a1, a2⟩ := ab
      have rb : -9223372036854775808 ≤ x3 ∧ x3 ≤ 9223372036854775807 := by omega
      obtain ⟨r1, r2⟩ := rb
      go_wp2_with fail
      all_goals
        go_ret
        first | exact ⟨rfl, BX.out⟩ | exact ⟨(show Ending.returned (.bool (decide (x3 < wrap64 (-x2)) || (x2 == -9223372036854775808))) = Ending.returned (.bool true) from eret_b (left_edge (r := x3) (by assumption) (by assumption) s3)), BX.out⟩
end Go.Proofs.YtffkppjmdelajaaDoor.ExprLeftLaw
