/-
  ExprTells: of any expression and any value the program tells what the document does: Check, Eval, Fails.
  Conditions: the second form's bound on what comes in; the program's table subsByKind, the library's variable that errors.As reads.
-/
import Derived.Test.YtffkppjmdelajaaDoorExLaw
import Derived.Test.YtffkppjmdelajaaDoorExTold
import Derived.Test.YtffkppjmdelajaaDoorErrTold
import Derived.Test.YtffkppjmdelajaaDoorRefFault
namespace Go.Proofs.YtffkppjmdelajaaDoor.ExprTellsLaw
open Go.ChangeShapes Go.WideShapes Go.ChangeAt Go.RowKit Lists Gens Rng Vals Exprs
set_option linter.unusedVariables false

set_option maxHeartbeats 16000000 in
set_option maxRecDepth 100000 in
theorem walk (x : Gn) (Ax : Option Addr) (cx nx : Nat) (t : Tr) (VA : Option Addr) (vcp nv : Nat) (hbulk : x.size + t.size ≤ 1048576) (w : World) (hx : EAt w (EBel w.heap.size) nx (ev x Ax cx) x) (hv : TAt w (Bel w.heap.size) nv (vv t VA vcp) t) (hsub : Subs w) (hh : Told.Handle w) :
    Calls Tryd.prog 5 #[ev x Ax cx, vv t VA vcp] w fun e w' => e = .returned (.bool true) ∧ Below w.heap.size w w' := by
  have B4 := boxes2 w (.int .i64 x.kind) (.int .i64 x.a) (.slice Ax x.subs.length cx) (.bool t.list) (.int .i64 t.num) (.slice VA t.items.length vcp) 61 38
  have H0 := Lib.hid B4.2
  have SC := Lib.hid (fun (W : World) (hb : Below ((w.alloc (ec x Ax cx)).alloc (vc t VA vcp)).heap.size ((w.alloc (ec x Ax cx)).alloc (vc t VA vcp)) W) => show (W.cell? ⟨w.heap.size, 0, none⟩ = some (.int .i64 x.kind) ∧ W.cell? ⟨w.heap.size, 1, none⟩ = some (.int .i64 x.a) ∧ W.cell? ⟨w.heap.size, 2, none⟩ = some (.slice Ax x.subs.length cx)) ∧ W.cell? ⟨w.heap.size + 1, 0, none⟩ = some (.bool t.list) ∧ W.cell? ⟨w.heap.size + 1, 1, none⟩ = some (.int .i64 t.num) ∧ W.cell? ⟨w.heap.size + 1, 2, none⟩ = some (.slice VA t.items.length vcp) from ⟨B4.1.1.later hb, B4.1.2.later hb⟩)
  have HX := Lib.hid (fun (W : World) (hb : Below w.heap.size w W) => show EAt W (EBel W.heap.size) nx (ev x Ax cx) x from (hx.below hb).more hb.size)
  have HV := Lib.hid (fun (W : World) (hb : Below w.heap.size w W) => show TAt W (Bel W.heap.size) nv (vv t VA vcp) t from (hv.below hb).more hb.size)
  have AS := Lib.hid (fun (W : World) (hb : Below w.heap.size w W) => asked_ok W (hsub.below hb))
  have EF := Lib.hid (fun (W : World) (hb : Below w.heap.size w W) => efault_any nx x Ax cx W.heap.size W (HX.out W hb) (Nat.le_refl _) (by omega))
  have CK := Lib.hid (fun (W : World) (hb : Below w.heap.size w W) => echeck W (HX.out W hb) (Nat.le_refl _) (by omega) (hsub.below hb))
  have VF := Lib.hid (fun (W : World) (hb : Below w.heap.size w W) => fault_any nv t (vv t VA vcp) W.heap.size 0 W (HV.out W hb) (Nat.le_refl _) (by omega) (by omega))
  have TO := Lib.hid (fun (hf : formE x = true) (W : World) (hb : Below w.heap.size w W) => told_any nx x (ev x Ax cx) t VA vcp nv W.heap.size W (HX.out W hb) (HV.out W hb) (Nat.le_refl _) hf (by omega))
  have BA := Lib.hid (fun (hf : formE x = true) (W : World) (hb : Below w.heap.size w W) => bad_any W (HX.out W hb) (HV.out W hb) (Nat.le_refl _) hf (by omega))
  have EV := Lib.hid (fun (W : World) (hb : Below w.heap.size w W) => eval_any W (HX.out W hb) (HV.out W hb) (Nat.le_refl _) (by omega) (by omega) (hsub.below hb))
  have FA := Lib.hid (fun (W : World) (hb : Below w.heap.size w W) => fails_any W (HX.out W hb) (HV.out W hb) (Nat.le_refl _) (by omega) (by omega) (hsub.below hb))
  have ET := Lib.hid (fun (f : Int) (W : World) (hb : Below w.heap.size w W) => err_ok f W (hh.below hb))
  have EN := Lib.hid (show evalN x t = if faultE x = 0 then (if faultV t 0 = 0 then evN (numE t x) else 0) else 0 from rfl)
  have EE := Lib.hid (show evalF x t = if faultE x = 0 then (if faultV t 0 = 0 then evF (numE t x) else faultV t 0) else faultE x from rfl)
  have FF := Lib.hid (show failF x t = if faultE x = 0 then faultV t 0 else faultE x from rfl)
  have FB := Lib.hid (show failB x t = if failF x t = 0 then badN (numE t x) else false from rfl)
  have FO := Lib.hid (fun h => (fault_ok (t := x) h).2)
  clear hx hv hbulk hsub hh B4 HX HV
  by_cases h1 : faultE x = 0
  · have TO := Lib.hid (TO.out (FO.out h1))
    have BA := Lib.hid (BA.out (FO.out h1))
    rw [if_pos h1] at EN EE FF
    rw [h1] at EF CK
    rw [errOf_ok] at CK
    have E1 := Lib.hid (ET.out 0)
    rw [errOf_ok] at E1
    by_cases h2 : faultV t 0 = 0
    · rw [if_pos h2] at EN EE
      rw [h2] at FF VF
      rw [if_pos FF.out] at FB
      rw [EN.out, EE.out] at EV
      rw [FB.out, FF.out, errOf_ok] at FA
      have E3 := Lib.hid E1.out
      clear h1 h2 EN EE FF FB FO
      generalize numE t x = r at *
      cases r with
      | none =>
        have TO := Lib.hid (show ∀ (W : World) (hb : Below w.heap.size w W), Calls Tryd.prog 32 #[ev x Ax cx, vv t VA vcp] W (fun e w' => e = .returned (.tuple #[.int .i64 0, .bool false]) ∧ Below W.heap.size W w') from TO.out)
        have BA := Lib.hid (show ∀ (W : World) (hb : Below w.heap.size w W), Calls Tryd.prog 33 #[ev x Ax cx, vv t VA vcp] W (fun e w' => e = .returned (.bool true) ∧ Below W.heap.size W w') from BA.out)
        have EV := Lib.hid (show ∀ (W : World) (hb : Below w.heap.size w W), Calls Tryd.prog 34 #[ev x Ax cx, vv t VA vcp] W (fun e w' => e = .returned (.tuple #[.int .i64 0, .iface 30 (.int .i64 6)]) ∧ Below W.heap.size W w') from EV.out)
        have FA := Lib.hid (show ∀ (W : World) (hb : Below w.heap.size w W), Calls Tryd.prog 35 #[ev x Ax cx, vv t VA vcp] W (fun e w' => e = .returned (.tuple #[.bool true, .nilIface]) ∧ Below W.heap.size W w') from FA.out)
        have E2 := Lib.hid (ET.out 6)
        rw [errOf_no (by decide)] at E2
        go_enter Tryd.func5, Tryd.ntmps5
        go_wp2_with fail
        refine (AS.out _ H0.out).mono ?_
        rintro e w1 ⟨rfl, X1⟩
        obtain ⟨⟨k0, k1, k2⟩, v0, v1, v2⟩ := SC.out w1 X1
        go_wp2_with fail
        refine (EF.out _ (on H0.out X1)).mono ?_
        rintro e w2 ⟨rfl, b2⟩
        have X2 := on X1 b2
        clear b2 X1 k0 k1 k2 v0 v1 v2
        obtain ⟨⟨k0, k1, k2⟩, v0, v1, v2⟩ := SC.out w2 X2
        go_wp2_with fail
        refine (CK.out _ (on H0.out X2)).mono ?_
        rintro e w3 ⟨rfl, b3⟩
        have X3 := on X2 b3
        clear b3 X2 k0 k1 k2 v0 v1 v2
        obtain ⟨⟨k0, k1, k2⟩, v0, v1, v2⟩ := SC.out w3 X3
        go_wp2_with fail
        refine (E1.out _ (on H0.out X3)).mono ?_
        rintro e w4 ⟨rfl, b4⟩
        have X4 := on X3 b4
        clear b4 X3 k0 k1 k2 v0 v1 v2
        obtain ⟨⟨k0, k1, k2⟩, v0, v1, v2⟩ := SC.out w4 X4
        go_wp2_with fail
        refine (VF.out _ (on H0.out X4)).mono ?_
        rintro e w5 ⟨rfl, b5⟩
        have X5 := on X4 b5
        clear b5 X4 k0 k1 k2 v0 v1 v2
        obtain ⟨⟨k0, k1, k2⟩, v0, v1, v2⟩ := SC.out w5 X5
        go_wp2_with fail
        refine (TO.out _ (on H0.out X5)).mono ?_
        rintro e w6 ⟨rfl, b6⟩
        have X6 := on X5 b6
        clear b6 X5 k0 k1 k2 v0 v1 v2
        obtain ⟨⟨k0, k1, k2⟩, v0, v1, v2⟩ := SC.out w6 X6
        go_wp2_with fail
        refine (BA.out _ (on H0.out X6)).mono ?_
        rintro e w7 ⟨rfl, b7⟩
        have X7 := on X6 b7
        clear b7 X6 k0 k1 k2 v0 v1 v2
        obtain ⟨⟨k0, k1, k2⟩, v0, v1, v2⟩ := SC.out w7 X7
        go_wp2_with fail
        refine (EV.out _ (on H0.out X7)).mono ?_
        rintro e w8 ⟨rfl, b8⟩
        have X8 := on X7 b8
        clear b8 X7 k0 k1 k2 v0 v1 v2
        obtain ⟨⟨k0, k1, k2⟩, v0, v1, v2⟩ := SC.out w8 X8
        go_wp2_with fail
        refine (E2.out _ (on H0.out X8)).mono ?_
        rintro e w9 ⟨rfl, b9⟩
        have X9 := on X8 b9
        clear b9 X8 k0 k1 k2 v0 v1 v2
        obtain ⟨⟨k0, k1, k2⟩, v0, v1, v2⟩ := SC.out w9 X9
        go_wp2_with fail
        refine (FA.out _ (on H0.out X9)).mono ?_
        rintro e w10 ⟨rfl, b10⟩
        have X10 := on X9 b10
        clear b10 X9 k0 k1 k2 v0 v1 v2
        obtain ⟨⟨k0, k1, k2⟩, v0, v1, v2⟩ := SC.out w10 X10
        go_wp2_with fail
        refine (E3.out _ (on H0.out X10)).mono ?_
        rintro e w11 ⟨rfl, b11⟩
        have X11 := on X10 b11
        clear b11 X10 k0 k1 k2 v0 v1 v2
        obtain ⟨⟨k0, k1, k2⟩, v0, v1, v2⟩ := SC.out w11 X11
        go_wp2_with fail
        go_ret
        exact ⟨rfl, on H0.out X11⟩
      | some p =>
        have TO := Lib.hid (show ∀ (W : World) (hb : Below w.heap.size w W), Calls Tryd.prog 32 #[ev x Ax cx, vv t VA vcp] W (fun e w' => e = .returned (.tuple #[.int .i64 p, .bool true]) ∧ Below W.heap.size W w') from TO.out)
        have EV := Lib.hid (show ∀ (W : World) (hb : Below w.heap.size w W), Calls Tryd.prog 34 #[ev x Ax cx, vv t VA vcp] W (fun e w' => e = .returned (.tuple #[.int .i64 p, .nilIface]) ∧ Below W.heap.size W w') from EV.out)
        have E2 := Lib.hid E1.out
        generalize badN (some p) = b at *
        go_enter Tryd.func5, Tryd.ntmps5
        go_wp2_with fail
        refine (AS.out _ H0.out).mono ?_
        rintro e w1 ⟨rfl, X1⟩
        obtain ⟨⟨k0, k1, k2⟩, v0, v1, v2⟩ := SC.out w1 X1
        go_wp2_with fail
        refine (EF.out _ (on H0.out X1)).mono ?_
        rintro e w2 ⟨rfl, b2⟩
        have X2 := on X1 b2
        clear b2 X1 k0 k1 k2 v0 v1 v2
        obtain ⟨⟨k0, k1, k2⟩, v0, v1, v2⟩ := SC.out w2 X2
        go_wp2_with fail
        refine (CK.out _ (on H0.out X2)).mono ?_
        rintro e w3 ⟨rfl, b3⟩
        have X3 := on X2 b3
        clear b3 X2 k0 k1 k2 v0 v1 v2
        obtain ⟨⟨k0, k1, k2⟩, v0, v1, v2⟩ := SC.out w3 X3
        go_wp2_with fail
        refine (E1.out _ (on H0.out X3)).mono ?_
        rintro e w4 ⟨rfl, b4⟩
        have X4 := on X3 b4
        clear b4 X3 k0 k1 k2 v0 v1 v2
        obtain ⟨⟨k0, k1, k2⟩, v0, v1, v2⟩ := SC.out w4 X4
        go_wp2_with fail
        refine (VF.out _ (on H0.out X4)).mono ?_
        rintro e w5 ⟨rfl, b5⟩
        have X5 := on X4 b5
        clear b5 X4 k0 k1 k2 v0 v1 v2
        obtain ⟨⟨k0, k1, k2⟩, v0, v1, v2⟩ := SC.out w5 X5
        go_wp2_with fail
        refine (TO.out _ (on H0.out X5)).mono ?_
        rintro e w6 ⟨rfl, b6⟩
        have X6 := on X5 b6
        clear b6 X5 k0 k1 k2 v0 v1 v2
        obtain ⟨⟨k0, k1, k2⟩, v0, v1, v2⟩ := SC.out w6 X6
        go_wp2_with fail
        refine (BA.out _ (on H0.out X6)).mono ?_
        rintro e w7 ⟨rfl, b7⟩
        have X7 := on X6 b7
        clear b7 X6 k0 k1 k2 v0 v1 v2
        obtain ⟨⟨k0, k1, k2⟩, v0, v1, v2⟩ := SC.out w7 X7
        go_wp2_with fail
        refine (EV.out _ (on H0.out X7)).mono ?_
        rintro e w8 ⟨rfl, b8⟩
        have X8 := on X7 b8
        clear b8 X7 k0 k1 k2 v0 v1 v2
        obtain ⟨⟨k0, k1, k2⟩, v0, v1, v2⟩ := SC.out w8 X8
        go_wp2_with fail
        refine (E2.out _ (on H0.out X8)).mono ?_
        rintro e w9 ⟨rfl, b9⟩
        have X9 := on X8 b9
        clear b9 X8 k0 k1 k2 v0 v1 v2
        obtain ⟨⟨k0, k1, k2⟩, v0, v1, v2⟩ := SC.out w9 X9
        go_wp2_with fail
        refine (FA.out _ (on H0.out X9)).mono ?_
        rintro e w10 ⟨rfl, b10⟩
        have X10 := on X9 b10
        clear b10 X9 k0 k1 k2 v0 v1 v2
        obtain ⟨⟨k0, k1, k2⟩, v0, v1, v2⟩ := SC.out w10 X10
        go_wp2_with fail
        refine (E3.out _ (on H0.out X10)).mono ?_
        rintro e w11 ⟨rfl, b11⟩
        have X11 := on X10 b11
        clear b11 X10 k0 k1 k2 v0 v1 v2
        obtain ⟨⟨k0, k1, k2⟩, v0, v1, v2⟩ := SC.out w11 X11
        go_wp2_with fail
        go_ret
        exact ⟨by simp, on H0.out X11⟩
    · have g2 : (faultV t 0 == 0) = false := by rw [beq_eq_false_iff_ne]; exact h2
      rw [if_neg h2] at EN EE
      rw [FF.out, if_neg h2] at FB
      rw [EN.out, EE.out] at EV
      rw [FB.out, FF.out] at FA
      have E2 := Lib.hid (ET.out (faultV t 0))
      have E3 := Lib.hid E2.out
      clear h1 h2 EN EE FF FB FO TO BA
      generalize faultV t 0 = f at *
      generalize errOf f = E at *
      go_enter Tryd.func5, Tryd.ntmps5
      go_wp2_with fail
      refine (AS.out _ H0.out).mono ?_
      rintro e w1 ⟨rfl, X1⟩
      obtain ⟨⟨k0, k1, k2⟩, v0, v1, v2⟩ := SC.out w1 X1
      go_wp2_with fail
      refine (EF.out _ (on H0.out X1)).mono ?_
      rintro e w2 ⟨rfl, b2⟩
      have X2 := on X1 b2
      clear b2 X1 k0 k1 k2 v0 v1 v2
      obtain ⟨⟨k0, k1, k2⟩, v0, v1, v2⟩ := SC.out w2 X2
      go_wp2_with fail
      refine (CK.out _ (on H0.out X2)).mono ?_
      rintro e w3 ⟨rfl, b3⟩
      have X3 := on X2 b3
      clear b3 X2 k0 k1 k2 v0 v1 v2
      obtain ⟨⟨k0, k1, k2⟩, v0, v1, v2⟩ := SC.out w3 X3
      go_wp2_with fail
      refine (E1.out _ (on H0.out X3)).mono ?_
      rintro e w4 ⟨rfl, b4⟩
      have X4 := on X3 b4
      clear b4 X3 k0 k1 k2 v0 v1 v2
      obtain ⟨⟨k0, k1, k2⟩, v0, v1, v2⟩ := SC.out w4 X4
      go_wp2_with fail
      refine (VF.out _ (on H0.out X4)).mono ?_
      rintro e w5 ⟨rfl, b5⟩
      have X5 := on X4 b5
      clear b5 X4 k0 k1 k2 v0 v1 v2
      obtain ⟨⟨k0, k1, k2⟩, v0, v1, v2⟩ := SC.out w5 X5
      go_wp2_with fail
      refine (EV.out _ (on H0.out X5)).mono ?_
      rintro e w6 ⟨rfl, b6⟩
      have X6 := on X5 b6
      clear b6 X5 k0 k1 k2 v0 v1 v2
      obtain ⟨⟨k0, k1, k2⟩, v0, v1, v2⟩ := SC.out w6 X6
      go_wp2_with fail
      refine (E2.out _ (on H0.out X6)).mono ?_
      rintro e w7 ⟨rfl, b7⟩
      have X7 := on X6 b7
      clear b7 X6 k0 k1 k2 v0 v1 v2
      obtain ⟨⟨k0, k1, k2⟩, v0, v1, v2⟩ := SC.out w7 X7
      go_wp2_with fail
      refine (FA.out _ (on H0.out X7)).mono ?_
      rintro e w8 ⟨rfl, b8⟩
      have X8 := on X7 b8
      clear b8 X7 k0 k1 k2 v0 v1 v2
      obtain ⟨⟨k0, k1, k2⟩, v0, v1, v2⟩ := SC.out w8 X8
      go_wp2_with fail
      refine (E3.out _ (on H0.out X8)).mono ?_
      rintro e w9 ⟨rfl, b9⟩
      have X9 := on X8 b9
      clear b9 X8 k0 k1 k2 v0 v1 v2
      obtain ⟨⟨k0, k1, k2⟩, v0, v1, v2⟩ := SC.out w9 X9
      go_wp2_with fail
      go_ret
      exact ⟨rfl, on H0.out X9⟩
  · have g1 : (faultE x == 0) = false := by rw [beq_eq_false_iff_ne]; exact h1
    rw [if_neg h1] at EN EE FF
    rw [FF.out, if_neg h1] at FB
    rw [EN.out, EE.out] at EV
    rw [FB.out, FF.out] at FA
    have E1 := Lib.hid (ET.out (faultE x))
    have E2 := Lib.hid E1.out
    have E3 := Lib.hid E1.out
    clear h1 EN EE FF FB FO TO BA VF ET
    generalize faultE x = f at *
    generalize errOf f = E at *
    go_enter Tryd.func5, Tryd.ntmps5
    go_wp2_with fail
    refine (AS.out _ H0.out).mono ?_
    rintro e w1 ⟨rfl, X1⟩
    obtain ⟨⟨k0, k1, k2⟩, v0, v1, v2⟩ := SC.out w1 X1
    go_wp2_with fail
    refine (EF.out _ (on H0.out X1)).mono ?_
    rintro e w2 ⟨rfl, b2⟩
    have X2 := on X1 b2
    clear b2 X1 k0 k1 k2 v0 v1 v2
    obtain ⟨⟨k0, k1, k2⟩, v0, v1, v2⟩ := SC.out w2 X2
    go_wp2_with fail
    refine (CK.out _ (on H0.out X2)).mono ?_
    rintro e w3 ⟨rfl, b3⟩
    have X3 := on X2 b3
    clear b3 X2 k0 k1 k2 v0 v1 v2
    obtain ⟨⟨k0, k1, k2⟩, v0, v1, v2⟩ := SC.out w3 X3
    go_wp2_with fail
    refine (E1.out _ (on H0.out X3)).mono ?_
    rintro e w4 ⟨rfl, b4⟩
    have X4 := on X3 b4
    clear b4 X3 k0 k1 k2 v0 v1 v2
    obtain ⟨⟨k0, k1, k2⟩, v0, v1, v2⟩ := SC.out w4 X4
    go_wp2_with fail
    refine (EV.out _ (on H0.out X4)).mono ?_
    rintro e w5 ⟨rfl, b5⟩
    have X5 := on X4 b5
    clear b5 X4 k0 k1 k2 v0 v1 v2
    obtain ⟨⟨k0, k1, k2⟩, v0, v1, v2⟩ := SC.out w5 X5
    go_wp2_with fail
    refine (E2.out _ (on H0.out X5)).mono ?_
    rintro e w6 ⟨rfl, b6⟩
    have X6 := on X5 b6
    clear b6 X5 k0 k1 k2 v0 v1 v2
    obtain ⟨⟨k0, k1, k2⟩, v0, v1, v2⟩ := SC.out w6 X6
    go_wp2_with fail
    refine (FA.out _ (on H0.out X6)).mono ?_
    rintro e w7 ⟨rfl, b7⟩
    have X7 := on X6 b7
    clear b7 X6 k0 k1 k2 v0 v1 v2
    obtain ⟨⟨k0, k1, k2⟩, v0, v1, v2⟩ := SC.out w7 X7
    go_wp2_with fail
    refine (E3.out _ (on H0.out X7)).mono ?_
    rintro e w8 ⟨rfl, b8⟩
    have X8 := on X7 b8
    clear b8 X7 k0 k1 k2 v0 v1 v2
    obtain ⟨⟨k0, k1, k2⟩, v0, v1, v2⟩ := SC.out w8 X8
    go_wp2_with fail
    go_ret
    exact ⟨rfl, on H0.out X8⟩
end Go.Proofs.YtffkppjmdelajaaDoor.ExprTellsLaw
