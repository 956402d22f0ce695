/- TopFails, part 29 of the proof: The program's expr.Check, evaluate (a panic caught), Eval, Fails. Conditions: the sizes; the program's table. -/
import Derived.Test.YtabkihellcflhaaGreatDoorTopFailsZ27
import Derived.Test.YtabkihellcflhaaGreatDoorTopFailsZ28
import Derived.Tactics
import Derived.Tactics2
import Derived.Defers
import Derived.Recover
import Derived.Laws.Pointers
/- The program's expr.Check, evaluate (a panic caught), Eval, Fails. Conditions: the sizes; the program's table. -/
namespace Go.Proofs.YtabkihellcflhaaGreatDoor.Exprs
open Go.RowKit Go.ChangeShapes Go.WideShapes Lists Gens Rng Vals
set_option linter.unusedVariables false

set_option maxHeartbeats 2000000 in
set_option maxRecDepth 100000 in
theorem echeck {n : Nat} {t : Gn} {v : Value} {B : Nat} (w : World) (h : EAt w (EBel B) n v t) (hB : B ≤ w.heap.size) (hsz : t.size ≤ 4294967296) (hsub : Subs w) :
    Calls Tryz.prog 43 #[v] w fun e w' => e = .returned (errOf (faultE t)) ∧ Below w.heap.size w w' := by
  obtain ⟨m, A, c, e, hw, rfl, _⟩ := h.open_
  have b1 : Below w.heap.size w (w.alloc (ec t A c)) := (Below.refl _ _).alloc (Nat.le_refl _) _
  have s1 : (w.alloc (ec t A c)).heap.size = w.heap.size + 1 := by simp
  have b2 : Below (w.alloc (ec t A c)).heap.size (w.alloc (ec t A c)) ((w.alloc (ec t A c)).alloc (.cells #[.int .i64 0] 3)) := (Below.refl _ _).alloc (Nat.le_refl _) _
  have p2 : EPB (w.heap.size + 1) 0 ((w.alloc (ec t A c)).alloc (.cells #[.int .i64 0] 3)) := by
    have := eheap_new (w.alloc (ec t A c)) (.cells #[.int .i64 0] 3)
    rw [s1] at this; exact this
  have HH := Lib.hid (fun (W : World) (hb : Below (w.alloc (ec t A c)).heap.size (w.alloc (ec t A c)) W) => ebox w W _ _ _ _ hb)
  have hh2 := h.below (b1.mono hB)
  have C1 := efits_any n t _ B (w.heap.size + 1) 0 0 0 0 _ (hh2.below (b2.mono (by omega))) (by omega) p2 hsz rfl (by omega) rfl (by omega)
  rw [fits_large] at C1
  have C2 := Lib.hid (fun (W : World) (hb : Below w.heap.size w W) => formed_any n t _ B W (h.below (hb.mono hB)) (Nat.le_trans hB hb.size) hsz (hsub.below hb))
  have EV := Lib.hid (show faultE t = if (largeG t 0).2 = true then 4 else if formE t = true then 0 else 3 from rfl)
  have BB := Lib.hid (And.intro b1 b2)
  clear h hB hsz e hw hh2 p2 b1 b2 hsub
  cases hl : (largeG t 0).2 with
  | true =>
    rw [hl] at C1 EV
    simp only [Bool.not_true] at C1
    have C1 := Lib.hid C1
    clear hl
    go_enter Tryz.func43, Tryz.ntmps43
    go_wp2_with fail
    refine C1.out.mono ?_
    rintro e w2 ⟨rfl, hp2, hg2⟩
    have B3 := Lib.hid (on BB.out.1 (BB.out.2.trans (egr_to hg2 (show (w.alloc (ec t A c)).heap.size ≤ w.heap.size + 1 by omega) (by simp))))
    clear hp2 hg2
    go_wp2_with fail
    go_ret
    exact ⟨by rw [EV.out]; rfl, B3.out⟩
  | false =>
    rw [hl] at C1 EV
    simp only [Bool.not_false] at C1
    have C1 := Lib.hid C1
    clear hl
    cases hf : formE t
    all_goals
      rw [hf] at C2 EV
      clear hf
      go_enter Tryz.func43, Tryz.ntmps43
      go_wp2_with fail
      refine C1.out.mono ?_
      rintro e w2 ⟨rfl, hp2, hg2⟩
      have b3 := BB.out.2.trans (egr_to hg2 (show (w.alloc (ec t A c)).heap.size ≤ w.heap.size + 1 by omega) (by simp))
      obtain ⟨k0, k1, k2⟩ := HH.out w2 b3
      have B3 := Lib.hid (on BB.out.1 b3)
      have C2 := Lib.hid (C2.out w2 B3.out)
      clear hp2 hg2 b3
      go_wp2_with fail
      refine C2.out.mono ?_
      rintro e w3 ⟨rfl, hb3⟩
      have B4 := Lib.hid (on B3.out hb3)
      clear hb3
      go_wp2_with fail
      go_ret
      exact ⟨by rw [EV.out]; rfl, B4.out⟩

/-! a panic caught -/
theorem eassert_errno (er : Int) (w : World) : (Instr.typeAssert (.iface 29 (.int .i64 er)) 20 29 true).run Tryz.prog w = .ok (.tuple #[.int .i64 er, .bool true]) w := by
  unfold Instr.typeAssert
  simp [run_underlying Tryz.underlying29]
theorem eslots17 (p v : Value) : #[p] ++ ((Array.replicate 16 undef).setIfInBounds 3 v).setIfInBounds 0 v = #[p, v, undef, undef, v, undef, undef, undef, undef, undef, undef, undef, undef, undef, undef, undef, undef] := rfl
set_option maxHeartbeats 1000000 in
theorem ecatch_panic (p : Addr) (x : Value) (older : List PanicEntry) (w : World) (hc : w.cell? p = some x) (hz : w.frozen? p = false) (er : Int) :
    CallsD Tryz.prog 82 #[.pointer (some p)] (.panicking ({ v := .iface 29 (.int .i64 er), recovered := false } :: older)) w fun e u' w' =>
      e = .returned (.tuple #[]) ∧ u' = .panicking ({ v := .iface 29 (.int .i64 er), recovered := true } :: older) ∧ w' = w.setCell p (.iface 29 (.int .i64 er)) := by
  have ha := eassert_errno er w
  refine callsD_of_wpS Tryz.func82 rfl fun c₀ cs hu => ?_
  apply wpS_seq
  apply wpS_region
  simp [wpOpsS, go_sem, recoverD, hu, Tryz.ntmps82, Exit.thenS]
  rw [eslots17]
  refine wpS_of_wp ?_
  have HU := Lib.hid hu
  clear hu
  go_wp2_with fail
  simp [bodyPostS, results, Tryz.results82]
set_option maxHeartbeats 1000000 in
theorem ecatch_idle (p : Addr) (w : World) :
    CallsD Tryz.prog 82 #[.pointer (some p)] .returning w fun e u' w' => e = .returned (.tuple #[]) ∧ u' = .returning ∧ w' = w := by
  refine callsD_of_wpS Tryz.func82 rfl fun c₀ cs hu => ?_
  apply wpS_seq
  apply wpS_region
  simp [wpOpsS, go_sem, recoverD, hu, Tryz.ntmps82, Exit.thenS]
  rw [eslots17]
  refine wpS_of_wp ?_
  have HU := Lib.hid hu
  clear hu
  go_wp2_with fail
  cases c₀
  have HU := HU.out
  simp_all [bodyPostS, results, Tryz.results82]

set_option maxHeartbeats 2000000 in
set_option maxRecDepth 100000 in
theorem evaluate_any {n m c vcp B : Nat} {A VA : Option Addr} {g : Gn} {t : Tr} (w : World) (h : EAt w (EBel B) n (ev g A c) g) (hv : TAt w (Bel B) m (vv t VA vcp) t) (hB : B ≤ w.heap.size) (hf : formE g = true) (hs : t.size ≤ 1073741824) :
    Calls Tryz.prog 45 #[ev g A c, vv t VA vcp] w fun e w' => e = .returned (.tuple #[.int .i64 (evN (numE t g)), errOf (evF (numE t g))]) ∧ Below w.heap.size w w' := by
  have H0 := ebel2 w (ec g A c) (vc t VA vcp)
  have H1 : Below w.heap.size w (((w.alloc (ec g A c)).alloc (vc t VA vcp)).alloc (.cells #[.nilIface] 37)) := H0.alloc (by simp; omega) _
  have E0 : BX1 (w.heap.size + 1 + 1) .nilIface 37 (((w.alloc (ec g A c)).alloc (vc t VA vcp)).alloc (.cells #[.nilIface] 37)) := by
    have := eheap_new ((w.alloc (ec g A c)).alloc (vc t VA vcp)) (.cells #[.nilIface] 37)
    simpa [BX1] using this
  have NU := Lib.hid (number_any n g (ev g A c) t VA vcp m B _ (h.below (H1.mono hB)) (hv.below (H1.mono hB)) (Nat.le_trans hB H1.size) hf hs)
  have H1 := Lib.hid H1
  have E0 := Lib.hid E0
  clear h hv hB hf hs H0
  generalize numE t g = r at *
  have hmf : ∀ (fn : Fn) (first cap : Array Value) (w : World), (Instr.makeFunc fn first cap).run Tryz.prog w = .ok (.func fn first cap) w := fun _ _ _ _ => rfl
  go_enter_defers Tryz.func45, Tryz.ntmps45
  go_wp2_with fail
  generalize ((w.alloc (ec g A c)).alloc (vc t VA vcp)).alloc (.cells #[.nilIface] 37) = W at *
  refine NU.out.mono ?_
  intro e w1 hs
  rcases hs.split with ⟨x, rfl, rfl, hb⟩ | ⟨rfl, rfl, hb⟩
  · have E1 := Lib.hid (E0.out.below hb)
    have B1 := Lib.hid (on H1.out hb)
    have e0 := E1.out.cell
    have e1 := E1.out.free
    clear hs hb
    go_wp2_with fail
    have E2 := E1.out.put .nilIface
    have B2 := Lib.hid (Below.setCell (p := ⟨w.heap.size + 1 + 1, 0, none⟩) B1.out (show w.heap.size ≤ w.heap.size + 1 + 1 by omega) .nilIface)
    generalize w1.setCell ⟨w.heap.size + 1 + 1, 0, none⟩ .nilIface = W9 at E2 B2 ⊢
    refine leaves_cons (f := 82) (args := #[.pointer (some ⟨w.heap.size + 1 + 1, 0, none⟩)]) (by simp) (by simp [go_sem]) ?_
    refine (ecatch_idle ⟨w.heap.size + 1 + 1, 0, none⟩ W9).mono ?_
    rintro e u' w2 ⟨rfl, rfl, rfl⟩
    have e2 := E2.cell
    refine ⟨.tuple #[.int .i64 x, .nilIface], by simp [results, Tryz.results45, go_sem, e2], ?_⟩
    exact ⟨rfl, B2.out⟩
  · have E1 := Lib.hid (E0.out.below hb)
    have B1 := Lib.hid (on H1.out hb)
    clear hs hb
    refine leaves_cons (f := 82) (args := #[.pointer (some ⟨w.heap.size + 1 + 1, 0, none⟩)]) (by simp) (by simp [go_sem]) ?_
    refine (ecatch_panic ⟨w.heap.size + 1 + 1, 0, none⟩ .nilIface [] w1 E1.out.cell E1.out.free 6).mono ?_
    rintro e u' w2 ⟨rfl, rfl, rfl⟩
    have E2 := E1.out.put (.iface 29 (.int .i64 6))
    have B2 := Lib.hid (Below.setCell (p := ⟨w.heap.size + 1 + 1, 0, none⟩) B1.out (show w.heap.size ≤ w.heap.size + 1 + 1 by omega) (.iface 29 (.int .i64 6)))
    generalize w1.setCell ⟨w.heap.size + 1 + 1, 0, none⟩ (.iface 29 (.int .i64 6)) = W2 at E2 B2 ⊢
    have e2 := E2.cell
    refine ⟨.tuple #[.int .i64 0, .iface 29 (.int .i64 6)], by simp [results, Tryz.results45, go_sem, e2], ?_⟩
    exact ⟨rfl, B2.out⟩

/-! Eval -/
set_option maxHeartbeats 2000000 in
set_option maxRecDepth 100000 in
theorem eval_any {n m c vcp B : Nat} {A VA : Option Addr} {g : Gn} {t : Tr} (w : World) (h : EAt w (EBel B) n (ev g A c) g) (hv : TAt w (Bel B) m (vv t VA vcp) t) (hB : B ≤ w.heap.size) (hsz : g.size ≤ 4294967296) (hs : t.size ≤ 1073741824) (hsub : Subs w) :
    Calls Tryz.prog 20 #[ev g A c, vv t VA vcp] w fun e w' => e = .returned (.tuple #[.int .i64 (evalN g t), errOf (evalF g t)]) ∧ Below w.heap.size w w' := by
  have H0 := Lib.hid (ebel2 w (ec g A c) (vc t VA vcp))
  have BX := Lib.hid (fun W hb => ebox2 w (.int .i64 g.kind) (.int .i64 g.a) (.slice A g.subs.length c) (.bool t.list) (.int .i64 t.num) (.slice VA t.items.length vcp) W hb)
  have C1 := Lib.hid (fun (W : World) (hb : Below w.heap.size w W) => echeck (v := ev g A c) W (h.below (hb.mono hB)) (Nat.le_trans hB hb.size) hsz (hsub.below hb))
  have C2 := Lib.hid (fun (W : World) (hb : Below w.heap.size w W) => check_prog (v := vv t VA vcp) W (hv.below (hb.mono hB)) (Nat.le_trans hB hb.size) (by omega))
  have C3 := Lib.hid (fun (hf : formE g = true) (W : World) (hb : Below w.heap.size w W) => evaluate_any W (h.below (hb.mono hB)) (hv.below (hb.mono hB)) (Nat.le_trans hB hb.size) hf hs)
  have EF := Lib.hid (show evalF g t = if faultE g = 0 then (if faultV t 0 = 0 then evF (numE t g) else faultV t 0) else faultE g from rfl)
  have EN := Lib.hid (show evalN g t = if faultE g = 0 then (if faultV t 0 = 0 then evN (numE t g) else 0) else 0 from rfl)
  clear h hv hB hsz hs hsub
  by_cases h1 : faultE g = 0
  · have C3 := Lib.hid (C3.out (fault_ok h1).2)
    by_cases h2 : faultV t 0 = 0
    · have EV := Lib.hid (show evalN g t = evN (numE t g) ∧ evalF g t = evF (numE t g) by rw [EN.out, EF.out, if_pos h1, if_pos h2, if_pos h1, if_pos h2]; exact ⟨rfl, rfl⟩)
      rw [h1, errOf_ok] at C1
      rw [h2, errOf_ok] at C2
      clear h1 h2 EF EN
      generalize numE t g = r at *
      obtain ⟨E, hE⟩ : ∃ E, E = errOf (evF r) := ⟨_, rfl⟩
      rw [← hE] at C3
      have RE := Lib.hid hE
      clear hE
      go_enter Tryz.func20, Tryz.ntmps20
      go_wp2_with fail
      refine (C1.out _ H0.out).mono ?_
      rintro e w1 ⟨rfl, b1⟩
      have B1 := Lib.hid (on H0.out b1)
      have X1 := Lib.hid b1
      obtain ⟨⟨k0, k1, k2⟩, v0, v1, v2⟩ := BX.out w1 b1
      clear b1
      go_wp2_with fail
      refine (C2.out _ B1.out).mono ?_
      rintro e w2 ⟨rfl, b2⟩
      have B2 := Lib.hid (on B1.out b2)
      clear k0 k1 k2 v0 v1 v2
      obtain ⟨⟨k0, k1, k2⟩, v0, v1, v2⟩ := BX.out w2 (on X1.out b2)
      clear b2
      go_wp2_with fail
      refine (C3.out _ B2.out).mono ?_
      rintro e w3 ⟨rfl, b3⟩
      have B3 := Lib.hid (on B2.out b3)
      clear b3
      go_wp2_with fail
      go_ret2
      exact ⟨eret_p (a := .int .i64 (evN r)) (b := E) (by rw [EV.out.1]) (by rw [EV.out.2, RE.out]), B3.out⟩
    · have EV := Lib.hid (show evalN g t = 0 ∧ evalF g t = faultV t 0 by rw [EN.out, EF.out, if_pos h1, if_neg h2, if_pos h1, if_neg h2]; exact ⟨rfl, rfl⟩)
      have RE := Lib.hid (errOf_no h2)
      rw [h1, errOf_ok] at C1
      rw [errOf_no h2] at C2
      clear h1 h2 EF EN C3
      generalize faultV t 0 = f at *
      go_enter Tryz.func20, Tryz.ntmps20
      go_wp2_with fail
      refine (C1.out _ H0.out).mono ?_
      rintro e w1 ⟨rfl, b1⟩
      have B1 := Lib.hid (on H0.out b1)
      obtain ⟨⟨k0, k1, k2⟩, v0, v1, v2⟩ := BX.out w1 b1
      clear b1
      go_wp2_with fail
      refine (C2.out _ B1.out).mono ?_
      rintro e w2 ⟨rfl, b2⟩
      have B2 := Lib.hid (on B1.out b2)
      clear k0 k1 k2 v0 v1 v2 b2
      go_wp2_with fail
      go_ret2
      exact ⟨eret_p (a := .int .i64 0) (b := .iface 29 (.int .i64 f)) (by rw [EV.out.1]) (by rw [EV.out.2, RE.out]), B2.out⟩
  · have EV := Lib.hid (show evalN g t = 0 ∧ evalF g t = faultE g by rw [EN.out, EF.out, if_neg h1, if_neg h1]; exact ⟨rfl, rfl⟩)
    have RE := Lib.hid (errOf_no h1)
    rw [errOf_no h1] at C1
    clear h1 EF EN C3 C2
    generalize faultE g = f at *
    go_enter Tryz.func20, Tryz.ntmps20
    go_wp2_with fail
    refine (C1.out _ H0.out).mono ?_
    rintro e w1 ⟨rfl, b1⟩
    have B1 := Lib.hid (on H0.out b1)
    clear b1
    go_wp2_with fail
    go_ret2
    exact ⟨eret_p (a := .int .i64 0) (b := .iface 29 (.int .i64 f)) (by rw [EV.out.1]) (by rw [EV.out.2, RE.out]), B1.out⟩

/-! Fails -/
mutual
theorem faultV_few : ∀ (t : Tr) (d : Nat), faultV t d = 0 ∨ faultV t d = 3 ∨ faultV t d = 4
  | .node l n i, d => by
    have h := faultVs_few i (d + 1)
    rw [faultV_eq]
    split
    · exact .inr (.inl rfl)
    · split
      · exact .inr (.inr rfl)
      · exact h
theorem faultVs_few : ∀ (l : List Tr) (d : Nat), faultVs l d = 0 ∨ faultVs l d = 3 ∨ faultVs l d = 4
  | [], d => .inl rfl
  | t :: r, d => by
    have h1 := faultV_few t d
    have h2 := faultVs_few r d
    simp only [faultVs]
    split
    · exact h1
    · exact h2
end
theorem faultE_few (g : Gn) : faultE g = 0 ∨ faultE g = 3 ∨ faultE g = 4 := by
  unfold faultE
  split
  · exact .inr (.inr rfl)
  · split
    · exact .inl rfl
    · exact .inr (.inl rfl)
theorem failF_few (g : Gn) (t : Tr) : failF g t = 0 ∨ failF g t = 3 ∨ failF g t = 4 := by
  unfold failF
  split
  · exact faultV_few t 0
  · exact faultE_few g
set_option maxHeartbeats 2000000 in
set_option maxRecDepth 100000 in
theorem fails_any {n m c vcp B : Nat} {A VA : Option Addr} {g : Gn} {t : Tr} (w : World) (h : EAt w (EBel B) n (ev g A c) g) (hv : TAt w (Bel B) m (vv t VA vcp) t) (hB : B ≤ w.heap.size) (hsz : g.size ≤ 4294967296) (hs : t.size ≤ 1073741824) (hsub : Subs w) :
    Calls Tryz.prog 15 #[ev g A c, vv t VA vcp] w fun e w' => e = .returned (.tuple #[.bool (failB g t), errOf (failF g t)]) ∧ Below w.heap.size w w' := by
  have H0 := Lib.hid (ebel2 w (ec g A c) (vc t VA vcp))
  have E1 := Lib.hid (eval_any _ (h.below (H0.out.mono hB)) (hv.below (H0.out.mono hB)) (Nat.le_trans hB H0.out.size) hsz hs (hsub.below H0.out))
  have FB := Lib.hid (show failB g t = if failF g t = 0 then badN (numE t g) else false from rfl)
  have EI : evalF g t = if failF g t = 0 then evF (numE t g) else failF g t := by
    unfold evalF failF
    by_cases h1 : faultE g = 0
    · rw [if_pos h1, if_pos h1]
    · rw [if_neg h1, if_neg h1, if_neg h1]
  have EN : failF g t = 0 → evalN g t = evN (numE t g) := by
    unfold evalN failF
    by_cases h1 : faultE g = 0
    · rw [if_pos h1, if_pos h1]; intro h2; rw [if_pos h2]
    · rw [if_neg h1]; intro h2; exact absurd h2 h1
  have FF := failF_few g t
  clear h hv hB hsz hs hsub
  by_cases hf : failF g t = 0
  · rw [EN hf, EI, if_pos hf] at E1
    rw [hf] at FB
    have FB := Lib.hid (show failB g t = badN (numE t g) from FB.out)
    have RF := Lib.hid (show errOf (failF g t) = .nilIface by rw [hf]; rfl)
    clear hf EI EN FF
    generalize numE t g = r at *
    cases r with
    | none =>
      have I6 := Lib.hid (fun W => is_of 6 6 W)
      go_enter Tryz.func15, Tryz.ntmps15
      go_wp2_with fail
      refine E1.out.mono ?_
      rintro e w1 ⟨rfl, b1⟩
      have B1 := Lib.hid (on H0.out b1)
      clear b1
      go_wp2_with fail
      refine (I6.out _).mono ?_
      rintro e w2 ⟨rfl, b2⟩
      have B2 := Lib.hid (on B1.out b2)
      clear b2
      go_wp2_with fail
      go_ret2
      exact ⟨eret_p (a := .bool true) (b := .nilIface) (by rw [FB.out]; rfl) RF.out.symm, B2.out⟩
    | some x =>
      have I6 := Lib.hid (fun W => is_none 6 W)
      have E1 := Lib.hid (show Calls Tryz.prog 20 #[ev g A c, vv t VA vcp] ((w.alloc (ec g A c)).alloc (vc t VA vcp)) (fun e w' => e = .returned (.tuple #[.int .i64 x, .nilIface]) ∧ Below ((w.alloc (ec g A c)).alloc (vc t VA vcp)).heap.size ((w.alloc (ec g A c)).alloc (vc t VA vcp)) w') from E1.out)
      go_enter Tryz.func15, Tryz.ntmps15
      go_wp2_with fail
      refine E1.out.mono ?_
      rintro e w1 ⟨rfl, b1⟩
      have B1 := Lib.hid (on H0.out b1)
      clear b1
      go_wp2_with fail
      refine (I6.out _).mono ?_
      rintro e w2 ⟨rfl, b2⟩
      have B2 := Lib.hid (on B1.out b2)
      clear b2
      go_wp2_with fail
      go_ret2
      exact ⟨eret_p (a := .bool (x == 0)) (b := .nilIface) (by rw [FB.out]; rfl) RF.out.symm, B2.out⟩
  · have FB2 := Lib.hid (show failB g t = false by rw [FB.out, if_neg hf])
    clear FB
    have I6 := Lib.hid (fun W => is_of (failF g t) 6 W)
    rw [show (!(failF g t == 0) && (failF g t == 6)) = false by rcases FF with h | h | h <;> rw [h] <;> rfl] at I6
    rw [EI, if_neg hf] at E1
    rw [errOf_no hf] at E1 I6
    have RE := Lib.hid (errOf_no hf)
    clear hf EI EN FF
    generalize failF g t = f at *
    generalize evalN g t = x at *
    go_enter Tryz.func15, Tryz.ntmps15
    go_wp2_with fail
    refine E1.out.mono ?_
    rintro e w1 ⟨rfl, b1⟩
    have B1 := Lib.hid (on H0.out b1)
    clear b1
    go_wp2_with fail
    refine (I6.out _).mono ?_
    rintro e w2 ⟨rfl, b2⟩
    have B2 := Lib.hid (on B1.out b2)
    clear b2
    go_wp2_with fail
    go_ret2
    exact ⟨eret_p (a := .bool false) (b := .iface 29 (.int .i64 f)) (by rw [FB2.out]) RE.out.symm, B2.out⟩
end Go.Proofs.YtabkihellcflhaaGreatDoor.Exprs
