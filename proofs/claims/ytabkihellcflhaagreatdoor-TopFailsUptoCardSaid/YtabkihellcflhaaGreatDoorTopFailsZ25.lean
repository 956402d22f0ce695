/- TopFails, part 25 of the proof: The program's formed; the document's SubsOf, ExprParts. Conditions: the size; the program's table. · An item of a value, read at a later world. No program but the types. -/
import Derived.Test.YtabkihellcflhaaGreatDoorTopFailsZ23
import Derived.Test.YtabkihellcflhaaGreatDoorTopFailsZ24
import Derived.Deep.QuietTactic
import Derived.BigQuiet
import Derived.Outline
import Derived.Test.YtabkihellcflhaaGreatDoorTopFailsZ7
import Derived.Test.YtabkihellcflhaaGreatDoorTopFailsZ5
/- The program's formed; the document's SubsOf, ExprParts. Conditions: the size; the program's table. -/
namespace Go.Proofs.YtabkihellcflhaaGreatDoor.Exprs
open Go.RowKit Lists Gens Rng
set_option linter.unusedVariables false

theorem eret_b {a b : Bool} (h : a = b) : Ending.returned (.bool a) = .returned (.bool b) := by rw [h]
theorem eret_i {a b : Int} (h : a = b) : Ending.returned (.int .i64 a) = .returned (.int .i64 b) := by rw [h]
theorem ebel_drewN {B : Nat} {w w' : World} (h : Below B w w') (n : Nat) : Below B w (w'.drewN n) := ⟨h.os, h.tape, h.output, h.size, h.block⟩
set_option maxHeartbeats 2000000 in
set_option maxRecDepth 100000 in
theorem formed_any : ∀ (n : Nat) (t : Gn) (v : Value) (B : Nat) (w : World), EAt w (EBel B) n v t → B ≤ w.heap.size → t.size ≤ 4294967296 → Subs w →
    Calls Tryz.prog 80 #[v] w fun e w' => e = .returned (.bool (formE t)) ∧ Below w.heap.size w w' := by
  intro n
  induction n with
  | zero => intro t v B w h; exact h.elim
  | succ n ih =>
    intro t v B w h hB hsz hsub
    obtain ⟨m, A, c, e, hw, rfl, hit⟩ := h.open_
    obtain rfl : n = m := by omega
    have IH := Lib.hid ih
    have HIT := Lib.hid hit
    have HB := Lib.hid hB
    have HS := Lib.hid hsz
    have hln : t.subs.length ≤ 4294967296 := by have := glen_sizes t.subs; have := gsize_subs t; omega
    have EQ := Lib.hid (formE_eq t)
    have b0 : Below w.heap.size w (w.alloc (ec t A c)) := (Below.refl _ _).alloc (Nat.le_refl _) _
    have H0 := Lib.hid b0
    have SB := Lib.hid (gsize_subs t)
    have HSU := Lib.hid (hsub.below b0)
    have hg0 := hsub.block
    have hsub0 := hsub
    clear ih hit h hB hsz e hw hsub b0
    by_cases h1 : t.kind < 1
    · have g1 : decide (t.kind < 1) = true := by rw [decide_eq_true_eq]; exact h1
      have EV := Lib.hid (show formE t = false by
        rw [EQ.out, show decide (subsE t.kind = (t.subs.length : Int)) = false by rw [decide_eq_false_iff_not]; unfold subsE; rw [if_pos (.inl h1)]; omega, Bool.false_and])
      clear h1
      go_enter Tryz.func80, Tryz.ntmps80
      go_wp2_with fail
      go_quiet (fail)
      go_wp2_with fail
      go_ret
      exact ⟨eret_b EV.out.symm, ebel_drewN H0.out _⟩
    · have g1 : decide (t.kind < 1) = false := by rw [decide_eq_false_iff_not]; exact h1
      by_cases h2 : 11 < t.kind
      · have g2 : decide (11 < t.kind) = true := by rw [decide_eq_true_eq]; exact h2
        have EV := Lib.hid (show formE t = false by
          rw [EQ.out, show decide (subsE t.kind = (t.subs.length : Int)) = false by rw [decide_eq_false_iff_not]; unfold subsE; rw [if_pos (.inr h2)]; omega, Bool.false_and])
        clear h1 h2
        go_enter Tryz.func80, Tryz.ntmps80
        go_wp2_with fail
        go_quiet (fail)
        go_wp2_with fail
        go_ret
        exact ⟨eret_b EV.out.symm, ebel_drewN H0.out _⟩
      · have g2 : decide (11 < t.kind) = false := by rw [decide_eq_false_iff_not]; exact h2
        have hk1 : 1 ≤ t.kind := by omega
        have hk2 : t.kind ≤ 11 := by omega
        have cs := HSU.out.at_ t.kind hk1 hk2
        have n0 : 0 ≤ t.kind := by omega
        have HSW := Lib.hid hsub0
        clear h1 h2 hsub0
        by_cases hq : subsE t.kind = (t.subs.length : Int)
        · have EQ2 := Lib.hid (show formE t = formEs t.subs by rw [EQ.out, decide_eq_true hq, Bool.true_and])
          have g3 : ((t.subs.length : Int) != subsE t.kind) = false := by rw [bne_eq_false_iff_eq]; exact hq.symm
          clear hq EQ
          generalize subsE t.kind = q at *
          go_enter Tryz.func80, Tryz.ntmps80
          go_wp2_with fail
          go_quiet (fail)
          go_wp2_with fail
          clear g1 g2 g3 cs n0 hk1 hk2
          go_loopw [26] (fun i wr => ∃ k : Nat, k ≤ t.subs.length ∧ i = .int .i64 k ∧ Below w.heap.size w wr ∧ Hid (formEs (t.subs.take k) = true)) (fun i _ => t.subs.length - (intOf i).toNat)
          case atStart => exact ⟨0, Nat.zero_le _, rfl, ebel_drewN H0.out _, rfl⟩
          case round =>
            obtain ⟨k, hk, rfl, hw, hz⟩ := hrel
            have hs2 : w.heap.size ≤ wr.heap.size := hw.size
            by_cases hlt : k < t.subs.length
            · obtain ⟨b, off, D, d, rfl, c0, c1, c2, hti⟩ := esub_as HIT.out (hw.mono HB.out) k hlt
              have ha : Below wr.heap.size wr (wr.alloc (ec (t.subs[k]'hlt) D d)) := (Below.refl _ _).alloc (Nat.le_refl _) _
              have C1 := IH.out (t.subs[k]'hlt) _ B _ (hti.below (ha.mono (Nat.le_trans HB.out hs2))) (by have := HB.out; simp; omega) (by have := gsize_mem t.subs _ (List.getElem_mem hlt); have h3 := HS.out; have := SB.out; omega) ((HSW.out.below hw).below ha)
              clear hti
              cases hf : formE (t.subs[k]'hlt) with
              | true =>
                have hz2 := Lib.hid (form_step0 t.subs k hlt hz.out hf)
                rw [hf] at C1
                have HC1 := Lib.hid C1
                have HA := Lib.hid ha
                clear C1 hf ha
                generalize t.subs[k]'hlt = y at HC1 c0 c1 c2 HA
                go_wp2_with fail
                refine HC1.out.mono ?_
                rintro e w2 ⟨rfl, hb2⟩
                go_wp2_with fail
                go_roundw
                case rel => exact ⟨k + 1, hlt, by go_num, hw.trans ((on HA.out hb2).mono hs2), hz2.out⟩
                case measure => simp [intOf]; omega
              | false =>
                have EV := Lib.hid (show formE t = false by rw [EQ2.out]; exact form_step1 t.subs k hlt hf)
                rw [hf] at C1
                have HC1 := Lib.hid C1
                have HA := Lib.hid ha
                clear C1 hf ha
                generalize t.subs[k]'hlt = y at HC1 c0 c1 c2 HA
                go_wp2_with fail
                refine HC1.out.mono ?_
                rintro e w2 ⟨rfl, hb2⟩
                go_wp2_with fail
                go_ret
                exact ⟨eret_b EV.out.symm, hw.trans ((on HA.out hb2).mono hs2)⟩
            · have EV := Lib.hid (show formE t = true by rw [EQ2.out, ← hz.out, List.take_of_length_le (by omega)])
              go_wp2_with fail
              go_ret
              exact ⟨eret_b EV.out.symm, hw⟩
        · have EV := Lib.hid (show formE t = false by rw [EQ.out, decide_eq_false hq, Bool.false_and])
          have g3 : ((t.subs.length : Int) != subsE t.kind) = true := by rw [bne_iff_ne]; exact fun e => hq e.symm
          clear hq EQ
          generalize subsE t.kind = q at *
          go_enter Tryz.func80, Tryz.ntmps80
          go_wp2_with fail
          go_quiet (fail)
          go_wp2_with fail
          go_ret
          exact ⟨eret_b EV.out.symm, ebel_drewN H0.out _⟩
end Go.Proofs.YtabkihellcflhaaGreatDoor.Exprs

/- An item of a value, read at a later world. No program but the types. -/
namespace Go.Proofs.YtabkihellcflhaaGreatDoor.Vals
open Go.RowKit Lists Ints
set_option linter.unusedVariables false

/-- an item of a value, read at a later world -/
theorem item_at {w wr : World} {B n : Nat} {A : Option Addr} {l : List Tr}
    (hit : 0 < l.length → ∃ b off, A = some ⟨b, off, none⟩ ∧ Bel B b ∧ ∀ j (h : j < l.length), ∃ x0 x1 x2, w.cell? ⟨b, off + j * 3, none⟩ = some x0 ∧ w.cell? ⟨b, off + j * 3 + 1, none⟩ = some x1 ∧ w.cell? ⟨b, off + j * 3 + 2, none⟩ = some x2 ∧ TAt w (Bel B) n (.agg #[x0, x1, x2]) (l[j]'h))
    (hb : Below B w wr) (k : Nat) (h : k < l.length) : ∃ b off x0 x1 x2, A = some ⟨b, off, none⟩ ∧ wr.cell? ⟨b, off + k * 3, none⟩ = some x0 ∧ wr.cell? ⟨b, off + k * 3 + 1, none⟩ = some x1 ∧ wr.cell? ⟨b, off + k * 3 + 2, none⟩ = some x2 ∧ TAt wr (Bel B) n (.agg #[x0, x1, x2]) (l[k]'h) := by
  obtain ⟨b, off, e, hB, hc⟩ := hit (by omega)
  obtain ⟨x0, x1, x2, c0, c1, c2, ht⟩ := hc k h
  exact ⟨b, off, x0, x1, x2, e, (hb.cell (p := ⟨b, _, none⟩) hB).trans c0, (hb.cell (p := ⟨b, _, none⟩) hB).trans c1, (hb.cell (p := ⟨b, _, none⟩) hB).trans c2, ht.below hb⟩

/-- an item of a value, read at a later world, its parts in sight -/
theorem item_as {w wr : World} {B n : Nat} {A : Option Addr} {l : List Tr}
    (hit : 0 < l.length → ∃ b off, A = some ⟨b, off, none⟩ ∧ Bel B b ∧ ∀ j (h : j < l.length), ∃ x0 x1 x2, w.cell? ⟨b, off + j * 3, none⟩ = some x0 ∧ w.cell? ⟨b, off + j * 3 + 1, none⟩ = some x1 ∧ w.cell? ⟨b, off + j * 3 + 2, none⟩ = some x2 ∧ TAt w (Bel B) n (.agg #[x0, x1, x2]) (l[j]'h))
    (hb : Below B w wr) (k : Nat) (h : k < l.length) : ∃ b off D d, A = some ⟨b, off, none⟩ ∧ wr.cell? ⟨b, off + k * 3, none⟩ = some (.bool (l[k]'h).list) ∧ wr.cell? ⟨b, off + k * 3 + 1, none⟩ = some (.int .i64 (l[k]'h).num) ∧ wr.cell? ⟨b, off + k * 3 + 2, none⟩ = some (.slice D (l[k]'h).items.length d) ∧
      TAt wr (Bel B) n (.agg #[.bool (l[k]'h).list, .int .i64 (l[k]'h).num, .slice D (l[k]'h).items.length d]) (l[k]'h) := by
  obtain ⟨b, off, x0, x1, x2, e, c0, c1, c2, ht⟩ := item_at hit hb k h
  obtain ⟨_, D, d, _, _, ev, _⟩ := ht.open_
  simp only [Value.agg.injEq, Array.mk.injEq, List.cons.injEq, and_true] at ev
  obtain ⟨rfl, rfl, rfl⟩ := ev
  exact ⟨b, off, D, d, e, c0, c1, c2, ht⟩

end Go.Proofs.YtabkihellcflhaaGreatDoor.Vals
