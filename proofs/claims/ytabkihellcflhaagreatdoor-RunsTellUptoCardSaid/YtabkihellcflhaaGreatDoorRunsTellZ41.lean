/- RunsTell, part 41 of the proof: Contract of the document's own ExprLarge. Condition: the size. · The document's SubsOf, ExprParts, ExprFault. Conditions: the size. -/
import Derived.Test.YtabkihellcflhaaGreatDoorRunsTellZ17
import Derived.Test.YtabkihellcflhaaGreatDoorRunsTellZ18
/- Contract of the document's own ExprLarge. Condition: the size. -/
namespace Go.Proofs.YtabkihellcflhaaGreatDoor.Exprs
open Go.RowKit Lists Gens Rng
set_option linter.unusedVariables false

set_option maxHeartbeats 2000000 in
set_option maxRecDepth 100000 in
theorem large_any : ∀ (n : Nat) (t : Gn) (v : Value) (B : Nat) (deep : Int) (dn : Nat) (w : World), EAt w (EBel B) n v t → B ≤ w.heap.size → t.size ≤ 4294967296 → deep = dn → dn ≤ 6 →
    Calls Tryz.prog 23 #[v, .int .i64 deep] w fun e w' => e = .returned (.tuple #[.int .i64 (largeG t dn).1, .bool (largeG t dn).2]) ∧ Below w.heap.size w w' := by
  intro n
  induction n with
  | zero => intro t v B deep dn w h; exact h.elim
  | succ n ih =>
    intro t v B deep dn w h hB hsz hd hdn
    obtain ⟨m, A, c, e, hw, rfl, hit⟩ := h.open_
    obtain rfl : n = m := by omega
    have IH := Lib.hid ih
    have HIT := Lib.hid hit
    have HB := Lib.hid hB
    have HS := Lib.hid hsz
    have hln : t.subs.length ≤ 4294967296 := by have := glen_sizes t.subs; have := gsize_subs t; omega
    have EQ := Lib.hid (largeG_eq t dn)
    have H0 : Below w.heap.size w (w.alloc (ec t A c)) := (Below.refl _ _).alloc (Nat.le_refl _) _
    have H0 := Lib.hid H0
    have SB := Lib.hid (gsize_subs t)
    have dlo : 0 ≤ deep := by omega
    have dhi : deep ≤ 6 := by omega
    have HD := Lib.hid hd
    clear ih hit h hB hsz e hw hd
    by_cases h6 : 6 ≤ dn
    · have h6' : (6 : Int) ≤ deep := by have := HD.out; omega
      have EQ := Lib.hid (show largeG t dn = (1, true) by rw [EQ.out, if_pos h6])
      go_enter Tryz.func23, Tryz.ntmps23
      go_wp2_with fail
      go_ret2
      exact ⟨by rw [EQ.out]; rfl, H0.out⟩
    · have h6' : ¬ (6 : Int) ≤ deep := by have := HD.out; omega
      have EQ := Lib.hid (show largeG t dn = largeGs t.subs (dn + 1) 1 by rw [EQ.out, if_neg h6])
      go_enter Tryz.func23, Tryz.ntmps23
      go_wp2_with fail
      go_loopw [6, 7] (fun a i wr => ∃ (k o : Nat), k ≤ t.subs.length ∧ i = .int .i64 k ∧ a = .int .i64 o ∧ o ≤ 30 ∧ Below (w.alloc (ec t A c)).heap.size (w.alloc (ec t A c)) wr ∧ Hid (largeG t dn = largeGs (t.subs.drop k) (dn + 1) o)) (fun _ i _ => t.subs.length - (intOf i).toNat)
      case atStart => exact ⟨0, 1, Nat.zero_le _, rfl, rfl, by omega, Below.refl _ _, (show largeG t dn = largeGs (t.subs.drop 0) (dn + 1) 1 from EQ.out)⟩
      case round =>
        obtain ⟨k, o, hk, rfl, rfl, ho, hb, hz⟩ := hrel
        obtain ⟨_, _, cb⟩ := ebox w wr _ _ _ _ hb
        have hw : Below w.heap.size w wr := on H0.out hb
        have HBW := Lib.hid hb
        have HWW := Lib.hid hw
        clear hb hw
        by_cases hlt : k < t.subs.length
        · obtain ⟨ib, off, D, d, rfl, c0, c1, c2, hti⟩ := esub_as HIT.out (HWW.out.mono HB.out) k hlt
          have hsi : (t.subs[k]'hlt).size ≤ 4294967296 := by have := gsize_mem t.subs _ (List.getElem_mem hlt); have h3 := HS.out; have := SB.out; omega
          have C1 := IH.out (t.subs[k]'hlt) _ B (deep + 1) (dn + 1) wr hti (Nat.le_trans HB.out HWW.out.size) hsi (by have := HD.out; omega) (by omega)
          have DR := Lib.hid (largeGs_drop t.subs k (dn + 1) o hlt)
          have KL := largeG_le (t.subs[k]'hlt) (dn + 1) (by omega)
          clear hti hsi
          generalize hgl : largeG (t.subs[k]'hlt) (dn + 1) = q at C1 DR KL
          clear hgl
          obtain ⟨j, is⟩ := q
          simp only [] at C1 KL
          have j300 : j ≤ 300 := by omega
          clear KL
          have DR := Lib.hid (show largeGs (t.subs.drop k) (dn + 1) o = if is = true ∨ 30 < o + j then (o + j, true) else largeGs (t.subs.drop (k + 1)) (dn + 1) (o + j) from DR.out)
          generalize t.subs[k]'hlt = y at C1 c0 c1 c2
          have HC1 := Lib.hid C1
          clear C1
          cases is with
          | true =>
            have EV := Lib.hid (show largeG t dn = (o + j, true) by rw [hz.out, DR.out, if_pos (.inl rfl)])
            go_wp2_with fail
            refine HC1.out.mono ?_
            rintro e w2 ⟨rfl, hb2⟩
            have B2 := Lib.hid (on HWW.out hb2)
            clear hb2
            go_wp2_with fail
            go_ret2
            exact ⟨eret_p (a := .int .i64 (o + j : Nat)) (b := .bool true) (by rw [EV.out]) (by rw [EV.out]), B2.out⟩
          | false =>
            by_cases hq : 30 < o + j
            · have EV := Lib.hid (show largeG t dn = (o + j, true) by rw [hz.out, DR.out, if_pos (.inr hq)])
              have g1 : decide (30 < (o : Int) + (j : Int)) = true := by rw [decide_eq_true_eq]; omega
              go_wp2_with fail
              refine HC1.out.mono ?_
              rintro e w2 ⟨rfl, hb2⟩
              have B2 := Lib.hid (on HWW.out hb2)
              clear hb2
              go_wp2_with fail
              go_ret2
              exact ⟨eret_p (a := .int .i64 (o + j : Nat)) (b := .bool true) (by rw [EV.out]) (by rw [EV.out]), B2.out⟩
            · have EV := Lib.hid (show largeG t dn = largeGs (t.subs.drop (k + 1)) (dn + 1) (o + j) by rw [hz.out, DR.out, if_neg (by simp; omega)])
              have g1 : decide (30 < (o : Int) + (j : Int)) = false := by rw [decide_eq_false_iff_not]; omega
              go_wp2_with fail
              refine HC1.out.mono ?_
              rintro e w2 ⟨rfl, hb2⟩
              have B2 := Lib.hid (on HBW.out hb2)
              clear hb2
              go_wp2_with fail
              go_roundw
              case rel => exact ⟨k + 1, o + j, hlt, by go_num, by go_num, by omega, B2.out, EV.out⟩
              case measure => simp [intOf]; omega
        · have g1 : decide (30 < (o : Int)) = false := by rw [decide_eq_false_iff_not]; omega
          have EV := Lib.hid (show largeG t dn = (o, false) by
            rw [hz.out, List.drop_eq_nil_of_le (by omega), largeGs]
            congr 1
            rw [decide_eq_false_iff_not]; omega)
          go_wp2_with fail
          go_ret2
          exact ⟨eret_p (a := .int .i64 (o : Nat)) (b := .bool false) (by rw [EV.out]) (by rw [EV.out]), HWW.out⟩
end Go.Proofs.YtabkihellcflhaaGreatDoor.Exprs

/- The document's SubsOf, ExprParts, ExprFault. Conditions: the size. -/
namespace Go.Proofs.YtabkihellcflhaaGreatDoor.Exprs
open Go.RowKit Lists Gens Rng
set_option linter.unusedVariables false

theorem subsof_any (k : Int) (w : World) : Calls Tryz.prog 47 #[.int .i64 k] w fun e w' => e = .returned (.int .i64 (subsE k)) ∧ w = w' := by
  by_cases h1 : k < 1
  · have EV := Lib.hid (show subsE k = -1 by unfold subsE; rw [if_pos (.inl h1)])
    have g : decide (k < 1) = true := by rw [decide_eq_true_eq]; exact h1
    go_enter Tryz.func47, Tryz.ntmps47
    go_wp2
    go_ret
    exact ⟨eret_i EV.out.symm, rfl⟩
  · have g : decide (k < 1) = false := by rw [decide_eq_false_iff_not]; exact h1
    by_cases h2 : 11 < k
    · have EV := Lib.hid (show subsE k = -1 by unfold subsE; rw [if_pos (.inr h2)])
      have g2 : decide (11 < k) = true := by rw [decide_eq_true_eq]; exact h2
      go_enter Tryz.func47, Tryz.ntmps47
      go_wp2
      go_ret
      exact ⟨eret_i EV.out.symm, rfl⟩
    · rcases (show k = 1 ∨ k = 2 ∨ k = 3 ∨ k = 4 ∨ k = 5 ∨ k = 6 ∨ k = 7 ∨ k = 8 ∨ k = 9 ∨ k = 10 ∨ k = 11 by omega) with rfl | rfl | rfl | rfl | rfl | rfl | rfl | rfl | rfl | rfl | rfl
      all_goals
        clear h1 h2 g
        go_enter Tryz.func47, Tryz.ntmps47
        go_wp2
        go_ret
        exact ⟨rfl, rfl⟩

set_option maxHeartbeats 2000000 in
set_option maxRecDepth 100000 in
theorem eparts_any : ∀ (n : Nat) (t : Gn) (v : Value) (B : Nat) (w : World), EAt w (EBel B) n v t → B ≤ w.heap.size → t.size ≤ 4294967296 →
    Calls Tryz.prog 24 #[v] w fun e w' => e = .returned (.bool (!formE t)) ∧ Below w.heap.size w w' := by
  intro n
  induction n with
  | zero => intro t v B w h; exact h.elim
  | succ n ih =>
    intro t v B w h hB hsz
    obtain ⟨m, A, c, e, hw, rfl, hit⟩ := h.open_
    obtain rfl : n = m := by omega
    have IH := Lib.hid ih
    have HIT := Lib.hid hit
    have HB := Lib.hid hB
    have HS := Lib.hid hsz
    have hln : t.subs.length ≤ 4294967296 := by have := glen_sizes t.subs; have := gsize_subs t; omega
    have EQ := Lib.hid (formE_eq t)
    have b0 : Below w.heap.size w (w.alloc (ec t A c)) := (Below.refl _ _).alloc (Nat.le_refl _) _
    have H0 := Lib.hid b0
    have SB := Lib.hid (gsize_subs t)
    have SO := Lib.hid (fun w => (subsof_any t.kind w).mono (R' := fun e w' => e = .returned (.int .i64 (subsE t.kind)) ∧ w' = w) fun _ _ ⟨h1, h2⟩ => ⟨h1, h2.symm⟩)
    clear ih hit h hB hsz e hw b0
    by_cases hq : subsE t.kind = (t.subs.length : Int)
    · have EQ2 := Lib.hid (show formE t = formEs t.subs by rw [EQ.out, decide_eq_true hq, Bool.true_and])
      have g3 : (subsE t.kind != (t.subs.length : Int)) = false := by rw [bne_eq_false_iff_eq]; exact hq
      clear hq EQ
      generalize subsE t.kind = q at *
      go_enter Tryz.func24, Tryz.ntmps24
      go_wp2_with fail
      go_quiet ((go_at_call 47; exact Calls.quiet_of_same (SO.out _)))
      go_wp2_with fail
      clear g3
      go_loopw [3] (fun i wr => ∃ k : Nat, k ≤ t.subs.length ∧ i = .int .i64 k ∧ Below (w.alloc (ec t A c)).heap.size (w.alloc (ec t A c)) wr ∧ Hid (formEs (t.subs.take k) = true)) (fun i _ => t.subs.length - (intOf i).toNat)
      case atStart => exact ⟨0, Nat.zero_le _, rfl, ebel_drewN (Below.refl _ _) _, rfl⟩
      case round =>
        obtain ⟨k, hk, rfl, hb, hz⟩ := hrel
        obtain ⟨_, _, cb⟩ := ebox w wr _ _ _ _ hb
        have hw : Below w.heap.size w wr := on H0.out hb
        have hs1 := hb.size
        by_cases hlt : k < t.subs.length
        · obtain ⟨b, off, D, d, rfl, c0, c1, c2, hti⟩ := esub_as HIT.out (hw.mono HB.out) k hlt
          have C1 := IH.out (t.subs[k]'hlt) _ B _ hti (Nat.le_trans HB.out hw.size) (by have := gsize_mem t.subs _ (List.getElem_mem hlt); have h3 := HS.out; have := SB.out; omega)
          clear hti
          cases hf : formE (t.subs[k]'hlt) with
          | true =>
            have hz2 := Lib.hid (form_step0 t.subs k hlt hz.out hf)
            rw [hf] at C1
            have HC1 := Lib.hid C1
            clear C1 hf
            generalize t.subs[k]'hlt = y at HC1 c0 c1 c2
            have HBB := Lib.hid hb
            clear hb hw hs1
            go_wp2_with fail
            refine HC1.out.mono ?_
            rintro e w2 ⟨rfl, hb2⟩
            have B2 := Lib.hid (on HBB.out hb2)
            clear hb2
            go_wp2_with fail
            go_roundw
            case rel => exact ⟨k + 1, hlt, by go_num, B2.out, hz2.out⟩
            case measure => simp [intOf]; omega
          | false =>
            have EV := Lib.hid (show formE t = false by rw [EQ2.out]; exact form_step1 t.subs k hlt hf)
            rw [hf] at C1
            have HC1 := Lib.hid C1
            clear C1 hf
            generalize t.subs[k]'hlt = y at HC1 c0 c1 c2
            have HW := Lib.hid hw
            clear hb hw hs1
            go_wp2_with fail
            refine HC1.out.mono ?_
            rintro e w2 ⟨rfl, hb2⟩
            have B2 := Lib.hid (on HW.out hb2)
            clear hb2
            go_wp2_with fail
            go_ret
            exact ⟨eret_b (by rw [EV.out]; rfl), B2.out⟩
        · have EV := Lib.hid (show formE t = true by rw [EQ2.out, ← hz.out, List.take_of_length_le (by omega)])
          have HW := Lib.hid hw
          clear hb hw hs1
          go_wp2_with fail
          go_ret
          exact ⟨eret_b (by rw [EV.out]; rfl), HW.out⟩
    · have EV := Lib.hid (show formE t = false by rw [EQ.out, decide_eq_false hq, Bool.false_and])
      have g3 : (subsE t.kind != (t.subs.length : Int)) = true := by rw [bne_iff_ne]; exact hq
      clear hq EQ
      generalize subsE t.kind = q at *
      go_enter Tryz.func24, Tryz.ntmps24
      go_wp2_with fail
      go_quiet ((go_at_call 47; exact Calls.quiet_of_same (SO.out _)))
      go_wp2_with fail
      go_ret
      exact ⟨eret_b (by rw [EV.out]; rfl), ebel_drewN H0.out _⟩

set_option maxRecDepth 100000 in
theorem efault_any (n : Nat) (t : Gn) (A : Option Addr) (c B : Nat) (w : World) (h : EAt w (EBel B) n (ev t A c) t) (hB : B ≤ w.heap.size) (hs : t.size ≤ 4294967296) :
    Calls Tryz.prog 8 #[ev t A c] w fun e w' => e = .returned (.int .i64 (faultE t)) ∧ Below w.heap.size w w' := by
  have H0 : Below w.heap.size w (w.alloc (ec t A c)) := (Below.refl _ _).alloc (Nat.le_refl _) _
  have L1 := Lib.hid (large_any n t (ev t A c) B 0 0 _ (h.below (H0.mono hB)) (Nat.le_trans hB H0.size) hs rfl (by omega))
  have P1 := Lib.hid (fun w1 (hb : Below w.heap.size w w1) => eparts_any n t (ev t A c) B w1 (h.below (hb.mono hB)) (Nat.le_trans hB hb.size) hs)
  have BX := Lib.hid (fun w1 hb => ebox w w1 27 (.int .i64 t.kind) (.int .i64 t.a) (.slice A t.subs.length c) hb)
  have H0 := Lib.hid H0
  have FE := Lib.hid (show faultE t = if (largeG t 0).2 = true then 4 else if formE t = true then 0 else 3 from rfl)
  clear h hB hs
  generalize largeG t 0 = q at *
  obtain ⟨j, is⟩ := q
  cases is with
  | true =>
    have EV := Lib.hid (show faultE t = 4 from FE.out)
    go_enter Tryz.func8, Tryz.ntmps8
    go_wp2_with fail
    refine L1.out.mono ?_
    rintro e w1 ⟨rfl, b1⟩
    have B1 := Lib.hid (on H0.out b1)
    clear b1
    go_wp2_with fail
    go_ret
    exact ⟨eret_i EV.out.symm, B1.out⟩
  | false =>
    have FE2 := Lib.hid (show faultE t = if formE t = true then 0 else 3 from FE.out)
    clear FE
    cases hf : formE t with
    | true =>
      rw [hf] at P1
      have EV := Lib.hid (show faultE t = 0 by rw [FE2.out, hf]; rfl)
      clear hf FE2
      go_enter Tryz.func8, Tryz.ntmps8
      go_wp2_with fail
      refine L1.out.mono ?_
      rintro e w1 ⟨rfl, b1⟩
      have B1 := Lib.hid (on H0.out b1)
      obtain ⟨k0, k1, k2⟩ := BX.out w1 b1
      clear b1
      go_wp2_with fail
      refine (P1.out w1 B1.out).mono ?_
      rintro e w2 ⟨rfl, b2⟩
      have B2 := Lib.hid (on B1.out b2)
      clear b2
      go_wp2_with fail
      go_ret
      exact ⟨eret_i EV.out.symm, B2.out⟩
    | false =>
      rw [hf] at P1
      have EV := Lib.hid (show faultE t = 3 by rw [FE2.out, hf]; rfl)
      clear hf FE2
      go_enter Tryz.func8, Tryz.ntmps8
      go_wp2_with fail
      refine L1.out.mono ?_
      rintro e w1 ⟨rfl, b1⟩
      have B1 := Lib.hid (on H0.out b1)
      obtain ⟨k0, k1, k2⟩ := BX.out w1 b1
      clear b1
      go_wp2_with fail
      refine (P1.out w1 B1.out).mono ?_
      rintro e w2 ⟨rfl, b2⟩
      have B2 := Lib.hid (on B1.out b2)
      clear b2
      go_wp2_with fail
      go_ret
      exact ⟨eret_i EV.out.symm, B2.out⟩
end Go.Proofs.YtabkihellcflhaaGreatDoor.Exprs
