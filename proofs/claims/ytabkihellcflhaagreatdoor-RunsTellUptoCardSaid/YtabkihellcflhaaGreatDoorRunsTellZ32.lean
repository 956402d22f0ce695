/- RunsTell, part 32 of the proof: Contracts of the document's own Large, PartFault and GenFault. Condition: the size. -/
import Derived.Test.YtabkihellcflhaaGreatDoorRunsTellZ2
/- Contracts of the document's own Large, PartFault and GenFault. Condition: the size. -/
namespace Go.Proofs.YtabkihellcflhaaGreatDoor.Gens
open Go.RowKit Lists Ints
set_option linter.unusedVariables false

set_option maxHeartbeats 2000000 in
set_option maxRecDepth 100000 in
theorem large_any : ∀ (n : Nat) (t : Gn) (v : Value) (B : Nat) (deep : Int) (dn : Nat) (w : World), GAt w (GBel B) n v t → B ≤ w.heap.size → t.size ≤ 4294967296 → deep = dn → dn ≤ 6 →
    Calls Tryz.prog 21 #[v, .int .i64 deep] w fun e w' => e = .returned (.tuple #[.int .i64 (largeG t dn).1, .bool (largeG t dn).2]) ∧ Below w.heap.size w w' := by
  intro n
  induction n with
  | zero => intro t v B deep dn w h; exact h.elim
  | succ n ih =>
    intro t v B deep dn w h hB hsz hd hdn
    obtain ⟨m, A, c, e, hw, rfl, hit⟩ := h.open_
    obtain rfl : n = m := by omega
    have IH := Lib.hid ih
    have HIT := Lib.hid hit
    have HB := Lib.hid hB
    have HS := Lib.hid hsz
    have hln : t.subs.length ≤ 4294967296 := by have := glen_sizes t.subs; have := gsize_subs t; omega
    have EQ := Lib.hid (largeG_eq t dn)
    have H0 : Below w.heap.size w (w.alloc (gc t A c)) := (Below.refl _ _).alloc (Nat.le_refl _) _
    have H0 := Lib.hid H0
    have SB := Lib.hid (gsize_subs t)
    have dlo : 0 ≤ deep := by omega
    have dhi : deep ≤ 6 := by omega
    have HD := Lib.hid hd
    clear ih hit h hB hsz e hw hd
    by_cases h6 : 6 ≤ dn
    · have h6' : (6 : Int) ≤ deep := by have := HD.out; omega
      have EQ := Lib.hid (show largeG t dn = (1, true) by rw [EQ.out, if_pos h6])
      go_enter Tryz.func21, Tryz.ntmps21
      go_wp2_with fail
      go_ret2
      exact ⟨by rw [EQ.out]; rfl, H0.out⟩
    · have h6' : ¬ (6 : Int) ≤ deep := by have := HD.out; omega
      have EQ := Lib.hid (show largeG t dn = largeGs t.subs (dn + 1) 1 by rw [EQ.out, if_neg h6])
      go_enter Tryz.func21, Tryz.ntmps21
      go_wp2_with fail
      go_loopw [6, 7] (fun a i wr => ∃ (k o : Nat), k ≤ t.subs.length ∧ i = .int .i64 k ∧ a = .int .i64 o ∧ o ≤ 30 ∧ Below (w.alloc (gc t A c)).heap.size (w.alloc (gc t A c)) wr ∧ Hid (largeG t dn = largeGs (t.subs.drop k) (dn + 1) o)) (fun _ i _ => t.subs.length - (intOf i).toNat)
      case atStart => exact ⟨0, 1, Nat.zero_le _, rfl, rfl, by omega, Below.refl _ _, (show largeG t dn = largeGs (t.subs.drop 0) (dn + 1) 1 from EQ.out)⟩
      case round =>
        obtain ⟨k, o, hk, rfl, rfl, ho, hb, hz⟩ := hrel
        obtain ⟨_, _, _, cb⟩ := gbox w wr _ _ _ _ hb
        have hw : Below w.heap.size w wr := on H0.out hb
        have HBW := Lib.hid hb
        have HWW := Lib.hid hw
        clear hb hw
        by_cases hlt : k < t.subs.length
        · obtain ⟨ib, off, D, d, rfl, c0, c1, c2, c3, hti⟩ := sub_as HIT.out (HWW.out.mono HB.out) k hlt
          have hsi : (t.subs[k]'hlt).size ≤ 4294967296 := by have := gsize_mem t.subs _ (List.getElem_mem hlt); have h3 := HS.out; have := SB.out; omega
          have C1 := IH.out (t.subs[k]'hlt) _ B (deep + 1) (dn + 1) wr hti (Nat.le_trans HB.out HWW.out.size) hsi (by have := HD.out; omega) (by omega)
          have DR := Lib.hid (largeGs_drop t.subs k (dn + 1) o hlt)
          have KL := largeG_le (t.subs[k]'hlt) (dn + 1) (by omega)
          clear hti hsi
          generalize hgl : largeG (t.subs[k]'hlt) (dn + 1) = q at C1 DR KL
          clear hgl
          obtain ⟨j, is⟩ := q
          simp only [] at C1 KL
          have j300 : j ≤ 300 := by omega
          clear KL
          have DR := Lib.hid (show largeGs (t.subs.drop k) (dn + 1) o = if is = true ∨ 30 < o + j then (o + j, true) else largeGs (t.subs.drop (k + 1)) (dn + 1) (o + j) from DR.out)
          generalize t.subs[k]'hlt = y at C1 c0 c1 c2 c3
          have HC1 := Lib.hid C1
          clear C1
          cases is with
          | true =>
            have EV := Lib.hid (show largeG t dn = (o + j, true) by rw [hz.out, DR.out, if_pos (.inl rfl)])
            go_wp2_with fail
            refine HC1.out.mono ?_
            rintro e w2 ⟨rfl, hb2⟩
            have B2 := Lib.hid (on HWW.out hb2)
            clear hb2
            go_wp2_with fail
            go_ret2
            exact ⟨ret_p (a := .int .i64 (o + j : Nat)) (b := .bool true) (by rw [EV.out]) (by rw [EV.out]), B2.out⟩
          | false =>
            by_cases hq : 30 < o + j
            · have EV := Lib.hid (show largeG t dn = (o + j, true) by rw [hz.out, DR.out, if_pos (.inr hq)])
              have g1 : decide (30 < (o : Int) + (j : Int)) = true := by rw [decide_eq_true_eq]; omega
              go_wp2_with fail
              refine HC1.out.mono ?_
              rintro e w2 ⟨rfl, hb2⟩
              have B2 := Lib.hid (on HWW.out hb2)
              clear hb2
              go_wp2_with fail
              go_ret2
              exact ⟨ret_p (a := .int .i64 (o + j : Nat)) (b := .bool true) (by rw [EV.out]) (by rw [EV.out]), B2.out⟩
            · have EV := Lib.hid (show largeG t dn = largeGs (t.subs.drop (k + 1)) (dn + 1) (o + j) by rw [hz.out, DR.out, if_neg (by simp; omega)])
              have g1 : decide (30 < (o : Int) + (j : Int)) = false := by rw [decide_eq_false_iff_not]; omega
              go_wp2_with fail
              refine HC1.out.mono ?_
              rintro e w2 ⟨rfl, hb2⟩
              have B2 := Lib.hid (on HBW.out hb2)
              clear hb2
              go_wp2_with fail
              go_roundw
              case rel => exact ⟨k + 1, o + j, hlt, by go_num, by go_num, by omega, B2.out, EV.out⟩
              case measure => simp [intOf]; omega
        · have g1 : decide (30 < (o : Int)) = false := by rw [decide_eq_false_iff_not]; omega
          have EV := Lib.hid (show largeG t dn = (o, false) by
            rw [hz.out, List.drop_eq_nil_of_le (by omega), largeGs]
            congr 1
            rw [decide_eq_false_iff_not]; omega)
          go_wp2_with fail
          go_ret2
          exact ⟨ret_p (a := .int .i64 (o : Nat)) (b := .bool false) (by rw [EV.out]) (by rw [EV.out]), HWW.out⟩
end Go.Proofs.YtabkihellcflhaaGreatDoor.Gens
