/- Contracts of the document's own answers on values: ValueFault, ValueText; the statements' sameness of values. Conditions: the size. -/
import Derived.Test.YtgeljcfokeiaeaaDoorValL
import Derived.Test.YtgeljcfokeiaeaaDoorDigits
import Derived.Deep.QuietTactic
import Derived.Outline
namespace Go.Proofs.YtgeljcfokeiaeaaDoor.Vals
open Go.RowKit Lists Ints Ref
open Go.Lib (itoa)
set_option linter.unusedVariables false

/-- an item of a value, read at a later world -/
theorem item_at {w wr : World} {B n : Nat} {A : Option Addr} {l : List Tr}
    (hit : 0 < l.length → ∃ b off, A = some ⟨b, off, none⟩ ∧ Bel B b ∧ ∀ j (h : j < l.length), ∃ x0 x1 x2, w.cell? ⟨b, off + j * 3, none⟩ = some x0 ∧ w.cell? ⟨b, off + j * 3 + 1, none⟩ = some x1 ∧ w.cell? ⟨b, off + j * 3 + 2, none⟩ = some x2 ∧ TAt w (Bel B) n (.agg #[x0, x1, x2]) (l[j]'h))
    (hb : Below B w wr) (k : Nat) (h : k < l.length) : ∃ b off x0 x1 x2, A = some ⟨b, off, none⟩ ∧ wr.cell? ⟨b, off + k * 3, none⟩ = some x0 ∧ wr.cell? ⟨b, off + k * 3 + 1, none⟩ = some x1 ∧ wr.cell? ⟨b, off + k * 3 + 2, none⟩ = some x2 ∧ TAt wr (Bel B) n (.agg #[x0, x1, x2]) (l[k]'h) := by
  obtain ⟨b, off, e, hB, hc⟩ := hit (by omega)
  obtain ⟨x0, x1, x2, c0, c1, c2, ht⟩ := hc k h
  exact ⟨b, off, x0, x1, x2, e, (hb.cell (p := ⟨b, _, none⟩) hB).trans c0, (hb.cell (p := ⟨b, _, none⟩) hB).trans c1, (hb.cell (p := ⟨b, _, none⟩) hB).trans c2, ht.below hb⟩

set_option maxHeartbeats 1000000 in
set_option maxRecDepth 100000 in
theorem fault_any : ∀ (n : Nat) (t : Tr) (v : Value) (B : Nat) (deep : Nat) (w : World), TAt w (Bel B) n v t → B ≤ w.heap.size → t.size ≤ 4294967296 → deep ≤ 6 →
    Calls Tryd.prog 9 #[v, .int .i64 deep] w fun e w' => e = .returned (.int .i64 (faultV t deep)) ∧ Below w.heap.size w w' := by
  intro n
  induction n with
  | zero => intro t v B deep w h; exact h.elim
  | succ n ih =>
    intro t v B deep w h hB hsz hd
    obtain ⟨m, A, c, e, hw, rfl, hit⟩ := h.open_
    obtain rfl : n = m := by omega
    have IH := Lib.hid ih
    have HIT := Lib.hid hit
    have HB := Lib.hid hB
    have HS := Lib.hid hsz
    have hln : t.items.length ≤ 4294967296 := by have := len_sizes t.items; have := size_items t; omega
    have FE := Lib.hid (faultV_eq t deep)
    clear ih hit h hB hsz e hw
    cases t with | node l x its =>
    simp only [Tr.list, Tr.num, Tr.items] at *
    have FB : formBad (.node l x its) = ((l && (x != 0)) || (!l && !its.isEmpty)) := rfl
    cases l with
    | true =>
      by_cases hx : x = 0
      · subst hx
        have hv := Lib.hid (show faultV (.node true 0 its) deep = if 6 ≤ deep then 4 else faultVs its (deep + 1) by rw [FE.out, FB]; simp)
        by_cases h6 : 6 ≤ deep
        · have hv := Lib.hid (show faultV (.node true 0 its) deep = 4 by rw [hv.out, if_pos h6])
          have h6' : (6 : Int) ≤ (deep : Int) := by omega
          go_enter Tryd.func9, Tryd.ntmps9
          go_wp2_with fail
          go_ret
          exact ⟨ret_int hv.out.symm, (Below.refl _ _).alloc (Nat.le_refl _) _⟩
        · have hv := Lib.hid (show faultV (.node true 0 its) deep = faultVs its (deep + 1) by rw [hv.out, if_neg h6])
          have h6' : ¬ (6 : Int) ≤ (deep : Int) := by omega
          go_enter Tryd.func9, Tryd.ntmps9
          go_wp2_with fail
          go_loopw [5] (fun i wr => ∃ k : Nat, k ≤ its.length ∧ i = .int .i64 k ∧ Below (w.heap.size + 1) (w.alloc (.cells #[.bool true, .int .i64 0, .slice A its.length c] 24)) wr ∧ Hid (faultVs (its.take k) (deep + 1) = 0)) (fun i _ => its.length - (intOf i).toNat)
          case atStart => exact ⟨0, Nat.zero_le _, rfl, Below.refl _ _, rfl⟩
          case round =>
            obtain ⟨k, hk, rfl, hb, hz⟩ := hrel
            have cb := hb.cell (p := ⟨w.heap.size, 2, none⟩) (by show w.heap.size < _; omega)
            have hw : Below w.heap.size w wr := ((Below.refl _ _).alloc (Nat.le_refl _) _).trans (hb.mono (by omega))
            have hs2 : w.heap.size + 1 ≤ wr.heap.size := by have := hb.size; simpa using this
            have cb' : wr.cell? ⟨w.heap.size, 2, none⟩ = some (.slice A its.length c) := by rw [cb]; simp
            clear cb
            by_cases hlt : k < its.length
            · obtain ⟨b, off, x0, x1, x2, rfl, c0, c1, c2, hti⟩ := item_at HIT.out (hw.mono HB.out) k hlt
              have C1 := IH.out (its[k]'hlt) _ B (deep + 1) wr hti (by have := HB.out; omega) (by have := size_mem its _ (List.getElem_mem hlt); have h3 := HS.out; simp only [Tr.size] at h3; omega) (by omega)
              have e1 : ((deep + 1 : Nat) : Int) = (deep : Int) + 1 := by omega
              rw [e1] at C1
              clear hti e1
              by_cases hf : faultV (its[k]'hlt) (deep + 1) = 0
              · have hz2 := Lib.hid (fault_step0 its k _ hlt hz.out hf)
                rw [hf] at C1
                have HC1 := Lib.hid C1
                clear C1 hf
                go_wp2_with fail
                refine HC1.out.mono ?_
                rintro e w2 ⟨rfl, hb2⟩
                go_wp2_with fail
                go_roundw
                case rel => exact ⟨k + 1, hlt, by go_num, hb.trans (hb2.mono hs2), hz2.out⟩
                case measure => simp [intOf]; omega
              · have hr := Lib.hid (fault_step1 its k _ hlt hz.out hf)
                have hne : (faultV (its[k]'hlt) (deep + 1) != 0) = true := by rw [bne_iff_ne]; exact hf
                generalize faultV (its[k]'hlt) (deep + 1) = q at C1 hr hne
                have HC1 := Lib.hid C1
                clear C1 hf
                go_wp2_with fail
                refine HC1.out.mono ?_
                rintro e w2 ⟨rfl, hb2⟩
                go_wp2_with fail
                go_ret
                exact ⟨ret_int (hr.out.trans hv.out.symm), hw.trans (hb2.mono (by omega))⟩
            · have hr := Lib.hid (show faultVs its (deep + 1) = 0 by rw [← List.take_of_length_le (show its.length ≤ k by omega)]; exact hz.out)
              go_wp2_with fail
              go_ret
              exact ⟨ret_int (hr.out.symm.trans hv.out.symm), hw⟩
      · have hv := Lib.hid (show faultV (.node true x its) deep = 3 by rw [FE.out, FB]; simp [hx])
        have hne : (x != 0) = true := by rw [bne_iff_ne]; exact hx
        clear hx
        go_enter Tryd.func9, Tryd.ntmps9
        go_wp2_with fail
        go_ret
        exact ⟨ret_int hv.out.symm, (Below.refl _ _).alloc (Nat.le_refl _) _⟩
    | false =>
      by_cases hi : its = []
      · subst hi
        have hv := Lib.hid (show faultV (.node false x []) deep = if 6 ≤ deep then 4 else 0 by rw [FE.out, FB]; simp [faultVs])
        by_cases h6 : 6 ≤ deep
        · have hv := Lib.hid (show faultV (.node false x []) deep = 4 by rw [hv.out, if_pos h6])
          have h6' : (6 : Int) ≤ (deep : Int) := by omega
          go_enter Tryd.func9, Tryd.ntmps9
          go_wp2_with fail
          go_ret
          exact ⟨ret_int hv.out.symm, (Below.refl _ _).alloc (Nat.le_refl _) _⟩
        · have hv := Lib.hid (show faultV (.node false x []) deep = 0 by rw [hv.out, if_neg h6])
          have h6' : ¬ (6 : Int) ≤ (deep : Int) := by omega
          go_enter Tryd.func9, Tryd.ntmps9
          go_wp2_with fail
          refine wp_loop_rounds 1 ?_
          rw [rounds_succ]
          go_wp2_with fail
          go_ret
          exact ⟨ret_int hv.out.symm, (Below.refl _ _).alloc (Nat.le_refl _) _⟩
      · have hp : 0 < its.length := List.length_pos_iff.2 hi
        have hv := Lib.hid (show faultV (.node false x its) deep = 3 by
          have : its.isEmpty = false := by cases its with | nil => exact absurd rfl hi | cons _ _ => rfl
          rw [FE.out, FB, this]; simp)
        have hp' : (0 : Int) < its.length := by omega
        clear hi
        go_enter Tryd.func9, Tryd.ntmps9
        go_wp2_with fail
        go_ret
        exact ⟨ret_int hv.out.symm, (Below.refl _ _).alloc (Nat.le_refl _) _⟩

theorem text_size {s : ByteArray} {t : Tr} (h : s.data.toList = textV t) (hi : t.i64) (hs : t.size ≤ 4294967296) : s.size ≤ 103079215104 := by
  have := textV_le t hi
  rw [size_toList, h]
  omega
set_option maxHeartbeats 1000000 in
set_option maxRecDepth 100000 in
theorem text_any : ∀ (n : Nat) (t : Tr) (v : Value) (B : Nat) (w : World), TAt w (Bel B) n v t → B ≤ w.heap.size → t.size ≤ 4294967296 →
    Calls Tryd.prog 16 #[v] w fun e w' => ∃ s : ByteArray, e = .returned (.string s) ∧ s.data.toList = textV t ∧ Below w.heap.size w w' := by
  intro n
  induction n with
  | zero => intro t v B w h; exact h.elim
  | succ n ih =>
    intro t v B w h hB hsz
    have hi64 := h.i64
    obtain ⟨m, A, c, e, hw, rfl, hit⟩ := h.open_
    obtain rfl : n = m := by omega
    have IH := Lib.hid ih
    have HIT := Lib.hid hit
    have HB := Lib.hid hB
    have HS := Lib.hid hsz
    have hln : t.items.length ≤ 4294967296 := by have := len_sizes t.items; have := size_items t; omega
    clear ih hit h hB hsz e hw
    cases t with | node l x its =>
    simp only [Tr.list, Tr.num, Tr.items] at *
    have I6 := Lib.hid hi64
    clear hi64
    cases l with
    | false =>
      have hv := Lib.hid (textV_num (.node false x its) rfl)
      have DI := Lib.hid (fun w => digits_any x (Tr.i64_num I6.out) w)
      go_enter Tryd.func16, Tryd.ntmps16
      go_wp2_with fail
      refine (DI.out _).mono ?_
      rintro e w1 ⟨s1, rfl, hs1, hb1⟩
      have HS1 := Lib.hid hs1
      clear hs1
      go_wp2_with fail
      go_ret
      exact ⟨s1, rfl, HS1.out.trans hv.out.symm, after1 hb1⟩
    | true =>
      have hv := Lib.hid (textV_list (.node true x its) rfl)
      go_enter Tryd.func16, Tryd.ntmps16
      go_wp2_with fail
      go_loopw [3, 4] (fun s i wr => ∃ (k : Nat) (u : ByteArray), k ≤ its.length ∧ i = .int .i64 k ∧ s = .string u ∧ Below (w.heap.size + 1) (w.alloc (.cells #[.bool true, .int .i64 x, .slice A its.length c] 24)) wr ∧ Hid (u.data.toList = 40 :: textVs (its.take k))) (fun _ i _ => its.length - (intOf i).toNat)
      case atStart => exact ⟨0, _, Nat.zero_le _, rfl, rfl, Below.refl _ _, (show [40] = 40 :: textVs (its.take 0) by simp [textVs])⟩
      case round =>
        obtain ⟨k, u, hk, rfl, rfl, hb, hz⟩ := hrel
        have cb := hb.cell (p := ⟨w.heap.size, 2, none⟩) (by show w.heap.size < _; omega)
        have hw : Below w.heap.size w wr := ((Below.refl _ _).alloc (Nat.le_refl _) _).trans (hb.mono (by omega))
        have hs2 : w.heap.size + 1 ≤ wr.heap.size := by have := hb.size; simpa using this
        have cb' : wr.cell? ⟨w.heap.size, 2, none⟩ = some (.slice A its.length c) := by rw [cb]; simp
        clear cb
        have husz : u.size ≤ 103079215104 := by
          have h1 := textVs_le (its.take k) ((i64s_iff _).2 (fun y hy => Tr.i64_items I6.out y (List.mem_of_mem_take hy)))
          have h2 := HS.out
          simp only [Tr.size] at h2
          have h3 : sizes (its.take k) ≤ sizes its := sizes_take its k
          rw [size_toList, hz.out, List.length_cons]
          omega
        by_cases hlt : k < its.length
        · obtain ⟨b, off, x0, x1, x2, rfl, c0, c1, c2, hti⟩ := item_at HIT.out (hw.mono HB.out) k hlt
          have hsi : (its[k]'hlt).size ≤ 4294967296 := by have := size_mem its _ (List.getElem_mem hlt); have h3 := HS.out; simp only [Tr.size] at h3; omega
          have C1 := IH.out (its[k]'hlt) _ B wr hti (by have := HB.out; omega) hsi
          have TK := Lib.hid (textVs_take its k hlt)
          have I1 := Lib.hid (Tr.i64_items I6.out _ (List.getElem_mem hlt))
          have SI := Lib.hid hsi
          clear hti hsi
          generalize its[k]'hlt = y at C1 TK I1 SI
          have HC1 := Lib.hid C1
          clear C1
          rcases (show k = 0 ∨ 0 < k by omega) with h0 | h0
          · have TK := Lib.hid (show 40 :: textVs (its.take (k + 1)) = u.data.toList ++ textV y by rw [TK.out, hz.out, if_pos h0]; simp)
            have h0' : decide (0 < (k : Int)) = false := by rw [decide_eq_false_iff_not]; omega
            have h0'' : decide (0 < k) = false := by rw [decide_eq_false_iff_not]; omega
            have H0 := Lib.hid h0
            clear h0
            go_wp2_with fail
            refine HC1.out.mono ?_
            rintro e w2 ⟨s2, rfl, hs2', hb2⟩
            have z2 : s2.size ≤ 103079215104 := text_size hs2' I1.out SI.out
            have HS2 := Lib.hid hs2'
            clear hs2'
            go_wp2_with fail
            go_roundw
            case rel => exact ⟨k + 1, _, hlt, by go_num, rfl, hb.trans (hb2.mono hs2), (show (_ ++ _ : ByteArray).data.toList = _ by rw [cat_toList, HS2.out, TK.out])⟩
            case measure => simp [intOf]; omega
          · have TK := Lib.hid (show 40 :: textVs (its.take (k + 1)) = u.data.toList ++ [32] ++ textV y by rw [TK.out, hz.out, if_neg (by omega)]; simp)
            have h0' : decide (0 < (k : Int)) = true := by rw [decide_eq_true_eq]; omega
            have h0'' : decide (0 < k) = true := by rw [decide_eq_true_eq]; omega
            go_wp2_with fail
            refine HC1.out.mono ?_
            rintro e w2 ⟨s2, rfl, hs2', hb2⟩
            have z2 : s2.size ≤ 103079215104 := text_size hs2' I1.out SI.out
            have HS2 := Lib.hid hs2'
            clear hs2'
            go_wp2_with fail
            go_roundw
            case rel => exact ⟨k + 1, _, hlt, by go_num, rfl, hb.trans (hb2.mono hs2), (show (_ ++ _ : ByteArray).data.toList = _ by rw [cat_toList, cat_toList, HS2.out, TK.out])⟩
            case measure => simp [intOf]; omega
        · have hr := Lib.hid (show u.data.toList ++ [41] = textV (.node true x its) by rw [hv.out, hz.out, List.take_of_length_le (by omega)]; rfl)
          go_wp2_with fail
          go_ret
          exact ⟨_, rfl, by rw [cat_toList]; exact hr.out, hw⟩
end Go.Proofs.YtgeljcfokeiaeaaDoor.Vals
