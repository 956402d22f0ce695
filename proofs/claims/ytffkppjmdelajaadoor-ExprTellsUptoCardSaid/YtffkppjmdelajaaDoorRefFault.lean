/- Contract of the document's own ValueFault. Condition: the size. -/
import Derived.Test.YtffkppjmdelajaaDoorValL
import Derived.Test.YtffkppjmdelajaaDoorItem
import Derived.Deep.QuietTactic
import Derived.Outline
namespace Go.Proofs.YtffkppjmdelajaaDoor.Vals
open Go.RowKit Lists Ints
set_option linter.unusedVariables false

set_option maxHeartbeats 1000000 in
set_option maxRecDepth 100000 in
theorem fault_any : ∀ (n : Nat) (t : Tr) (v : Value) (B : Nat) (deep : Nat) (w : World), TAt w (Bel B) n v t → B ≤ w.heap.size → t.size ≤ 4294967296 → deep ≤ 6 →
    Calls Tryd.prog 31 #[v, .int .i64 deep] w fun e w' => e = .returned (.int .i64 (faultV t deep)) ∧ Below w.heap.size w w' := by
  intro n
  induction n with
  | zero => intro t v B deep w h; exact h.elim
  | succ n ih =>
    intro t v B deep w h hB hsz hd
    obtain ⟨m, A, c, e, hw, rfl, hit⟩ := h.open_
    obtain rfl : n = m := by omega
    have IH := Lib.hid ih
    have HIT := Lib.hid hit
    have HB := Lib.hid hB
    have HS := Lib.hid hsz
    have hln : t.items.length ≤ 4294967296 := by have := len_sizes t.items; have := size_items t; omega
    have FE := Lib.hid (faultV_eq t deep)
    clear ih hit h hB hsz e hw
    cases t with | node l x its =>
    simp only [Tr.list, Tr.num, Tr.items] at *
    have FB : formBad (.node l x its) = ((l && (x != 0)) || (!l && !its.isEmpty)) := rfl
    cases l with
    | true =>
      by_cases hx : x = 0
      · subst hx
        have hv := Lib.hid (show faultV (.node true 0 its) deep = if 6 ≤ deep then 4 else faultVs its (deep + 1) by rw [FE.out, FB]; simp)
        by_cases h6 : 6 ≤ deep
        · have hv := Lib.hid (show faultV (.node true 0 its) deep = 4 by rw [hv.out, if_pos h6])
          have h6' : (6 : Int) ≤ (deep : Int) := by omega
          go_enter Tryd.func31, Tryd.ntmps31
          go_wp2_with fail
          go_ret
          exact ⟨ret_int hv.out.symm, (Below.refl _ _).alloc (Nat.le_refl _) _⟩
        · have hv := Lib.hid (show faultV (.node true 0 its) deep = faultVs its (deep + 1) by rw [hv.out, if_neg h6])
          have h6' : ¬ (6 : Int) ≤ (deep : Int) := by omega
          go_enter Tryd.func31, Tryd.ntmps31
          go_wp2_with fail
          go_loopw [5] (fun i wr => ∃ k : Nat, k ≤ its.length ∧ i = .int .i64 k ∧ Below (w.heap.size + 1) (w.alloc (.cells #[.bool true, .int .i64 0, .slice A its.length c] 38)) wr ∧ Hid (faultVs (its.take k) (deep + 1) = 0)) (fun i _ => its.length - (intOf i).toNat)
          case atStart => exact ⟨0, Nat.zero_le _, rfl, Below.refl _ _, rfl⟩
          case round =>
            obtain ⟨k, hk, rfl, hb, hz⟩ := hrel
            have cb := hb.cell (p := ⟨w.heap.size, 2, none⟩) (by show w.heap.size < _; omega)
            have hw : Below w.heap.size w wr := ((Below.refl _ _).alloc (Nat.le_refl _) _).trans (hb.mono (by omega))
            have hs2 : w.heap.size + 1 ≤ wr.heap.size := by have := hb.size; simpa using this
            have cb' : wr.cell? ⟨w.heap.size, 2, none⟩ = some (.slice A its.length c) := by rw [cb]; simp
            clear cb
            by_cases hlt : k < its.length
            · obtain ⟨b, off, x0, x1, x2, rfl, c0, c1, c2, hti⟩ := item_at HIT.out (hw.mono HB.out) k hlt
              have C1 := IH.out (its[k]'hlt) _ B (deep + 1) wr hti (by have := HB.out; omega) (by have := size_mem its _ (List.getElem_mem hlt); have h3 := HS.out; simp only [Tr.size] at h3; omega) (by omega)
              have e1 : ((deep + 1 : Nat) : Int) = (deep : Int) + 1 := by omega
              rw [e1] at C1
              clear hti e1
              by_cases hf : faultV (its[k]'hlt) (deep + 1) = 0
              · have hz2 := Lib.hid (fault_step0 its k _ hlt hz.out hf)
                rw [hf] at C1
                have HC1 := Lib.hid C1
                clear C1 hf
                go_wp2_with fail
                refine HC1.out.mono ?_
                rintro e w2 ⟨rfl, hb2⟩
                go_wp2_with fail
                go_roundw
                case rel => exact ⟨k + 1, hlt, by go_num, hb.trans (hb2.mono hs2), hz2.out⟩
                case measure => simp [intOf]; omega
              · have hr := Lib.hid (fault_step1 its k _ hlt hz.out hf)
                have hne : (faultV (its[k]'hlt) (deep + 1) != 0) = true := by rw [bne_iff_ne]; exact hf
                generalize faultV (its[k]'hlt) (deep + 1) = q at C1 hr hne
                have HC1 := Lib.hid C1
                clear C1 hf
                go_wp2_with fail
                refine HC1.out.mono ?_
                rintro e w2 ⟨rfl, hb2⟩
                go_wp2_with fail
                go_ret
                exact ⟨ret_int (hr.out.trans hv.out.symm), hw.trans (hb2.mono (by omega))⟩
            · have hr := Lib.hid (show faultVs its (deep + 1) = 0 by rw [← List.take_of_length_le (show its.length ≤ k by omega)]; exact hz.out)
              go_wp2_with fail
              go_ret
              exact ⟨ret_int (hr.out.symm.trans hv.out.symm), hw⟩
      · have hv := Lib.hid (show faultV (.node true x its) deep = 3 by rw [FE.out, FB]; simp [hx])
        have hne : (x != 0) = true := by rw [bne_iff_ne]; exact hx
        clear hx
        go_enter Tryd.func31, Tryd.ntmps31
        go_wp2_with fail
        go_ret
        exact ⟨ret_int hv.out.symm, (Below.refl _ _).alloc (Nat.le_refl _) _⟩
    | false =>
      by_cases hi : its = []
      · subst hi
        have hv := Lib.hid (show faultV (.node false x []) deep = if 6 ≤ deep then 4 else 0 by rw [FE.out, FB]; simp [faultVs])
        by_cases h6 : 6 ≤ deep
        · have hv := Lib.hid (show faultV (.node false x []) deep = 4 by rw [hv.out, if_pos h6])
          have h6' : (6 : Int) ≤ (deep : Int) := by omega
          go_enter Tryd.func31, Tryd.ntmps31
          go_wp2_with fail
          go_ret
          exact ⟨ret_int hv.out.symm, (Below.refl _ _).alloc (Nat.le_refl _) _⟩
        · have hv := Lib.hid (show faultV (.node false x []) deep = 0 by rw [hv.out, if_neg h6])
          have h6' : ¬ (6 : Int) ≤ (deep : Int) := by omega
          go_enter Tryd.func31, Tryd.ntmps31
          go_wp2_with fail
          refine wp_loop_rounds 1 ?_
          rw [rounds_succ]
          go_wp2_with fail
          go_ret
          exact ⟨ret_int hv.out.symm, (Below.refl _ _).alloc (Nat.le_refl _) _⟩
      · have hp : 0 < its.length := List.length_pos_iff.2 hi
        have hv := Lib.hid (show faultV (.node false x its) deep = 3 by
          have : its.isEmpty = false := by cases its with | nil => exact absurd rfl hi | cons _ _ => rfl
          rw [FE.out, FB, this]; simp)
        have hp' : (0 : Int) < its.length := by omega
        clear hi
        go_enter Tryd.func31, Tryd.ntmps31
        go_wp2_with fail
        go_ret
        exact ⟨ret_int hv.out.symm, (Below.refl _ _).alloc (Nat.le_refl _) _⟩

end Go.Proofs.YtffkppjmdelajaaDoor.Vals
