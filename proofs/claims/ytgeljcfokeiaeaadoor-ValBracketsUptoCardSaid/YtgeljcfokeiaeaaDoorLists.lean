/- Contract of the statements' own count of a value's lists. Condition: the size. -/
import Derived.Test.YtgeljcfokeiaeaaDoorBracketP
import Derived.Test.YtgeljcfokeiaeaaDoorCheck
namespace Go.Proofs.YtgeljcfokeiaeaaDoor.Vals
open Go.RowKit Lists Ints Ref
set_option linter.unusedVariables false

set_option maxHeartbeats 2000000 in
set_option maxRecDepth 100000 in
theorem lists_any : ∀ (n : Nat) (t : Tr) (v : Value) (B : Nat) (w : World), TAt w (Bel B) n v t → B ≤ w.heap.size → t.size ≤ 4294967296 →
    Calls Tryd.prog 19 #[v] w fun e w' => e = .returned (.int .i64 (listsN t : Nat)) ∧ Below w.heap.size w w' := by
  intro n
  induction n with
  | zero => intro t v B w h; exact h.elim
  | succ n ih =>
    intro t v B w h hB hsz
    obtain ⟨m, A, c, e, hw, rfl, hit⟩ := h.open_
    obtain rfl : n = m := by omega
    have IH := Lib.hid ih
    have HIT := Lib.hid hit
    have HB := Lib.hid hB
    have HS := Lib.hid hsz
    have hln : t.items.length ≤ 4294967296 := by have := len_sizes t.items; have := size_items t; omega
    have LE := Lib.hid (listsN_eq t)
    clear ih hit h hB hsz e hw
    cases t with | node l x its =>
    simp only [Tr.list, Tr.num, Tr.items] at *
    obtain ⟨b, hb01, hbe⟩ : ∃ b : Nat, b ≤ 1 ∧ b = if l = true then 1 else 0 := ⟨if l = true then 1 else 0, by split <;> omega, rfl⟩
    have LE2 := Lib.hid (show listsN (.node l x its) = b + listsNs its by rw [hbe]; exact LE.out)
    clear LE
    have HBE := Lib.hid hbe
    have HSI := Lib.hid (show 1 + sizes its ≤ 4294967296 by have := HS.out; simp only [Tr.size] at this; omega)
    have H0 : Below w.heap.size w (w.alloc (.cells #[.bool l, .int .i64 x, .slice A its.length c] 24)) := (Below.refl _ _).alloc (Nat.le_refl _) _
    have H0 := Lib.hid H0
    clear hbe
    cases l
    all_goals
      have hb0 := HBE.out
      simp only [Bool.false_eq_true, if_false, if_true] at hb0
      have HB0 := Lib.hid hb0
      clear hb0
      go_enter Tryd.func19, Tryd.ntmps19
      go_wp2_with fail
      go_loopw [3, 4] (fun a i wr => ∃ (k o : Nat), k ≤ its.length ∧ i = .int .i64 k ∧ a = .int .i64 o ∧ o ≤ 4294967297 ∧ Below (w.heap.size + 1) (w.alloc (.cells #[.bool _, .int .i64 x, .slice A its.length c] 24)) wr ∧ Hid (o = b + listsNs (its.take k))) (fun _ i _ => its.length - (intOf i).toNat)
      case atStart => exact ⟨0, b, Nat.zero_le _, rfl, (by rw [HB0.out]; rfl), by omega, Below.refl _ _, (show b = b + listsNs (its.take 0) from rfl)⟩
      case round =>
        obtain ⟨k, o, hk, rfl, rfl, ho, hb, hz⟩ := hrel
        have cb := hb.cell (p := ⟨w.heap.size, 2, none⟩) (by show w.heap.size < _; omega)
        have hw : Below w.heap.size w wr := H0.out.trans (hb.mono (by omega))
        have hs2 : w.heap.size + 1 ≤ wr.heap.size := by have := hb.size; simpa using this
        have cb' : wr.cell? ⟨w.heap.size, 2, none⟩ = some (.slice A its.length c) := by rw [cb]; simp
        clear cb
        by_cases hlt : k < its.length
        · obtain ⟨ib, off, D, d, rfl, c0, c1, c2, hti⟩ := item_as HIT.out (hw.mono HB.out) k hlt
          have hsi : (its[k]'hlt).size ≤ 4294967296 := by have := size_mem its _ (List.getElem_mem hlt); have h3 := HSI.out; omega
          have C1 := IH.out (its[k]'hlt) _ B wr hti (by have := HB.out; omega) hsi
          have TK := Lib.hid (listsNs_take its k hlt)
          have OL : o + listsN (its[k]'hlt) ≤ 4294967297 := by
            have h1 := hz.out
            have h2 := sizes_take_get its k hlt
            have h3 := listsNs_le (its.take k)
            have h4 := listsN_le (its[k]'hlt)
            have h5 := HSI.out
            omega
          have NB : listsN (its[k]'hlt) ≤ 4294967296 := by have := listsN_le (its[k]'hlt); omega
          clear hti hsi
          generalize its[k]'hlt = y at C1 TK c0 c1 c2 OL NB
          generalize listsN y = j at C1 TK OL NB
          have HC1 := Lib.hid C1
          clear C1
          go_wp2_with fail
          refine HC1.out.mono ?_
          rintro e w2 ⟨rfl, hb2⟩
          go_wp2_with fail
          go_roundw
          case rel => exact ⟨k + 1, o + j, hlt, by go_num, by go_num, OL, hb.trans (hb2.mono hs2), (show o + j = b + listsNs (its.take (k + 1)) by rw [TK.out, hz.out]; omega)⟩
          case measure => simp [intOf]; omega
        · have hv := Lib.hid (show o = listsN (.node _ x its) by rw [LE2.out, hz.out, List.take_of_length_le (by omega)])
          go_wp2_with fail
          go_ret
          exact ⟨ret_v (a := .int .i64 (o : Nat)) (by rw [hv.out]), hw⟩
end Go.Proofs.YtgeljcfokeiaeaaDoor.Vals
