/- Contract of the statements' own sameness of values. Conditions: none. -/
import Derived.Test.YtffkppjmdelajaaDoorValL
import Derived.Test.YtffkppjmdelajaaDoorItem
import Derived.StillTailTactics
import Derived.Outline
namespace Go.Proofs.YtffkppjmdelajaaDoor.Vals
open Go.RowKit Lists Ints
set_option linter.unusedVariables false

set_option maxHeartbeats 1000000 in
set_option maxRecDepth 100000 in
theorem same_any : ∀ (n : Nat) (t u : Tr) (v v' : Value) (B : Nat) (m : Nat) (w : World), TAt w (Bel B) n v t → TAt w (Bel B) m v' u → B ≤ w.heap.size → t.size ≤ 4294967296 → u.size ≤ 4294967296 →
    Calls Tryd.prog 21 #[v, v'] w fun e w' => e = .returned (.bool (sameV t u)) ∧ Below w.heap.size w w' := by
  intro n
  induction n with
  | zero => intro t u v v' B m w h; exact h.elim
  | succ n ih =>
    intro t u v v' B m w h h' hB hsz hsz'
    obtain ⟨q, A, c, e, hw, rfl, hit⟩ := h.open_
    obtain rfl : n = q := by omega
    obtain ⟨q, A', c', e', hw', rfl, hit'⟩ := h'.open_
    have IH := Lib.hid ih
    have HIT := Lib.hid hit
    have HIT' := Lib.hid hit'
    have HB := Lib.hid hB
    have HS := Lib.hid hsz
    have HS' := Lib.hid hsz'
    have hln : t.items.length ≤ 4294967296 := by have := len_sizes t.items; have := size_items t; omega
    have hln' : u.items.length ≤ 4294967296 := by have := len_sizes u.items; have := size_items u; omega
    clear ih hit h hB hsz e hw hit' h' hsz' e' hw'
    cases t with | node l x its =>
    cases u with | node l' x' its' =>
    simp only [Tr.list, Tr.num, Tr.items] at *
    by_cases hll : l = l'
    · subst hll
      by_cases hxx : x = x'
      · subst hxx
        by_cases hlen : its.length = its'.length
        · have hne : ((its.length : Int) != (its'.length : Int)) = false := by rw [bne_eq_false_iff_eq]; omega
          have HL := Lib.hid hlen
          clear hlen
          have AV := Lib.hid (fun k h h' hs => sameV_at (l := l) (l' := l) (x := x) (x' := x) (i := its) (i' := its') k h h' hs)
          have AE := Lib.hid (fun (h : its = its') => (sameV_iff (.node l x its) (.node l x its')).2 (by rw [h]))
          cases l
          all_goals
            go_enter Tryd.func21, Tryd.ntmps21
            go_wp2_with fail
            go_loopw [5] (fun i wr => ∃ k : Nat, k ≤ its.length ∧ i = .int .i64 k ∧ Below (w.heap.size + 1 + 1) ((w.alloc (.cells #[.bool _, .int .i64 x, .slice A its.length c] 38)).alloc (.cells #[.bool _, .int .i64 x, .slice A' its'.length c'] 38)) wr ∧ Hid (its.take k = its'.take k)) (fun i _ => its.length - (intOf i).toNat)
            case atStart => exact ⟨0, Nat.zero_le _, rfl, Below.refl _ _, rfl⟩
            case round =>
              obtain ⟨k, hk, rfl, hb, hz⟩ := hrel
              have cb := hb.cell (p := ⟨w.heap.size, 2, none⟩) (by show w.heap.size < _; omega)
              have cb2 := hb.cell (p := ⟨w.heap.size + 1, 2, none⟩) (by show w.heap.size + 1 < _; omega)
              have hw : Below w.heap.size w wr := (((Below.refl _ _).alloc (Nat.le_refl _) _).alloc (by simp) _).trans (hb.mono (by omega))
              have hs2 : w.heap.size + 1 + 1 ≤ wr.heap.size := by have := hb.size; simpa using this
              have cb' : wr.cell? ⟨w.heap.size, 2, none⟩ = some (.slice A its.length c) := by rw [cb, World.cell?_alloc_lt _ _ _ (by simp)]; simp
              have cb2' : wr.cell? ⟨w.heap.size + 1, 2, none⟩ = some (.slice A' its'.length c') := by rw [cb2]; simp
              clear cb cb2
              by_cases hlt : k < its.length
              · have hlt2 : k < its'.length := by have := HL.out; omega
                obtain ⟨b, off, x0, x1, x2, rfl, c0, c1, c2, hti⟩ := item_at HIT.out (hw.mono HB.out) k hlt
                obtain ⟨b2, off2, y0, y1, y2, rfl, d0, d1, d2, hti2⟩ := item_at HIT'.out (hw.mono HB.out) k hlt2
                have g1 : (k : Int) < its.length := by omega
                have g2 : (k : Int) < its'.length := by omega
                have hsi : (its[k]'hlt).size ≤ 4294967296 := by have := size_mem its _ (List.getElem_mem hlt); have h3 := HS.out; simp only [Tr.size] at h3; omega
                have hsi2 : (its'[k]'hlt2).size ≤ 4294967296 := by have := size_mem its' _ (List.getElem_mem hlt2); have h3 := HS'.out; simp only [Tr.size] at h3; omega
                have C1 := IH.out (its[k]'hlt) (its'[k]'hlt2) _ _ B q wr.drew hti.drew hti2.drew (by have := HB.out; show B ≤ wr.heap.size; omega) hsi hsi2
                have hb0 : Below wr.heap.size wr wr.drew := (Below.refl _ _).drew
                clear hti hti2 hsi hsi2
                by_cases hs : sameV (its[k]'hlt) (its'[k]'hlt2) = true
                · have hz2 := Lib.hid (show its.take (k + 1) = its'.take (k + 1) by
                    rw [List.take_succ_eq_append_getElem hlt, List.take_succ_eq_append_getElem hlt2, hz.out, (sameV_iff _ _).1 hs])
                  rw [hs] at C1
                  have HC1 := Lib.hid C1
                  clear C1 hs
                  go_wp2_with fail
                  go_still_tail 10, (by kernel_rfl)
                  change wpList _ _ _ _ _ wr.drew
                  generalize wr.drew = wd at HC1 hb0
                  go_wp2_with fail
                  refine HC1.out.mono ?_
                  rintro e w2 ⟨rfl, hb2⟩
                  have hb3 := on hb0 hb2
                  clear hb2 hb0 HC1
                  go_wp2_with fail
                  go_roundw
                  case rel => exact ⟨k + 1, hlt, by go_num, hb.trans (hb3.mono hs2), hz2.out⟩
                  case measure => simp [intOf]; omega
                · have hs' : sameV (its[k]'hlt) (its'[k]'hlt2) = false := by simpa using hs
                  have hv := Lib.hid (AV.out k hlt hlt2 hs)
                  rw [hs'] at C1
                  have HC1 := Lib.hid C1
                  clear C1 hs hs'
                  go_wp2_with fail
                  go_still_tail 10, (by kernel_rfl)
                  change wpList _ _ _ _ _ wr.drew
                  generalize wr.drew = wd at HC1 hb0
                  go_wp2_with fail
                  refine HC1.out.mono ?_
                  rintro e w2 ⟨rfl, hb2⟩
                  have hb3 := on hb0 hb2
                  clear hb2 hb0 HC1
                  go_wp2_with fail
                  go_ret
                  exact ⟨ret_b hv.out.symm, on hw hb3⟩
              · have hv := Lib.hid (AE.out (by
                  have h1 := hz.out
                  rw [List.take_of_length_le (by omega), List.take_of_length_le (by have := HL.out; omega)] at h1
                  exact h1))
                have g1 : ¬ (k : Int) < its.length := by omega
                go_wp2_with fail
                go_ret
                exact ⟨ret_b hv.out.symm, hw⟩
        · have hv := Lib.hid (show sameV (.node l x its) (.node l x its') = false by
            rw [Bool.eq_false_iff]; intro h
            have h2 := (sameV_iff _ _).1 h
            simp only [Tr.node.injEq, true_and] at h2
            subst h2; exact hlen rfl)
          have hne : ((its.length : Int) != (its'.length : Int)) = true := by rw [bne_iff_ne]; omega
          clear hlen
          cases l
          all_goals
            go_enter Tryd.func21, Tryd.ntmps21
            go_wp2_with fail
            go_ret
            exact ⟨ret_b hv.out.symm, (((Below.refl _ _).alloc (Nat.le_refl _) _).alloc (by simp) _)⟩
      · have hv := Lib.hid (show sameV (.node l x its) (.node l x' its') = false by
          rw [Bool.eq_false_iff]; intro h
          have h2 := (sameV_iff _ _).1 h
          simp only [Tr.node.injEq, true_and] at h2
          exact hxx h2.1)
        have hne : (x != x') = true := by rw [bne_iff_ne]; exact hxx
        clear hxx
        cases l
        all_goals
          go_enter Tryd.func21, Tryd.ntmps21
          go_wp2_with fail
          go_ret
          exact ⟨ret_b hv.out.symm, (((Below.refl _ _).alloc (Nat.le_refl _) _).alloc (by simp) _)⟩
    · have hv := Lib.hid (show sameV (.node l x its) (.node l' x' its') = false by
        rw [Bool.eq_false_iff]; intro h
        have h2 := (sameV_iff _ _).1 h
        simp only [Tr.node.injEq] at h2
        exact hll h2.1)
      cases l <;> cases l'
      any_goals exact absurd rfl hll
      all_goals
        clear hll
        go_enter Tryd.func21, Tryd.ntmps21
        go_wp2_with fail
        go_ret
        exact ⟨ret_b hv.out.symm, (((Below.refl _ _).alloc (Nat.le_refl _) _).alloc (by simp) _)⟩
end Go.Proofs.YtffkppjmdelajaaDoor.Vals
