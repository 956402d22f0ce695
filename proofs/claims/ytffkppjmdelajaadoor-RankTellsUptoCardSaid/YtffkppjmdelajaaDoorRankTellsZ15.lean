/- RankTells, part 15 of the proof: Contract of the statements' own sameness of values. Conditions: none. · The statements' own Error of an error and its own number; the sameness of one value in two places. Conditions: the size; the library's variable that errors.As reads. · Contract of assayersame.Ints: it draws its order. Conditions: none but that the slices' cells are known. -/
import Derived.Test.YtffkppjmdelajaaDoorRankTellsZ2
import Derived.Test.YtffkppjmdelajaaDoorRankTellsZ14
import Derived.StillTailTactics
import Derived.Outline
import Derived.Test.YtffkppjmdelajaaDoorRankTellsZ11
import Derived.Test.YtffkppjmdelajaaDoorRankTellsZ1
/- Contract of the statements' own sameness of values. Conditions: none. -/
namespace Go.Proofs.YtffkppjmdelajaaDoor.Vals
open Go.RowKit Lists Ints
set_option linter.unusedVariables false

set_option maxHeartbeats 1000000 in
set_option maxRecDepth 100000 in
theorem same_any : ∀ (n : Nat) (t u : Tr) (v v' : Value) (B : Nat) (m : Nat) (w : World), TAt w (Bel B) n v t → TAt w (Bel B) m v' u → B ≤ w.heap.size → t.size ≤ 4294967296 → u.size ≤ 4294967296 →
    Calls Tryd.prog 21 #[v, v'] w fun e w' => e = .returned (.bool (sameV t u)) ∧ Below w.heap.size w w' := by
  intro n
  induction n with
  | zero => intro t u v v' B m w h; exact h.elim
  | succ n ih =>
    intro t u v v' B m w h h' hB hsz hsz'
    obtain ⟨q, A, c, e, hw, rfl, hit⟩ := h.open_
    obtain rfl : n = q := by omega
    obtain ⟨q, A', c', e', hw', rfl, hit'⟩ := h'.open_
    have IH := Lib.hid ih
    have HIT := Lib.hid hit
    have HIT' := Lib.hid hit'
    have HB := Lib.hid hB
    have HS := Lib.hid hsz
    have HS' := Lib.hid hsz'
    have hln : t.items.length ≤ 4294967296 := by have := len_sizes t.items; have := size_items t; omega
    have hln' : u.items.length ≤ 4294967296 := by have := len_sizes u.items; have := size_items u; omega
    clear ih hit h hB hsz e hw hit' h' hsz' e' hw'
    cases t with | node l x its =>
    cases u with | node l' x' its' =>
    simp only [Tr.list, Tr.num, Tr.items] at *
    by_cases hll : l = l'
    · subst hll
      by_cases hxx : x = x'
      · subst hxx
        by_cases hlen : its.length = its'.length
        · have hne : ((its.length : Int) != (its'.length : Int)) = false := by rw [bne_eq_false_iff_eq]; omega
          have HL := Lib.hid hlen
          clear hlen
          have AV := Lib.hid (fun k h h' hs => sameV_at (l := l) (l' := l) (x := x) (x' := x) (i := its) (i' := its') k h h' hs)
          have AE := Lib.hid (fun (h : its = its') => (sameV_iff (.node l x its) (.node l x its')).2 (by rw [h]))
          cases l
          all_goals
            go_enter Tryd.func21, Tryd.ntmps21
            go_wp2_with fail
            go_loopw [5] (fun i wr => ∃ k : Nat, k ≤ its.length ∧ i = .int .i64 k ∧ Below (w.heap.size + 1 + 1) ((w.alloc (.cells #[.bool _, .int .i64 x, .slice A its.length c] 38)).alloc (.cells #[.bool _, .int .i64 x, .slice A' its'.length c'] 38)) wr ∧ Hid (its.take k = its'.take k)) (fun i _ => its.length - (intOf i).toNat)
            case atStart => exact ⟨0, Nat.zero_le _, rfl, Below.refl _ _, rfl⟩
            case round =>
              obtain ⟨k, hk, rfl, hb, hz⟩ := hrel
              have cb := hb.cell (p := ⟨w.heap.size, 2, none⟩) (by show w.heap.size < _; omega)
              have cb2 := hb.cell (p := ⟨w.heap.size + 1, 2, none⟩) (by show w.heap.size + 1 < _; omega)
              have hw : Below w.heap.size w wr := (((Below.refl _ _).alloc (Nat.le_refl _) _).alloc (by simp) _).trans (hb.mono (by omega))
              have hs2 : w.heap.size + 1 + 1 ≤ wr.heap.size := by have := hb.size; simpa using this
              have cb' : wr.cell? ⟨w.heap.size, 2, none⟩ = some (.slice A its.length c) := by rw [cb, World.cell?_alloc_lt _ _ _ (by simp)]; simp
              have cb2' : wr.cell? ⟨w.heap.size + 1, 2, none⟩ = some (.slice A' its'.length c') := by rw [cb2]; simp
              clear cb cb2
              by_cases hlt : k < its.length
              · have hlt2 : k < its'.length := by have := HL.out; omega
                obtain ⟨b, off, x0, x1, x2, rfl, c0, c1, c2, hti⟩ := item_at HIT.out (hw.mono HB.out) k hlt
                obtain ⟨b2, off2, y0, y1, y2, rfl, d0, d1, d2, hti2⟩ := item_at HIT'.out (hw.mono HB.out) k hlt2
                have g1 : (k : Int) < its.length := by omega
                have g2 : (k : Int) < its'.length := by omega
                have hsi : (its[k]'hlt).size ≤ 4294967296 := by have := size_mem its _ (List.getElem_mem hlt); have h3 := HS.out; simp only [Tr.size] at h3; omega
                have hsi2 : (its'[k]'hlt2).size ≤ 4294967296 := by have := size_mem its' _ (List.getElem_mem hlt2); have h3 := HS'.out; simp only [Tr.size] at h3; omega
                have C1 := IH.out (its[k]'hlt) (its'[k]'hlt2) _ _ B q wr.drew hti.drew hti2.drew (by have := HB.out; show B ≤ wr.heap.size; omega) hsi hsi2
                have hb0 : Below wr.heap.size wr wr.drew := (Below.refl _ _).drew
                clear hti hti2 hsi hsi2
                by_cases hs : sameV (its[k]'hlt) (its'[k]'hlt2) = true
                · have hz2 := Lib.hid (show its.take (k + 1) = its'.take (k + 1) by
                    rw [List.take_succ_eq_append_getElem hlt, List.take_succ_eq_append_getElem hlt2, hz.out, (sameV_iff _ _).1 hs])
                  rw [hs] at C1
                  have HC1 := Lib.hid C1
                  clear C1 hs
                  go_wp2_with fail
                  go_still_tail 10, (by kernel_rfl)
                  change wpList _ _ _ _ _ wr.drew
                  generalize wr.drew = wd at HC1 hb0
                  go_wp2_with fail
                  refine HC1.out.mono ?_
                  rintro e w2 ⟨rfl, hb2⟩
                  have hb3 := on hb0 hb2
                  clear hb2 hb0 HC1
                  go_wp2_with fail
                  go_roundw
                  case rel => exact ⟨k + 1, hlt, by go_num, hb.trans (hb3.mono hs2), hz2.out⟩
                  case measure => simp [intOf]; omega
                · have hs' : sameV (its[k]'hlt) (its'[k]'hlt2) = false := by simpa using hs
                  have hv := Lib.hid (AV.out k hlt hlt2 hs)
                  rw [hs'] at C1
                  have HC1 := Lib.hid C1
                  clear C1 hs hs'
                  go_wp2_with fail
                  go_still_tail 10, (by kernel_rfl)
                  change wpList _ _ _ _ _ wr.drew
                  generalize wr.drew = wd at HC1 hb0
                  go_wp2_with fail
                  refine HC1.out.mono ?_
                  rintro e w2 ⟨rfl, hb2⟩
                  have hb3 := on hb0 hb2
                  clear hb2 hb0 HC1
                  go_wp2_with fail
                  go_ret
                  exact ⟨ret_b hv.out.symm, on hw hb3⟩
              · have hv := Lib.hid (AE.out (by
                  have h1 := hz.out
                  rw [List.take_of_length_le (by omega), List.take_of_length_le (by have := HL.out; omega)] at h1
                  exact h1))
                have g1 : ¬ (k : Int) < its.length := by omega
                go_wp2_with fail
                go_ret
                exact ⟨ret_b hv.out.symm, hw⟩
        · have hv := Lib.hid (show sameV (.node l x its) (.node l x its') = false by
            rw [Bool.eq_false_iff]; intro h
            have h2 := (sameV_iff _ _).1 h
            simp only [Tr.node.injEq, true_and] at h2
            subst h2; exact hlen rfl)
          have hne : ((its.length : Int) != (its'.length : Int)) = true := by rw [bne_iff_ne]; omega
          clear hlen
          cases l
          all_goals
            go_enter Tryd.func21, Tryd.ntmps21
            go_wp2_with fail
            go_ret
            exact ⟨ret_b hv.out.symm, (((Below.refl _ _).alloc (Nat.le_refl _) _).alloc (by simp) _)⟩
      · have hv := Lib.hid (show sameV (.node l x its) (.node l x' its') = false by
          rw [Bool.eq_false_iff]; intro h
          have h2 := (sameV_iff _ _).1 h
          simp only [Tr.node.injEq, true_and] at h2
          exact hxx h2.1)
        have hne : (x != x') = true := by rw [bne_iff_ne]; exact hxx
        clear hxx
        cases l
        all_goals
          go_enter Tryd.func21, Tryd.ntmps21
          go_wp2_with fail
          go_ret
          exact ⟨ret_b hv.out.symm, (((Below.refl _ _).alloc (Nat.le_refl _) _).alloc (by simp) _)⟩
    · have hv := Lib.hid (show sameV (.node l x its) (.node l' x' its') = false by
        rw [Bool.eq_false_iff]; intro h
        have h2 := (sameV_iff _ _).1 h
        simp only [Tr.node.injEq] at h2
        exact hll h2.1)
      cases l <;> cases l'
      any_goals exact absurd rfl hll
      all_goals
        clear hll
        go_enter Tryd.func21, Tryd.ntmps21
        go_wp2_with fail
        go_ret
        exact ⟨ret_b hv.out.symm, (((Below.refl _ _).alloc (Nat.le_refl _) _).alloc (by simp) _)⟩
end Go.Proofs.YtffkppjmdelajaaDoor.Vals

/- The statements' own Error of an error and its own number; the sameness of one value in two places. Conditions: the size; the library's variable that errors.As reads. -/
namespace Go.Proofs.YtffkppjmdelajaaDoor.Vals
open Go.RowKit Lists Ints
set_option linter.unusedVariables false
theorem err_ok (f : Int) (w : World) (h : Told.Handle w) : Calls Tryd.prog 13 #[errOf f, .int .i64 f] w fun e w' => e = .returned (.bool true) ∧ Below w.heap.size w w' := by
  by_cases hf : f = 0
  · subst hf
    refine (Told.error_nil 0 w).mono ?_
    rintro e w' ⟨rfl, hb⟩
    exact ⟨by simp, hb⟩
  · rw [errOf_no hf]
    refine (Told.error_errno f f w h).mono ?_
    rintro e w' ⟨rfl, hb⟩
    exact ⟨by simp, hb⟩
theorem same_one {n m : Nat} {t : Tr} {v v' : Value} {B : Nat} (w : World) (h : TAt w (Bel B) n v t) (h' : TAt w (Bel B) m v' t) (hB : B ≤ w.heap.size) (hs : t.size ≤ 4294967296) :
    Calls Tryd.prog 21 #[v, v'] w fun e w' => e = .returned (.bool true) ∧ Below w.heap.size w w' := by
  have := same_any n t t v v' B m w h h' hB hs hs
  rw [(sameV_iff t t).2 rfl] at this
  exact this
theorem TAt.bel_of {w w' : World} {n : Nat} {v : Value} {t : Tr} (h : TAt w' (fun b => w.heap.size ≤ b ∧ b < w'.heap.size) n v t) : TAt w' (Bel w'.heap.size) n v t := h.keep fun b hb => ⟨hb.2, fun _ => rfl⟩
end Go.Proofs.YtffkppjmdelajaaDoor.Vals

/- Contract of assayersame.Ints: it draws its order. Conditions: none but that the slices' cells are known. -/
namespace Go.Proofs.YtffkppjmdelajaaDoor.Ints
open Go.RowKit Go.WideShapes Go.ChangeShapes Lists
set_option linter.unusedVariables false

/-! assayersame.Ints: it draws its order -/
theorem same_any (l m : List Int) (A B : Option Addr) (c d N : Nat) (hl : l.length ≤ maxLen) (hm : m.length ≤ maxLen) (w : World) (ha : At w N A l) (hb : At w N B m) :
    Calls Tryd.prog 23 #[.slice A l.length c, .slice B m.length d] w fun e w' => e = .returned (.bool (decide (l = m))) ∧ ∃ n, w' = w.drewN n := by
  unfold maxLen at hl hm
  have HA := Lib.hid ha
  have HB := Lib.hid hb
  clear ha hb
  by_cases e : l.length = m.length
  · have ht : (((l.length : Nat) : Int) != ((m.length : Nat) : Int)) = false := by rw [bne_eq_false_iff_eq]; omega
    have hml : m.length ≤ l.length := by omega
    have hlm : l.length ≤ m.length := by omega
    have E := Lib.hid e
    clear e
    go_enter Tryd.func23, Tryd.ntmps23
    go_wp2
    go_loopw [5] (fun i wr => ∃ k n : Nat, k ≤ l.length ∧ i = .int .i64 k ∧ wr = w.drewN n ∧ Hid (l.take k = m.take k)) (fun i _ => l.length - (intOf i).toNat)
    case atStart => exact ⟨0, 0, Nat.zero_le _, rfl, rfl, rfl⟩
    case round =>
      obtain ⟨k, n, hk, rfl, rfl, ht2⟩ := hrel
      by_cases h1 : k < l.length
      · have h2 : k < m.length := by omega
        obtain ⟨b, off, rfl, _, hcell⟩ := HA.out (by omega)
        have c1 := hcell k h1
        clear hcell
        obtain ⟨b2, off2, rfl, _, hcell2⟩ := HB.out (by omega)
        have c2 := hcell2 k h2
        clear hcell2
        have t1 := Lib.hid (take_getD l k h1)
        have t2 := Lib.hid (take_getD m k h2)
        generalize hx : l.getD k 0 = x at c1 t1
        generalize hy : m.getD k 0 = y at c2 t2
        have HX := Lib.hid hx
        have HY := Lib.hid hy
        clear hx hy
        by_cases h : x = y
        · subst h
          have hv := Lib.hid (show l.take (k + 1) = m.take (k + 1) by rw [t1.out, t2.out, ht2.out])
          have h1' : (k : Int) < l.length := by omega
          have h2' : (k : Int) < m.length := by omega
          go_wp2
          go_quiet (fail)
          go_wp2
          go_roundw
          case rel => exact ⟨k + 1, _, by omega, by go_num, rfl, hv.out⟩
          case measure => simp [intOf]; omega
        · have hv := Lib.hid (show decide (l = m) = false by
            rw [decide_eq_false]; intro z; subst z; exact h (HX.out.symm.trans HY.out))
          have ht3 : (x != y) = true := by rw [bne_iff_ne]; exact h
          clear h
          go_wp2
          go_quiet (fail)
          go_wp2
          go_ret
          exact ⟨ret_b hv.out.symm, _, World.drewN_drewN _ _ _⟩
      · have hv := Lib.hid (show decide (l = m) = true by
          rw [decide_eq_true_eq, ← List.take_of_length_le (show l.length ≤ k by omega), ht2.out, List.take_of_length_le (by omega)])
        go_wp2
        go_ret
        exact ⟨ret_b hv.out.symm, _, rfl⟩
  · have ht : (((l.length : Nat) : Int) != ((m.length : Nat) : Int)) = true := by rw [bne_iff_ne]; omega
    have hv := Lib.hid (show decide (l = m) = false by rw [decide_eq_false]; intro z; subst z; exact e rfl)
    clear e
    go_enter Tryd.func23, Tryd.ntmps23
    go_wp2
    go_ret
    exact ⟨ret_b hv.out.symm, 0, rfl⟩
theorem same_below (l m : List Int) (A B : Option Addr) (c d N : Nat) (hl : l.length ≤ maxLen) (hm : m.length ≤ maxLen) (w : World) (ha : At w N A l) (hb : At w N B m) :
    Calls Tryd.prog 23 #[.slice A l.length c, .slice B m.length d] w fun e w' => e = .returned (.bool (decide (l = m))) ∧ Below w.heap.size w w' :=
  (same_any l m A B c d N hl hm w ha hb).mono fun _ _ ⟨h, n, h'⟩ => ⟨h, h' ▸ ⟨rfl, rfl, rfl, Nat.le_refl _, fun _ _ => rfl⟩⟩
end Go.Proofs.YtffkppjmdelajaaDoor.Ints
