/- RunsFail, part 38 of the proof: slices.Clone, slices.Grow of nil, slices.Concat of lists of numbers. Conditions: the sizes. · slices.Concat of lists of numbers. Conditions: the sizes. -/
import Derived.Test.YtabkihellcflhaaDoorRunsFailZ37
import Derived.Lib.AppendZeros
import Derived.Lib.SliceRun
/- slices.Clone, slices.Grow of nil, slices.Concat of lists of numbers. Conditions: the sizes. -/
namespace Go.Proofs.YtabkihellcflhaaDoor.Ints
open Go.RowKit Go.WideShapes Go.ChangeShapes
set_option linter.unusedVariables false

theorem heap_new2 (w : World) (o : Obj) : (w.alloc o).heap[w.heap.size]? = some o := by
  show (w.heap.push o)[w.heap.size]? = _
  simp
/-- what hands a new list back -/
def NewL (z : List Int) (w : World) (e : Ending) (w' : World) : Prop := ∃ (A : Option Addr) (c : Nat), e = .returned (.slice A z.length c) ∧ Own w' w.heap.size A c z ∧ Below w.heap.size w w'

set_option maxHeartbeats 2000000 in
set_option maxRecDepth 100000 in
theorem clone_ok {L : Option Addr} {l : List Int} {lc N : Nat} (w : World) (hat : At w N L l) (hN : N ≤ w.heap.size) (hln : l.length ≤ 4294967296) :
    Calls Tryd.prog 19 #[.slice L l.length lc] w (NewL l w) := by
  have q : ∀ (w : World) (a : Option Addr) (n c n' c' : Nat), (binOp .eql 29 (.slice a n c) (.slice none n' c')).run Tryd.prog w = .ok (.bool a.isNone) w := fun w a n c n' c' => Lib.run_eql_slice_nil w _ _ a n c n' c' Tryd.underlying29
  cases L with
  | none =>
    have h0 : l = [] := by
      rcases Nat.eq_zero_or_pos l.length with h | h
      · exact List.eq_nil_of_length_eq_zero h
      · obtain ⟨b, off, e, _⟩ := hat h; cases e
    subst h0
    clear hat
    go_enter Tryd.func19, Tryd.ntmps19
    go_wp2
    go_ret
    exact ⟨none, 0, rfl, Own.none, Below.refl _ _⟩
  | some a =>
    have HA := Lib.hid hat
    have HN := Lib.hid hN
    have HB := Lib.hid ((Below.refl w.heap.size w).alloc (Nat.le_refl _) (.cells #[] 3))
    have HE := Lib.hid (heap_new2 w (.cells #[] 3))
    clear hat hN
    go_enter Tryd.func19, Tryd.ntmps19
    go_wp2_with (at_builtin; refine wpList_append_ints rfl (.tmp 5) (.tmp 6) rfl w.heap.size 0 (some ⟨w.heap.size, 0, none⟩) [] (Own.empty HE.out) N (some a) lc l (HA.out.below (HB.out.mono HN.out)) rfl rfl (by simp; omega) HB.out.size ?_; intro A5 c5 w5 z5 hz5 own5 g5 r5)
    go_ret
    have e : z5 = l := hz5.out
    subst e
    exact ⟨A5, c5, rfl, own5, HB.out.grown g5 HB.out.size (by intro k hk; simp [rowOf] at hk; omega)⟩

set_option maxHeartbeats 2000000 in
set_option maxRecDepth 100000 in
theorem grow_ok (n : Nat) (w : World) (hn : n ≤ 17592186044416) :
    Calls Tryd.prog 74 #[.slice none 0 0, .int .i64 n] w (NewL [] w) := by
  by_cases h0 : n = 0
  · subst h0
    go_enter Tryd.func74, Tryd.ntmps74
    go_wp2
    go_ret
    exact ⟨none, 0, rfl, Own.none, Below.refl _ _⟩
  · obtain ⟨i0, hi, hz, hsz, hby⟩ := info_parts int_info
    have hrz := fun ty => Lib.run_append_nil_zeros (P := Tryd.prog) w 29 3 ty 3 i0 (.int .i64 0) .i64 .i64 Tryd.underlying29 Tryd.underlying3 hi hz n (by omega) (by omega) (by omega) (by rw [hby]; omega)
    have hG := grownCap_ge w n 0 3
    have hG2 := grownCap_le_maxLen w n 0 3 (by unfold maxLen; omega)
    generalize grownCap w n 0 3 = G at hrz hG hG2
    have HO : Own (w.drew.alloc (.cells (Builtin.zeroCells (Value.int .i64 0).cells n ++ Builtin.zeroCells (Value.int .i64 0).cells (G - n)) 3)) w.heap.size (some ⟨w.heap.size, 0, none⟩) G [] := by
      refine ⟨rfl, .inr ⟨w.heap.size, G, _, rfl, Nat.le_refl _, heap_new2 w.drew _, Nat.zero_le _, hG2, ?_, rfl⟩⟩
      simp [Builtin.zeroCells, Value.cells]
      omega
    have HB : Below w.heap.size w (w.drew.alloc (.cells (Builtin.zeroCells (Value.int .i64 0).cells n ++ Builtin.zeroCells (Value.int .i64 0).cells (G - n)) 3)) := (Below.refl _ _).drew.alloc (Nat.le_refl _) _
    have HO := Lib.hid HO
    have HB := Lib.hid HB
    have HG := Lib.hid (And.intro hG hG2)
    have hn' : 0 < n := by omega
    clear hG hG2 hz hsz hby hi h0
    unfold maxLen at HG
    have g63 : G ≤ 9223372036854775807 := HG.out.2
    have gn : n ≤ G := HG.out.1
    generalize w.drew.alloc (.cells (Builtin.zeroCells (Value.int .i64 0).cells n ++ Builtin.zeroCells (Value.int .i64 0).cells (G - n)) 3) = W1 at *
    go_enter Tryd.func74, Tryd.ntmps74
    go_wp2_with (at_builtin; refine Lib.wpList_append_run _ rfl _ _ _ _ rfl _ _ rfl rfl _ _ (hrz _) ?_)
    all_goals (go_ret; exact ⟨some ⟨w.heap.size, 0, none⟩, G, rfl, HO.out, HB.out⟩)
end Go.Proofs.YtabkihellcflhaaDoor.Ints

/- slices.Concat of lists of numbers. Conditions: the sizes. -/
namespace Go.Proofs.YtabkihellcflhaaDoor.Ints
open Go.RowKit Go.WideShapes Go.ChangeShapes
set_option linter.unusedVariables false

theorem flat_take (zs : List (List Int)) (k : Nat) (hk : k < zs.length) : (zs.take (k + 1)).flatten = (zs.take k).flatten ++ zs[k]'hk := by
  rw [List.take_succ_eq_append_getElem hk, List.flatten_append]; simp
theorem flat_take_len (zs : List (List Int)) (k : Nat) : (zs.take k).flatten.length ≤ zs.flatten.length := by
  have := congrArg (fun l => l.flatten.length) (List.take_append_drop k zs)
  simp only [List.flatten_append, List.length_append] at this
  omega

set_option maxHeartbeats 4000000 in
set_option maxRecDepth 100000 in
theorem concat_ok (zs : List (List Int)) (A : Option Addr) (ca N : Nat) (w : World) (hr : RowsAt w N A zs) (hN : N ≤ w.heap.size) (hl : zs.length ≤ 4294967296) (hz : zs.flatten.length ≤ 4294967296) :
    Calls Tryd.prog 71 #[.slice A zs.length ca] w (NewL zs.flatten w) := by
  have HR := Lib.hid hr
  have HN := Lib.hid hN
  have HZ := Lib.hid hz
  have HT := Lib.hid (flat_take_len zs)
  clear hr hN hz
  go_enter Tryd.func71, Tryd.ntmps71
  go_wp2_with fail
  go_loop [3, 11] (fun s i => ∃ k : Nat, k ≤ zs.length ∧ i = .int .i64 k ∧ s = .int .i64 ((zs.take k).flatten.length : Nat)) (fun _ i => zs.length - (intOf i).toNat)
  case atStart => exact ⟨0, Nat.zero_le _, rfl, rfl⟩
  case round =>
    obtain ⟨k, hk, rfl, rfl⟩ := hrel
    by_cases hlt : k < zs.length
    · obtain ⟨b, off, rfl, hb, hc⟩ := HR.out (by omega)
      obtain ⟨D, d, c0, c1, c2⟩ := hc k hlt
      clear hc c2
      have FT := Lib.hid (show (zs.take (k + 1)).flatten.length = (zs.take k).flatten.length + (zs[k]'hlt).length by rw [flat_take zs k hlt, List.length_append])
      have TL := Lib.hid (Nat.le_trans (HT.out (k + 1)) HZ.out)
      generalize zs[k]'hlt = x at *
      generalize (zs.take k).flatten.length = m at *
      have hm : m + x.length ≤ 4294967296 := by have h1 := TL.out; rw [FT.out] at h1; exact h1
      go_wp2
      go_round
      case rel => exact ⟨k + 1, by omega, by go_num, by rw [FT.out]; go_num⟩
      case measure => simp [intOf]; omega
    · have e : (zs.take k).flatten.length = zs.flatten.length := by rw [List.take_of_length_le (by omega)]
      rw [e]
      have G := Lib.hid (fun w' => grow_ok zs.flatten.length w' (by have := HZ.out; omega))
      clear e HT hk
      generalize hM : zs.flatten.length = M at *
      have HM := Lib.hid hM
      clear hM
      go_wp2_with fail
      ((with_reducible refine (G.out _).mono ?_))
      rintro e w1 ⟨A1, c1, rfl, own1, hb1⟩
      have O1 := Lib.hid own1
      have B1 := Lib.hid hb1
      clear own1 hb1 G
      simp only [List.length_nil]
      go_wp2_with fail
      go_loopw [6, 27] (fun v i wr => ∃ (j : Nat) (A2 : Option Addr) (c2 : Nat) (z : List Int), j ≤ zs.length ∧ i = .int .i64 j ∧ v = .slice A2 z.length c2 ∧ Hid (z = (zs.take j).flatten) ∧ Hid (Own wr w.heap.size A2 c2 z) ∧ Hid (Below w.heap.size w wr)) (fun _ i _ => zs.length - (intOf i).toNat)
      case atStart => exact ⟨0, A1, c1, [], Nat.zero_le _, rfl, rfl, (rfl : [] = (zs.take 0).flatten), O1.out, B1.out⟩
      case round =>
        obtain ⟨j, A2, c2, z, hj, rfl, rfl, hzz, ho, hbb⟩ := hrel
        by_cases hlt2 : j < zs.length
        · obtain ⟨b, off, rfl, hb, hc⟩ := HR.out (by omega)
          obtain ⟨D, d, q0, q1, q2⟩ := hc j hlt2
          have q0 : wr.cell? ⟨b, off + j, none⟩ = some (.slice D (zs[j]'hlt2).length d) := (hbb.out.cell (p := ⟨b, off + j, none⟩) (Nat.lt_of_lt_of_le hb HN.out)).trans q0
          have QA := Lib.hid (show At wr N D (zs[j]'hlt2) from q2.keep fun k hk => ⟨hk, fun o => hbb.out.cell (p := ⟨k, o, none⟩) (Nat.lt_of_lt_of_le hk HN.out)⟩)
          clear hc q2
          have FT := Lib.hid (flat_take zs j hlt2)
          have TL := Lib.hid (flat_take_len zs (j + 1))
          generalize zs[j]'hlt2 = x at *
          have BS := Lib.hid (show z.length + x.length ≤ 17592186044416 by
            have h1 := TL.out
            have h2 := HZ.out
            rw [FT.out, ← hzz.out, List.length_append, HM.out] at h1
            omega)
          have WS := Lib.hid hbb.out.size
          go_wp2_with (at_builtin; refine wpList_append_ints rfl (.tmp 31) (.tmp 32) rfl w.heap.size c2 A2 z ho.out N D d x QA.out rfl rfl BS.out WS.out ?_; intro A5 c5 w5 z5 hz5 own5 g5 r5)
          have EZ := Lib.hid (show z5 = (zs.take (j + 1)).flatten by rw [hz5.out, hzz.out, FT.out])
          have B5 := Lib.hid (hbb.out.grown g5 WS.out ho.out.ge)
          have O5 := Lib.hid own5
          clear own5 g5 r5
          go_roundw
          case rel => exact ⟨j + 1, A5, c5, z5, by omega, by go_num, rfl, EZ.out, O5.out, B5.out⟩
          case measure => simp [intOf]; omega
        · have EV := Lib.hid (show z = zs.flatten by rw [hzz.out, List.take_of_length_le (by omega)])
          go_wp2_with fail
          go_ret
          exact ⟨A2, c2, (by rw [← EV.out]; rfl), (by rw [← EV.out]; exact ho.out), hbb.out⟩
end Go.Proofs.YtabkihellcflhaaDoor.Ints
