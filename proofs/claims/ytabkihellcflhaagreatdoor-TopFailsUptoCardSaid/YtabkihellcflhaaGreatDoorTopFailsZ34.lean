/- TopFails, part 34 of the proof: slices.Clone, slices.Grow of nil, slices.Concat of lists of numbers. Conditions: the sizes. · slices.Concat of lists of numbers. Conditions: the sizes. · The program's with and without (package rose). Conditions: the sizes. -/
import Derived.Test.YtabkihellcflhaaGreatDoorTopFailsZ33
import Derived.Lib.AppendZeros
import Derived.Lib.SliceRun
import Derived.Test.YtabkihellcflhaaGreatDoorTopFailsZ19
import Derived.Deep.RegionHeld3
import Derived.IntWalk
/- slices.Clone, slices.Grow of nil, slices.Concat of lists of numbers. Conditions: the sizes. -/
namespace Go.Proofs.YtabkihellcflhaaGreatDoor.Ints
open Go.RowKit Go.WideShapes Go.ChangeShapes
set_option linter.unusedVariables false

theorem heap_new2 (w : World) (o : Obj) : (w.alloc o).heap[w.heap.size]? = some o := by
  show (w.heap.push o)[w.heap.size]? = _
  simp
/-- what hands a new list back -/
def NewL (z : List Int) (w : World) (e : Ending) (w' : World) : Prop := ∃ (A : Option Addr) (c : Nat), e = .returned (.slice A z.length c) ∧ Own w' w.heap.size A c z ∧ Below w.heap.size w w'

set_option maxHeartbeats 2000000 in
set_option maxRecDepth 100000 in
theorem clone_ok {L : Option Addr} {l : List Int} {lc N : Nat} (w : World) (hat : At w N L l) (hN : N ≤ w.heap.size) (hln : l.length ≤ 4294967296) :
    Calls Tryz.prog 60 #[.slice L l.length lc] w (NewL l w) := by
  have q : ∀ (w : World) (a : Option Addr) (n c n' c' : Nat), (binOp .eql 32 (.slice a n c) (.slice none n' c')).run Tryz.prog w = .ok (.bool a.isNone) w := fun w a n c n' c' => Lib.run_eql_slice_nil w _ _ a n c n' c' Tryz.underlying32
  cases L with
  | none =>
    have h0 : l = [] := by
      rcases Nat.eq_zero_or_pos l.length with h | h
      · exact List.eq_nil_of_length_eq_zero h
      · obtain ⟨b, off, e, _⟩ := hat h; cases e
    subst h0
    clear hat
    go_enter Tryz.func60, Tryz.ntmps60
    go_wp2
    go_ret
    exact ⟨none, 0, rfl, Own.none, Below.refl _ _⟩
  | some a =>
    have HA := Lib.hid hat
    have HN := Lib.hid hN
    have HB := Lib.hid ((Below.refl w.heap.size w).alloc (Nat.le_refl _) (.cells #[] 3))
    have HE := Lib.hid (heap_new2 w (.cells #[] 3))
    clear hat hN
    go_enter Tryz.func60, Tryz.ntmps60
    go_wp2_with (at_builtin; refine wpList_append_ints rfl (.tmp 5) (.tmp 6) rfl w.heap.size 0 (some ⟨w.heap.size, 0, none⟩) [] (Own.empty HE.out) N (some a) lc l (HA.out.below (HB.out.mono HN.out)) rfl rfl (by simp; omega) HB.out.size ?_; intro A5 c5 w5 z5 hz5 own5 g5 r5)
    go_ret
    have e : z5 = l := hz5.out
    subst e
    exact ⟨A5, c5, rfl, own5, HB.out.grown g5 HB.out.size (by intro k hk; simp [rowOf] at hk; omega)⟩

set_option maxHeartbeats 2000000 in
set_option maxRecDepth 100000 in
theorem grow_ok (n : Nat) (w : World) (hn : n ≤ 17592186044416) :
    Calls Tryz.prog 125 #[.slice none 0 0, .int .i64 n] w (NewL [] w) := by
  by_cases h0 : n = 0
  · subst h0
    go_enter Tryz.func125, Tryz.ntmps125
    go_wp2
    go_ret
    exact ⟨none, 0, rfl, Own.none, Below.refl _ _⟩
  · obtain ⟨i0, hi, hz, hsz, hby⟩ := info_parts int_info
    have hrz := fun ty => Lib.run_append_nil_zeros (P := Tryz.prog) w 32 3 ty 3 i0 (.int .i64 0) .i64 .i64 Tryz.underlying32 Tryz.underlying3 hi hz n (by omega) (by omega) (by omega) (by rw [hby]; omega)
    have hG := grownCap_ge w n 0 3
    have hG2 := grownCap_le_maxLen w n 0 3 (by unfold maxLen; omega)
    generalize grownCap w n 0 3 = G at hrz hG hG2
    have HO : Own (w.drew.alloc (.cells (Builtin.zeroCells (Value.int .i64 0).cells n ++ Builtin.zeroCells (Value.int .i64 0).cells (G - n)) 3)) w.heap.size (some ⟨w.heap.size, 0, none⟩) G [] := by
      refine ⟨rfl, .inr ⟨w.heap.size, G, _, rfl, Nat.le_refl _, heap_new2 w.drew _, Nat.zero_le _, hG2, ?_, rfl⟩⟩
      simp [Builtin.zeroCells, Value.cells]
      omega
    have HB : Below w.heap.size w (w.drew.alloc (.cells (Builtin.zeroCells (Value.int .i64 0).cells n ++ Builtin.zeroCells (Value.int .i64 0).cells (G - n)) 3)) := (Below.refl _ _).drew.alloc (Nat.le_refl _) _
    have HO := Lib.hid HO
    have HB := Lib.hid HB
    have HG := Lib.hid (And.intro hG hG2)
    have hn' : 0 < n := by omega
    clear hG hG2 hz hsz hby hi h0
    unfold maxLen at HG
    have g63 : G ≤ 9223372036854775807 := HG.out.2
    have gn : n ≤ G := HG.out.1
    generalize w.drew.alloc (.cells (Builtin.zeroCells (Value.int .i64 0).cells n ++ Builtin.zeroCells (Value.int .i64 0).cells (G - n)) 3) = W1 at *
    go_enter Tryz.func125, Tryz.ntmps125
    go_wp2_with (at_builtin; refine Lib.wpList_append_run _ rfl _ _ _ _ rfl _ _ rfl rfl _ _ (hrz _) ?_)
    all_goals (go_ret; exact ⟨some ⟨w.heap.size, 0, none⟩, G, rfl, HO.out, HB.out⟩)
end Go.Proofs.YtabkihellcflhaaGreatDoor.Ints

/- slices.Concat of lists of numbers. Conditions: the sizes. -/
namespace Go.Proofs.YtabkihellcflhaaGreatDoor.Ints
open Go.RowKit Go.WideShapes Go.ChangeShapes
set_option linter.unusedVariables false

theorem flat_take (zs : List (List Int)) (k : Nat) (hk : k < zs.length) : (zs.take (k + 1)).flatten = (zs.take k).flatten ++ zs[k]'hk := by
  rw [List.take_succ_eq_append_getElem hk, List.flatten_append]; simp
theorem flat_take_len (zs : List (List Int)) (k : Nat) : (zs.take k).flatten.length ≤ zs.flatten.length := by
  have := congrArg (fun l => l.flatten.length) (List.take_append_drop k zs)
  simp only [List.flatten_append, List.length_append] at this
  omega

set_option maxHeartbeats 4000000 in
set_option maxRecDepth 100000 in
theorem concat_ok (zs : List (List Int)) (A : Option Addr) (ca N : Nat) (w : World) (hr : RowsAt w N A zs) (hN : N ≤ w.heap.size) (hl : zs.length ≤ 4294967296) (hz : zs.flatten.length ≤ 4294967296) :
    Calls Tryz.prog 117 #[.slice A zs.length ca] w (NewL zs.flatten w) := by
  have HR := Lib.hid hr
  have HN := Lib.hid hN
  have HZ := Lib.hid hz
  have HT := Lib.hid (flat_take_len zs)
  clear hr hN hz
  go_enter Tryz.func117, Tryz.ntmps117
  go_wp2_with fail
  go_loop [3, 11] (fun s i => ∃ k : Nat, k ≤ zs.length ∧ i = .int .i64 k ∧ s = .int .i64 ((zs.take k).flatten.length : Nat)) (fun _ i => zs.length - (intOf i).toNat)
  case atStart => exact ⟨0, Nat.zero_le _, rfl, rfl⟩
  case round =>
    obtain ⟨k, hk, rfl, rfl⟩ := hrel
    by_cases hlt : k < zs.length
    · obtain ⟨b, off, rfl, hb, hc⟩ := HR.out (by omega)
      obtain ⟨D, d, c0, c1, c2⟩ := hc k hlt
      clear hc c2
      have FT := Lib.hid (show (zs.take (k + 1)).flatten.length = (zs.take k).flatten.length + (zs[k]'hlt).length by rw [flat_take zs k hlt, List.length_append])
      have TL := Lib.hid (Nat.le_trans (HT.out (k + 1)) HZ.out)
      generalize zs[k]'hlt = x at *
      generalize (zs.take k).flatten.length = m at *
      have hm : m + x.length ≤ 4294967296 := by have h1 := TL.out; rw [FT.out] at h1; exact h1
      go_wp2
      go_round
      case rel => exact ⟨k + 1, by omega, by go_num, by rw [FT.out]; go_num⟩
      case measure => simp [intOf]; omega
    · have e : (zs.take k).flatten.length = zs.flatten.length := by rw [List.take_of_length_le (by omega)]
      rw [e]
      have G := Lib.hid (fun w' => grow_ok zs.flatten.length w' (by have := HZ.out; omega))
      clear e HT hk
      generalize hM : zs.flatten.length = M at *
      have HM := Lib.hid hM
      clear hM
      go_wp2_with fail
      ((with_reducible refine (G.out _).mono ?_))
      rintro e w1 ⟨A1, c1, rfl, own1, hb1⟩
      have O1 := Lib.hid own1
      have B1 := Lib.hid hb1
      clear own1 hb1 G
      simp only [List.length_nil]
      go_wp2_with fail
      go_loopw [6, 27] (fun v i wr => ∃ (j : Nat) (A2 : Option Addr) (c2 : Nat) (z : List Int), j ≤ zs.length ∧ i = .int .i64 j ∧ v = .slice A2 z.length c2 ∧ Hid (z = (zs.take j).flatten) ∧ Hid (Own wr w.heap.size A2 c2 z) ∧ Hid (Below w.heap.size w wr)) (fun _ i _ => zs.length - (intOf i).toNat)
      case atStart => exact ⟨0, A1, c1, [], Nat.zero_le _, rfl, rfl, (rfl : [] = (zs.take 0).flatten), O1.out, B1.out⟩
      case round =>
        obtain ⟨j, A2, c2, z, hj, rfl, rfl, hzz, ho, hbb⟩ := hrel
        by_cases hlt2 : j < zs.length
        · obtain ⟨b, off, rfl, hb, hc⟩ := HR.out (by omega)
          obtain ⟨D, d, q0, q1, q2⟩ := hc j hlt2
          have q0 : wr.cell? ⟨b, off + j, none⟩ = some (.slice D (zs[j]'hlt2).length d) := (hbb.out.cell (p := ⟨b, off + j, none⟩) (Nat.lt_of_lt_of_le hb HN.out)).trans q0
          have QA := Lib.hid (show At wr N D (zs[j]'hlt2) from q2.keep fun k hk => ⟨hk, fun o => hbb.out.cell (p := ⟨k, o, none⟩) (Nat.lt_of_lt_of_le hk HN.out)⟩)
          clear hc q2
          have FT := Lib.hid (flat_take zs j hlt2)
          have TL := Lib.hid (flat_take_len zs (j + 1))
          generalize zs[j]'hlt2 = x at *
          have BS := Lib.hid (show z.length + x.length ≤ 17592186044416 by
            have h1 := TL.out
            have h2 := HZ.out
            rw [FT.out, ← hzz.out, List.length_append, HM.out] at h1
            omega)
          have WS := Lib.hid hbb.out.size
          go_wp2_with (at_builtin; refine wpList_append_ints rfl (.tmp 31) (.tmp 32) rfl w.heap.size c2 A2 z ho.out N D d x QA.out rfl rfl BS.out WS.out ?_; intro A5 c5 w5 z5 hz5 own5 g5 r5)
          have EZ := Lib.hid (show z5 = (zs.take (j + 1)).flatten by rw [hz5.out, hzz.out, FT.out])
          have B5 := Lib.hid (hbb.out.grown g5 WS.out ho.out.ge)
          have O5 := Lib.hid own5
          clear own5 g5 r5
          go_roundw
          case rel => exact ⟨j + 1, A5, c5, z5, by omega, by go_num, rfl, EZ.out, O5.out, B5.out⟩
          case measure => simp [intOf]; omega
        · have EV := Lib.hid (show z = zs.flatten by rw [hzz.out, List.take_of_length_le (by omega)])
          go_wp2_with fail
          go_ret
          exact ⟨A2, c2, (by rw [← EV.out]; rfl), (by rw [← EV.out]; exact ho.out), hbb.out⟩
end Go.Proofs.YtabkihellcflhaaGreatDoor.Ints

/- The program's with and without (package rose). Conditions: the sizes. -/
namespace Go.Proofs.YtabkihellcflhaaGreatDoor.Gens
open Go.RowKit Lists Ints Vals
set_option linter.unusedVariables false

theorem own_rowB {w : World} {base c : Nat} {A : Option Addr} {z : List Int} (h : Own w base A c z) : AtP w (fun b => base ≤ b ∧ b < w.heap.size) A z := fun hp => by
  obtain ⟨b, off, e, hb, hc⟩ := h.at_ hp
  exact ⟨b, off, e, ⟨h.ge b (by rw [e]; rfl), hb⟩, hc⟩
theorem own_stored {w : World} {base c : Nat} {A : Option Addr} {z : List Int} (h : Own w base A c z) (i : Nat) (hi : i < z.length) (x : Int) :
    ∃ g, A = some ⟨g, 0, none⟩ ∧ base ≤ g ∧ g < w.heap.size ∧ w.cell? ⟨g, i, none⟩ = some (.int .i64 (z.getD i 0)) ∧ w.frozen? ⟨g, i, none⟩ = false ∧ Own (w.setCell ⟨g, i, none⟩ (.int .i64 x)) base A c (z.set i x) ∧ w.grownBy (w.setCell ⟨g, i, none⟩ (.int .i64 x)) (some g) := by
  have h0 := h
  unfold Own at h
  rcases h.2 with ⟨he, hn⟩ | ⟨g, cap, cur, he, hb, hh, _⟩
  · omega
  · injection he with e1 e2 e3
    subst e1
    obtain ⟨s1, s2⟩ := h.stored i (.int .i64 x)
    refine ⟨g, rfl, hb, (Array.getElem?_eq_some_iff.1 hh).1, ?_, h.frozenAt i, ?_, s2⟩
    · rw [h.cellAt i (by omega), List.getElem?_map, List.getElem?_eq_getElem hi]
      simp [List.getD, List.getElem?_eq_getElem hi]
    · unfold Own
      rw [List.length_set, List.map_set]
      exact s1

set_option maxHeartbeats 2000000 in
set_option maxRecDepth 100000 in
theorem with_ok {L : Option Addr} {l : List Int} {lc N : Nat} (w : World) (hat : At w N L l) (hN : N ≤ w.heap.size) (hln : l.length ≤ 4294967296) (i : Nat) (hi : i < l.length) (x : Int) :
    Calls Tryz.prog 101 #[.slice L l.length lc, .int .i64 i, .int .i64 x] w (NewL (l.set i x) w) := by
  have C := Lib.hid (clone_ok (lc := lc) w hat hN hln)
  have HL := Lib.hid (show (l.set i x).length = l.length by simp)
  clear hat hN
  go_enter Tryz.func101, Tryz.ntmps101
  go_wp2_with fail
  ((with_reducible refine C.out.mono ?_))
  rintro e w1 ⟨A1, c1, rfl, own1, hb1⟩
  obtain ⟨g, rfl, hg, hlt, k0, k1, own2, g2⟩ := own_stored own1 i hi x
  have O2 := Lib.hid own2
  have B2 := Lib.hid (hb1.grown g2 hb1.size (by intro k hk; cases hk; exact hg))
  clear own1 own2 g2 hb1 C
  go_wp2_with fail
  go_ret
  exact ⟨some ⟨g, 0, none⟩, c1, (by rw [HL.out]; rfl), O2.out, B2.out⟩

theorem rows_two {w : World} {b N : Nat} {D E : Option Addr} {x y : List Int} {d e : Nat} {T : TypeId} (hN : b < N) (h : w.heap[b]? = some (.cells #[.slice D x.length d, .slice E y.length e] T (0, 0))) (hd : x.length ≤ d) (he : y.length ≤ e) (hx : At w N D x) (hy : At w N E y) : RowsAt w N (some ⟨b, 0, none⟩) [x, y] := fun _ =>
  ⟨b, 0, rfl, hN, fun j hj => by
    have hj : j < 2 := hj
    obtain rfl | rfl : j = 0 ∨ j = 1 := by omega
    · exact ⟨D, d, by rw [Lib.cell_of_heap h]; rfl, hd, hx⟩
    · exact ⟨E, e, by rw [Lib.cell_of_heap h]; rfl, he, hy⟩⟩
theorem rs_take {w : World} {N : Nat} {A : Option Addr} {l : List Int} (h : At w N A l) (k : Nat) : At w N A (l.take k) := fun hp => by
  rw [List.length_take] at hp
  obtain ⟨b, o, e, hb, hc⟩ := h (by omega)
  refine ⟨b, o, e, hb, fun j hj => ?_⟩
  rw [List.length_take] at hj
  rw [hc j (by omega)]
  simp [List.getD, show j < k by omega]
theorem rs_drop {w : World} {N b off : Nat} {l : List Int} (h : At w N (some ⟨b, off, none⟩) l) (k : Nat) : At w N (some ⟨b, off + k, none⟩) (l.drop k) := fun hp => by
  rw [List.length_drop] at hp
  obtain ⟨b', o', e, hb, hc⟩ := h (by omega)
  injection e with e
  injection e with e1 e2
  subst e1; subst e2
  refine ⟨b, off + k, rfl, hb, fun j hj => ?_⟩
  rw [List.length_drop] at hj
  have h1 := hc (k + j) (by omega)
  rw [show off + k + j = off + (k + j) by omega, h1]
  simp [List.getD, List.getElem?_drop]

theorem bel_new (w : World) (o : Obj) : Below w.heap.size w (w.alloc o).drew := ((Below.refl _ _).alloc (Nat.le_refl _) _).drew
theorem heap_new3 (w : World) (o : Obj) : (w.alloc o).drew.heap[w.heap.size]? = some o := heap_new2 w o
theorem lt_new (w : World) (o : Obj) : w.heap.size < (w.alloc o).drew.heap.size := by show w.heap.size < (w.alloc o).heap.size; simp
/-- the call in without -/
theorem lack_call (w w' : World) {b off N lc : Nat} {l : List Int} (i : Nat) (hi : i < l.length) (hcap : l.length ≤ lc) (hat : At w N (some ⟨b, off, none⟩) l) (hN : N ≤ w.heap.size) (hln : l.length ≤ 4294967296) (hb : Below w.heap.size w w') (E : Option Addr) (e : Nat) (T : TypeId) (g : Nat) (hg : w.heap.size ≤ g) (hg2 : g < w'.heap.size)
    (hE : E = if lc = i + 1 then some ⟨b, off, none⟩ else some ⟨b, off + (i + 1), none⟩) (he : e = lc - (i + 1)) (h : w'.heap[g]? = some (.cells #[.slice (some ⟨b, off, none⟩) i lc, .slice E (l.length - (i + 1)) e] T (0, 0))) :
    Calls Tryz.prog 117 #[.slice (some ⟨g, 0, none⟩) 2 2] w' fun e w2 => ∃ (A : Option Addr) (c : Nat), e = .returned (.slice A (lackL l i).length c) ∧ Own w2 w.heap.size A c (lackL l i) ∧ Below w.heap.size w w2 := by
  have h1 : (l.take i).length = i := by rw [List.length_take]; omega
  have h2 : (l.drop (i + 1)).length = l.length - (i + 1) := by rw [List.length_drop]
  have hf : [l.take i, l.drop (i + 1)].flatten = lackL l i := by simp [lackL]
  rw [← h2] at h
  have h := (show w'.heap[g]? = some (.cells #[.slice (some ⟨b, off, none⟩) (l.take i).length lc, .slice E (l.drop (i + 1)).length e] T (0, 0)) by rw [h1]; exact h)
  have hw : At w' w'.heap.size (some ⟨b, off, none⟩) l := (hat.below (hb.mono hN)).more (Nat.le_trans hN hb.size)
  have hE' : At w' w'.heap.size E (l.drop (i + 1)) := by
    subst hE
    by_cases hc : lc = i + 1
    · intro hp
      rw [h2] at hp
      omega
    · rw [if_neg hc]
      exact rs_drop hw (i + 1)
  have R := rows_two hg2 h (by omega) (by omega) (rs_take hw i) hE'
  have C := concat_ok [l.take i, l.drop (i + 1)] (some ⟨g, 0, none⟩) 2 w'.heap.size w' R (Nat.le_refl _) (by simp) (by rw [hf]; exact Nat.le_trans (lack_len l i) hln)
  rw [hf] at C
  refine C.mono ?_
  rintro e w2 ⟨A, c, rfl, ho, hb2⟩
  exact ⟨A, c, rfl, own_less ho hb.size, hb.trans (hb2.mono hb.size)⟩

set_option maxHeartbeats 4000000 in
set_option maxRecDepth 100000 in
theorem without_ok {L : Option Addr} {l : List Int} {lc N : Nat} (w : World) (hat : At w N L l) (hN : N ≤ w.heap.size) (hcap : l.length ≤ lc) (hln : l.length ≤ 4294967296) (i : Nat) (hi : i < l.length) :
    Calls Tryz.prog 102 #[.slice L l.length lc, .int .i64 i] w (NewL (lackL l i) w) := by
  obtain ⟨b, off, rfl, _, _⟩ := hat (by omega)
  have C := Lib.hid (fun w' hb E e T g => lack_call w w' i hi hcap hat hN hln hb E e T g)
  clear hat hN
  generalize lackL l i = z at *
  generalize l.length = m at *
  by_cases hc : lc = i + 1
  · subst hc
    obtain rfl : m = i + 1 := by omega
    have CC := Lib.hid (fun w' hb g T hg hg2 (h : w'.heap[g]? = some (.cells #[.slice (some ⟨b, off, none⟩) i (i + 1), .slice (some ⟨b, off, none⟩) 0 0] T (0, 0))) => C.out w' hb (some ⟨b, off, none⟩) (i + 1 - (i + 1)) T g hg hg2 (by rw [if_pos rfl]) rfl (by simpa using h))
    clear C
    have s0 : IntKind.i64.wrap ((i : Int) + 1) = (i : Int) + 1 := IntWalk.i64_in _ (by omega)
    have s1 : (0 : Int) ≤ (i : Int) + 1 := by omega
    have s2 : ((i : Int) + 1).toNat = i + 1 := by omega
    have s3 : (0 : Int) ≤ (i : Int) := by omega
    have s4 : (i : Int) ≤ ((i + 1 : Nat) : Int) := by omega
    have s6 : (i : Int) ≤ (i : Int) + 1 := by omega
    have s5 : (i : Int) + 1 ≤ ((i + 1 : Nat) : Int) := by omega
    clear hcap hi
    go_enter Tryz.func102, Tryz.ntmps102
    go_wp2_with fail
    go_region_held3 (fun w' => True) (trivial) (((with_reducible refine (CC.out _ (bel_new _ _) w.heap.size _ (Nat.le_refl _) (lt_new _ _) (heap_new3 _ _)).mono ?_); rintro e w2 ⟨A2, c2, rfl, ho, hb⟩))
    go_wp2_with fail
    go_ret
    exact ⟨A2, c2, rfl, ho, hb⟩
  · have CC := Lib.hid (fun w' hb g T hg hg2 h => C.out w' hb (some ⟨b, off + (i + 1), none⟩) (lc - (i + 1)) T g hg hg2 (by rw [if_neg hc]) rfl h)
    have hc2 : i + 1 < lc := by omega
    clear C
    have s0 : IntKind.i64.wrap ((i : Int) + 1) = (i : Int) + 1 := IntWalk.i64_in _ (by omega)
    have s1 : (0 : Int) ≤ (i : Int) + 1 := by omega
    have s2 : ((i : Int) + 1).toNat = i + 1 := by omega
    have s3 : (0 : Int) ≤ (i : Int) := by omega
    have s4 : (i : Int) ≤ (lc : Int) := by omega
    have s5 : (i : Int) + 1 ≤ (m : Int) := by omega
    have s6 : (m : Int) ≤ (lc : Int) := by omega
    have s7 : ¬ (i + 1 = lc) := by omega
    have s8 : ¬ (lc = i + 1) := by omega
    clear hc
    go_enter Tryz.func102, Tryz.ntmps102
    go_wp2_with fail
    go_region_held3 (fun w' => True) (trivial) (((with_reducible refine (CC.out _ (bel_new _ _) w.heap.size _ (Nat.le_refl _) (lt_new _ _) (heap_new3 _ _)).mono ?_); rintro e w2 ⟨A2, c2, rfl, ho, hb⟩))
    go_wp2_with fail
    go_ret
    exact ⟨A2, c2, rfl, ho, hb⟩
end Go.Proofs.YtabkihellcflhaaGreatDoor.Gens
