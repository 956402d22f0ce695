/-
  ValOwn: who writes into a value that was read changes nothing that is read later.
  Conditions: the second form's bound on what comes in; the library's variables as the program's text lays them.
-/
import Derived.Test.YtgeljcfokeiaeaaDoorTellsP
namespace Go.Proofs.YtgeljcfokeiaeaaDoor.ValOwnLaw
open Go.ChangeShapes Go.WideShapes Go.ChangeAt Go.RowKit Lists Ints Build Ref Vals
set_option linter.unusedVariables false

set_option maxRecDepth 100000 in
theorem told2_nil (w : World) : Calls Tryd.prog 18 #[.nilIface, .nilIface] w fun e w' => e = .returned (.bool true) ∧ Below w.heap.size w w' := by
  go_enter Tryd.func18, Tryd.ntmps18
  go_wp2_with fail
  refine (Told.told_nil _).mono ?_
  rintro e w1 ⟨rfl, b1⟩
  go_wp2_with fail
  refine (Told.told_nil _).mono ?_
  rintro e w2 ⟨rfl, b2⟩
  have b := on b1 b2
  clear b1 b2
  go_wp2_with fail
  go_ret
  exact ⟨by first | rfl | simp, b⟩
set_option maxRecDepth 100000 in
theorem told2_3 (w : World) (h : Told.Handle w) : Calls Tryd.prog 18 #[.iface 26 (.int .i64 3), .iface 26 (.int .i64 3)] w fun e w' => e = .returned (.bool true) ∧ Below w.heap.size w w' := by
  have H := Lib.hid h
  clear h
  go_enter Tryd.func18, Tryd.ntmps18
  go_wp2_with fail
  refine (Told.told_errno 3 _ H.out).mono ?_
  rintro e w1 ⟨rfl, b1⟩
  go_wp2_with fail
  refine (Told.told_errno 3 _ (H.out.below b1)).mono ?_
  rintro e w2 ⟨rfl, b2⟩
  have b := on b1 b2
  clear b1 b2
  go_wp2_with fail
  go_ret
  exact ⟨by first | rfl | simp, b⟩

/-- a row of so many cells, not frozen -/
def Row (b n : Nat) (w : World) : Prop := ∃ cs T, w.heap[b]? = some (.cells cs T (0, 0)) ∧ n ≤ cs.size
theorem Row.set {b n : Nat} {w : World} (h : Row b n w) (p : Addr) (v : Value) : Row b n (w.setCell p v) := by
  obtain ⟨cs, T, e, hn⟩ := h
  unfold Row
  simp only [World.setCell, Array.getElem?_modify, e]
  split
  · exact ⟨_, _, rfl, by split <;> simpa using hn⟩
  · exact ⟨_, _, rfl, hn⟩
theorem Row.facts {b n : Nat} {w : World} (h : Row b n w) (o : Nat) (ho : o < n) : (∃ u, w.cell? ⟨b, o, none⟩ = some u) ∧ w.frozen? ⟨b, o, none⟩ = false := by
  obtain ⟨cs, T, e, hn⟩ := h
  exact ⟨⟨cs[o]'(by omega), by rw [Lib.cell_of_heap e, Array.getElem?_eq_getElem]⟩, Lib.frozen_of_heap e o⟩
theorem Row.below {b n : Nat} {w w' : World} (h : Row b n w) (hb : Below w.heap.size w w') : Row b n w' := by
  obtain ⟨cs, T, e, hn⟩ := h
  exact ⟨cs, T, (hb.block b (Array.getElem?_eq_some_iff.1 e).1).trans e, hn⟩
theorem row_of {w w1 : World} {t : Tr} {A : Option Addr} {c n : Nat} (h : TAt w1 (New w w1) n (tv t A c) t) (hn : NF A w1) (hp : 0 < t.items.length) : ∃ b off, A = some ⟨b, off, none⟩ ∧ w.heap.size ≤ b ∧ b < w1.heap.size ∧ Row b (off + t.items.length * 3) w1 := by
  obtain ⟨m, D, d, _, _, ev, hit⟩ := h.open_
  simp only [Value.agg.injEq, Array.mk.injEq, List.cons.injEq, and_true, Value.slice.injEq, true_and] at ev
  obtain ⟨rfl, _⟩ := ev
  obtain ⟨b, off, rfl, hS, hc⟩ := hit hp
  obtain ⟨cs, T, e⟩ := hn b rfl
  refine ⟨b, off, rfl, hS.1, hS.2, cs, T, e, ?_⟩
  obtain ⟨x0, x1, x2, _, _, c2, _⟩ := hc (t.items.length - 1) (by omega)
  rw [Lib.cell_of_heap e] at c2
  have := (Array.getElem?_eq_some_iff.1 c2).1
  omega

/-- a reading that comes to the tree t, its row not frozen -/
def IsNF (t : Tr) (w : World) (e : Ending) (w' : World) : Prop :=
  ∃ (A : Option Addr) (c : Nat), e = .returned (.tuple #[tv t A c, .nilIface]) ∧ TAt w' (New w w') 6 (tv t A c) t ∧ Below w.heap.size w w' ∧ NF A w'
theorem nf_is {s : ByteArray} {w w' : World} {e : Ending} {t : Tr} (hg : Vals.Good 6 t) (ht : s.data.toList = textV t) (h : ParseNF s w e w') : IsNF t w e w' := by
  rcases h with ⟨t2, A, c, h1, h2, h3, h4, h5, h6⟩ | ⟨hno, _, _⟩
  · have : t2 = t := text_inj h1.1 hg.1 (h2.symm.trans ht)
    subst this
    exact ⟨A, c, h3, h4, h5, h6⟩
  · exact absurd ht (hno t hg)

set_option maxHeartbeats 16000000 in
set_option maxRecDepth 100000 in
theorem walk (s : ByteArray) (x : Int) (hbulk : s.size ≤ 1048576) (w : World) (ws : s.size ≤ 9223372036854775807) (wx : (Lit.int .i64 x).wf = true) (ht : Tab w) (he : Errs w) (hh : Told.Handle w) :
    Calls Tryd.prog 6 #[.string s, .int .i64 x] w fun e w' => e = .returned (.bool true) ∧ Below w.heap.size w w' := by
  have TB := Lib.hid (fun w1 (hb : Below w.heap.size w w1) => ht.below hb)
  have ER := Lib.hid (fun w1 (hb : Below w.heap.size w w1) => he.below hb)
  have HD := Lib.hid (fun w1 (hb : Below w.heap.size w w1) => hh.below hb)
  have P5 := Lib.hid (fun w1 (hb : Below w.heap.size w w1) => parse5 w1 (ht.below hb) (he.below hb))
  have PN := Lib.hid (fun w1 (hb : Below w.heap.size w w1) => parse_nf s (by omega) w1 (ht.below hb) (he.below hb))
  have PP := Lib.hid (fun w1 (hb : Below w.heap.size w w1) => parse_prog s (by omega) w1 (ht.below hb) (he.below hb))
  clear ws wx ht he hh
  by_cases hx : ∃ t0 : Tr, Vals.Good 6 t0 ∧ s.data.toList = textV t0
  · obtain ⟨t0, hg0, hx⟩ := hx
    have hzt : t0.size ≤ 1048576 := by have := good_size hg0; rw [← hx, ← size_toList] at this; omega
    have hln : t0.items.length ≤ 1048576 := by have := len_sizes t0.items; have := size_items t0; omega
    have PA := Lib.hid (fun w1 hb => (PN.out w1 hb).mono (R' := IsNF t0 w1) (fun e w' h => nf_is hg0 hx h))
    have PB := Lib.hid (fun w1 hb => (PP.out w1 hb).mono (R' := Is t0 .nilIface w1) (fun e w' h => ends_is hg0 hx h))
    have ST := Lib.hid (show (⟨(textV t0).toArray⟩ : ByteArray) = s from Go.WideShapes.bytes_inj (by rw [← hx]))
    clear hg0 hx PN PP
    go_enter Tryd.func6, Tryd.ntmps6
    go_wp2_with fail
    refine (PA.out w (Below.refl _ _)).mono ?_
    rintro e w1 ⟨A1, c1, rfl, hta, b1, hnf⟩
    have b1a : Below w1.heap.size w1 (w1.alloc (tc t0 A1 c1)) := (Below.refl _ _).alloc (Nat.le_refl _) _
    have B1 := on b1 b1a
    have HTA := Lib.hid hta
    have HNF := Lib.hid hnf
    have hs1 : w.heap.size ≤ w1.heap.size := b1.size
    clear hta hnf b1
    go_wp2_with fail
    refine (P5.out _ B1).mono ?_
    rintro e w2 ⟨b5, o5, c5, rfl, _, _, b2'⟩
    have b2a : Below w2.heap.size w2 (w2.alloc (.cells #[.bool true, .int .i64 0, .slice (some ⟨b5, o5, none⟩) 1 c5] 24)) := (Below.refl _ _).alloc (Nat.le_refl _) _
    have b12 := on b2' b2a
    have B2 := Lib.hid (on B1 b12)
    have X2 := Lib.hid ((B3.new w1 (.bool t0.list) (.int .i64 t0.num) (.slice A1 t0.items.length c1)).below b12)
    have B12 := Lib.hid (on b1a b12)
    have hvl : w1.heap.size < (w2.alloc (.cells #[.bool true, .int .i64 0, .slice (some ⟨b5, o5, none⟩) 1 c5] 24)).heap.size := by have := b12.size; simp at this ⊢; omega
    clear b2' b2a b12 B1 b1a
    go_wp2_with fail
    go_loopw [9] (fun i wr => ∃ k : Nat, k ≤ t0.items.length ∧ i = .int .i64 k ∧ B3 w1.heap.size (.bool t0.list) (.int .i64 t0.num) (.slice A1 t0.items.length c1) wr ∧ Below w.heap.size w wr ∧ Hid (∀ b off, A1 = some ⟨b, off, none⟩ → 0 < t0.items.length → w.heap.size ≤ b ∧ b < w1.heap.size ∧ Row b (off + t0.items.length * 3) wr)) (fun i _ => t0.items.length - (intOf i).toNat)
    case atStart =>
      refine ⟨0, Nat.zero_le _, rfl, X2.out, B2.out, ?_⟩
      intro b off e hp
      obtain ⟨b', off', e', h1, h2, h3⟩ := row_of HTA.out HNF.out hp
      rw [e] at e'
      injection e' with e'
      injection e' with e1 e2
      subst e1 e2
      exact ⟨h1, h2, h3.below B12.out⟩
    case round =>
      obtain ⟨k, hk, rfl, hx3, hbw, hrow⟩ := hrel
      obtain ⟨z0, z1, z2, _, _, _⟩ := hx3.facts
      have X3 := Lib.hid hx3
      have BW := Lib.hid hbw
      clear hx3 hbw
      by_cases hlt : k < t0.items.length
      · obtain ⟨b, off, rfl, g1, g2, _⟩ := row_of HTA.out HNF.out (by omega)
        obtain ⟨_, _, hr⟩ := hrow.out b off rfl (by omega)
        have HR := Lib.hid hr
        obtain ⟨⟨u0, c0⟩, f0⟩ := hr.facts (off + k * 3) (by omega)
        obtain ⟨⟨u1, c1'⟩, f1⟩ := hr.facts (off + k * 3 + 1) (by omega)
        obtain ⟨⟨u2, c2⟩, f2⟩ := hr.facts (off + k * 3 + 2) (by omega)
        have hne : ¬ b = w1.heap.size := by omega
        have hne' : ¬ w1.heap.size = b := by omega
        have HNE := Lib.hid hne'
        have HG := Lib.hid g1
        clear hr hrow
        go_wp2_with fail
        go_roundw
        case rel =>
          refine ⟨k + 1, hlt, by go_num, ((X3.out.other HNE.out _ _).other HNE.out _ _).other HNE.out _ _, below_set (below_set (below_set BW.out HG.out _ _) HG.out _ _) HG.out _ _, ?_⟩
          intro b' off' e' hp
          injection e' with e'
          injection e' with e1 e2
          subst e1 e2
          exact ⟨HG.out, by omega, ((HR.out.set _ _).set _ _).set _ _⟩
        case measure => simp [intOf]; omega
      · clear hrow
        go_wp2_with fail
        refine (PB.out _ BW.out).mono ?_
        rintro e w5 ⟨A5, c5', rfl, hta5, b5'⟩
        have b5a : Below w5.heap.size w5 (w5.alloc (tc t0 A5 c5')) := (Below.refl _ _).alloc (Nat.le_refl _) _
        have B5 := Lib.hid (BW.out.trans ((on b5' b5a).mono BW.out.size))
        have T5 := Lib.hid ((TAt.bel hta5).below b5a)
        have S5 := Lib.hid b5a.size
        clear hta5 b5' b5a z0 z1 z2
        go_wp2_with fail
        refine (told2_nil _).mono ?_
        rintro e w6 ⟨rfl, b6⟩
        have B6 := Lib.hid (B5.out.trans (b6.mono B5.out.size))
        have T6 := T5.out.below (b6.mono S5.out)
        have S6 := Nat.le_trans S5.out b6.size
        obtain ⟨z0, z1, z2⟩ := box_facts w5 w6 (.bool t0.list) (.int .i64 t0.num) (.slice A5 t0.items.length c5') b6
        have TX := text_prog w6 T6 S6 (by omega) (TB.out _ B6.out)
        rw [ST.out] at TX
        have HTX := Lib.hid TX
        have HB6 := Lib.hid b6
        have HT6 := Lib.hid T6
        have HS6 := Lib.hid S6
        clear b6 TX T6 S6
        go_wp2_with fail
        refine HTX.out.mono ?_
        rintro e w7 ⟨rfl, b7⟩
        have B7 := Lib.hid (B6.out.trans (b7.mono B6.out.size))
        have T7 := HT6.out.below (b7.mono HS6.out)
        have RX := reftext w7 T7 (Nat.le_trans HS6.out b7.size) (by omega)
        rw [ST.out] at RX
        have HRX := Lib.hid RX
        clear z0 z1 z2
        obtain ⟨z0, z1, z2⟩ := box_facts w5 w7 (.bool t0.list) (.int .i64 t0.num) (.slice A5 t0.items.length c5') (on HB6.out b7)
        clear b7 RX T7
        go_wp2_with fail
        refine HRX.out.mono ?_
        rintro e w8 ⟨rfl, b8⟩
        have B8 := Lib.hid (B7.out.trans (b8.mono B7.out.size))
        clear b8 z0 z1 z2
        go_wp2_with fail
        go_ret
        exact ⟨by first | rfl | simp, B8.out⟩
  · have hx' : ∀ t0 : Tr, Vals.Good 6 t0 → s.data.toList ≠ textV t0 := fun t0 h1 h2 => hx ⟨t0, h1, h2⟩
    have PA := Lib.hid (fun w1 hb => (PP.out w1 hb).mono (R' := fun e w' => e = .returned (.tuple #[zeroV, .iface 26 (.int .i64 3)]) ∧ Below w1.heap.size w1 w') (fun e w' h => ends_not hx' h))
    clear hx hx' PP PN
    go_enter Tryd.func6, Tryd.ntmps6
    go_wp2_with fail
    refine (PA.out w (Below.refl _ _)).mono ?_
    rintro e w1 ⟨rfl, b1⟩
    have b1a : Below w1.heap.size w1 (w1.alloc (.cells #[.bool false, .int .i64 0, .slice none 0 0] 24)) := (Below.refl _ _).alloc (Nat.le_refl _) _
    have B1 := on b1 b1a
    clear b1
    go_wp2_with fail
    refine (P5.out _ B1).mono ?_
    rintro e w2 ⟨b5, o5, c5, rfl, _, _, b2'⟩
    have b2a : Below w2.heap.size w2 (w2.alloc (.cells #[.bool true, .int .i64 0, .slice (some ⟨b5, o5, none⟩) 1 c5] 24)) := (Below.refl _ _).alloc (Nat.le_refl _) _
    have b12 := on b2' b2a
    have B2 := Lib.hid (on B1 b12)
    obtain ⟨z0, z1, z2⟩ := box_facts w1 _ (.bool false) (.int .i64 0) (.slice none 0 0) b12
    clear b2' b2a b12 B1 b1a
    go_wp2_with fail
    refine wp_loop_rounds 1 ?_
    rw [rounds_succ]
    go_wp2_with fail
    clear z0 z1 z2
    refine (PA.out _ B2.out).mono ?_
    rintro e w5 ⟨rfl, b5'⟩
    have b5a : Below w5.heap.size w5 (w5.alloc (.cells #[.bool false, .int .i64 0, .slice none 0 0] 24)) := (Below.refl _ _).alloc (Nat.le_refl _) _
    have B5 := Lib.hid (B2.out.trans ((on b5' b5a).mono B2.out.size))
    clear b5' b5a
    go_wp2_with fail
    refine (told2_3 _ (HD.out _ B5.out)).mono ?_
    rintro e w6 ⟨rfl, b6⟩
    have B6 := Lib.hid (B5.out.trans (b6.mono B5.out.size))
    clear b6
    go_wp2_with fail
    go_ret
    exact ⟨by first | rfl | simp, B6.out⟩
end Go.Proofs.YtgeljcfokeiaeaaDoor.ValOwnLaw
