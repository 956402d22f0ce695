/-
  ValTells: of any value and any text the program tells what the document does: Check, Text, Parse, Same.
  Conditions: the second form's bound on what comes in; the library's variables as the program's text lays them.
-/
import Derived.Test.YtgeljcfokeiaeaaDoorTellsP
namespace Go.Proofs.YtgeljcfokeiaeaaDoor.ValTellsLaw
open Go.ChangeShapes Go.WideShapes Go.ChangeAt Go.RowKit Lists Ints Build Ref Vals Rng
set_option linter.unusedVariables false

set_option maxHeartbeats 16000000 in
set_option maxRecDepth 100000 in
theorem walk (t : Tr) (A : Option Addr) (c n : Nat) (u : Tr) (D : Option Addr) (d m : Nat) (s : ByteArray) (hbulk : t.size + u.size + s.size ≤ 1048576) (w : World)
    (hT : TAt w (Bel w.heap.size) n (tv t A c) t) (hU : TAt w (Bel w.heap.size) m (tv u D d) u) (ws : s.size ≤ 9223372036854775807) (ht : Tab w) (he : Errs w) (hh : Told.Handle w) :
    Calls Tryd.prog 3 #[tv t A c, tv u D d, .string s] w fun e w' => e = .returned (.bool true) ∧ Below w.heap.size w w' := by
  have hb0 := below_box2 w t u A D c d
  have lw : ∀ (w1 : World), Below ((w.alloc (tc t A c)).alloc (tc u D d)).heap.size ((w.alloc (tc t A c)).alloc (tc u D d)) w1 → Below w.heap.size w w1 := fun _ h => on hb0 h
  have LW := Lib.hid lw
  have BX := Lib.hid (fun w1 hb => box2 (w := w) (t := t) (u := u) (A := A) (D := D) (c := c) (d := d) (w1 := w1) hb)
  have FA := Lib.hid (fun w1 (hb : Below ((w.alloc (tc t A c)).alloc (tc u D d)).heap.size ((w.alloc (tc t A c)).alloc (tc u D d)) w1) => fault0 w1 (hT.below (lw _ hb)) (lw _ hb).size (by omega))
  have GA := Lib.hid (fun w1 (hb : Below ((w.alloc (tc t A c)).alloc (tc u D d)).heap.size ((w.alloc (tc t A c)).alloc (tc u D d)) w1) => fault0 w1 (hU.below (lw _ hb)) (lw _ hb).size (by omega))
  have CK := Lib.hid (fun w1 (hb : Below ((w.alloc (tc t A c)).alloc (tc u D d)).heap.size ((w.alloc (tc t A c)).alloc (tc u D d)) w1) => check_prog w1 (hT.below (lw _ hb)) (lw _ hb).size (by omega))
  have ET := Lib.hid (fun w1 (hb : Below ((w.alloc (tc t A c)).alloc (tc u D d)).heap.size ((w.alloc (tc t A c)).alloc (tc u D d)) w1) => err_told (faultV t 0) w1 (hh.below (lw _ hb)))
  have HD := Lib.hid (fun w1 (hb : Below ((w.alloc (tc t A c)).alloc (tc u D d)).heap.size ((w.alloc (tc t A c)).alloc (tc u D d)) w1) => (hh.below (lw _ hb)))
  have TB := Lib.hid (fun w1 (hb : Below ((w.alloc (tc t A c)).alloc (tc u D d)).heap.size ((w.alloc (tc t A c)).alloc (tc u D d)) w1) => (ht.below (lw _ hb)))
  have ER := Lib.hid (fun w1 (hb : Below ((w.alloc (tc t A c)).alloc (tc u D d)).heap.size ((w.alloc (tc t A c)).alloc (tc u D d)) w1) => (he.below (lw _ hb)))
  have TX := Lib.hid (fun w1 (hb : Below ((w.alloc (tc t A c)).alloc (tc u D d)).heap.size ((w.alloc (tc t A c)).alloc (tc u D d)) w1) => text_prog w1 (hT.below (lw _ hb)) (lw _ hb).size (by omega) (ht.below (lw _ hb)))
  have RT := Lib.hid (fun w1 (hb : Below ((w.alloc (tc t A c)).alloc (tc u D d)).heap.size ((w.alloc (tc t A c)).alloc (tc u D d)) w1) => reftext w1 (hT.below (lw _ hb)) (lw _ hb).size (by omega))
  have RU := Lib.hid (fun w1 (hb : Below ((w.alloc (tc t A c)).alloc (tc u D d)).heap.size ((w.alloc (tc t A c)).alloc (tc u D d)) w1) => reftext w1 (hU.below (lw _ hb)) (lw _ hb).size (by omega))
  have SM := Lib.hid (fun w1 (hb : Below ((w.alloc (tc t A c)).alloc (tc u D d)).heap.size ((w.alloc (tc t A c)).alloc (tc u D d)) w1) => same_prog w1 (hT.below (lw _ hb)) (hU.below (lw _ hb)) (lw _ hb).size (by omega) (by omega) (ht.below (lw _ hb)))
  have hz : s.size ≤ 1048576 := by omega
  clear hT hU ht he hh hbulk hb0 lw ws
  have PO := Lib.hid (fun w1 => valueof_any s (by omega) w1)
  have PP := Lib.hid (fun w1 h1 h2 => parse_prog s (by omega) w1 h1 h2)
  have SP := Lib.hid (show sameP t u = (decide (faultV t 0 = 0) && decide (faultV u 0 = 0) && decide (textV t = textV u)) from rfl)
  have HE := Lib.hid (eq_bytes (a := textV t) (b := textV u))
  obtain ⟨f, hf⟩ : ∃ f, f = faultV t 0 := ⟨_, rfl⟩
  obtain ⟨g, hg⟩ : ∃ g, g = faultV u 0 := ⟨_, rfl⟩
  rw [← hf] at FA CK ET SP
  rw [← hg] at GA SP
  clear hf hg
  generalize errOf f = E at CK ET
  by_cases hx : ∃ t0 : Tr, Vals.Good 6 t0 ∧ s.data.toList = textV t0
  · obtain ⟨t0, hg0, hx⟩ := hx
    have HZ := Lib.hid (show t0.size ≤ 4294967296 by have := good_size hg0; rw [← hx, ← size_toList] at this; omega)
    have VO := Lib.hid (fun w1 => (PO.out w1).mono (R' := Is t0 (.bool true) w1) (fun e w' h => ends_is hg0 hx h))
    have PA := Lib.hid (fun w1 h1 h2 => (PP.out w1 h1 h2).mono (R' := Is t0 .nilIface w1) (fun e w' h => ends_is hg0 hx h))
    clear hg0 hx PO PP
    by_cases f0 : f = 0
    · subst f0
      by_cases g0 : g = 0
      · subst g0
        have SP := Lib.hid (show sameP t u = decide (textV t = textV u) by rw [SP.out]; simp)
        rw [SP.out] at SM
        generalize (⟨(textV t).toArray⟩ : ByteArray) = st at TX RT HE
        generalize (⟨(textV u).toArray⟩ : ByteArray) = su at RU HE
        generalize decide (textV t = textV u) = b at SM HE
        have HE := Lib.hid HE.out
        clear SP
        have he : (st.toList == su.toList) = b := HE.out
        go_enter Tryd.func3, Tryd.ntmps3
        go_wp2_with fail
        refine (five_any _ (TB.out _ (Below.refl _ _)) (ER.out _ (Below.refl _ _))).mono ?_
        rintro e w1 ⟨rfl, b1⟩
        obtain ⟨⟨p0, p1, p2⟩, _⟩ := BX.out w1 b1
        go_wp2_with fail
        refine (FA.out w1 b1).mono ?_
        rintro e w2 ⟨rfl, b2'⟩
        have b2 := on b1 b2'
        clear p0 p1 p2 b2' b1
        obtain ⟨⟨p0, p1, p2⟩, _⟩ := BX.out w2 b2
        go_wp2_with fail
        refine (CK.out w2 b2).mono ?_
        rintro e w3 ⟨rfl, b3'⟩
        have b3 := on b2 b3'
        clear p0 p1 p2 b3' b2
        go_wp2_with fail
        refine (ET.out w3 b3).mono ?_
        rintro e w4 ⟨rfl, b4'⟩
        have b4 := on b3 b4'
        clear b4' b3
        go_wp2_with fail
        refine (VO.out w4).mono ?_
        rintro e w5 ⟨A1, c1, rfl, hta1, b5'⟩
        have b5 := on b4 b5'
        have X5 := Lib.hid (TAt.bel hta1)
        have b5a : Below w5.heap.size w5 (w5.alloc (tc t0 A1 c1)) := (Below.refl _ _).alloc (Nat.le_refl _) _
        have b5b := on b5 b5a
        clear b5' b4 hta1
        go_wp2_with fail
        refine (PA.out (w5.alloc (tc t0 A1 c1)) (TB.out _ b5b) (ER.out _ b5b)).mono ?_
        rintro e w6 ⟨A2, c2, rfl, hta2, b6'⟩
        have b6x := b6'
        have b6 := on b5b b6'
        have Y6 := Lib.hid (TAt.bel hta2)
        have b6a : Below w6.heap.size w6 (w6.alloc (tc t0 A2 c2)) := (Below.refl _ _).alloc (Nat.le_refl _) _
        have b6b := on b6 b6a
        clear b6' hta2
        go_wp2_with fail
        refine (err_nil _ (HD.out _ b6b)).mono ?_
        rintro e w7 ⟨rfl, b7'⟩
        have b7 := on b6b b7'
        have bx : Below (w5.alloc (tc t0 A1 c1)).heap.size (w5.alloc (tc t0 A1 c1)) w7 := on (on b6x b6a) b7'
        obtain ⟨x0, x1, x2⟩ := box_facts w5 w7 (.bool t0.list) (.int .i64 t0.num) (.slice A1 t0.items.length c1) bx
        obtain ⟨y0, y1, y2⟩ := box_facts w6 w7 (.bool t0.list) (.int .i64 t0.num) (.slice A2 t0.items.length c2) b7'
        have SE := Lib.hid (same_eq w7 ((X5.out.below (on b5a bx)).more (show w5.heap.size ≤ w6.heap.size by have := b6x.size; simp at this; omega)) (Y6.out.below (on b6a b7')) (on b6a b7').size HZ.out)
        clear b7' bx b6a b6x b5a b5b b6b b5 b6
        go_wp2_with fail
        refine SE.out.mono ?_
        rintro e w8 ⟨rfl, b8'⟩
        have b8 := on b7 b8'
        clear b8' b7 SE x0 x1 x2 y0 y1 y2
        obtain ⟨_, r0, r1, r2⟩ := BX.out w8 b8
        go_wp2_with fail
        refine (GA.out w8 b8).mono ?_
        rintro e w9 ⟨rfl, b9'⟩
        have b9 := on b8 b9'
        clear r0 r1 r2 b9' b8
        obtain ⟨⟨q0, q1, q2⟩, r0, r1, r2⟩ := BX.out w9 b9
        have p0 := fun (x : Later w9) => lat_cell q0 x
        have p1 := fun (x : Later w9) => lat_cell q1 x
        have p2 := fun (x : Later w9) => lat_cell q2 x
        have s0 := fun (x : Later w9) => lat_cell r0 x
        have s1 := fun (x : Later w9) => lat_cell r1 x
        have s2 := fun (x : Later w9) => lat_cell r2 x
        have HTX := Lib.hid (fun (x : Later w9) => TX.out (lat x) (on b9 (lat_below x)))
        have HRT := Lib.hid (fun (x : Later w9) => RT.out (lat x) (on b9 (lat_below x)))
        have HRU := Lib.hid (fun (x : Later w9) => RU.out (lat x) (on b9 (lat_below x)))
        have HSM := Lib.hid (fun (x : Later w9) => SM.out (lat x) (on b9 (lat_below x)))
        have B9 := Lib.hid b9
        clear q0 q1 q2 r0 r1 r2 b9
        go_wp2_with fail
        refine wp_region_later (by kernel_rfl) (by kernel_rfl) ?_
        repeat (go_big_quiet_step (first | (go_at_call 15; exact later_call (HTX.out _)) | (go_at_call 16; first | (with_reducible exact later_call (HRT.out _)) | (with_reducible exact later_call (HRU.out _))) | (go_at_call 17; exact later_call (HSM.out _))))
        refine wpQuiet_nil ?_
        intro _ hw'
        obtain ⟨nq, hw''⟩ := hw'
        subst hw''
        go_wp2_with fail
        go_ret
        exact ⟨rfl, LW.out _ (on B9.out (lat_below nq))⟩
      · have g1 : (g != 0) = true := by rw [bne_iff_ne]; exact g0
        clear g0
        go_enter Tryd.func3, Tryd.ntmps3
        go_wp2_with fail
        refine (five_any _ (TB.out _ (Below.refl _ _)) (ER.out _ (Below.refl _ _))).mono ?_
        rintro e w1 ⟨rfl, b1⟩
        obtain ⟨⟨p0, p1, p2⟩, _⟩ := BX.out w1 b1
        go_wp2_with fail
        refine (FA.out w1 b1).mono ?_
        rintro e w2 ⟨rfl, b2'⟩
        have b2 := on b1 b2'
        clear p0 p1 p2 b2' b1
        obtain ⟨⟨p0, p1, p2⟩, _⟩ := BX.out w2 b2
        go_wp2_with fail
        refine (CK.out w2 b2).mono ?_
        rintro e w3 ⟨rfl, b3'⟩
        have b3 := on b2 b3'
        clear p0 p1 p2 b3' b2
        go_wp2_with fail
        refine (ET.out w3 b3).mono ?_
        rintro e w4 ⟨rfl, b4'⟩
        have b4 := on b3 b4'
        clear b4' b3
        go_wp2_with fail
        refine (VO.out w4).mono ?_
        rintro e w5 ⟨A1, c1, rfl, hta1, b5'⟩
        have b5 := on b4 b5'
        have X5 := Lib.hid (TAt.bel hta1)
        have b5a : Below w5.heap.size w5 (w5.alloc (tc t0 A1 c1)) := (Below.refl _ _).alloc (Nat.le_refl _) _
        have b5b := on b5 b5a
        clear b5' b4 hta1
        go_wp2_with fail
        refine (PA.out (w5.alloc (tc t0 A1 c1)) (TB.out _ b5b) (ER.out _ b5b)).mono ?_
        rintro e w6 ⟨A2, c2, rfl, hta2, b6'⟩
        have b6x := b6'
        have b6 := on b5b b6'
        have Y6 := Lib.hid (TAt.bel hta2)
        have b6a : Below w6.heap.size w6 (w6.alloc (tc t0 A2 c2)) := (Below.refl _ _).alloc (Nat.le_refl _) _
        have b6b := on b6 b6a
        clear b6' hta2
        go_wp2_with fail
        refine (err_nil _ (HD.out _ b6b)).mono ?_
        rintro e w7 ⟨rfl, b7'⟩
        have b7 := on b6b b7'
        have bx : Below (w5.alloc (tc t0 A1 c1)).heap.size (w5.alloc (tc t0 A1 c1)) w7 := on (on b6x b6a) b7'
        obtain ⟨x0, x1, x2⟩ := box_facts w5 w7 (.bool t0.list) (.int .i64 t0.num) (.slice A1 t0.items.length c1) bx
        obtain ⟨y0, y1, y2⟩ := box_facts w6 w7 (.bool t0.list) (.int .i64 t0.num) (.slice A2 t0.items.length c2) b7'
        have SE := Lib.hid (same_eq w7 ((X5.out.below (on b5a bx)).more (show w5.heap.size ≤ w6.heap.size by have := b6x.size; simp at this; omega)) (Y6.out.below (on b6a b7')) (on b6a b7').size HZ.out)
        clear b7' bx b6a b6x b5a b5b b6b b5 b6
        go_wp2_with fail
        refine SE.out.mono ?_
        rintro e w8 ⟨rfl, b8'⟩
        have b8 := on b7 b8'
        clear b8' b7 SE x0 x1 x2 y0 y1 y2
        obtain ⟨_, r0, r1, r2⟩ := BX.out w8 b8
        go_wp2_with fail
        refine (GA.out w8 b8).mono ?_
        rintro e w9 ⟨rfl, b9'⟩
        have b9 := on b8 b9'
        clear r0 r1 r2 b9' b8
        go_wp2_with fail
        go_ret
        exact ⟨rfl, LW.out _ b9⟩
    · have f1 : (f != 0) = true := by rw [bne_iff_ne]; exact f0
      clear f0
      go_enter Tryd.func3, Tryd.ntmps3
      go_wp2_with fail
      refine (five_any _ (TB.out _ (Below.refl _ _)) (ER.out _ (Below.refl _ _))).mono ?_
      rintro e w1 ⟨rfl, b1⟩
      obtain ⟨⟨p0, p1, p2⟩, _⟩ := BX.out w1 b1
      go_wp2_with fail
      refine (FA.out w1 b1).mono ?_
      rintro e w2 ⟨rfl, b2'⟩
      have b2 := on b1 b2'
      clear p0 p1 p2 b2' b1
      obtain ⟨⟨p0, p1, p2⟩, _⟩ := BX.out w2 b2
      go_wp2_with fail
      refine (CK.out w2 b2).mono ?_
      rintro e w3 ⟨rfl, b3'⟩
      have b3 := on b2 b3'
      clear p0 p1 p2 b3' b2
      go_wp2_with fail
      refine (ET.out w3 b3).mono ?_
      rintro e w4 ⟨rfl, b4'⟩
      have b4 := on b3 b4'
      clear b4' b3
      go_wp2_with fail
      refine (VO.out w4).mono ?_
      rintro e w5 ⟨A1, c1, rfl, hta1, b5'⟩
      have b5 := on b4 b5'
      have X5 := Lib.hid (TAt.bel hta1)
      have b5a : Below w5.heap.size w5 (w5.alloc (tc t0 A1 c1)) := (Below.refl _ _).alloc (Nat.le_refl _) _
      have b5b := on b5 b5a
      clear b5' b4 hta1
      go_wp2_with fail
      refine (PA.out (w5.alloc (tc t0 A1 c1)) (TB.out _ b5b) (ER.out _ b5b)).mono ?_
      rintro e w6 ⟨A2, c2, rfl, hta2, b6'⟩
      have b6x := b6'
      have b6 := on b5b b6'
      have Y6 := Lib.hid (TAt.bel hta2)
      have b6a : Below w6.heap.size w6 (w6.alloc (tc t0 A2 c2)) := (Below.refl _ _).alloc (Nat.le_refl _) _
      have b6b := on b6 b6a
      clear b6' hta2
      go_wp2_with fail
      refine (err_nil _ (HD.out _ b6b)).mono ?_
      rintro e w7 ⟨rfl, b7'⟩
      have b7 := on b6b b7'
      have bx : Below (w5.alloc (tc t0 A1 c1)).heap.size (w5.alloc (tc t0 A1 c1)) w7 := on (on b6x b6a) b7'
      obtain ⟨x0, x1, x2⟩ := box_facts w5 w7 (.bool t0.list) (.int .i64 t0.num) (.slice A1 t0.items.length c1) bx
      obtain ⟨y0, y1, y2⟩ := box_facts w6 w7 (.bool t0.list) (.int .i64 t0.num) (.slice A2 t0.items.length c2) b7'
      have SE := Lib.hid (same_eq w7 ((X5.out.below (on b5a bx)).more (show w5.heap.size ≤ w6.heap.size by have := b6x.size; simp at this; omega)) (Y6.out.below (on b6a b7')) (on b6a b7').size HZ.out)
      clear b7' bx b6a b6x b5a b5b b6b b5 b6
      go_wp2_with fail
      refine SE.out.mono ?_
      rintro e w8 ⟨rfl, b8'⟩
      have b8 := on b7 b8'
      clear b8' b7 SE x0 x1 x2 y0 y1 y2
      go_wp2_with fail
      go_ret
      exact ⟨rfl, LW.out _ b8⟩
  · have hx' : ∀ t0 : Tr, Vals.Good 6 t0 → s.data.toList ≠ textV t0 := fun t0 h1 h2 => hx ⟨t0, h1, h2⟩
    have VO := Lib.hid (fun w1 => (PO.out w1).mono (R' := fun e w' => e = .returned (.tuple #[zeroV, .bool false]) ∧ Below w1.heap.size w1 w') (fun e w' h => ends_not hx' h))
    have PA := Lib.hid (fun w1 h1 h2 => (PP.out w1 h1 h2).mono (R' := fun e w' => e = .returned (.tuple #[zeroV, .iface 26 (.int .i64 3)]) ∧ Below w1.heap.size w1 w') (fun e w' h => ends_not hx' h))
    clear hx hx' PO PP
    by_cases f0 : f = 0
    · subst f0
      by_cases g0 : g = 0
      · subst g0
        have SP := Lib.hid (show sameP t u = decide (textV t = textV u) by rw [SP.out]; simp)
        rw [SP.out] at SM
        generalize (⟨(textV t).toArray⟩ : ByteArray) = st at TX RT HE
        generalize (⟨(textV u).toArray⟩ : ByteArray) = su at RU HE
        generalize decide (textV t = textV u) = b at SM HE
        have HE := Lib.hid HE.out
        clear SP
        have he : (st.toList == su.toList) = b := HE.out
        go_enter Tryd.func3, Tryd.ntmps3
        go_wp2_with fail
        refine (five_any _ (TB.out _ (Below.refl _ _)) (ER.out _ (Below.refl _ _))).mono ?_
        rintro e w1 ⟨rfl, b1⟩
        obtain ⟨⟨p0, p1, p2⟩, _⟩ := BX.out w1 b1
        go_wp2_with fail
        refine (FA.out w1 b1).mono ?_
        rintro e w2 ⟨rfl, b2'⟩
        have b2 := on b1 b2'
        clear p0 p1 p2 b2' b1
        obtain ⟨⟨p0, p1, p2⟩, _⟩ := BX.out w2 b2
        go_wp2_with fail
        refine (CK.out w2 b2).mono ?_
        rintro e w3 ⟨rfl, b3'⟩
        have b3 := on b2 b3'
        clear p0 p1 p2 b3' b2
        go_wp2_with fail
        refine (ET.out w3 b3).mono ?_
        rintro e w4 ⟨rfl, b4'⟩
        have b4 := on b3 b4'
        clear b4' b3
        go_wp2_with fail
        refine (VO.out w4).mono ?_
        rintro e w5 ⟨rfl, b5'⟩
        have b5 := on b4 b5'
        have b5a : Below w5.heap.size w5 (w5.alloc (.cells #[.bool false, .int .i64 0, .slice none 0 0] 24)) := (Below.refl _ _).alloc (Nat.le_refl _) _
        have b5b := on b5 b5a
        clear b5' b4
        go_wp2_with fail
        refine (PA.out (w5.alloc (.cells #[.bool false, .int .i64 0, .slice none 0 0] 24)) (TB.out _ b5b) (ER.out _ b5b)).mono ?_
        rintro e w6 ⟨rfl, b6'⟩
        have b6x := b6'
        have b6 := on b5b b6'
        have b6a : Below w6.heap.size w6 (w6.alloc (.cells #[.bool false, .int .i64 0, .slice none 0 0] 24)) := (Below.refl _ _).alloc (Nat.le_refl _) _
        have b6b := on b6 b6a
        clear b6'
        go_wp2_with fail
        refine (err_3 _ (HD.out _ b6b)).mono ?_
        rintro e w7 ⟨rfl, b7'⟩
        have b7 := on b6b b7'
        have bx : Below (w5.alloc (.cells #[.bool false, .int .i64 0, .slice none 0 0] 24)).heap.size (w5.alloc (.cells #[.bool false, .int .i64 0, .slice none 0 0] 24)) w7 := on (on b6x b6a) b7'
        obtain ⟨x0, x1, x2⟩ := box_facts w5 w7 (.bool false) (.int .i64 0) (.slice none 0 0) bx
        obtain ⟨y0, y1, y2⟩ := box_facts w6 w7 (.bool false) (.int .i64 0) (.slice none 0 0) b7'
        have SE := Lib.hid (same_eq w7 (zero_at w7 0) (zero_at w7 0) (Nat.zero_le _) (by decide))
        clear b7' bx b6a b6x b5a b5b b6b b5 b6
        go_wp2_with fail
        refine SE.out.mono ?_
        rintro e w8 ⟨rfl, b8'⟩
        have b8 := on b7 b8'
        clear b8' b7 SE x0 x1 x2 y0 y1 y2
        obtain ⟨_, r0, r1, r2⟩ := BX.out w8 b8
        go_wp2_with fail
        refine (GA.out w8 b8).mono ?_
        rintro e w9 ⟨rfl, b9'⟩
        have b9 := on b8 b9'
        clear r0 r1 r2 b9' b8
        obtain ⟨⟨q0, q1, q2⟩, r0, r1, r2⟩ := BX.out w9 b9
        have p0 := fun (x : Later w9) => lat_cell q0 x
        have p1 := fun (x : Later w9) => lat_cell q1 x
        have p2 := fun (x : Later w9) => lat_cell q2 x
        have s0 := fun (x : Later w9) => lat_cell r0 x
        have s1 := fun (x : Later w9) => lat_cell r1 x
        have s2 := fun (x : Later w9) => lat_cell r2 x
        have HTX := Lib.hid (fun (x : Later w9) => TX.out (lat x) (on b9 (lat_below x)))
        have HRT := Lib.hid (fun (x : Later w9) => RT.out (lat x) (on b9 (lat_below x)))
        have HRU := Lib.hid (fun (x : Later w9) => RU.out (lat x) (on b9 (lat_below x)))
        have HSM := Lib.hid (fun (x : Later w9) => SM.out (lat x) (on b9 (lat_below x)))
        have B9 := Lib.hid b9
        clear q0 q1 q2 r0 r1 r2 b9
        go_wp2_with fail
        refine wp_region_later (by kernel_rfl) (by kernel_rfl) ?_
        repeat (go_big_quiet_step (first | (go_at_call 15; exact later_call (HTX.out _)) | (go_at_call 16; first | (with_reducible exact later_call (HRT.out _)) | (with_reducible exact later_call (HRU.out _))) | (go_at_call 17; exact later_call (HSM.out _))))
        refine wpQuiet_nil ?_
        intro _ hw'
        obtain ⟨nq, hw''⟩ := hw'
        subst hw''
        go_wp2_with fail
        go_ret
        exact ⟨rfl, LW.out _ (on B9.out (lat_below nq))⟩
      · have g1 : (g != 0) = true := by rw [bne_iff_ne]; exact g0
        clear g0
        go_enter Tryd.func3, Tryd.ntmps3
        go_wp2_with fail
        refine (five_any _ (TB.out _ (Below.refl _ _)) (ER.out _ (Below.refl _ _))).mono ?_
        rintro e w1 ⟨rfl, b1⟩
        obtain ⟨⟨p0, p1, p2⟩, _⟩ := BX.out w1 b1
        go_wp2_with fail
        refine (FA.out w1 b1).mono ?_
        rintro e w2 ⟨rfl, b2'⟩
        have b2 := on b1 b2'
        clear p0 p1 p2 b2' b1
        obtain ⟨⟨p0, p1, p2⟩, _⟩ := BX.out w2 b2
        go_wp2_with fail
        refine (CK.out w2 b2).mono ?_
        rintro e w3 ⟨rfl, b3'⟩
        have b3 := on b2 b3'
        clear p0 p1 p2 b3' b2
        go_wp2_with fail
        refine (ET.out w3 b3).mono ?_
        rintro e w4 ⟨rfl, b4'⟩
        have b4 := on b3 b4'
        clear b4' b3
        go_wp2_with fail
        refine (VO.out w4).mono ?_
        rintro e w5 ⟨rfl, b5'⟩
        have b5 := on b4 b5'
        have b5a : Below w5.heap.size w5 (w5.alloc (.cells #[.bool false, .int .i64 0, .slice none 0 0] 24)) := (Below.refl _ _).alloc (Nat.le_refl _) _
        have b5b := on b5 b5a
        clear b5' b4
        go_wp2_with fail
        refine (PA.out (w5.alloc (.cells #[.bool false, .int .i64 0, .slice none 0 0] 24)) (TB.out _ b5b) (ER.out _ b5b)).mono ?_
        rintro e w6 ⟨rfl, b6'⟩
        have b6x := b6'
        have b6 := on b5b b6'
        have b6a : Below w6.heap.size w6 (w6.alloc (.cells #[.bool false, .int .i64 0, .slice none 0 0] 24)) := (Below.refl _ _).alloc (Nat.le_refl _) _
        have b6b := on b6 b6a
        clear b6'
        go_wp2_with fail
        refine (err_3 _ (HD.out _ b6b)).mono ?_
        rintro e w7 ⟨rfl, b7'⟩
        have b7 := on b6b b7'
        have bx : Below (w5.alloc (.cells #[.bool false, .int .i64 0, .slice none 0 0] 24)).heap.size (w5.alloc (.cells #[.bool false, .int .i64 0, .slice none 0 0] 24)) w7 := on (on b6x b6a) b7'
        obtain ⟨x0, x1, x2⟩ := box_facts w5 w7 (.bool false) (.int .i64 0) (.slice none 0 0) bx
        obtain ⟨y0, y1, y2⟩ := box_facts w6 w7 (.bool false) (.int .i64 0) (.slice none 0 0) b7'
        have SE := Lib.hid (same_eq w7 (zero_at w7 0) (zero_at w7 0) (Nat.zero_le _) (by decide))
        clear b7' bx b6a b6x b5a b5b b6b b5 b6
        go_wp2_with fail
        refine SE.out.mono ?_
        rintro e w8 ⟨rfl, b8'⟩
        have b8 := on b7 b8'
        clear b8' b7 SE x0 x1 x2 y0 y1 y2
        obtain ⟨_, r0, r1, r2⟩ := BX.out w8 b8
        go_wp2_with fail
        refine (GA.out w8 b8).mono ?_
        rintro e w9 ⟨rfl, b9'⟩
        have b9 := on b8 b9'
        clear r0 r1 r2 b9' b8
        go_wp2_with fail
        go_ret
        exact ⟨rfl, LW.out _ b9⟩
    · have f1 : (f != 0) = true := by rw [bne_iff_ne]; exact f0
      clear f0
      go_enter Tryd.func3, Tryd.ntmps3
      go_wp2_with fail
      refine (five_any _ (TB.out _ (Below.refl _ _)) (ER.out _ (Below.refl _ _))).mono ?_
      rintro e w1 ⟨rfl, b1⟩
      obtain ⟨⟨p0, p1, p2⟩, _⟩ := BX.out w1 b1
      go_wp2_with fail
      refine (FA.out w1 b1).mono ?_
      rintro e w2 ⟨rfl, b2'⟩
      have b2 := on b1 b2'
      clear p0 p1 p2 b2' b1
      obtain ⟨⟨p0, p1, p2⟩, _⟩ := BX.out w2 b2
      go_wp2_with fail
      refine (CK.out w2 b2).mono ?_
      rintro e w3 ⟨rfl, b3'⟩
      have b3 := on b2 b3'
      clear p0 p1 p2 b3' b2
      go_wp2_with fail
      refine (ET.out w3 b3).mono ?_
      rintro e w4 ⟨rfl, b4'⟩
      have b4 := on b3 b4'
      clear b4' b3
      go_wp2_with fail
      refine (VO.out w4).mono ?_
      rintro e w5 ⟨rfl, b5'⟩
      have b5 := on b4 b5'
      have b5a : Below w5.heap.size w5 (w5.alloc (.cells #[.bool false, .int .i64 0, .slice none 0 0] 24)) := (Below.refl _ _).alloc (Nat.le_refl _) _
      have b5b := on b5 b5a
      clear b5' b4
      go_wp2_with fail
      refine (PA.out (w5.alloc (.cells #[.bool false, .int .i64 0, .slice none 0 0] 24)) (TB.out _ b5b) (ER.out _ b5b)).mono ?_
      rintro e w6 ⟨rfl, b6'⟩
      have b6x := b6'
      have b6 := on b5b b6'
      have b6a : Below w6.heap.size w6 (w6.alloc (.cells #[.bool false, .int .i64 0, .slice none 0 0] 24)) := (Below.refl _ _).alloc (Nat.le_refl _) _
      have b6b := on b6 b6a
      clear b6'
      go_wp2_with fail
      refine (err_3 _ (HD.out _ b6b)).mono ?_
      rintro e w7 ⟨rfl, b7'⟩
      have b7 := on b6b b7'
      have bx : Below (w5.alloc (.cells #[.bool false, .int .i64 0, .slice none 0 0] 24)).heap.size (w5.alloc (.cells #[.bool false, .int .i64 0, .slice none 0 0] 24)) w7 := on (on b6x b6a) b7'
      obtain ⟨x0, x1, x2⟩ := box_facts w5 w7 (.bool false) (.int .i64 0) (.slice none 0 0) bx
      obtain ⟨y0, y1, y2⟩ := box_facts w6 w7 (.bool false) (.int .i64 0) (.slice none 0 0) b7'
      have SE := Lib.hid (same_eq w7 (zero_at w7 0) (zero_at w7 0) (Nat.zero_le _) (by decide))
      clear b7' bx b6a b6x b5a b5b b6b b5 b6
      go_wp2_with fail
      refine SE.out.mono ?_
      rintro e w8 ⟨rfl, b8'⟩
      have b8 := on b7 b8'
      clear b8' b7 SE x0 x1 x2 y0 y1 y2
      go_wp2_with fail
      go_ret
      exact ⟨rfl, LW.out _ b8⟩
end Go.Proofs.YtgeljcfokeiaeaaDoor.ValTellsLaw
