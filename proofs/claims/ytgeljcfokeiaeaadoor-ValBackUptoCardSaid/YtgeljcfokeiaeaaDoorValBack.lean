/-
  ValBack: a value is that of its text; unlike ones have unlike texts; what is read of a text has it.
  Conditions: the second form's bound on what comes in; the library's variables as the program's text lays them.
-/
import Derived.Test.YtgeljcfokeiaeaaDoorTellsP
namespace Go.Proofs.YtgeljcfokeiaeaaDoor.ValBackLaw
open Go.ChangeShapes Go.WideShapes Go.ChangeAt Go.RowKit Lists Ints Build Ref Vals Rng
set_option linter.unusedVariables false

theorem fault_good {t : Tr} (h : Vals.Good 6 t) : faultV t 0 = 0 := (fault_ok 6 t 0 rfl).2 h.1
theorem good_fault {t : Tr} (h : faultV t 0 = 0) (hi : t.i64) : Vals.Good 6 t := ⟨(fault_ok 6 t 0 rfl).1 h, hi⟩
theorem same_text {t u : Tr} (ht : Vals.Good 6 t) (hu : Vals.Good 6 u) : sameV t u = decide (textV t = textV u) := by
  rw [Bool.eq_iff_iff, sameV_iff, decide_eq_true_eq]
  exact ⟨fun e => by rw [e], fun e => text_inj ht.1 hu.1 e⟩

set_option maxHeartbeats 16000000 in
set_option maxRecDepth 100000 in
theorem walk (t : Tr) (A : Option Addr) (c n : Nat) (u : Tr) (D : Option Addr) (d m : Nat) (s : ByteArray) (hbulk : t.size + u.size + s.size ≤ 1048576) (w : World)
    (hT : TAt w (Bel w.heap.size) n (tv t A c) t) (hU : TAt w (Bel w.heap.size) m (tv u D d) u) (ws : s.size ≤ 9223372036854775807) (ht : Tab w) (he : Errs w) :
    Calls Tryd.prog 4 #[tv t A c, tv u D d, .string s] w fun e w' => e = .returned (.bool true) ∧ Below w.heap.size w w' := by
  have hb0 := below_box2 w t u A D c d
  have lw : ∀ (w1 : World), Below ((w.alloc (tc t A c)).alloc (tc u D d)).heap.size ((w.alloc (tc t A c)).alloc (tc u D d)) w1 → Below w.heap.size w w1 := fun _ h => on hb0 h
  have LW := Lib.hid lw
  have BX := Lib.hid (fun w1 hb => box2 (w := w) (t := t) (u := u) (A := A) (D := D) (c := c) (d := d) (w1 := w1) hb)
  have CK := Lib.hid (fun w1 (hb : Below ((w.alloc (tc t A c)).alloc (tc u D d)).heap.size ((w.alloc (tc t A c)).alloc (tc u D d)) w1) => check_prog w1 (hT.below (lw _ hb)) (lw _ hb).size (by omega))
  have CU := Lib.hid (fun w1 (hb : Below ((w.alloc (tc t A c)).alloc (tc u D d)).heap.size ((w.alloc (tc t A c)).alloc (tc u D d)) w1) => check_prog w1 (hU.below (lw _ hb)) (lw _ hb).size (by omega))
  have TB := Lib.hid (fun w1 (hb : Below ((w.alloc (tc t A c)).alloc (tc u D d)).heap.size ((w.alloc (tc t A c)).alloc (tc u D d)) w1) => (ht.below (lw _ hb)))
  have ER := Lib.hid (fun w1 (hb : Below ((w.alloc (tc t A c)).alloc (tc u D d)).heap.size ((w.alloc (tc t A c)).alloc (tc u D d)) w1) => (he.below (lw _ hb)))
  have TX := Lib.hid (fun w1 (hb : Below ((w.alloc (tc t A c)).alloc (tc u D d)).heap.size ((w.alloc (tc t A c)).alloc (tc u D d)) w1) => text_prog w1 (hT.below (lw _ hb)) (lw _ hb).size (by omega) (ht.below (lw _ hb)))
  have SM := Lib.hid (fun w1 (hb : Below ((w.alloc (tc t A c)).alloc (tc u D d)).heap.size ((w.alloc (tc t A c)).alloc (tc u D d)) w1) => same_prog w1 (hT.below (lw _ hb)) (hU.below (lw _ hb)) (lw _ hb).size (by omega) (by omega) (ht.below (lw _ hb)))
  have SV := Lib.hid (fun w1 (hb : Below ((w.alloc (tc t A c)).alloc (tc u D d)).heap.size ((w.alloc (tc t A c)).alloc (tc u D d)) w1) => same_any n t u _ _ w.heap.size m w1 (hT.below (lw _ hb)) (hU.below (lw _ hb)) (lw _ hb).size (by omega) (by omega))
  have AT := Lib.hid (fun w1 (hb : Below ((w.alloc (tc t A c)).alloc (tc u D d)).heap.size ((w.alloc (tc t A c)).alloc (tc u D d)) w1) => hT.below (lw _ hb))
  have I1 := Lib.hid hT.i64
  have I2 := Lib.hid hU.i64
  have hz : s.size ≤ 1048576 := by omega
  have hts : t.size ≤ 1048576 := by omega
  clear hT hU ht he hbulk hb0 lw ws
  have PP := Lib.hid (fun w1 h1 h2 => parse_prog s (by omega) w1 h1 h2)
  have SP := Lib.hid (show sameP t u = (decide (faultV t 0 = 0) && decide (faultV u 0 = 0) && decide (textV t = textV u)) from rfl)
  have ht0 : Hid (faultV t 0 = 0 → Vals.Good 6 t) := Lib.hid (fun h => good_fault h I1.out)
  have hu0 : Hid (faultV u 0 = 0 → Vals.Good 6 u) := Lib.hid (fun h => good_fault h I2.out)
  by_cases hx : ∃ t0 : Tr, Vals.Good 6 t0 ∧ s.data.toList = textV t0
  · obtain ⟨t0, hg0, hx⟩ := hx
    have HZ := Lib.hid (show t0.size ≤ 4294967296 by have := good_size hg0; rw [← hx, ← size_toList] at this; omega)
    have PA := Lib.hid (fun w1 h1 h2 => (PP.out w1 h1 h2).mono (R' := Is t0 .nilIface w1) (fun e w' h => ends_is hg0 hx h))
    have ST := Lib.hid (show (⟨(textV t0).toArray⟩ : ByteArray) = s from Go.WideShapes.bytes_inj (by rw [← hx]))
    have FG := Lib.hid (fault_good hg0)
    clear hg0 hx PP
    by_cases f0 : faultV t 0 = 0
    · have GT := Lib.hid (ht0.out f0)
      rw [f0, errOf_ok] at CK
      by_cases g0 : faultV u 0 = 0
      · have GU := Lib.hid (hu0.out g0)
        rw [g0, errOf_ok] at CU
        have SP := Lib.hid (show sameP t u = decide (textV t = textV u) by rw [SP.out, f0, g0]; simp)
        rw [SP.out] at SM
        rw [same_text GT.out GU.out] at SV
        have hsz : (⟨(textV t).toArray⟩ : ByteArray).size ≤ 1073741824 := by rw [RowKit.size_of_list]; have := textV_le t I1.out; omega
        have PT := Lib.hid (fun w1 h1 h2 => (parse_prog ⟨(textV t).toArray⟩ hsz w1 h1 h2).mono (R' := Is t .nilIface w1) (fun e w' h => ends_is GT.out (by simp) h))
        generalize (⟨(textV t).toArray⟩ : ByteArray) = st at TX PT hsz
        generalize decide (textV t = textV u) = b at SM SV
        clear SP f0 g0 hsz ht0 hu0
        go_enter Tryd.func4, Tryd.ntmps4
        go_wp2_with fail
        refine (five_any _ (TB.out _ (Below.refl _ _)) (ER.out _ (Below.refl _ _))).mono ?_
        rintro e w1 ⟨rfl, b1⟩
        go_wp2_with fail
        refine (PA.out w1 (TB.out _ b1) (ER.out _ b1)).mono ?_
        rintro e w2 ⟨A1, c1, rfl, hta, b2'⟩
        have b2 := on b1 b2'
        have X2 := TAt.bel hta
        have b2a : Below w2.heap.size w2 (w2.alloc (tc t0 A1 c1)) := (Below.refl _ _).alloc (Nat.le_refl _) _
        have b2b := on b2 b2a
        have X3 := X2.below b2a
        have TX0 := text_prog (w2.alloc (tc t0 A1 c1)) X3 b2a.size HZ.out (TB.out _ b2b)
        rw [ST.out] at TX0
        have HTX0 := Lib.hid TX0
        have HX3 := Lib.hid X3
        clear b2' hta X2 X3 TX0 b1
        go_wp2_with fail
        refine HTX0.out.mono ?_
        rintro e w3 ⟨rfl, b3'⟩
        have CK0 := check_prog w3 (HX3.out.below (b3'.mono b2a.size)) (Nat.le_trans b2a.size b3'.size) HZ.out
        rw [FG.out, errOf_ok] at CK0
        have HCK0 := Lib.hid CK0
        have b3 := on b2b b3'
        obtain ⟨x0, x1, x2⟩ := box_facts w2 w3 (.bool t0.list) (.int .i64 t0.num) (.slice A1 t0.items.length c1) b3'
        clear b3' b2b b2a b2 CK0 HTX0 HX3
        go_wp2_with fail
        refine HCK0.out.mono ?_
        rintro e w4 ⟨rfl, b4'⟩
        have b4 := on b3 b4'
        clear b4' b3 HCK0 x0 x1 x2
        obtain ⟨⟨p0, p1, p2⟩, _⟩ := BX.out w4 b4
        go_wp2_with fail
        refine (CK.out _ b4).mono ?_
        rintro e w5 ⟨rfl, b5'⟩
        have b5 := on b4 b5'
        clear p0 p1 p2 b5' b4
        obtain ⟨_, r0, r1, r2⟩ := BX.out w5 b5
        go_wp2_with fail
        refine (CU.out _ b5).mono ?_
        rintro e w6 ⟨rfl, b6'⟩
        have b6 := on b5 b6'
        clear r0 r1 r2 b6' b5
        obtain ⟨⟨p0, p1, p2⟩, _⟩ := BX.out w6 b6
        go_wp2_with fail
        refine (TX.out _ b6).mono ?_
        rintro e w7 ⟨rfl, b7'⟩
        have b7 := on b6 b7'
        clear p0 p1 p2 b7' b6
        go_wp2_with fail
        refine (PT.out w7 (TB.out _ b7) (ER.out _ b7)).mono ?_
        rintro e w8 ⟨A8, c8, rfl, hta8, b8'⟩
        have b8 := on b7 b8'
        have b8a : Below w8.heap.size w8 (w8.alloc (tc t A8 c8)) := (Below.refl _ _).alloc (Nat.le_refl _) _
        have b8b := on b8 b8a
        have X8 := (TAt.bel hta8).below b8a
        have SE := Lib.hid (same_eq (w8.alloc (tc t A8 c8)) X8 ((AT.out _ b8b).more (Nat.le_trans (LW.out _ b8).size (Nat.le_refl _))) b8a.size (by omega))
        obtain ⟨⟨p0, p1, p2⟩, _⟩ := BX.out _ b8b
        clear hta8 b8' X8 b7 b8
        go_wp2_with fail
        refine SE.out.mono ?_
        rintro e w9 ⟨rfl, b9'⟩
        have b9 := on b8b b9'
        clear p0 p1 p2 b9' b8b b8a SE
        obtain ⟨⟨p0, p1, p2⟩, r0, r1, r2⟩ := BX.out _ b9
        go_wp2_with fail
        refine (SV.out _ b9).mono ?_
        rintro e w10 ⟨rfl, b10'⟩
        have b10 := on b9 b10'
        clear p0 p1 p2 r0 r1 r2 b10' b9
        obtain ⟨⟨p0, p1, p2⟩, r0, r1, r2⟩ := BX.out _ b10
        go_wp2_with fail
        refine (SM.out _ b10).mono ?_
        rintro e w11 ⟨rfl, b11'⟩
        have b11 := on b10 b11'
        clear p0 p1 p2 r0 r1 r2 b11' b10
        go_wp2_with fail
        go_ret
        exact ⟨by first | rfl | simp, LW.out _ b11⟩
      · rw [errOf_no g0] at CU
        generalize faultV u 0 = g at CU
        clear g0 f0 ht0 hu0 SP SM
        go_enter Tryd.func4, Tryd.ntmps4
        go_wp2_with fail
        refine (five_any _ (TB.out _ (Below.refl _ _)) (ER.out _ (Below.refl _ _))).mono ?_
        rintro e w1 ⟨rfl, b1⟩
        go_wp2_with fail
        refine (PA.out w1 (TB.out _ b1) (ER.out _ b1)).mono ?_
        rintro e w2 ⟨A1, c1, rfl, hta, b2'⟩
        have b2 := on b1 b2'
        have X2 := TAt.bel hta
        have b2a : Below w2.heap.size w2 (w2.alloc (tc t0 A1 c1)) := (Below.refl _ _).alloc (Nat.le_refl _) _
        have b2b := on b2 b2a
        have X3 := X2.below b2a
        have TX0 := text_prog (w2.alloc (tc t0 A1 c1)) X3 b2a.size HZ.out (TB.out _ b2b)
        rw [ST.out] at TX0
        have HTX0 := Lib.hid TX0
        have HX3 := Lib.hid X3
        clear b2' hta X2 X3 TX0 b1
        go_wp2_with fail
        refine HTX0.out.mono ?_
        rintro e w3 ⟨rfl, b3'⟩
        have CK0 := check_prog w3 (HX3.out.below (b3'.mono b2a.size)) (Nat.le_trans b2a.size b3'.size) HZ.out
        rw [FG.out, errOf_ok] at CK0
        have HCK0 := Lib.hid CK0
        have b3 := on b2b b3'
        obtain ⟨x0, x1, x2⟩ := box_facts w2 w3 (.bool t0.list) (.int .i64 t0.num) (.slice A1 t0.items.length c1) b3'
        clear b3' b2b b2a b2 CK0 HTX0 HX3
        go_wp2_with fail
        refine HCK0.out.mono ?_
        rintro e w4 ⟨rfl, b4'⟩
        have b4 := on b3 b4'
        clear b4' b3 HCK0 x0 x1 x2
        obtain ⟨⟨p0, p1, p2⟩, _⟩ := BX.out w4 b4
        go_wp2_with fail
        refine (CK.out _ b4).mono ?_
        rintro e w5 ⟨rfl, b5'⟩
        have b5 := on b4 b5'
        clear p0 p1 p2 b5' b4
        obtain ⟨_, r0, r1, r2⟩ := BX.out w5 b5
        go_wp2_with fail
        refine (CU.out _ b5).mono ?_
        rintro e w6 ⟨rfl, b6'⟩
        have b6 := on b5 b6'
        clear r0 r1 r2 b6' b5
        go_wp2_with fail
        go_ret
        exact ⟨rfl, LW.out _ b6⟩
    · rw [errOf_no f0] at CK
      generalize faultV t 0 = f at CK
      clear f0 ht0 hu0 SP SM
      go_enter Tryd.func4, Tryd.ntmps4
      go_wp2_with fail
      refine (five_any _ (TB.out _ (Below.refl _ _)) (ER.out _ (Below.refl _ _))).mono ?_
      rintro e w1 ⟨rfl, b1⟩
      go_wp2_with fail
      refine (PA.out w1 (TB.out _ b1) (ER.out _ b1)).mono ?_
      rintro e w2 ⟨A1, c1, rfl, hta, b2'⟩
      have b2 := on b1 b2'
      have X2 := TAt.bel hta
      have b2a : Below w2.heap.size w2 (w2.alloc (tc t0 A1 c1)) := (Below.refl _ _).alloc (Nat.le_refl _) _
      have b2b := on b2 b2a
      have X3 := X2.below b2a
      have TX0 := text_prog (w2.alloc (tc t0 A1 c1)) X3 b2a.size HZ.out (TB.out _ b2b)
      rw [ST.out] at TX0
      have HTX0 := Lib.hid TX0
      have HX3 := Lib.hid X3
      clear b2' hta X2 X3 TX0 b1
      go_wp2_with fail
      refine HTX0.out.mono ?_
      rintro e w3 ⟨rfl, b3'⟩
      have CK0 := check_prog w3 (HX3.out.below (b3'.mono b2a.size)) (Nat.le_trans b2a.size b3'.size) HZ.out
      rw [FG.out, errOf_ok] at CK0
      have HCK0 := Lib.hid CK0
      have b3 := on b2b b3'
      obtain ⟨x0, x1, x2⟩ := box_facts w2 w3 (.bool t0.list) (.int .i64 t0.num) (.slice A1 t0.items.length c1) b3'
      clear b3' b2b b2a b2 CK0 HTX0 HX3
      go_wp2_with fail
      refine HCK0.out.mono ?_
      rintro e w4 ⟨rfl, b4'⟩
      have b4 := on b3 b4'
      clear b4' b3 HCK0 x0 x1 x2
      obtain ⟨⟨p0, p1, p2⟩, _⟩ := BX.out w4 b4
      go_wp2_with fail
      refine (CK.out _ b4).mono ?_
      rintro e w5 ⟨rfl, b5'⟩
      have b5 := on b4 b5'
      clear p0 p1 p2 b5' b4
      go_wp2_with fail
      go_ret
      exact ⟨rfl, LW.out _ b5⟩
  · have hx' : ∀ t0 : Tr, Vals.Good 6 t0 → s.data.toList ≠ textV t0 := fun t0 h1 h2 => hx ⟨t0, h1, h2⟩
    have PA := Lib.hid (fun w1 h1 h2 => (PP.out w1 h1 h2).mono (R' := fun e w' => e = .returned (.tuple #[zeroV, .iface 26 (.int .i64 3)]) ∧ Below w1.heap.size w1 w') (fun e w' h => ends_not hx' h))
    clear hx hx' PP
    by_cases f0 : faultV t 0 = 0
    · have GT := Lib.hid (ht0.out f0)
      rw [f0, errOf_ok] at CK
      by_cases g0 : faultV u 0 = 0
      · have GU := Lib.hid (hu0.out g0)
        rw [g0, errOf_ok] at CU
        have SP := Lib.hid (show sameP t u = decide (textV t = textV u) by rw [SP.out, f0, g0]; simp)
        rw [SP.out] at SM
        rw [same_text GT.out GU.out] at SV
        have hsz : (⟨(textV t).toArray⟩ : ByteArray).size ≤ 1073741824 := by rw [RowKit.size_of_list]; have := textV_le t I1.out; omega
        have PT := Lib.hid (fun w1 h1 h2 => (parse_prog ⟨(textV t).toArray⟩ hsz w1 h1 h2).mono (R' := Is t .nilIface w1) (fun e w' h => ends_is GT.out (by simp) h))
        generalize (⟨(textV t).toArray⟩ : ByteArray) = st at TX PT hsz
        generalize decide (textV t = textV u) = b at SM SV
        clear SP f0 g0 hsz ht0 hu0
        go_enter Tryd.func4, Tryd.ntmps4
        go_wp2_with fail
        refine (five_any _ (TB.out _ (Below.refl _ _)) (ER.out _ (Below.refl _ _))).mono ?_
        rintro e w1 ⟨rfl, b1⟩
        go_wp2_with fail
        refine (PA.out w1 (TB.out _ b1) (ER.out _ b1)).mono ?_
        rintro e w2 ⟨rfl, b2'⟩
        have b2 := on b1 b2'
        have b4 := on b2 ((Below.refl w2.heap.size w2).alloc (Nat.le_refl _) (.cells #[.bool false, .int .i64 0, .slice none 0 0] 24))
        clear b2' b1 b2
        generalize hw4 : w2.alloc (.cells #[.bool false, .int .i64 0, .slice none 0 0] 24) = w4 at b4
        obtain ⟨⟨p0, p1, p2⟩, _⟩ := BX.out w4 b4
        subst hw4
        go_wp2_with fail
        refine (CK.out _ b4).mono ?_
        rintro e w5 ⟨rfl, b5'⟩
        have b5 := on b4 b5'
        clear p0 p1 p2 b5' b4
        obtain ⟨_, r0, r1, r2⟩ := BX.out w5 b5
        go_wp2_with fail
        refine (CU.out _ b5).mono ?_
        rintro e w6 ⟨rfl, b6'⟩
        have b6 := on b5 b6'
        clear r0 r1 r2 b6' b5
        obtain ⟨⟨p0, p1, p2⟩, _⟩ := BX.out w6 b6
        go_wp2_with fail
        refine (TX.out _ b6).mono ?_
        rintro e w7 ⟨rfl, b7'⟩
        have b7 := on b6 b7'
        clear p0 p1 p2 b7' b6
        go_wp2_with fail
        refine (PT.out w7 (TB.out _ b7) (ER.out _ b7)).mono ?_
        rintro e w8 ⟨A8, c8, rfl, hta8, b8'⟩
        have b8 := on b7 b8'
        have b8a : Below w8.heap.size w8 (w8.alloc (tc t A8 c8)) := (Below.refl _ _).alloc (Nat.le_refl _) _
        have b8b := on b8 b8a
        have X8 := (TAt.bel hta8).below b8a
        have SE := Lib.hid (same_eq (w8.alloc (tc t A8 c8)) X8 ((AT.out _ b8b).more (Nat.le_trans (LW.out _ b8).size (Nat.le_refl _))) b8a.size (by omega))
        obtain ⟨⟨p0, p1, p2⟩, _⟩ := BX.out _ b8b
        clear hta8 b8' X8 b7 b8
        go_wp2_with fail
        refine SE.out.mono ?_
        rintro e w9 ⟨rfl, b9'⟩
        have b9 := on b8b b9'
        clear p0 p1 p2 b9' b8b b8a SE
        obtain ⟨⟨p0, p1, p2⟩, r0, r1, r2⟩ := BX.out _ b9
        go_wp2_with fail
        refine (SV.out _ b9).mono ?_
        rintro e w10 ⟨rfl, b10'⟩
        have b10 := on b9 b10'
        clear p0 p1 p2 r0 r1 r2 b10' b9
        obtain ⟨⟨p0, p1, p2⟩, r0, r1, r2⟩ := BX.out _ b10
        go_wp2_with fail
        refine (SM.out _ b10).mono ?_
        rintro e w11 ⟨rfl, b11'⟩
        have b11 := on b10 b11'
        clear p0 p1 p2 r0 r1 r2 b11' b10
        go_wp2_with fail
        go_ret
        exact ⟨by first | rfl | simp, LW.out _ b11⟩
      · rw [errOf_no g0] at CU
        generalize faultV u 0 = g at CU
        clear g0 f0 ht0 hu0 SP SM
        go_enter Tryd.func4, Tryd.ntmps4
        go_wp2_with fail
        refine (five_any _ (TB.out _ (Below.refl _ _)) (ER.out _ (Below.refl _ _))).mono ?_
        rintro e w1 ⟨rfl, b1⟩
        go_wp2_with fail
        refine (PA.out w1 (TB.out _ b1) (ER.out _ b1)).mono ?_
        rintro e w2 ⟨rfl, b2'⟩
        have b2 := on b1 b2'
        have b4 := on b2 ((Below.refl w2.heap.size w2).alloc (Nat.le_refl _) (.cells #[.bool false, .int .i64 0, .slice none 0 0] 24))
        clear b2' b1 b2
        generalize hw4 : w2.alloc (.cells #[.bool false, .int .i64 0, .slice none 0 0] 24) = w4 at b4
        obtain ⟨⟨p0, p1, p2⟩, _⟩ := BX.out w4 b4
        subst hw4
        go_wp2_with fail
        refine (CK.out _ b4).mono ?_
        rintro e w5 ⟨rfl, b5'⟩
        have b5 := on b4 b5'
        clear p0 p1 p2 b5' b4
        obtain ⟨_, r0, r1, r2⟩ := BX.out w5 b5
        go_wp2_with fail
        refine (CU.out _ b5).mono ?_
        rintro e w6 ⟨rfl, b6'⟩
        have b6 := on b5 b6'
        clear r0 r1 r2 b6' b5
        go_wp2_with fail
        go_ret
        exact ⟨rfl, LW.out _ b6⟩
    · rw [errOf_no f0] at CK
      generalize faultV t 0 = f at CK
      clear f0 ht0 hu0 SP SM
      go_enter Tryd.func4, Tryd.ntmps4
      go_wp2_with fail
      refine (five_any _ (TB.out _ (Below.refl _ _)) (ER.out _ (Below.refl _ _))).mono ?_
      rintro e w1 ⟨rfl, b1⟩
      go_wp2_with fail
      refine (PA.out w1 (TB.out _ b1) (ER.out _ b1)).mono ?_
      rintro e w2 ⟨rfl, b2'⟩
      have b2 := on b1 b2'
      have b4 := on b2 ((Below.refl w2.heap.size w2).alloc (Nat.le_refl _) (.cells #[.bool false, .int .i64 0, .slice none 0 0] 24))
      clear b2' b1 b2
      generalize hw4 : w2.alloc (.cells #[.bool false, .int .i64 0, .slice none 0 0] 24) = w4 at b4
      obtain ⟨⟨p0, p1, p2⟩, _⟩ := BX.out w4 b4
      subst hw4
      go_wp2_with fail
      refine (CK.out _ b4).mono ?_
      rintro e w5 ⟨rfl, b5'⟩
      have b5 := on b4 b5'
      clear p0 p1 p2 b5' b4
      go_wp2_with fail
      go_ret
      exact ⟨rfl, LW.out _ b5⟩
end Go.Proofs.YtgeljcfokeiaeaaDoor.ValBackLaw
