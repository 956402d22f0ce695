/-
  ValNests: a value within a list is right as long as it is not too deep, and its text is between ( and ).
  Conditions: the second form's bound on what comes in; the library's variables as the program's text lays them.
-/
import Derived.Test.YtgeljcfokeiaeaaDoorTellsP
import Derived.Test.YtgeljcfokeiaeaaDoorNestP
namespace Go.Proofs.YtgeljcfokeiaeaaDoor.ValNestsLaw
open Go.ChangeShapes Go.WideShapes Go.ChangeAt Go.RowKit Lists Ints Build Ref Vals Rng
set_option linter.unusedVariables false

theorem err_4 (w : World) (h : Told.Handle w) : Calls Tryd.prog 10 #[.iface 26 (.int .i64 4), .int .i64 4] w fun e w' => e = .returned (.bool true) ∧ Below w.heap.size w w' := err_told 4 w h
/-- what stands at the loop's head: block q holds a value of the tree T, its memory elsewhere -/
structure Nest (t : Tr) (w : World) (q n : Nat) (i : Nat) (T : Tr) (D : Option Addr) (d : Nat) (wr : World) : Prop where
  cell : B3 q (.bool T.list) (.int .i64 T.num) (.slice D T.items.length d) wr
  tree : TAt wr (fun b => b ≠ q ∧ b < wr.heap.size) (n + i) (tv T D d) T
  fault : faultV T 0 = 0
  deep : Deep i T
  bel : Below w.heap.size w wr
  size : T.size ≤ t.size + i
variable {t T : Tr} {w wr w2 : World} {q n i d : Nat} {D : Option Addr}
theorem Nest.tree' (h : Nest t w q n i T D d wr) : TAt wr (Bel wr.heap.size) (n + i) (tv T D d) T := h.tree.keep fun b hb => ⟨hb.2, fun _ => rfl⟩
theorem Nest.lt (h : Nest t w q n i T D d wr) : q < wr.heap.size := h.cell.lt
/-- a list of it is made -/
theorem wrap_at (h : Nest t w q n i T D d wr) : TAt ((wr.alloc (tc T D d)).alloc (.cells #[.bool true, .int .i64 0, .slice (some ⟨wr.heap.size, 0, none⟩) 1 1] 24)) (fun b => b ≠ q ∧ b < ((wr.alloc (tc T D d)).alloc (.cells #[.bool true, .int .i64 0, .slice (some ⟨wr.heap.size, 0, none⟩) 1 1] 24)).heap.size) (n + (i + 1)) (.agg #[.bool true, .int .i64 0, .slice (some ⟨wr.heap.size, 0, none⟩) 1 1]) (wrap T) := by
  have hb : Below wr.heap.size wr ((wr.alloc (tc T D d)).alloc (.cells #[.bool true, .int .i64 0, .slice (some ⟨wr.heap.size, 0, none⟩) 1 1] 24)) := ((Below.refl _ _).alloc (Nat.le_refl _) _).alloc (by simp) _
  have hx := box_facts wr _ (.bool T.list) (.int .i64 T.num) (.slice D T.items.length d) ((Below.refl _ (wr.alloc (tc T D d))).alloc (Nat.le_refl _) (.cells #[.bool true, .int .i64 0, .slice (some ⟨wr.heap.size, 0, none⟩) 1 1] 24))
  have hq := h.lt
  refine ⟨(by decide : (Lit.int .i64 0).wf = true), some ⟨wr.heap.size, 0, none⟩, 1, rfl, fun _ => ⟨wr.heap.size, 0, rfl, ⟨by omega, by simp; omega⟩, fun j hj => ?_⟩⟩
  obtain rfl : j = 0 := by simpa [Tr.items] using hj
  exact ⟨_, _, _, hx.1, hx.2.1, hx.2.2, h.tree.keep fun b hb2 => ⟨⟨hb2.1, Nat.lt_of_lt_of_le hb2.2 hb.size⟩, fun o => hb.cell (p := ⟨b, o, none⟩) hb2.2⟩⟩
/-- it is stored -/
theorem Nest.next (h : Nest t w q n i T D d wr) (hb : Below ((wr.alloc (tc T D d)).alloc (.cells #[.bool true, .int .i64 0, .slice (some ⟨wr.heap.size, 0, none⟩) 1 1] 24)).heap.size ((wr.alloc (tc T D d)).alloc (.cells #[.bool true, .int .i64 0, .slice (some ⟨wr.heap.size, 0, none⟩) 1 1] 24)) w2) (hf : faultV (wrap T) 0 = 0) (hq : w.heap.size ≤ q) :
    Nest t w q n (i + 1) (wrap T) (some ⟨wr.heap.size, 0, none⟩) 1 (((w2.setCell ⟨q, 0, none⟩ (.bool true)).setCell ⟨q, 1, none⟩ (.int .i64 0)).setCell ⟨q, 2, none⟩ (.slice (some ⟨wr.heap.size, 0, none⟩) 1 1)) := by
  have hb0 : Below wr.heap.size wr ((wr.alloc (tc T D d)).alloc (.cells #[.bool true, .int .i64 0, .slice (some ⟨wr.heap.size, 0, none⟩) 1 1] 24)) := ((Below.refl _ _).alloc (Nat.le_refl _) _).alloc (by simp) _
  have c2 := (h.cell.below hb0).below hb
  have hw := wrap_at h
  refine ⟨B3.put c2 (.bool true) (.int .i64 0) (.slice (some ⟨wr.heap.size, 0, none⟩) 1 1), hw.keep fun b hm => ⟨⟨hm.1, ?_⟩, fun o => World.cell?_of_block ?_⟩, hf, h.deep.wrap, below_set (below_set (below_set (h.bel.trans ((on hb0 hb).mono h.bel.size)) hq _ _) hq _ _) hq _ _, by rw [size_wrap]; have := h.size; omega⟩
  · exact (Below.heap_setCell _ ⟨q, 2, none⟩ _ _ hm.1).trans ((Below.heap_setCell _ ⟨q, 1, none⟩ _ _ hm.1).trans ((Below.heap_setCell _ ⟨q, 0, none⟩ _ _ hm.1).trans (hb.block b hm.2)))
  · have h1 := hm.2; have h2 := hb.size
    simp [World.setCell]
    simp at h1 h2
    omega

set_option maxHeartbeats 16000000 in
set_option maxRecDepth 100000 in
theorem walk (t : Tr) (A : Option Addr) (c n : Nat) (x : Int) (hbulk : t.size ≤ 1048576) (w : World)
    (hT : TAt w (Bel w.heap.size) n (tv t A c) t) (wx : (Lit.int .i64 x).wf = true) (ht : Tab w) (he : Errs w) (hh : Told.Handle w) :
    Calls Tryd.prog 5 #[tv t A c, .int .i64 x] w fun e w' => e = .returned (.bool true) ∧ Below w.heap.size w w' := by
  obtain ⟨x1, x2⟩ := Vals.i64_of_wf wx
  have hb0 : Below w.heap.size w (w.alloc (tc t A c)) := (Below.refl _ _).alloc (Nat.le_refl _) _
  have lw : ∀ (w1 : World), Below (w.alloc (tc t A c)).heap.size (w.alloc (tc t A c)) w1 → Below w.heap.size w w1 := fun _ h => on hb0 h
  have LW := Lib.hid lw
  have BX := Lib.hid (fun w1 hb => box_facts w w1 (.bool t.list) (.int .i64 t.num) (.slice A t.items.length c) hb)
  have CK := Lib.hid (fun w1 (hb : Below (w.alloc (tc t A c)).heap.size (w.alloc (tc t A c)) w1) => check_prog w1 (hT.below (lw _ hb)) (lw _ hb).size (by omega))
  have AT := Lib.hid (fun w1 (hb : Below (w.alloc (tc t A c)).heap.size (w.alloc (tc t A c)) w1) => hT.below (lw _ hb))
  have TB := Lib.hid (fun w1 (hb : Below w.heap.size w w1) => ht.below hb)
  have ER := Lib.hid (fun w1 (hb : Below w.heap.size w w1) => he.below hb)
  have HD := Lib.hid (fun w1 (hb : Below w.heap.size w w1) => hh.below hb)
  clear hT wx ht he hh hb0 lw
  by_cases f0 : faultV t 0 = 0
  · rw [f0, errOf_ok] at CK
    have F0 := Lib.hid f0
    clear f0
    go_enter Tryd.func5, Tryd.ntmps5
    go_wp2_with fail
    refine (five_any _ (TB.out _ (LW.out _ (Below.refl _ _))) (ER.out _ (LW.out _ (Below.refl _ _)))).mono ?_
    rintro e w1 ⟨rfl, b1⟩
    obtain ⟨p0, p1, p2⟩ := BX.out w1 b1
    go_wp2_with fail
    refine (CK.out w1 b1).mono ?_
    rintro e w2 ⟨rfl, b2'⟩
    have b2 := on b1 b2'
    clear p0 p1 p2 b2' b1
    obtain ⟨p0, p1, p2⟩ := BX.out w2 b2
    have hq : w.heap.size ≤ w2.heap.size := (LW.out _ b2).size
    have b2a : Below w2.heap.size w2 (w2.alloc (tc t A c)) := (Below.refl _ _).alloc (Nat.le_refl _) _
    have N0 : Nest t w w2.heap.size n 0 t A c (w2.alloc (tc t A c)) :=
      ⟨B3.new w2 _ _ _, ((AT.out _ b2).below (b2a.mono hq)).keep (fun b hb => ⟨⟨by have : b < w.heap.size := hb; omega, by have : b < w.heap.size := hb; simp; omega⟩, fun _ => rfl⟩), F0.out, Deep.zero t, (LW.out _ b2).trans (b2a.mono hq), by omega⟩
    have HN0 := Lib.hid N0
    have HQ := Lib.hid hq
    clear N0 b2a
    go_wp2_with fail
    clear p0 p1 p2
    go_loopw [7] (fun v wr => ∃ (i : Nat) (T : Tr) (D : Option Addr) (d : Nat), v = .int .i64 i ∧ Nest t w w2.heap.size n i T D d wr) (fun v _ => 7 - (intOf v).toNat)
    case atStart => exact ⟨0, t, A, c, rfl, HN0.out⟩
    case round =>
      obtain ⟨i, T, D, d, rfl, hn⟩ := hrel
      have i5 : i ≤ 5 := hn.deep.le hn.fault
      have HN := Lib.hid hn
      by_cases hlt : (i : Int) < x
      · have g1 : decide ((i : Int) < x) = true := by rw [decide_eq_true_eq]; exact hlt
        have g2 : decide ((i : Int) < 7) = true := by rw [decide_eq_true_eq]; omega
        have g3 : decide (i < 7) = true := by rw [decide_eq_true_eq]; omega
        obtain ⟨q0, q1, q2, _, _, _⟩ := hn.cell.facts
        have hql := hn.lt
        have hw := wrap_at hn
        have hb1 : Below wr.heap.size wr ((wr.alloc (tc T D d)).alloc (.cells #[.bool true, .int .i64 0, .slice (some ⟨wr.heap.size, 0, none⟩) 1 1] 24)) := ((Below.refl _ _).alloc (Nat.le_refl _) _).alloc (by simp) _
        have hws : (wrap T).size ≤ 4294967296 := by rw [size_wrap]; have := hn.size; omega
        have CW := check_prog (n := n + (i + 1)) (t := wrap T) _ (hw.keep fun b hb => ⟨hb.2, fun _ => rfl⟩) (Nat.le_refl _) hws
        have FW := fault_wrap hn.fault
        clear hn hlt
        have HB1 := Lib.hid hb1
        have HWS := Lib.hid hws
        have HW := Lib.hid hw
        rcases FW with hf | hf
        · rw [hf, errOf_ok] at CW
          have HCW := Lib.hid CW
          have HF := Lib.hid hf
          clear CW hf hb1 hws hw
          go_wp2_with fail
          refine HCW.out.mono ?_
          rintro e w5 ⟨rfl, b5⟩
          have BY := Lib.hid (fun (W : World) (hb : Below ((wr.alloc (tc T D d)).alloc (.cells #[.bool true, .int .i64 0, .slice (some ⟨wr.heap.size, 0, none⟩) 1 1] 24)).heap.size ((wr.alloc (tc T D d)).alloc (.cells #[.bool true, .int .i64 0, .slice (some ⟨wr.heap.size, 0, none⟩) 1 1] 24)) W) => box_facts (wr.alloc (tc T D d)) W (.bool true) (.int .i64 0) (.slice (some ⟨wr.heap.size, 0, none⟩) 1 1) hb)
          have QY := Lib.hid (fun (W : World) (hb : Below ((wr.alloc (tc T D d)).alloc (.cells #[.bool true, .int .i64 0, .slice (some ⟨wr.heap.size, 0, none⟩) 1 1] 24)).heap.size ((wr.alloc (tc T D d)).alloc (.cells #[.bool true, .int .i64 0, .slice (some ⟨wr.heap.size, 0, none⟩) 1 1] 24)) W) => ((HN.out.cell.below HB1.out).below hb).facts)
          obtain ⟨x0, x1', x2'⟩ := BY.out w5 b5
          simp only [World.size_alloc] at x0 x1' x2'
          obtain ⟨q0, q1, q2, _, _, _⟩ := QY.out w5 b5
          have p0 := fun (m : Later w5) => lat_cell x0 m
          have p1 := fun (m : Later w5) => lat_cell x1' m
          have p2 := fun (m : Later w5) => lat_cell x2' m
          have s0 := fun (m : Later w5) => lat_cell q0 m
          have s1 := fun (m : Later w5) => lat_cell q1 m
          have s2 := fun (m : Later w5) => lat_cell q2 m
          have B5 := Lib.hid b5
          have TX := Lib.hid (fun (m : Later w5) => text_prog (n := n + (i + 1)) (t := wrap T) (B := ((wr.alloc (tc T D d)).alloc (.cells #[.bool true, .int .i64 0, .slice (some ⟨wr.heap.size, 0, none⟩) 1 1] 24)).heap.size) (lat m) ((HW.out.keep (fun b hb => ⟨hb.2, fun _ => rfl⟩)).below (B5.out.trans ((lat_below m).mono B5.out.size))) (Nat.le_trans B5.out.size (lat_below m).size) HWS.out (TB.out _ (HN.out.bel.trans ((on (on HB1.out B5.out) (lat_below m)).mono HN.out.bel.size))))
          have TT := Lib.hid (fun (m : Later w5) => text_prog (n := n + i) (t := T) (B := wr.heap.size) (lat m) (HN.out.tree'.below (on (on HB1.out B5.out) (lat_below m))) (on (on HB1.out B5.out) (lat_below m)).size (by have := HN.out.size; omega) (TB.out _ (HN.out.bel.trans ((on (on HB1.out B5.out) (lat_below m)).mono HN.out.bel.size))))
          have hz : (⟨(textV T).toArray⟩ : ByteArray).size ≤ 103079215104 := by
            rw [RowKit.size_of_list]
            have h1 := textV_le T HN.out.tree'.i64
            have h2 := HN.out.size
            omega
          have e1 : ((⟨(textV (wrap T)).toArray⟩ : ByteArray).toList == ((⟨#[40]⟩ : ByteArray) ++ ⟨(textV T).toArray⟩ ++ ⟨#[41]⟩).toList) = true := by
            rw [beq_iff_eq, ByteArray.toList_eq, ByteArray.toList_eq, cat_toList, cat_toList, text_wrap]; simp
          have e2 : ((⟨(textV (wrap T)).toArray⟩ : ByteArray).toList != ((⟨#[40]⟩ : ByteArray) ++ ⟨(textV T).toArray⟩ ++ ⟨#[41]⟩).toList) = false := by rw [bne, e1]; rfl
          generalize (⟨(textV (wrap T)).toArray⟩ : ByteArray) = sx at TX e1 e2
          generalize (⟨(textV T).toArray⟩ : ByteArray) = sw at TT hz e1 e2
          clear x0 x1' x2' q0 q1 q2 b5
          go_wp2_with fail
          refine wp_region_later (by kernel_rfl) (by kernel_rfl) ?_
          repeat (go_big_quiet_step (first | (go_at_call 15; first | (with_reducible exact later_call (TX.out _)) | (with_reducible exact later_call (TT.out _)))))
          refine wpQuiet_nil ?_
          intro _ hw'
          obtain ⟨nq, hw''⟩ := hw'
          subst hw''
          have b6 := B5.out.trans ((lat_below nq).mono B5.out.size)
          clear p0 p1 p2 s0 s1 s2 e1 e2 hz TX TT
          generalize lat nq = w6 at b6 ⊢
          have NX := Lib.hid (HN.out.next b6 HF.out HQ.out)
          obtain ⟨x0, x1', x2'⟩ := BY.out w6 b6
          simp only [World.size_alloc] at x0 x1' x2'
          obtain ⟨q0, q1, q2, r0, r1, r2⟩ := QY.out w6 b6
          clear b6
          go_wp2_with fail
          go_roundw
          case rel => exact ⟨i + 1, wrap T, _, 1, by go_num, NX.out⟩
          case measure => simp [intOf]; omega
        · rw [hf, errOf_no (by decide)] at CW
          have HCW := Lib.hid CW
          clear CW hf hb1 hws hw
          go_wp2_with fail
          refine HCW.out.mono ?_
          rintro e w5 ⟨rfl, b5⟩
          have BL := Lib.hid (HN.out.bel.trans ((on HB1.out b5).mono HN.out.bel.size))
          clear b5 q0 q1 q2
          go_wp2_with fail
          refine wp_region_later (by kernel_rfl) (by kernel_rfl) ?_
          repeat (go_big_quiet_step (fail))
          refine wpQuiet_nil ?_
          intro _ hw'
          obtain ⟨nq, hw''⟩ := hw'
          subst hw''
          have BM := Lib.hid (BL.out.trans ((lat_below nq).mono BL.out.size))
          go_wp2_with fail
          refine (err_4 _ (HD.out _ BM.out)).mono ?_
          rintro e w7 ⟨rfl, b7⟩
          have BN := Lib.hid (BM.out.trans (b7.mono BM.out.size))
          clear b7
          go_wp2_with fail
          go_ret
          exact ⟨rfl, BN.out⟩
      · have g1 : decide ((i : Int) < x) = false := by rw [decide_eq_false_iff_not]; exact hlt
        have g2 : decide (x < 7) = true := by rw [decide_eq_true_eq]; omega
        have BL := Lib.hid hn.bel
        clear hn hlt
        go_wp2_with fail
        go_ret
        exact ⟨rfl, BL.out⟩
  · rw [errOf_no f0] at CK
    generalize faultV t 0 = f at CK
    clear f0
    go_enter Tryd.func5, Tryd.ntmps5
    go_wp2_with fail
    refine (five_any _ (TB.out _ (LW.out _ (Below.refl _ _))) (ER.out _ (LW.out _ (Below.refl _ _)))).mono ?_
    rintro e w1 ⟨rfl, b1⟩
    obtain ⟨p0, p1, p2⟩ := BX.out w1 b1
    go_wp2_with fail
    refine (CK.out w1 b1).mono ?_
    rintro e w2 ⟨rfl, b2'⟩
    have b2 := on b1 b2'
    clear p0 p1 p2 b2' b1
    go_wp2_with fail
    go_ret
    exact ⟨rfl, LW.out _ b2⟩
end Go.Proofs.YtgeljcfokeiaeaaDoor.ValNestsLaw
