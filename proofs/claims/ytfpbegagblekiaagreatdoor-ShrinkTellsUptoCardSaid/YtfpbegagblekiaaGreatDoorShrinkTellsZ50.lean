/- ShrinkTells, part 50 of the proof: Contract of assayersame.Ints: it draws its order. Conditions: none but that the slices' cells are known. · ShrinkTells: the walk. Conditions: the sizes; the program's table, the library's variable that errors.As reads. Made by wip/tools/gen_shtells.py. -/
import Derived.Test.YtfpbegagblekiaaGreatDoorShrinkTellsZ2
import Derived.Test.YtfpbegagblekiaaGreatDoorShrinkTellsZ9
import Derived.Test.YtfpbegagblekiaaGreatDoorShrinkTellsZ34
import Derived.Test.YtfpbegagblekiaaGreatDoorShrinkTellsZ48
import Derived.Test.YtfpbegagblekiaaGreatDoorShrinkTellsZ35
import Derived.Test.YtfpbegagblekiaaGreatDoorShrinkTellsZ49
/- Contract of assayersame.Ints: it draws its order. Conditions: none but that the slices' cells are known. -/
namespace Go.Proofs.YtfpbegagblekiaaGreatDoor.Ints
open Go.RowKit Go.WideShapes Go.ChangeShapes Lists
set_option linter.unusedVariables false

/-! assayersame.Ints: it draws its order -/
theorem same_any (l m : List Int) (A B : Option Addr) (c d N : Nat) (hl : l.length ≤ maxLen) (hm : m.length ≤ maxLen) (w : World) (ha : At w N A l) (hb : At w N B m) :
    Calls Tryz.prog 13 #[.slice A l.length c, .slice B m.length d] w fun e w' => e = .returned (.bool (decide (l = m))) ∧ ∃ n, w' = w.drewN n := by
  unfold maxLen at hl hm
  have HA := Lib.hid ha
  have HB := Lib.hid hb
  clear ha hb
  by_cases e : l.length = m.length
  · have ht : (((l.length : Nat) : Int) != ((m.length : Nat) : Int)) = false := by rw [bne_eq_false_iff_eq]; omega
    have hml : m.length ≤ l.length := by omega
    have hlm : l.length ≤ m.length := by omega
    have E := Lib.hid e
    clear e
    go_enter Tryz.func13, Tryz.ntmps13
    go_wp2
    go_loopw [5] (fun i wr => ∃ k n : Nat, k ≤ l.length ∧ i = .int .i64 k ∧ wr = w.drewN n ∧ Hid (l.take k = m.take k)) (fun i _ => l.length - (intOf i).toNat)
    case atStart => exact ⟨0, 0, Nat.zero_le _, rfl, rfl, rfl⟩
    case round =>
      obtain ⟨k, n, hk, rfl, rfl, ht2⟩ := hrel
      by_cases h1 : k < l.length
      · have h2 : k < m.length := by omega
        obtain ⟨b, off, rfl, _, hcell⟩ := HA.out (by omega)
        have c1 := hcell k h1
        clear hcell
        obtain ⟨b2, off2, rfl, _, hcell2⟩ := HB.out (by omega)
        have c2 := hcell2 k h2
        clear hcell2
        have t1 := Lib.hid (take_getD l k h1)
        have t2 := Lib.hid (take_getD m k h2)
        generalize hx : l.getD k 0 = x at c1 t1
        generalize hy : m.getD k 0 = y at c2 t2
        have HX := Lib.hid hx
        have HY := Lib.hid hy
        clear hx hy
        by_cases h : x = y
        · subst h
          have hv := Lib.hid (show l.take (k + 1) = m.take (k + 1) by rw [t1.out, t2.out, ht2.out])
          have h1' : (k : Int) < l.length := by omega
          have h2' : (k : Int) < m.length := by omega
          go_wp2
          go_quiet (fail)
          go_wp2
          go_roundw
          case rel => exact ⟨k + 1, _, by omega, by go_num, rfl, hv.out⟩
          case measure => simp [intOf]; omega
        · have hv := Lib.hid (show decide (l = m) = false by
            rw [decide_eq_false]; intro z; subst z; exact h (HX.out.symm.trans HY.out))
          have ht3 : (x != y) = true := by rw [bne_iff_ne]; exact h
          clear h
          go_wp2
          go_quiet (fail)
          go_wp2
          go_ret
          exact ⟨ret_b hv.out.symm, _, World.drewN_drewN _ _ _⟩
      · have hv := Lib.hid (show decide (l = m) = true by
          rw [decide_eq_true_eq, ← List.take_of_length_le (show l.length ≤ k by omega), ht2.out, List.take_of_length_le (by omega)])
        go_wp2
        go_ret
        exact ⟨ret_b hv.out.symm, _, rfl⟩
  · have ht : (((l.length : Nat) : Int) != ((m.length : Nat) : Int)) = true := by rw [bne_iff_ne]; omega
    have hv := Lib.hid (show decide (l = m) = false by rw [decide_eq_false]; intro z; subst z; exact e rfl)
    clear e
    go_enter Tryz.func13, Tryz.ntmps13
    go_wp2
    go_ret
    exact ⟨ret_b hv.out.symm, 0, rfl⟩
theorem same_below (l m : List Int) (A B : Option Addr) (c d N : Nat) (hl : l.length ≤ maxLen) (hm : m.length ≤ maxLen) (w : World) (ha : At w N A l) (hb : At w N B m) :
    Calls Tryz.prog 13 #[.slice A l.length c, .slice B m.length d] w fun e w' => e = .returned (.bool (decide (l = m))) ∧ Below w.heap.size w w' :=
  (same_any l m A B c d N hl hm w ha hb).mono fun _ _ ⟨h, n, h'⟩ => ⟨h, h' ▸ ⟨rfl, rfl, rfl, Nat.le_refl _, fun _ _ => rfl⟩⟩
end Go.Proofs.YtfpbegagblekiaaGreatDoor.Ints

/- ShrinkTells: the walk. Conditions: the sizes; the program's table, the library's variable that errors.As reads. Made by wip/tools/gen_shtells.py. -/
namespace Go.Proofs.YtfpbegagblekiaaGreatDoor.ShTellsLaw
open Go.RowKit Lists Ints Vals Gens Exprs Owns
set_option linter.unusedVariables false

/-- what the document's ReplayOf tells, one way -/
def RdE (w : World) (q : Int) (e : Ending) (w' : World) : Prop := ∃ v : Value, e = .returned (.tuple #[v, .int .i64 q]) ∧ Below w.heap.size w w'
theorem rde_of {w w' : World} {r : Except Int Tr} {e : Ending} (h : RpPost w r e w') : RdE w (errI r) e w' := by
  cases r with
  | ok v =>
    obtain ⟨hb, VA, vc, n, he, ht⟩ := h
    exact ⟨_, he, hb⟩
  | error er =>
    obtain ⟨hb, hne, he⟩ := h
    exact ⟨_, he, hb⟩
theorem roseE_of {t : Gn} {l : List Int} (h0 : genV t = 0) : errI (replayG t l) = roseE t l := by
  unfold roseE repV; rw [if_pos h0]; rfl

set_option maxHeartbeats 16000000 in
set_option maxRecDepth 100000 in
theorem walk (t : Gn) (A : Option Addr) (c n : Nat) (x : Gn) (XA : Option Addr) (xc nx : Nat) (l : List Int) (L : Option Addr) (lc : Nat) (hbulk : t.size + x.size + l.length ≤ 1048576) (w : World) (hg : GAt w (GBel w.heap.size) n (gv t A c) t) (hx : EAt w (EBel w.heap.size) nx (ev x XA xc) x) (hl : At w w.heap.size L l) (hcap : l.length ≤ lc) (hsub : Subs w) (hh : Told.Handle w) :
    Calls Tryz.prog 3 #[gv t A c, ev x XA xc, .slice L l.length lc] w fun e w' => e = .returned (.bool true) ∧ Below w.heap.size w w' := by
  have HB := Lib.hid (gx_boxes w t x A XA c xc)
  have MD := Lib.hid (fun (w : World) => made_ok w)
  have AC := Lib.hid (fun (W : World) (hb : Below w.heap.size w W) => asked_ok W (hsub.below hb))
  have GF := Lib.hid (fun (W : World) (hb : Below w.heap.size w W) => gen_any n t A c w.heap.size W (hg.below hb) hb.size (by omega))
  have XF := Lib.hid (fun (W : World) (hb : Below w.heap.size w W) => efault_any nx x XA xc w.heap.size W (hx.below hb) hb.size (by omega))
  have RD := Lib.hid (fun (h0 : genV t = 0) (W : World) (hb : Below w.heap.size w W) => show Calls Tryz.prog 8 #[gv t A c, .slice L l.length lc] W (RdE W (roseE t l)) by
    refine (replayof_any n t A c l L lc w.heap.size W (hg.below hb) (gen_right h0).1 (by omega) (hl.below hb) hb.size (by have := small_long (gen_right h0).2; omega) (by omega)).mono ?_
    intro e w' h
    rw [← roseE_of h0]
    exact rde_of h)
  have BT := Lib.hid (fun (h0 : genV t = 0) (hf : faultE x = 0) (W : World) (hb : Below w.heap.size w W) => badtape_any (lc := lc) W ((hg.below hb).more hb.size) ((hx.below hb).more hb.size) h0 (fault_ok hf).2 ((hl.below hb).more hb.size) (Nat.le_refl _) (by omega))
  have WO := Lib.hid (fun (hf : faultE x = 0) (hz : roseE t l = 0) (W : World) (hb : Below w.heap.size w W) => walkof_any (lc := lc) W ((hg.below hb).more hb.size) ((hx.below hb).more hb.size) (fault_ok hf).2 ((hl.below hb).more hb.size) hcap hz)
  have WK := Lib.hid (fun (z : List Int) (st : Nat) (q : Int) (hs : startE t x l = q) (hv : walkV t x l = (z, st)) (W : World) (hb : Below w.heap.size w W) => show Calls Tryz.prog 11 #[gv t A c, ev x XA xc, .slice L l.length lc] W (WkOk z st q W) from walk_is W ((hg.below hb).more hb.size) ((hx.below hb).more hb.size) (hsub.below hb) ((hl.below hb).more hb.size) hcap (by omega) (by omega) (by omega) hs hv)
  have ET := Lib.hid (fun (f : Int) (W : World) (hb : Below w.heap.size w W) => err_ok f W (hh.below hb))
  have ZL := Lib.hid (walkV_len t x l)
  clear hg hx hl hcap hbulk hh hsub
  go_enter Tryz.func3, Tryz.ntmps3
  go_wp2_with fail
  generalize (w.alloc (gc t A c)).alloc (ec x XA xc) = W0 at *
  refine (MD.out _).mono ?_
  rintro e w1 ⟨rfl, hb1⟩
  have B1 := Lib.hid (HB.out.2.2.1.trans (hb1.mono HB.out.2.2.1.size))
  have X1 := Lib.hid (HB.out.2.1.below hb1)
  have G1 := Lib.hid (HB.out.1.below hb1)
  clear hb1
  go_wp2_with fail
  refine (AC.out w1 B1.out).mono ?_
  rintro e w2 ⟨rfl, hb2⟩
  have B2 := Lib.hid (below_trans B1.out hb2)
  have X2 := Lib.hid (X1.out.below hb2)
  have G2 := Lib.hid (G1.out.below hb2)
  clear hb2 X1 G1 B1
  obtain ⟨k0, k1, k2, k3⟩ := G2.out.facts
  obtain ⟨x0, x1, x2⟩ := X2.out.facts
  go_wp2_with fail
  ((with_reducible refine (GF.out w2 B2.out).mono ?_))
  rintro e w3 ⟨rfl, hb3⟩
  clear k0 k1 k2 k3 x0 x1 x2
  have B3 := Lib.hid (below_trans B2.out hb3)
  have X3 := Lib.hid (X2.out.below hb3)
  have G3 := Lib.hid (G2.out.below hb3)
  clear hb3 X2 G2 B2
  obtain ⟨k0, k1, k2, k3⟩ := G3.out.facts
  obtain ⟨x0, x1, x2⟩ := X3.out.facts
  by_cases h0 : genV t = 0
  · have RD := Lib.hid (RD.out h0)
    have BT := Lib.hid (BT.out h0)
    have SE0 := Lib.hid (show startE t x l = if faultE x = 0 then (if roseE t l = 0 then (if badT t x l = true then 0 else 2) else roseE t l) else faultE x by unfold startE; rw [if_pos h0])
    rw [h0]
    clear h0 GF
    go_wp2_with fail
    ((with_reducible refine (XF.out w3 B3.out).mono ?_))
    rintro e w4 ⟨rfl, hb4⟩
    clear k0 k1 k2 k3 x0 x1 x2
    have B4 := Lib.hid (below_trans B3.out hb4)
    have X4 := Lib.hid (X3.out.below hb4)
    have G4 := Lib.hid (G3.out.below hb4)
    clear hb4 X3 G3 B3
    obtain ⟨k0, k1, k2, k3⟩ := G4.out.facts
    obtain ⟨x0, x1, x2⟩ := X4.out.facts
    by_cases hf : faultE x = 0
    · have BT := Lib.hid (BT.out hf)
      have WO := Lib.hid (WO.out hf)
      have SE1 := Lib.hid (show startE t x l = if roseE t l = 0 then (if badT t x l = true then 0 else 2) else roseE t l by rw [SE0.out, if_pos hf])
      rw [hf]
      clear hf XF SE0
      go_wp2_with fail
      ((with_reducible refine (RD.out w4 B4.out).mono ?_))
      rintro e w5 ⟨v5, rfl, hb5⟩
      clear k0 k1 k2 k3 x0 x1 x2
      have B5 := Lib.hid (below_trans B4.out hb5)
      have X5 := Lib.hid (X4.out.below hb5)
      have G5 := Lib.hid (G4.out.below hb5)
      clear hb5 X4 G4 B4
      obtain ⟨k0, k1, k2, k3⟩ := G5.out.facts
      obtain ⟨x0, x1, x2⟩ := X5.out.facts
      by_cases hz : roseE t l = 0
      · have WO := Lib.hid (WO.out hz)
        have SE2 := Lib.hid (show startE t x l = if badT t x l = true then 0 else 2 by rw [SE1.out, if_pos hz])
        rw [hz]
        clear hz RD SE1
        cases hbad : badT t x l with
        | true =>
          have hs : startE t x l = 0 := by rw [SE2.out, if_pos hbad]
          have VK := walkV_ok hs
          have WK2 := Lib.hid (WK.out (walkT t x l).1 (walkT t x l).2 0 hs VK)
          rw [VK] at ZL
          have ZM := Lib.hid (show (walkT t x l).1.length ≤ maxLen by have := ZL.out; simp only [maxLen]; omega)
          rw [hbad] at BT
          unfold WkPost at WO
          clear hs VK WK ZL SE2 hbad
          generalize (walkT t x l).1 = z at *
          generalize (walkT t x l).2 = st at *
          go_wp2_with fail
          ((with_reducible refine (BT.out w5 B5.out).mono ?_))
          rintro e w6 ⟨rfl, hb6⟩
          clear k0 k1 k2 k3 x0 x1 x2
          have B6 := Lib.hid (below_trans B5.out hb6)
          have X6 := Lib.hid (X5.out.below hb6)
          have G6 := Lib.hid (G5.out.below hb6)
          clear hb6 X5 G5 B5
          obtain ⟨k0, k1, k2, k3⟩ := G6.out.facts
          obtain ⟨x0, x1, x2⟩ := X6.out.facts
          go_wp2_with fail
          ((with_reducible refine (WO.out w6 B6.out).mono ?_))
          rintro e w7 ⟨A7, c7, rfl, ha7, hc7, hb7⟩
          have H7 := Lib.hid ha7
          clear ha7 hc7
          clear k0 k1 k2 k3 x0 x1 x2
          have B7 := Lib.hid (below_trans B6.out hb7)
          have X7 := Lib.hid (X6.out.below hb7)
          have G7 := Lib.hid (G6.out.below hb7)
          clear hb7 X6 G6 B6
          obtain ⟨k0, k1, k2, k3⟩ := G7.out.facts
          obtain ⟨x0, x1, x2⟩ := X7.out.facts
          go_wp2_with fail
          ((with_reducible refine (WK2.out w7 B7.out).mono ?_))
          rintro e wa ⟨Aa, ca, rfl, hoa, hba⟩
          have Ba := Lib.hid (below_trans B7.out hba)
          have Oa := Lib.hid hoa
          have Wa := Lib.hid ((H7.out.below hba).more hba.size)
          clear hba hoa k0 k1 k2 k3 x0 x1 x2
          have Ea := Lib.hid (ET.out 0 wa Ba.out)
          generalize errOf 0 = ev at *
          go_wp2_with fail
          ((with_reducible refine Ea.out.mono ?_))
          rintro e wb ⟨rfl, hbb⟩
          have Bb := Lib.hid (below_trans Ba.out hbb)
          have SM := same_below z z Aa A7 ca c7 wb.heap.size ZM.out ZM.out wb (Oa.out.below hbb).at_ ((Wa.out.below hbb).more hbb.size)
          rw [decide_eq_true (rfl : z = z)] at SM
          have SM := Lib.hid SM
          clear hbb Ea Wa Oa
          go_wp2_with fail
          ((with_reducible refine SM.out.mono ?_))
          rintro e wc ⟨rfl, hbc⟩
          have Bc := Lib.hid (below_trans Bb.out hbc)
          clear hbc SM
          go_wp2_with fail
          go_ret
          exact ⟨ret_b (by simp), Bc.out⟩
        | false =>
          have hs : startE t x l = 2 := by rw [SE2.out, if_neg (by rw [hbad]; decide)]
          have WK2 := Lib.hid (WK.out [] 0 2 hs (walkV_no (by rw [hs]; decide)))
          rw [hbad] at BT
          clear hs WK ZL SE2 hbad WO
          go_wp2_with fail
          ((with_reducible refine (BT.out w5 B5.out).mono ?_))
          rintro e w6 ⟨rfl, hb6⟩
          clear k0 k1 k2 k3 x0 x1 x2
          have B6 := Lib.hid (below_trans B5.out hb6)
          have X6 := Lib.hid (X5.out.below hb6)
          have G6 := Lib.hid (G5.out.below hb6)
          clear hb6 X5 G5 B5
          obtain ⟨k0, k1, k2, k3⟩ := G6.out.facts
          obtain ⟨x0, x1, x2⟩ := X6.out.facts
          go_wp2_with fail
          ((with_reducible refine (WK2.out w6 B6.out).mono ?_))
          rintro e wa ⟨Aa, ca, rfl, hoa, hba⟩
          have Ba := Lib.hid (below_trans B6.out hba)
          clear hba hoa k0 k1 k2 k3 x0 x1 x2
          have Ea := Lib.hid (ET.out 2 wa Ba.out)
          generalize errOf 2 = ev at *
          go_wp2_with fail
          ((with_reducible refine Ea.out.mono ?_))
          rintro e wb ⟨rfl, hbb⟩
          have Bb := Lib.hid (below_trans Ba.out hbb)
          have SM := same_below [] [] Aa none ca 0 wb.heap.size (by simp [maxLen]) (by simp [maxLen]) wb (fun h => by simp at h) (fun h => by simp at h)
          rw [decide_eq_true (rfl : ([] : List Int) = [])] at SM
          have SM := Lib.hid SM
          clear hbb Ea
          go_wp2_with fail
          refine SM.out.mono ?_
          rintro e wc ⟨rfl, hbc⟩
          have Bc := Lib.hid (below_trans Bb.out hbc)
          clear hbc SM
          go_wp2_with fail
          go_ret
          exact ⟨ret_b (by simp), Bc.out⟩
      · have hs : startE t x l = roseE t l := by rw [SE1.out, if_neg hz]
        have WK2 := Lib.hid (WK.out [] 0 (roseE t l) hs (walkV_no (by rw [hs]; exact hz)))
        have re : (roseE t l == 0) = false := by rw [beq_eq_false_iff_ne]; exact hz
        clear hs hz WK ZL SE1 BT WO RD
        generalize roseE t l = q at *
        go_wp2_with fail
        ((with_reducible refine (WK2.out w5 B5.out).mono ?_))
        rintro e wa ⟨Aa, ca, rfl, hoa, hba⟩
        have Ba := Lib.hid (below_trans B5.out hba)
        clear hba hoa k0 k1 k2 k3 x0 x1 x2
        have Ea := Lib.hid (ET.out q wa Ba.out)
        generalize errOf q = ev at *
        go_wp2_with fail
        ((with_reducible refine Ea.out.mono ?_))
        rintro e wb ⟨rfl, hbb⟩
        have Bb := Lib.hid (below_trans Ba.out hbb)
        have SM := same_below [] [] Aa none ca 0 wb.heap.size (by simp [maxLen]) (by simp [maxLen]) wb (fun h => by simp at h) (fun h => by simp at h)
        rw [decide_eq_true (rfl : ([] : List Int) = [])] at SM
        have SM := Lib.hid SM
        clear hbb Ea
        go_wp2_with fail
        refine SM.out.mono ?_
        rintro e wc ⟨rfl, hbc⟩
        have Bc := Lib.hid (below_trans Bb.out hbc)
        clear hbc SM
        go_wp2_with fail
        go_ret
        exact ⟨ret_b (by simp), Bc.out⟩
    · have hs : startE t x l = faultE x := by rw [SE0.out, if_neg hf]
      have WK2 := Lib.hid (WK.out [] 0 (faultE x) hs (walkV_no (by rw [hs]; exact hf)))
      have re : (faultE x == 0) = false := by rw [beq_eq_false_iff_ne]; exact hf
      clear hs hf WK ZL SE0 BT WO RD XF
      generalize faultE x = q at *
      go_wp2_with fail
      ((with_reducible refine (WK2.out w4 B4.out).mono ?_))
      rintro e wa ⟨Aa, ca, rfl, hoa, hba⟩
      have Ba := Lib.hid (below_trans B4.out hba)
      clear hba hoa k0 k1 k2 k3 x0 x1 x2
      have Ea := Lib.hid (ET.out q wa Ba.out)
      generalize errOf q = ev at *
      go_wp2_with fail
      ((with_reducible refine Ea.out.mono ?_))
      rintro e wb ⟨rfl, hbb⟩
      have Bb := Lib.hid (below_trans Ba.out hbb)
      have SM := same_below [] [] Aa none ca 0 wb.heap.size (by simp [maxLen]) (by simp [maxLen]) wb (fun h => by simp at h) (fun h => by simp at h)
      rw [decide_eq_true (rfl : ([] : List Int) = [])] at SM
      have SM := Lib.hid SM
      clear hbb Ea
      go_wp2_with fail
      refine SM.out.mono ?_
      rintro e wc ⟨rfl, hbc⟩
      have Bc := Lib.hid (below_trans Bb.out hbc)
      clear hbc SM
      go_wp2_with fail
      go_ret
      exact ⟨ret_b (by simp), Bc.out⟩
  · have hs : startE t x l = genV t := by unfold startE; rw [if_neg h0]
    have WK2 := Lib.hid (WK.out [] 0 (genV t) hs (walkV_no (by rw [hs]; exact h0)))
    have re : (genV t == 0) = false := by rw [beq_eq_false_iff_ne]; exact h0
    clear hs h0 WK ZL BT WO RD XF GF
    generalize genV t = q at *
    go_wp2_with fail
    ((with_reducible refine (WK2.out w3 B3.out).mono ?_))
    rintro e wa ⟨Aa, ca, rfl, hoa, hba⟩
    have Ba := Lib.hid (below_trans B3.out hba)
    clear hba hoa k0 k1 k2 k3 x0 x1 x2
    have Ea := Lib.hid (ET.out q wa Ba.out)
    generalize errOf q = ev at *
    go_wp2_with fail
    ((with_reducible refine Ea.out.mono ?_))
    rintro e wb ⟨rfl, hbb⟩
    have Bb := Lib.hid (below_trans Ba.out hbb)
    have SM := same_below [] [] Aa none ca 0 wb.heap.size (by simp [maxLen]) (by simp [maxLen]) wb (fun h => by simp at h) (fun h => by simp at h)
    rw [decide_eq_true (rfl : ([] : List Int) = [])] at SM
    have SM := Lib.hid SM
    clear hbb Ea
    go_wp2_with fail
    refine SM.out.mono ?_
    rintro e wc ⟨rfl, hbc⟩
    have Bc := Lib.hid (below_trans Bb.out hbc)
    clear hbc SM
    go_wp2_with fail
    go_ret
    exact ⟨ret_b (by simp), Bc.out⟩
end Go.Proofs.YtfpbegagblekiaaGreatDoor.ShTellsLaw
