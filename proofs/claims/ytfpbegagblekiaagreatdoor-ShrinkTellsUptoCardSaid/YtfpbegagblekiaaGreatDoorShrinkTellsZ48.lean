/- ShrinkTells, part 48 of the proof: The document's own WalkOf. Conditions: the sizes. -/
import Derived.Test.YtfpbegagblekiaaGreatDoorShrinkTellsZ45
import Derived.Test.YtfpbegagblekiaaGreatDoorShrinkTellsZ33
import Derived.Test.YtfpbegagblekiaaGreatDoorShrinkTellsZ47
/- The document's own WalkOf. Conditions: the sizes. -/
namespace Go.Proofs.YtfpbegagblekiaaGreatDoor.Gens
open Go.RowKit Lists Ints Vals Exprs
set_option linter.unusedVariables false

theorem find_at {p : List Int → Bool} : ∀ {zs : List (List Int)} {k : Nat} (hk : k < zs.length), (∀ j (h : j < k), p (zs[j]'(Nat.lt_trans h hk)) = false) → p (zs[k]'hk) = true → zs.find? p = some (zs[k]'hk)
  | [], k, hk, _, _ => by simp at hk
  | z :: zs, 0, hk, _, h => by
    have h : p z = true := h
    rw [List.find?_cons_of_pos h]; rfl
  | z :: zs, k + 1, hk, hb, h => by
    have h0 : p z = false := hb 0 (by omega)
    rw [List.find?_cons_of_neg (by rw [h0]; simp)]
    exact find_at (by simpa using hk) (fun j hj => hb (j + 1) (by omega)) h
theorem find_no {p : List Int → Bool} {zs : List (List Int)} (hb : ∀ j (h : j < zs.length), p (zs[j]'h) = false) : zs.find? p = none := by
  rw [List.find?_eq_none]
  intro y hy
  obtain ⟨j, hj, rfl⟩ := List.getElem_of_mem hy
  rw [hb j hj]; simp
def WkPost (r : List Int × Nat) (w : World) (e : Ending) (w' : World) : Prop := ∃ (A : Option Addr) (c : Nat), e = .returned (.tuple #[.slice A r.1.length c, .int .i64 r.2]) ∧ At w' w'.heap.size A r.1 ∧ r.1.length ≤ c ∧ Below w.heap.size w w'

set_option maxHeartbeats 16000000 in
set_option maxRecDepth 100000 in
theorem walkof_any {t x : Gn} {GA XA L : Option Addr} {gcap xcap lc n nx : Nat} {l : List Int} (w : World) (hg : GAt w (GBel w.heap.size) n (gv t GA gcap) t) (hx : EAt w (EBel w.heap.size) nx (ev x XA xcap) x) (hf : formE x = true) (hl : At w w.heap.size L l) (hcap : l.length ≤ lc) (hz : roseE t l = 0) :
    Calls Tryz.prog 10 #[gv t GA gcap, ev x XA xcap, .slice L l.length lc] w (WkPost (walkT t x l) w) := by
  have h0 := (rep_facts hz).1
  have LT := Lib.hid (fun (y : List Int) (Y : Option Addr) (yc : Nat) (hy : roseE t y = 0) (W : World) (hb : Below w.heap.size w W) (ha : At W W.heap.size Y y) (hc : y.length ≤ yc) => lesstapes_any W ((hg.below hb).more hb.size) h0 ha hc (rep_facts hy).2.1 (rep_facts hy).2.2)
  have BT := Lib.hid (fun (y : List Int) (Y : Option Addr) (yc : Nat) (W : World) (hb : Below w.heap.size w W) (ha : At W W.heap.size Y y) (hl : y.length ≤ 4294967296) => badtape_any (lc := yc) W ((hg.below hb).more hb.size) ((hx.below hb).more hb.size) h0 hf ha (Nat.le_refl _) hl)
  have RF := Lib.hid (fun (y : List Int) => rose_facts h0 y)
  have HB := Lib.hid (gx_boxes w t x GA XA gcap xcap)
  have A0 := Lib.hid (along_start (x := x) hz)
  have MB := Lib.hid (meas_bound hz)
  have LB := Lib.hid (fun y (hy : roseE t y = 0) => (rep_facts hy).2.1)
  have HL := Lib.hid hl
  have HC := Lib.hid hcap
  clear hg hx hf hl hcap hz h0
  go_enter Tryz.func10, Tryz.ntmps10
  go_wp2_with fail
  generalize (w.alloc (gc t GA gcap)).alloc (ec x XA xcap) = W0 at *
  go_loopg [2, 8] (measL l) (fun g v s wr => ∃ (y : List Int) (Y : Option Addr) (yc st : Nat), g = measL y ∧ v = .slice Y y.length yc ∧ s = .int .i64 st ∧ Hid (Along t x l y st) ∧ Hid (At wr wr.heap.size Y y ∧ y.length ≤ yc) ∧ Hid (Below W0.heap.size W0 wr))
  case atStart => exact ⟨l, L, lc, 0, rfl, rfl, rfl, A0.out, ⟨(HL.out.below HB.out.2.2.1).more HB.out.2.2.1.size, HC.out⟩, Below.refl _ _⟩
  case round =>
    obtain ⟨y, Y, yc, st, rfl, rfl, rfl, hal, hya, hbb⟩ := hrel
    have B1 := Lib.hid (show Below w.heap.size w wr from HB.out.2.2.1.trans (hbb.out.mono HB.out.2.2.1.size))
    have G1 := Lib.hid (HB.out.1.below hbb.out)
    have X1 := Lib.hid (HB.out.2.1.below hbb.out)
    have CL := Lib.hid (LT.out y Y yc hal.out.1 wr B1.out hya.out.1 hya.out.2)
    have ZF := Lib.hid (RF.out y)
    have YL := Lib.hid (LB.out y hal.out.1)
    have ST := Lib.hid (show stepT t x y = (roseL t y).find? (badT t x) from rfl)
    have SB := Lib.hid (show st + measL y ≤ 1401079680 from Nat.le_trans hal.out.2.2 MB.out)
    obtain ⟨k0, k1, k2, k3⟩ := G1.out.facts
    go_wp2_with fail
    ((with_reducible refine CL.out.mono ?_))
    rintro e w1 ⟨A1, c1, rfl, hr1, hb1⟩
    generalize roseL t y = z at *
    have B2 := Lib.hid (below_trans B1.out hb1)
    have G2 := Lib.hid (G1.out.below hb1)
    have X2 := Lib.hid (X1.out.below hb1)
    have R2 := Lib.hid hr1
    have N2 := Lib.hid hb1
    have Y2 := Lib.hid (show At w1 w1.heap.size Y y from (hya.out.1.below hb1).more hb1.size)
    clear hr1 hb1 k0 k1 k2 k3
    obtain ⟨wo, rfl⟩ : ∃ wo : World, wo = wr := ⟨_, rfl⟩
    have ZL : z.length ≤ 5598720 := by have := ZF.out.1; have := YL.out; omega
    go_wp2_with fail
    go_loopw [10] (fun i wr => ∃ k : Nat, k ≤ z.length ∧ i = .int .i64 k ∧ Hid (∀ j (h : j < k) (h' : j < z.length), badT t x (z[j]'h') = false) ∧ Hid (Below w1.heap.size w1 wr)) (fun i _ => z.length - (intOf i).toNat)
    case atStart => exact ⟨0, Nat.zero_le _, rfl, fun j h => absurd h (by omega), Below.refl _ _⟩
    case round =>
      obtain ⟨k, hk, rfl, hno, hb2⟩ := hrel
      have B3 := Lib.hid (below_trans B2.out hb2.out)
      have G3 := Lib.hid (G2.out.below hb2.out)
      have X3 := Lib.hid (X2.out.below hb2.out)
      by_cases hlt : k < z.length
      · obtain ⟨rb, ro, rfl, hrb, hrc⟩ := R2.out (by omega)
        obtain ⟨D, d, q0, qc, q1⟩ := hrc k hlt
        have q0 := (hb2.out.cell (p := ⟨rb, ro + k, none⟩) hrb).trans q0
        have QA := Lib.hid (show At wr wr.heap.size D (z[k]'hlt) from (q1.keep fun b hb => ⟨Nat.lt_of_lt_of_le hb hb2.out.size, fun o => hb2.out.cell (p := ⟨b, o, none⟩) hb⟩))
        have QC := Lib.hid qc
        have FS := Lib.hid (fun (h : badT t x (z[k]'hlt) = true) => find_at hlt (fun j hj => hno.out j hj (Nat.lt_trans hj hlt)) h)
        have XL := Lib.hid ((ZF.out.2 _ (List.getElem_mem hlt)).2.2)
        have NX := Lib.hid (fun (h : badT t x (z[k]'hlt) = false) => show ∀ j (h : j < k + 1) (h' : j < z.length), badT t x (z[j]'h') = false from fun j hj hj' => by
          by_cases e : j = k
          · subst e; exact h
          · exact hno.out j (by omega) hj')
        clear hrc qc q1
        generalize z[k]'hlt = u at *
        have CB := Lib.hid (BT.out u D d wr.drew B3.out.drew QA.out.drew (by have := XL.out; omega))
        have hd : decide ((k : Int) < (z.length : Int)) = true := by rw [decide_eq_true_eq]; omega
        have g1 : rb < wr.heap.size := World.block_lt_of_cell? _ _ q0
        generalize badT t x u = q at *
        obtain ⟨k0, k1, k2, k3⟩ := G3.out.facts
        obtain ⟨x0, x1, x2⟩ := X3.out.facts
        go_wp2_with fail
        go_region_held3 (fun w' => w'.cell? ⟨w.heap.size, 0, none⟩ = some (.int .i64 t.kind) ∧ w'.cell? ⟨w.heap.size, 1, none⟩ = some (.int .i64 t.a) ∧ w'.cell? ⟨w.heap.size, 2, none⟩ = some (.int .i64 t.b) ∧ w'.cell? ⟨w.heap.size, 3, none⟩ = some (.slice GA t.subs.length gcap) ∧ w'.cell? ⟨w.heap.size + 1, 0, none⟩ = some (.int .i64 x.kind) ∧ w'.cell? ⟨w.heap.size + 1, 1, none⟩ = some (.int .i64 x.a) ∧ w'.cell? ⟨w.heap.size + 1, 2, none⟩ = some (.slice XA x.subs.length xcap) ∧ w'.cell? ⟨rb, ro + k, none⟩ = some (.slice D u.length d)) (first | exact ⟨k0, k1, k2, k3, x0, x1, x2, q0⟩ | exact ⟨j0, j1, j2, j3, j4, j5, j6, j7⟩)
          (((with_reducible refine CB.out.mono ?_); rintro e w2 ⟨rfl, hb3⟩; have B4 := Lib.hid (show Below wr.heap.size wr w2 from ⟨hb3.os, hb3.tape, hb3.output, hb3.size, hb3.block⟩); obtain ⟨j0, j1, j2, j3⟩ := (G3.out.below B4.out).facts; obtain ⟨j4, j5, j6⟩ := (X3.out.below B4.out).facts; have j7 := (B4.out.cell (p := ⟨rb, ro + k, none⟩) g1).trans q0; clear hb3))
        clear k0 k1 k2 k3 x0 x1 x2 q0 CB
        cases q
        · have NO := Lib.hid (NX.out rfl)
          have B5 := Lib.hid (below_trans hb2.out B4.out)
          clear j0 j1 j2 j3 j4 j5 j6 j7
          go_wp2_with fail
          go_roundw
          case rel => exact ⟨k + 1, by omega, by go_num, NO.out, B5.out⟩
          case measure => simp [intOf]; omega
        · have FD := Lib.hid (show stepT t x y = some u by rw [ST.out]; exact FS.out rfl)
          have AN := Lib.hid (along_step hal.out FD.out)
          have QB := Lib.hid (show At w2 w2.heap.size D u ∧ u.length ≤ d from ⟨(QA.out.below B4.out).more B4.out.size, QC.out⟩)
          have B5 := Lib.hid (show Below W0.heap.size W0 w2 from below_trans (below_trans (below_trans hbb.out N2.out) hb2.out) B4.out)
          have sb := SB.out
          have hne : ((k : Int) == (z.length : Int)) = false := by rw [beq_eq_false_iff_ne]; omega
          clear j0 j1 j2 j3 j4 j5 j6
          go_wp2_with fail
          go_roundg (measL u)
          case measure => exact AN.out.2
          case rel => exact ⟨u, D, d, st + 1, rfl, rfl, by go_num, AN.out.1, QB.out, B5.out⟩
      · have hd : decide ((k : Int) < (z.length : Int)) = false := by rw [decide_eq_false_iff_not]; omega
        have FD := Lib.hid (show stepT t x y = none by rw [ST.out]; exact find_no (fun j hj => hno.out j (by omega) hj))
        have EQ := Lib.hid (along_end hal.out FD.out)
        have YE := Lib.hid (show At wr wr.heap.size Y y from (Y2.out.below hb2.out).more hb2.out.size)
        have he : ((k : Int) == (z.length : Int)) = true := by rw [beq_iff_eq]; omega
        obtain ⟨k0, k1, k2, k3⟩ := G3.out.facts
        obtain ⟨x0, x1, x2⟩ := X3.out.facts
        go_wp2_with fail
        go_quiet (fail)
        go_wp2_with fail
        go_ret2
        refine ⟨Y, yc, ?_, ?_, ?_, ?_⟩
        · rw [EQ.out]; rfl
        · rw [EQ.out]; exact YE.out
        · rw [EQ.out]; exact hya.out.2
        · first | exact Below.refl _ _ | exact B3.out | exact below_drewN B3.out _ | exact B3.out.drewN _ | exact below_trans B3.out (below_drewN _ _)
end Go.Proofs.YtfpbegagblekiaaGreatDoor.Gens
