/- TopFails, part 51 of the proof: TopFails: the walk. Conditions: the sizes; the program's table, the library's variable that errors.As reads. Made by wip/tools/gen_topfails.py. -/
import Derived.Test.YtabkihellcflhaaGreatDoorTopFailsZ43
import Derived.Test.YtabkihellcflhaaGreatDoorTopFailsZ42
import Derived.Test.YtabkihellcflhaaGreatDoorTopFailsZ44
import Derived.Test.YtabkihellcflhaaGreatDoorTopFailsZ49
import Derived.Test.YtabkihellcflhaaGreatDoorTopFailsZ50
import Derived.Deep.RegionHeld3
/- TopFails: the walk. Conditions: the sizes; the program's table, the library's variable that errors.As reads. Made by wip/tools/gen_topfails.py. -/
namespace Go.Proofs.YtabkihellcflhaaGreatDoor.TopFailsLaw
open Go.RowKit Lists Ints Vals Gens Exprs Owns
set_option linter.unusedVariables false

theorem just_count (w : World) : Calls Tryz.prog 13 #[.agg #[.int .i64 1, .int .i64 0, .int .i64 0, .slice none 0 0]] w fun e w' => e = .returned (.tuple #[.int .i64 1, .nilIface]) ∧ Below w.heap.size w w' := by
  have h := gcount (n := 1) (t := .node 1 0 0 []) (B := w.heap.size) w (gat_leaf (by decide) (by decide) (by decide)) (Nat.le_refl _) (by simp [Gn.size, gsizes])
  have e0 : countE (.node 1 0 0 []) = 0 := by rfl
  have e1 : countN (.node 1 0 0 []) = 1 := by rfl
  rw [e0, e1, errOf_ok] at h
  exact h
/-- what is known of a run -/
theorem run_facts (t x : Gn) (num many : Int) : let r := runR t x num many
    (runE t x many ≠ 0 → r.tape = []) ∧ (r.failed = false → r.tape = []) ∧ (runE t x many = 0 → r.failed = true → faultE x = 0 ∧ roseE t r.tape = 0 ∧ badT t x r.tape = true ∧ (∀ y ∈ roseL t r.tape, badT t x y = false ∧ (∃ v, repV t y = .ok v) ∧ y.length ≤ 1399680) ∧ (roseL t r.tape).length ≤ 5598720) := by
  intro r
  by_cases h : runE t x many = 0
  · obtain ⟨h0, hf, _, _⟩ := run_ok h
    have e : r = repK t x (Rng.u64of num, Rng.gold) many.toNat := runR_ok h
    refine ⟨fun hn => absurd h hn, fun hf' => ?_, fun _ ht => ?_⟩
    · rw [e] at hf' ⊢
      cases hk : firstK t x (Rng.u64of num, Rng.gold) many.toNat with
      | none => rw [rep_none hk]
      | some k => rw [rep_some hk] at hf'; cases hf'
    · rw [e] at ht ⊢
      obtain ⟨_, _, h1, h2, h3, _⟩ := rep_fails h0 hf ht
      have hrf := rose_facts (rep_facts h1).1 (repK t x (Rng.u64of num, Rng.gold) many.toNat).tape
      have hl := (rep_facts h1).2.1
      exact ⟨hf, h1, h2, fun y hy => ⟨none_fails h3 y hy, (hrf.2 y hy).1, (hrf.2 y hy).2.2⟩, by have := hrf.1; omega⟩
  · have e : r = ⟨0, false, [], 0⟩ := runR_no h
    rw [e]
    exact ⟨fun _ => rfl, fun _ => rfl, fun h' => absurd h' h⟩
theorem rank_of {t : Gn} {l : List Int} (hz : roseE t l = 0) : (countE t = 0 → rankE t l = 0 ∧ ((rankV t l : Nat) : Int) < countN t) ∧ (¬ countE t = 0 → rankE t l = countE t) := by
  refine ⟨fun hc => ?_, fun hc => by unfold rankE; rw [if_neg hc]⟩
  have e : rankE t l = 0 := by unfold rankE; rw [if_pos hc]; exact hz
  obtain ⟨_, _, _, h4, _⟩ := rankE_zero e
  exact ⟨e, by rw [(count_fine hc).2.2]; exact_mod_cast h4⟩

set_option maxHeartbeats 16000000 in
set_option maxRecDepth 100000 in
theorem walk (t : Gn) (A : Option Addr) (c n : Nat) (x : Gn) (XA : Option Addr) (xc nx : Nat) (num many : Int) (hbulk : t.size + x.size ≤ 1048576) (w : World) (hg : GAt w (GBel w.heap.size) n (gv t A c) t) (hx : EAt w (EBel w.heap.size) nx (ev x XA xc) x) (wn : (Lit.int .i64 num).wf = true) (wm : (Lit.int .i64 many).wf = true) (hsub : Subs w) (hh : Told.Handle w) :
    Calls Tryz.prog 4 #[gv t A c, ev x XA xc, .int .i64 num, .int .i64 many] w fun e w' => e = .returned (.bool true) ∧ Below w.heap.size w w' := by
  have HB := Lib.hid (gx_boxes w t x A XA c xc)
  have JC := Lib.hid (fun (w : World) => just_count w)
  have RN := Lib.hid (fun (W : World) (hb : Below w.heap.size w W) => run_prog num many W ((hg.below hb).more hb.size) ((hx.below hb).more hb.size) (hsub.below hb) (by omega) (by omega))
  have RV := Lib.hid (fun (l : List Int) (v : Tr) (hv : repV t l = .ok v) (hln : l.length ≤ 1399680) (W : World) (hb : Below w.heap.size w W) (L : Option Addr) (lc : Nat) (hl : At W W.heap.size L l) (hcap : l.length ≤ lc) => rv_ok (n := n) W ((hg.below hb).more hb.size) hl hcap (by omega) (by omega) hv)
  have FV := Lib.hid (fun (hf : faultE x = 0) (l : List Int) (v : Tr) (hv : repV t l = .ok v) (W : World) (hb : Below w.heap.size w W) (VA : Option Addr) (vc m : Nat) (ht : TAt W (Bel W.heap.size) m (vv v VA vc) v) => fv_ok (t := t) (l := l) W ((hx.below hb).more hb.size) ht hf (hsub.below hb) (by omega) hv)
  have RO := Lib.hid (fun (W : World) (hb : Below w.heap.size w W) (l : List Int) (L : Option Addr) (lc : Nat) (z : List (List Int)) (hl : At W W.heap.size L l) (hcap : l.length ≤ lc) (hln : l.length ≤ 1399680) (hz : roseE t l = 0) (hv : roseL t l = z) => rose_ok (L := L) (l := l) (lc := lc) W ((hg.below hb).more hb.size) hl hcap (by omega) (by omega) hz hv)
  have GC := Lib.hid (fun (W : World) (hb : Below w.heap.size w W) => gcount W (hg.below hb) hb.size (by omega))
  have RK := Lib.hid (fun (l : List Int) (hln : l.length ≤ 1399680) (W : World) (hb : Below w.heap.size w W) (L : Option Addr) (lc : Nat) (hl : At W W.heap.size L l) (hcap : l.length ≤ lc) => rank_prog W ((hg.below hb).more hb.size) hl hcap (by omega) (by omega))
  have TS := Lib.hid (fun (q : Int) (W : World) (hb : Below w.heap.size w W) => told_same q W (hh.below hb))
  have RF := run_facts t x num many
  have RL := (rep_len (t := t) (x := x) (n := num) (many := many)).1
  clear hg hx hbulk hsub hh wn wm
  unfold RnPost at RN
  generalize runR t x num many = r at *
  generalize hq : runE t x many = q at *
  obtain ⟨rr, rf, m, rs⟩ := r
  have RF := Lib.hid (show (q ≠ 0 → m = []) ∧ (rf = false → m = []) ∧ (q = 0 → rf = true → faultE x = 0 ∧ roseE t m = 0 ∧ badT t x m = true ∧ (∀ y ∈ roseL t m, badT t x y = false ∧ (∃ v, repV t y = .ok v) ∧ y.length ≤ 1399680) ∧ (roseL t m).length ≤ 5598720) from RF)
  have RL := Lib.hid (show m.length ≤ 1399680 from RL)
  have RN := Lib.hid (fun (W : World) (hb : Below w.heap.size w W) => show Calls Tryz.prog 10 #[gv t A c, ev x XA xc, .int .i64 num, .int .i64 many] W fun e w' => ∃ (A : Option Addr) (c : Nat), e = .returned (.tuple #[.agg #[.int .i64 rr, .bool rf, .slice A m.length c, .int .i64 rs], errOf q]) ∧ At w' w'.heap.size A m ∧ m.length ≤ c ∧ Below W.heap.size W w' from RN.out W hb)
  clear hq
  go_enter Tryz.func4, Tryz.ntmps4
  go_wp2_with fail
  generalize (w.alloc (gc t A c)).alloc (ec x XA xc) = W0 at *
  ((with_reducible refine (JC.out W0).mono ?_))
  rintro e w1 ⟨rfl, hb1⟩
  have B1 := Lib.hid (HB.out.2.2.1.trans (hb1.mono HB.out.2.2.1.size))
  have X1 := Lib.hid (HB.out.2.1.below hb1)
  have G1 := Lib.hid (HB.out.1.below hb1)
  clear hb1
  obtain ⟨k0, k1, k2, k3⟩ := G1.out.facts
  obtain ⟨x0, x1, x2⟩ := X1.out.facts
  go_wp2_with fail
  ((with_reducible refine (RN.out w1 B1.out).mono ?_))
  rintro e w2 ⟨A2, c2, rfl, ha2, hc2, hb2⟩
  have N2 := Lib.hid (bel1 w2 (.cells #[.int .i64 rr, .bool rf, .slice A2 m.length c2, .int .i64 rs] 34))
  have R3 := Lib.hid (show R4 w2.heap.size (.int .i64 rr) (.bool rf) (.slice A2 m.length c2) (.int .i64 rs) (w2.alloc (.cells #[.int .i64 rr, .bool rf, .slice A2 m.length c2, .int .i64 rs] 34)) from new_obj w2 _)
  have B3 := Lib.hid (below_trans (below_trans B1.out hb2) N2.out)
  have X3 := Lib.hid ((X1.out.below hb2).below N2.out)
  have G3 := Lib.hid ((G1.out.below hb2).below N2.out)
  have M3 := Lib.hid ((ha2.below N2.out).more N2.out.size)
  have HC := Lib.hid hc2
  clear hb2 ha2 hc2 N2 k0 k1 k2 k3 x0 x1 x2 X1 G1 B1
  obtain ⟨⟨r0, r1, r2, r3⟩, _⟩ := R3.out.facts
  obtain ⟨k0, k1, k2, k3⟩ := G3.out.facts
  by_cases hq : q = 0
  · cases rf with
    | true =>
      have LF := Lib.hid (RF.out.2.2 hq rfl)
      subst hq
      rw [errOf_ok]
      obtain ⟨v, hv⟩ := rep_of LF.out.2.1
      have HV := Lib.hid hv
      have ZF := Lib.hid LF.out.2.2.2.1
      have ZL := LF.out.2.2.2.2
      have FX := Lib.hid LF.out.1
      have C5 := Lib.hid (RV.out m v hv RL.out _ B3.out A2 c2 M3.out HC.out)
      clear hv RF
      go_wp2_with fail
      generalize w2.alloc (.cells #[.int .i64 rr, .bool true, .slice A2 m.length c2, .int .i64 rs] 34) = w3 at *
      generalize w2.heap.size = pr at *
      ((with_reducible refine C5.out.mono ?_))
      rintro e w5 ⟨A5, c5, rfl, ht, hb5⟩
      have N5 := Lib.hid (bel1 w5 (.cells #[.bool v.list, .int .i64 v.num, .slice A5 v.items.length c5] 47))
      have NV := Lib.hid (show V3 w5.heap.size (.bool v.list) (.int .i64 v.num) (.slice A5 v.items.length c5) (w5.alloc (.cells #[.bool v.list, .int .i64 v.num, .slice A5 v.items.length c5] 47)) from new_obj w5 _)
      have B5 := Lib.hid (below_trans (below_trans B3.out hb5) N5.out)
      have X5 := Lib.hid ((X3.out.below hb5).below N5.out)
      have G5 := Lib.hid ((G3.out.below hb5).below N5.out)
      have R5 := Lib.hid ((R3.out.below hb5).below N5.out)
      have M5 := Lib.hid ((((M3.out.below hb5).more hb5.size).below N5.out).more N5.out.size)
      have C6 := FV.out LF.out.1 m v HV.out (w5.alloc (.cells #[.bool v.list, .int .i64 v.num, .slice A5 v.items.length c5] 47)) B5.out A5 c5 n (ht.keep fun b hb => ⟨Nat.lt_of_lt_of_le hb.2 N5.out.size, fun o => N5.out.cell (p := ⟨b, o, none⟩) hb.2⟩)
      rw [LF.out.2.2.1] at C6
      have C6 := Lib.hid C6
      clear hb5 ht C5 X3 G3 R3 M3 N5 B3 k0 k1 k2 k3 r0 r1 r2 r3
      obtain ⟨x0, x1, x2⟩ := X5.out.facts
      obtain ⟨v0, v1, v2, _⟩ := NV.out.facts
      go_wp2_with fail
      generalize w5.alloc (.cells #[.bool v.list, .int .i64 v.num, .slice A5 v.items.length c5] 47) = w6 at *
      ((with_reducible refine C6.out.mono ?_))
      rintro e w7 ⟨rfl, hb7⟩
      have B7 := Lib.hid (below_trans B5.out hb7)
      have X7 := Lib.hid (X5.out.below hb7)
      have G7 := Lib.hid (G5.out.below hb7)
      have R7 := Lib.hid (R5.out.below hb7)
      have M7 := Lib.hid ((M5.out.below hb7).more hb7.size)
      clear hb7 C6 X5 G5 R5 M5 NV B5 x0 x1 x2 v0 v1 v2
      obtain ⟨k0, k1, k2, k3⟩ := G7.out.facts
      obtain ⟨⟨r0, r1, r2, r3⟩, _⟩ := R7.out.facts
      have C8 := Lib.hid (RO.out w7 B7.out m A2 c2 (roseL t m) M7.out HC.out RL.out LF.out.2.1 rfl)
      go_wp2_with fail
      ((with_reducible refine C8.out.mono ?_))
      rintro e w11 ⟨A8, c8, rfl, ho8, hb8⟩
      have B11 := Lib.hid (below_trans B7.out hb8)
      have X11 := Lib.hid (X7.out.below hb8)
      have G11 := Lib.hid (G7.out.below hb8)
      have R11 := Lib.hid (R7.out.below hb8)
      have M11 := Lib.hid ((M7.out.below hb8).more hb8.size)
      have Z11 := Lib.hid ho8
      have LZ := Lib.hid LF.out.2.1
      clear hb8 ho8 C8 X7 G7 R7 M7 B7 k0 k1 k2 k3 r0 r1 r2 r3 LF
      generalize roseL t m = z at *
      go_wp2_with fail
      go_loopw [19] (fun i wr => ∃ j : Nat, j ≤ z.length ∧ i = .int .i64 j ∧ Hid (Below w11.heap.size w11 wr)) (fun i _ => z.length - (intOf i).toNat)
      case atStart => exact ⟨0, Nat.zero_le _, rfl, Below.refl _ _⟩
      case round =>
        obtain ⟨j, hj, rfl, hbb⟩ := hrel
        by_cases hlt : j < z.length
        · obtain ⟨rb, ro, rfl, hrb, hrc⟩ := Z11.out.at_ (by omega)
          obtain ⟨D, d, q0, qc, q1⟩ := hrc j hlt
          have q0 := (hbb.out.cell (p := ⟨rb, ro + j, none⟩) hrb).trans q0
          have QA := Lib.hid (show At wr wr.heap.size D (z[j]'hlt) from (q1.keep fun b hb => ⟨Nat.lt_of_lt_of_le hb hbb.out.size, fun o => hbb.out.cell (p := ⟨b, o, none⟩) hb⟩))
          have QC := Lib.hid qc
          obtain ⟨fb, ⟨vy, hvy⟩, fl⟩ := ZF.out _ (List.getElem_mem hlt)
          have HY := Lib.hid hvy
          have FB := Lib.hid fb
          have FL := Lib.hid fl
          clear hrc qc q1 hvy fb fl
          generalize z[j]'hlt = y at *
          have Bw := Lib.hid (below_trans B11.out hbb.out)
          have Gw := Lib.hid (G11.out.below hbb.out)
          have Xw := Lib.hid (X11.out.below hbb.out)
          have hd : decide ((j : Int) < (z.length : Int)) = true := by rw [decide_eq_true_eq]; omega
          have g1 : rb < wr.heap.size := World.block_lt_of_cell? _ _ q0
          have CR := Lib.hid (fun (W : World) (hb : Below wr.heap.size wr W) => RV.out y vy HY.out FL.out W (below_trans Bw.out hb) D d ((QA.out.below hb).more hb.size) QC.out)
          have HK := Lib.hid (fun (W : World) (hb : Below wr.heap.size wr W) => show W.cell? ⟨w.heap.size, 0, none⟩ = some (.int .i64 t.kind) ∧ W.cell? ⟨w.heap.size, 1, none⟩ = some (.int .i64 t.a) ∧ W.cell? ⟨w.heap.size, 2, none⟩ = some (.int .i64 t.b) ∧ W.cell? ⟨w.heap.size, 3, none⟩ = some (.slice A t.subs.length c) ∧ W.cell? ⟨rb, ro + j, none⟩ = some (.slice D y.length d) from by
            obtain ⟨j0, j1, j2, j3⟩ := (Gw.out.below hb).facts
            exact ⟨j0, j1, j2, j3, (hb.cell (p := ⟨rb, ro + j, none⟩) g1).trans q0⟩)
          have E0 := Lib.hid (Below.refl wr.heap.size wr)
          have zw : wr.heap.size = wr.heap.size := rfl
          obtain ⟨k0, k1, k2, k3⟩ := Gw.out.facts
          go_wp2_with fail
          go_region_held3 (fun w' => w'.cell? ⟨w.heap.size, 0, none⟩ = some (.int .i64 t.kind) ∧ w'.cell? ⟨w.heap.size, 1, none⟩ = some (.int .i64 t.a) ∧ w'.cell? ⟨w.heap.size, 2, none⟩ = some (.int .i64 t.b) ∧ w'.cell? ⟨w.heap.size, 3, none⟩ = some (.slice A t.subs.length c) ∧ w'.cell? ⟨rb, ro + j, none⟩ = some (.slice D y.length d)) ((refine HK.out _ ?_; repeat (first | with_reducible exact E13.out | with_reducible refine Below.setCell ?_ (by first | exact Nat.le_refl _ | (simp; omega) | omega) _ | with_reducible exact Below.refl _ _ | with_reducible refine Below.drew ?_ | with_reducible refine Below.alloc ?_ (by first | omega | (simp; omega) | (simp; done)) _)))
            ((with_reducible refine (CR.out _ ?_).mono ?_
              · repeat (first | with_reducible exact Below.refl _ _ | with_reducible refine Below.drew ?_ | with_reducible refine Below.alloc ?_ (by first | omega | (simp; omega) | (simp; done)) _)
              rintro e w13 ⟨VA, vc, rfl, ht, hb13⟩
              have E13 := Lib.hid (show Below wr.heap.size wr w13 by
                refine Below.trans ?_ (hb13.mono (by first | omega | (simp; omega) | (simp; done)))
                repeat (first | with_reducible exact Below.refl _ _ | with_reducible refine Below.drew ?_ | with_reducible refine Below.alloc ?_ (by first | omega | (simp; omega) | (simp; done)) _))
              have HT := Lib.hid ht
              have S13 := E13.out.size
              try (have z13 : V3 wr.heap.size (.bool false) (.int .i64 0) (.slice none 0 0) w13 := (hb13.block wr.heap.size (by first | (simp; done) | omega)).trans (new_obj wr (.cells #[.bool false, .int .i64 0, .slice none 0 0] 47)); obtain ⟨z0, z1, z2, z3⟩ := z13.facts)
              clear hb13 ht))
          · have V14 := Lib.hid (show V3 w13.heap.size (.bool vy.list) (.int .i64 vy.num) (.slice VA vy.items.length vc) (w13.alloc (.cells #[.bool vy.list, .int .i64 vy.num, .slice VA vy.items.length vc] 47)) from new_obj w13 _)
            have N14 := bel1 w13 (.cells #[.bool vy.list, .int .i64 vy.num, .slice VA vy.items.length vc] 47)
            have E14 := Lib.hid (below_trans E13.out N14)
            have T14 := Lib.hid (show TAt (w13.alloc (.cells #[.bool vy.list, .int .i64 vy.num, .slice VA vy.items.length vc] 47)) (Bel (w13.alloc (.cells #[.bool vy.list, .int .i64 vy.num, .slice VA vy.items.length vc] 47)).heap.size) n (vv vy VA vc) vy from HT.out.keep fun b hb => ⟨Nat.lt_of_lt_of_le hb.2 N14.size, fun o => N14.cell (p := ⟨b, o, none⟩) hb.2⟩)
            clear N14 CR HK E13 HT k0 k1 k2 k3 q0
            generalize w13.heap.size = pv at *
            generalize w13.alloc (.cells #[.bool vy.list, .int .i64 vy.num, .slice VA vy.items.length vc] 47) = w14 at *
            have B14 := Lib.hid (below_trans Bw.out E14.out)
            have C14 := FV.out FX.out y vy HY.out w14 B14.out VA vc n T14.out
            rw [FB.out] at C14
            have C14 := Lib.hid C14
            obtain ⟨x0, x1, x2⟩ := (Xw.out.below E14.out).facts
            obtain ⟨v0, v1, v2, _⟩ := V14.out.facts
            go_wp2_with fail
            ((with_reducible refine C14.out.mono ?_))
            rintro e w15 ⟨rfl, hb15⟩
            have B15 := Lib.hid (below_trans hbb.out (below_trans E14.out hb15))
            clear hb15 C14 x0 x1 x2 v0 v1 v2
            go_wp2_with fail
            go_roundw
            case rel => exact ⟨j + 1, hlt, by go_num, B15.out⟩
            case measure => simp [intOf]; omega
          · obtain ⟨t1, t2, t3⟩ := box_put z13 (.bool vy.list) (.int .i64 vy.num) (.slice VA vy.items.length vc)
            have V14 := Lib.hid t1
            have E14 := Lib.hid (show Below wr.heap.size wr _ from E13.out.trans t2)
            have T14 := Lib.hid (show TAt _ (Bel _) n (vv vy VA vc) vy from HT.out.keep fun b hb => ⟨Nat.lt_of_lt_of_le hb.2 t2.size, fun o => World.cell?_of_block (t3 b (by have := hb.1; simp at this; omega))⟩)
            clear t1 t2 t3 CR HK E13 HT k0 k1 k2 k3 q0 z13 z0 z1 z2 z3
            generalize ((w13.setCell ⟨wr.heap.size, 0, none⟩ (.bool vy.list)).setCell ⟨wr.heap.size, 1, none⟩ (.int .i64 vy.num)).setCell ⟨wr.heap.size, 2, none⟩ (.slice VA vy.items.length vc) = w14 at *
            have B14 := Lib.hid (below_trans Bw.out E14.out)
            have C14 := FV.out FX.out y vy HY.out w14 B14.out VA vc n T14.out
            rw [FB.out] at C14
            have C14 := Lib.hid C14
            obtain ⟨x0, x1, x2⟩ := (Xw.out.below E14.out).facts
            obtain ⟨v0, v1, v2, _⟩ := V14.out.facts
            go_wp2_with fail
            ((with_reducible refine C14.out.mono ?_))
            rintro e w15 ⟨rfl, hb15⟩
            have B15 := Lib.hid (below_trans hbb.out (below_trans E14.out hb15))
            clear hb15 C14 x0 x1 x2 v0 v1 v2
            go_wp2_with fail
            go_roundw
            case rel => exact ⟨j + 1, hlt, by go_num, B15.out⟩
            case measure => simp [intOf]; omega
        · have Bw := Lib.hid (below_trans B11.out hbb.out)
          have Gw := Lib.hid (G11.out.below hbb.out)
          have Rw := Lib.hid (R11.out.below hbb.out)
          have Mw := Lib.hid (show At wr wr.heap.size A2 m from (M11.out.below hbb.out).more hbb.out.size)
          obtain ⟨k0, k1, k2, k3⟩ := Gw.out.facts
          have RO1 := Lib.hid (rank_of LZ.out)
          have hd : decide ((j : Int) < (z.length : Int)) = false := by rw [decide_eq_false_iff_not]; omega
          have CC := Lib.hid (GC.out wr Bw.out)
          go_wp2_with fail
          ((with_reducible refine CC.out.mono ?_))
          rintro e w20 ⟨rfl, hb20⟩
          have B20 := Lib.hid (below_trans Bw.out hb20)
          have CK := Lib.hid (RK.out m RL.out w20 B20.out A2 c2 ((Mw.out.below hb20).more hb20.size) HC.out)
          have G20 := Lib.hid (Gw.out.below hb20)
          have R20 := Lib.hid (Rw.out.below hb20)
          clear hb20 CC k0 k1 k2 k3 hd
          obtain ⟨k0, k1, k2, k3⟩ := G20.out.facts
          obtain ⟨⟨r0, r1, r2, r3⟩, _⟩ := R20.out.facts
          go_wp2_with fail
          ((with_reducible refine CK.out.mono ?_))
          rintro e w21 ⟨rfl, hb21⟩
          have B21 := Lib.hid (below_trans B20.out hb21)
          clear hb21 CK k0 k1 k2 k3 r0 r1 r2 r3
          by_cases hc : countE t = 0
          · obtain ⟨e1, e2⟩ := RO1.out.1 hc
            rw [hc, e1, errOf_ok]
            have e3 : (0 : Int) ≤ ((rankV t m : Nat) : Int) := Int.natCast_nonneg _
            generalize rankV t m = i at *
            generalize countN t = cn' at *
            clear hc e1
            go_wp2_with fail
            all_goals
              go_ret
              exact ⟨ret_b (by first | rfl | (simp; omega)), B21.out⟩
          · have e1 := RO1.out.2 hc
            have TC := Lib.hid (TS.out (countE t) w21 B21.out)
            rw [e1]
            rw [errOf_no hc] at TC ⊢
            generalize countE t = q2 at *
            go_wp2_with fail
            ((with_reducible refine TC.out.mono ?_))
            rintro e w22 ⟨rfl, hb22⟩
            have B22 := Lib.hid (below_trans B21.out hb22)
            clear hb22 TC
            go_wp2_with fail
            go_ret
            exact ⟨rfl, B22.out⟩
    | false =>
      have hm := RF.out.2.1 rfl
      subst hq
      subst hm
      rw [errOf_ok]
      clear RF
      go_wp2_with fail
      go_ret
      exact ⟨ret_b (by simp), B3.out⟩
  · have hm := RF.out.1 hq
    rw [errOf_no hq]
    subst hm
    clear RF
    go_wp2_with fail
    go_ret
    exact ⟨ret_b (by simp), B3.out⟩
end Go.Proofs.YtabkihellcflhaaGreatDoor.TopFailsLaw
