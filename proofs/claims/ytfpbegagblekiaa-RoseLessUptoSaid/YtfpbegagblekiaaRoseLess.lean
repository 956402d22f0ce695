/- RoseLess: the walk. Conditions: the sizes. -/
import Derived.Test.YtfpbegagblekiaaRoseLaw
import Derived.Test.YtfpbegagblekiaaMade
import Derived.Deep.RegionHeld3
namespace Go.Proofs.Ytfpbegagblekiaa.RoLessLaw
open Go.RowKit Lists Ints Vals Gens
set_option linter.unusedVariables false

theorem heap_alloc_at {w : World} {o : Obj} {b : Nat} (h : b = w.heap.size) : (w.alloc o).heap[b]? = some o := by subst h; exact new_obj w o
theorem heap_alloc_skip {w : World} {o : Obj} {b : Nat} {x : Option Obj} (hb : b < w.heap.size) (h : w.heap[b]? = x) : (w.alloc o).heap[b]? = x := (Below.heap_alloc w o b hb).trans h
theorem heap_drew_skip {w : World} {b : Nat} {x : Option Obj} (h : w.heap[b]? = x) : w.drew.heap[b]? = x := h
def RpNil (v : Tr) (W : World) (e : Ending) (w' : World) : Prop := ∃ (A : Option Addr) (c : Nat), e = .returned (.tuple #[tval v A c, .nilIface]) ∧ Below W.heap.size W w'
abbrev Z3 (b : Nat) (w : World) : Prop := V3 b (.bool false) (.int .i64 0) (.slice none 0 0) w
theorem with_z3 {P : Prop} {b : Nat} {w : World} (h : Z3 b w) (k : Z3 b w → P) : P := k h

set_option maxHeartbeats 4000000 in
set_option maxRecDepth 100000 in
theorem walk (t : Gn) (A : Option Addr) (c n : Nat) (l : List Int) (L : Option Addr) (lc : Nat) (hbulk : t.size + l.length ≤ 1048576) (w : World) (hg : GAt w (GBel w.heap.size) n (gv t A c) t) (hl : At w w.heap.size L l) (hcap : l.length ≤ lc) :
    Calls Try.prog 3 #[gv t A c, .slice L l.length lc] w fun e w' => e = .returned (.bool true) ∧ Below w.heap.size w w' := by
  have hb0 : Below w.heap.size w (w.alloc (gc t A c)) := (Below.refl _ _).alloc (Nat.le_refl _) _
  have g0 : G4 w.heap.size (.int .i64 t.kind) (.int .i64 t.a) (.int .i64 t.b) (.slice A t.subs.length c) (w.alloc (gc t A c)) := new_obj w _
  have JC := Lib.hid (fun (w : World) => made_ok w)
  have M2 := Lib.hid (fun (W : World) (hb : Below w.heap.size w W) => mend_prog (L := L) (l := l) (lc := lc) W ((hg.below hb).more hb.size) ((hl.below hb).more hb.size) hcap (by omega) (by omega))
  have RO := Lib.hid (fun (W : World) (hb : Below w.heap.size w W) (l : List Int) (L : Option Addr) (lc : Nat) (z : List (List Int)) (hl : At W W.heap.size L l) (hcap : l.length ≤ lc) (hln : l.length ≤ 4294967296) (hz : roseE t l = 0) (hv : roseL t l = z) => rose_ok (L := L) (l := l) (lc := lc) W ((hg.below hb).more hb.size) hl hcap hln (by omega) hz hv)
  have RP := Lib.hid (fun (W : World) (hb : Below w.heap.size w W) (x : List Int) (X : Option Addr) (xc : Nat) (hx : At W W.heap.size X x) (hcap : x.length ≤ xc) (hln : x.length ≤ 4294967296) (v : Tr) (hv : repV t x = .ok v) => show Calls Try.prog 9 #[gv t A c, .slice X x.length xc] W (RpNil v W) by
    refine (replay_prog (L := X) (l := x) (lc := xc) W ((hg.below hb).more hb.size) hx hcap hln (by omega)).mono ?_
    rintro e w' ⟨A, c, rfl, _, _, hb⟩
    rw [hv]
    exact ⟨A, c, (by rw [← errOf_ok]; rfl), hb⟩)
  have B0 := Lib.hid hb0
  have G0 := Lib.hid g0
  clear hb0 g0 hg hl hcap hbulk
  by_cases h0 : genV t = 0
  · have E2 := Lib.hid (roseE_mend h0 l)
    have N2 := Lib.hid (mend_len h0 l)
    have FT := Lib.hid (rose_facts h0 (mendL t l))
    rw [h0, errOf_ok] at M2
    clear h0
    generalize mendL t l = u at *
    generalize hz : roseL t u = z at FT
    have V2 := Lib.hid hz
    clear hz
    have ZL := FT.out.1
    have UL := N2.out
    go_enter Try.func3, Try.ntmps3
    go_wp2_with fail
    generalize w.alloc (gc t A c) = W0 at *
    refine (JC.out _).mono ?_
    rintro e w1 ⟨rfl, hb1⟩
    have B1 := Lib.hid (below_trans B0.out hb1)
    have G1 := Lib.hid (G0.out.below hb1)
    obtain ⟨k0, k1, k2, k3⟩ := G1.out.facts
    clear hb1
    go_wp2_with fail
    ((with_reducible refine (M2.out w1 B1.out).mono ?_))
    rintro e w2 ⟨A1, c1, rfl, ho1, hb2⟩
    have B2 := Lib.hid (below_trans B1.out hb2)
    have G2 := Lib.hid (G1.out.below hb2)
    have O2 := Lib.hid ho1
    clear hb2 ho1 k0 k1 k2 k3
    obtain ⟨k0, k1, k2, k3⟩ := G2.out.facts
    have R1 := Lib.hid (RO.out w2 B2.out u A1 c1 z O2.out.at_ O2.out.cap_ (by have := N2.out; omega) E2.out V2.out)
    go_wp2_with fail
    ((with_reducible refine R1.out.mono ?_))
    rintro e w3 ⟨A3, c3, rfl, own3, hb3⟩
    have B3 := Lib.hid (below_trans B2.out hb3)
    have G3 := Lib.hid (G2.out.below hb3)
    have O3 := Lib.hid (O2.out.below hb3)
    have Z3 := Lib.hid own3
    clear hb3 own3 k0 k1 k2 k3 R1
    go_wp2_with fail
    go_loopw [10] (fun i wr => ∃ j : Nat, j ≤ z.length ∧ i = .int .i64 j ∧ Hid (Below w3.heap.size w3 wr)) (fun i _ => z.length - (intOf i).toNat)
    case atStart => exact ⟨0, Nat.zero_le _, rfl, Below.refl _ _⟩
    case round =>
      obtain ⟨j, hj, rfl, hbb⟩ := hrel
      have B4 := Lib.hid (below_trans B3.out hbb.out)
      have G4' := Lib.hid (G3.out.below hbb.out)
      by_cases hlt : j < z.length
      · have RW := Lib.hid (fun (W : World) (hb : Below w3.heap.size w3 W) => (Z3.out.at_.below hb))
        obtain ⟨zb, zo, rfl, hzb, hcz⟩ := Z3.out.at_ (by omega)
        obtain ⟨D, d, q0, q1, q2⟩ := hcz j hlt
        clear hcz
        obtain ⟨⟨v, fv1⟩, fv2, fv3⟩ := FT.out.2 _ (List.getElem_mem hlt)
        have F1 := Lib.hid fv1
        have F2 := Lib.hid fv2
        have F3 := Lib.hid fv3
        have Q0 := Lib.hid (fun (W : World) (hb : Below w3.heap.size w3 W) => show W.cell? ⟨zb, zo + j, none⟩ = some (.slice D (z[j]'hlt).length d) from (hb.cell (p := ⟨zb, zo + j, none⟩) hzb).trans q0)
        have Q1 := Lib.hid q1
        have Q2 := Lib.hid (fun (W : World) (hb : Below w3.heap.size w3 W) => show At W w3.heap.size D (z[j]'hlt) from (q2.keep fun k hk => ⟨hk, fun o => hb.cell (p := ⟨k, o, none⟩) hk⟩))
        clear q0 q1 q2 fv1 fv2 fv3
        generalize z[j]'hlt = x at *
        have e0 := Q0.out wr hbb.out
        have RX := Lib.hid (fun (W : World) (hb : Below w3.heap.size w3 W) => RP.out W (below_trans B3.out hb) x D d ((Q2.out W hb).more hb.size) Q1.out (by have := F3.out; omega) v F1.out)
        have SC := Lib.hid (fun (W : World) (hb : Below w3.heap.size w3 W) => show W.cell? ⟨w.heap.size, 0, none⟩ = some (.int .i64 t.kind) ∧ W.cell? ⟨w.heap.size, 1, none⟩ = some (.int .i64 t.a) ∧ W.cell? ⟨w.heap.size, 2, none⟩ = some (.int .i64 t.b) ∧ W.cell? ⟨w.heap.size, 3, none⟩ = some (.slice A t.subs.length c) ∧ W.cell? ⟨zb, zo + j, none⟩ = some (.slice D x.length d) from
          ⟨(G3.out.below hb).facts.1, (G3.out.below hb).facts.2.1, (G3.out.below hb).facts.2.2.1, (G3.out.below hb).facts.2.2.2, Q0.out W hb⟩)
        obtain ⟨k0, k1, k2, k3⟩ := G4'.out.facts
        have hws : w3.heap.size ≤ wr.heap.size := hbb.out.size
        have hgl : w.heap.size < w3.heap.size := G3.out.lt
        have hzn : zb ≠ wr.heap.size := by omega
        have hzl : zb < wr.heap.size := by omega
        have LS := Lib.hid (fun (W : World) (hb : Below w3.heap.size w3 W) => show Calls Try.prog 10 #[.slice D x.length d, .slice A1 u.length c1] W fun e w' => e = .returned (.bool true) ∧ W = w' by
          have h := less_any x u D A1 d c1 w3.heap.size (by have := F3.out; simp only [maxLen]; omega) (by have := N2.out; simp only [maxLen]; omega) W (Q2.out W hb) (O3.out.at_.below hb)
          rw [F2.out] at h
          exact h)
        go_wp2_with fail
        go_region_held3 (fun w' => w'.cell? ⟨w.heap.size, 0, none⟩ = some (.int .i64 t.kind) ∧ w'.cell? ⟨w.heap.size, 1, none⟩ = some (.int .i64 t.a) ∧ w'.cell? ⟨w.heap.size, 2, none⟩ = some (.int .i64 t.b) ∧ w'.cell? ⟨w.heap.size, 3, none⟩ = some (.slice A t.subs.length c) ∧ w'.cell? ⟨zb, zo + j, none⟩ = some (.slice D x.length d)) ((refine SC.out _ ?_; repeat (first | with_reducible exact E5.out | with_reducible exact hbb.out | with_reducible refine Below.drew ?_ | with_reducible refine Below.setCell ?_ (by first | omega | (dsimp only; omega) | (simp; omega) | (simp; done)) _ | with_reducible refine Below.alloc ?_ (by first | omega | (simp; omega) | (simp; done)) _))) (first
          | (refine (RX.out _ ?_).mono ?_
             · repeat (first | with_reducible exact E5.out | with_reducible exact hbb.out | with_reducible refine Below.drew ?_ | with_reducible refine Below.setCell ?_ (by first | omega | (dsimp only; omega) | (simp; omega) | (simp; done)) _ | with_reducible refine Below.alloc ?_ (by first | omega | (simp; omega) | (simp; done)) _)
             rintro e w5 ⟨A5, c5, rfl, hb5⟩
             have E5 := Lib.hid (show Below w3.heap.size w3 w5 by
               refine Below.trans ?_ (hb5.mono ?_)
               · repeat (first | with_reducible exact E5.out | with_reducible exact hbb.out | with_reducible refine Below.drew ?_ | with_reducible refine Below.setCell ?_ (by first | omega | (dsimp only; omega) | (simp; omega) | (simp; done)) _ | with_reducible refine Below.alloc ?_ (by first | omega | (simp; omega) | (simp; done)) _)
               · (first | omega | (simp; omega) | (simp; done)))
             have e5 := Q0.out w5 E5.out
             have hs5 := E5.out.size
             have hz5 : zb < w5.heap.size := by omega
             have hn5 : zb ≠ w5.heap.size := by omega
             first
              | (refine with_z3 (b := wr.heap.size) (w := w5) ?_ (fun hz3 => ?_)
                 · show w5.heap[wr.heap.size]? = _
                   refine (hb5.block _ ?_).trans ?_
                   · (first | omega | (simp; omega) | (simp; done))
                   repeat (first
                     | (with_reducible refine heap_alloc_at ?_; simp; done)
                     | (with_reducible refine heap_drew_skip ?_)
                     | (with_reducible refine heap_alloc_skip ?_ ?_
                        · (first | omega | (simp; omega) | (simp; done))))
                   done
                 obtain ⟨y0, y1, y2, y3, y4, y5⟩ := hz3.facts)
              | skip))
        all_goals (
          go_wp2_with fail
          refine (LS.out _ ?_).mono ?_
          · repeat (first | with_reducible exact E5.out | with_reducible exact hbb.out | with_reducible refine Below.drew ?_ | with_reducible refine Below.setCell ?_ (by first | omega | (dsimp only; omega) | (simp; omega) | (simp; done)) _ | with_reducible refine Below.alloc ?_ (by first | omega | (simp; omega) | (simp; done)) _)
          rintro e w6 ⟨rfl, rfl⟩
          go_wp2_with fail
          go_roundw
          case rel => exact ⟨j + 1, by omega, by go_num, Lib.hid (by repeat (first | with_reducible exact E5.out | with_reducible exact hbb.out | with_reducible refine Below.drew ?_ | with_reducible refine Below.setCell ?_ (by first | omega | (dsimp only; omega) | (simp; omega) | (simp; done)) _ | with_reducible refine Below.alloc ?_ (by first | omega | (simp; omega) | (simp; done)) _))⟩
          case measure => simp [intOf]; omega)
      · go_wp2_with fail
        go_ret
        exact ⟨ret_b (by simp; omega), B4.out⟩
  · have RE := Lib.hid (errOf_no h0)
    rw [errOf_no h0] at M2
    clear RO
    generalize genV t = q at *
    clear h0
    generalize mendL t l = m at *
    go_enter Try.func3, Try.ntmps3
    go_wp2_with fail
    generalize w.alloc (gc t A c) = W0 at *
    refine (JC.out _).mono ?_
    rintro e w1 ⟨rfl, hb1⟩
    have B1 := Lib.hid (below_trans B0.out hb1)
    have G1 := Lib.hid (G0.out.below hb1)
    obtain ⟨k0, k1, k2, k3⟩ := G1.out.facts
    clear hb1
    go_wp2_with fail
    ((with_reducible refine (M2.out w1 B1.out).mono ?_))
    rintro e w2 ⟨A1, c1, rfl, ho1, hb2⟩
    have B2 := Lib.hid (below_trans B1.out hb2)
    clear hb2 ho1 k0 k1 k2 k3
    go_wp2_with fail
    go_ret
    exact ⟨rfl, B2.out⟩
end Go.Proofs.Ytfpbegagblekiaa.RoLessLaw
