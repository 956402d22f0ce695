/- GenOwn: the walk. Conditions: the sizes; the library's table of powers of ten. -/
import Derived.Test.YtboecgbgcbkcjaaDoorOwnL
import Derived.Test.YtboecgbgcbkcjaaDoorSame
import Derived.Test.YtboecgbgcbkcjaaDoorJust
import Derived.Test.YtboecgbgcbkcjaaDoorGMend
import Derived.Test.YtboecgbgcbkcjaaDoorGReplay
import Derived.Test.YtboecgbgcbkcjaaDoorWrite
namespace Go.Proofs.YtboecgbgcbkcjaaDoor.GOwnLaw
open Go.RowKit Lists Ints Vals Gens Owns Build
set_option linter.unusedVariables false

/-- a row of so many cells -/
def RowN (g n : Nat) (w : World) : Prop := ∃ (cur : Array Value) (T : TypeId), cur.size = n ∧ w.heap[g]? = some (.cells cur T (0, 0))
theorem RowN.put {g n : Nat} {w : World} (h : RowN g n w) (k : Nat) (v : Value) : RowN g n (w.setCell ⟨g, k, none⟩ v) := by
  obtain ⟨cur, T, hs, h⟩ := h
  exact ⟨cur.setIfInBounds k v, T, by simpa using hs, by simp [World.setCell, Array.getElem?_modify, h]⟩
theorem RowN.cell {g n : Nat} {w : World} (h : RowN g n w) {k : Nat} (hk : k < n) : (∃ u, w.cell? ⟨g, k, none⟩ = some u) ∧ w.frozen? ⟨g, k, none⟩ = false := by
  obtain ⟨cur, T, hs, h⟩ := h
  exact ⟨⟨cur[k]'(by omega), by rw [Lib.cell_of_heap h]; simp⟩, Lib.frozen_of_heap h k⟩
theorem RowN.of {g k : Nat} {w : World} {u : Value} {A : Option Addr} (hn : NFr A w) (ha : blockOf A = some g) (hc : w.cell? ⟨g, k, none⟩ = some u) : ∃ n, k < n ∧ RowN g n w := by
  obtain ⟨cs, T, h⟩ := hn g ha
  refine ⟨cs.size, ?_, cs, T, rfl, h⟩
  rw [Lib.cell_of_heap h] at hc
  rcases Nat.lt_or_ge k cs.size with h1 | h1
  · exact h1
  · rw [Array.getElem?_eq_none h1] at hc; cases hc
theorem play_back {t : Gn} (l : List Int) (h0 : genV t = 0) : (mendL t l).length ≤ 1399680 ∧ ∃ v, repV t (mendL t l) = .ok v ∧ v.size ≤ 1399680 := by
  obtain ⟨v, r, h1, n1⟩ := mend_run (t := t) l h0
  obtain ⟨hr, hl⟩ := gen_right h0
  have h2 := mend_read hr h1 []
  rw [List.append_nil] at h2
  refine ⟨n1, v, ?_, (small_val mend_bounded hr hl h1).2⟩
  unfold repV repG
  rw [if_pos h0, h2]
  rfl

set_option maxHeartbeats 8000000 in
set_option maxRecDepth 100000 in
theorem walk (t : Gn) (A : Option Addr) (c n : Nat) (l : List Int) (L : Option Addr) (lc : Nat) (x : Int) (hbulk : t.size + l.length ≤ 1048576) (w : World) (hg : GAt w (GBel w.heap.size) n (gv t A c) t) (hl : At w w.heap.size L l) (hcap : l.length ≤ lc) (wx : (Lit.int .i64 x).wf = true) (hh : Tab w) :
    Calls Tryd.prog 5 #[gv t A c, .slice L l.length lc, .int .i64 x] w fun e w' => e = .returned (.bool true) ∧ Below w.heap.size w w' := by
  have hb0 : Below w.heap.size w (w.alloc (gc t A c)) := (Below.refl _ _).alloc (Nat.le_refl _) _
  have g0 : G4 w.heap.size (.int .i64 t.kind) (.int .i64 t.a) (.int .i64 t.b) (.slice A t.subs.length c) (w.alloc (gc t A c)) := new_obj w _
  have C1 := Lib.hid (fun (W : World) => show Calls Tryd.prog 16 #[.agg #[.int .i64 1, .int .i64 0, .int .i64 0, .slice none 0 0]] W fun e w' => e = .returned (.tuple #[.int .i64 1, .nilIface]) ∧ Below W.heap.size W w' by
    have C := gcount (n := 1) (t := .node 1 0 0 []) (B := W.heap.size) W (gat_leaf (by decide) (by decide) (by decide)) (Nat.le_refl _) (by decide)
    rw [show countN (.node 1 0 0 []) = 1 by decide, show countE (.node 1 0 0 []) = 0 by decide, errOf_ok] at C
    exact C)
  have M1 := Lib.hid (fun (W : World) (hb : Below w.heap.size w W) (L : Option Addr) (lc : Nat) (hl : At W W.heap.size L l) (hcap : l.length ≤ lc) => mend_prog (L := L) (l := l) (lc := lc) W ((hg.below hb).more hb.size) hl hcap (by omega) (by omega))
  have R1 := Lib.hid (fun (W : World) (hb : Below w.heap.size w W) (m : List Int) (L : Option Addr) (lc : Nat) (hl : At W W.heap.size L m) (hcap : m.length ≤ lc) (hln : m.length ≤ 4294967296) => replay_prog (L := L) (l := m) (lc := lc) W ((hg.below hb).more hb.size) hl hcap hln (by omega))
  have TB := Lib.hid (fun (W : World) (hb : Below w.heap.size w W) => show Tab W from hh.below hb)
  have HL := Lib.hid (fun (W : World) (hb : Below w.heap.size w W) => show At W W.heap.size L l from (hl.below hb).more hb.size)
  have LN := Lib.hid (show l.length ≤ 4294967296 ∧ l.length ≤ maxLen ∧ l.length ≤ lc by simp only [maxLen]; omega)
  have FT := Lib.hid (fun (h0 : genV t = 0) => play_back l h0)
  have NZ := Lib.hid (fun (h0 : ¬ genV t = 0) => show mendL t l = [] by unfold mendL; rw [if_neg h0])
  have ML := Lib.hid (show (mendL t l).length ≤ 1399680 by
    by_cases h0 : genV t = 0
    · exact (play_back l h0).1
    · unfold mendL; rw [if_neg h0]; simp)
  have B0 := Lib.hid hb0
  have G0 := Lib.hid g0
  clear hb0 g0 hg hbulk hl hcap hh wx
  generalize hmm : mendL t l = m at *
  clear hmm
  go_enter Tryd.func5, Tryd.ntmps5
  go_wp2_with fail
  generalize w.alloc (gc t A c) = W0 at *
  have I1 := Lib.hid (ints_ok (lc := lc) W0 (HL.out W0 B0.out) LN.out.1)
  ((with_reducible refine I1.out.mono ?_))
  rintro e w1 ⟨A1, c1, rfl, ho1, hb1⟩
  have B1 := Lib.hid (below_trans B0.out hb1)
  have G1 := Lib.hid (G0.out.below hb1)
  have O1 := Lib.hid ho1
  clear hb1 ho1
  obtain ⟨k0, k1, k2, k3⟩ := G1.out.facts
  go_wp2_with fail
  ((with_reducible refine (M1.out w1 B1.out A1 c1 O1.out.at_ O1.out.cap_).mono ?_))
  rintro e w2 ⟨A2, c2, rfl, ho2, hb2⟩
  have B2 := Lib.hid (below_trans B1.out hb2)
  have G2 := Lib.hid (G1.out.below hb2)
  have O2 := Lib.hid (O1.out.below hb2)
  have M2 := Lib.hid ho2
  clear hb2 ho2 k0 k1 k2 k3
  obtain ⟨k0, k1, k2, k3⟩ := G2.out.facts
  have RM := Lib.hid (R1.out w2 B2.out m A2 c2 M2.out.at_ M2.out.cap_ (by have := ML.out; omega))
  go_wp2_with fail
  ((with_reducible refine RM.out.mono ?_))
  rintro e w3 ⟨A3, c3, rfl, ht3, hn3, hb3⟩
  have B3 := Lib.hid (below_trans B2.out hb3)
  have n4 := bel1 w3 (.cells #[.bool (trOf (repV t m)).list, .int .i64 (trOf (repV t m)).num, .slice A3 (trOf (repV t m)).items.length c3] 38)
  have V4 := Lib.hid (show V3 w3.heap.size (.bool (trOf (repV t m)).list) (.int .i64 (trOf (repV t m)).num) (.slice A3 (trOf (repV t m)).items.length c3) (w3.alloc (.cells #[.bool (trOf (repV t m)).list, .int .i64 (trOf (repV t m)).num, .slice A3 (trOf (repV t m)).items.length c3] 38)) from new_obj w3 _)
  have T3 := Lib.hid (And.intro ht3 hn3)
  have B4 := Lib.hid (below_trans B3.out n4)
  have N4 := Lib.hid n4
  have H3 := Lib.hid hb3
  clear ht3 hn3 hb3 n4 RM k0 k1 k2 k3
  go_wp2_with fail
  generalize hw4 : w3.alloc (.cells #[.bool (trOf (repV t m)).list, .int .i64 (trOf (repV t m)).num, .slice A3 (trOf (repV t m)).items.length c3] 38) = w4 at *
  clear hw4
  ((with_reducible refine (C1.out _).mono ?_))
  rintro e w5 ⟨rfl, hb5⟩
  have N5 := Lib.hid (below_trans N4.out hb5)
  have B5 := Lib.hid (below_trans B4.out hb5)
  have V5 := Lib.hid (V4.out.below hb5)
  have O5 := Lib.hid (O2.out.below (below_trans H3.out N5.out))
  have SM1 := same_below l l A1 L c1 lc w5.heap.size LN.out.2.1 LN.out.2.1 w5 O5.out.at_ (HL.out w5 B5.out)
  rw [decide_eq_true (rfl : l = l)] at SM1
  have SM1 := Lib.hid SM1
  clear hb5
  go_wp2_with fail
  ((with_reducible refine SM1.out.mono ?_))
  rintro e w6 ⟨rfl, hb6⟩
  have N6 := Lib.hid (below_trans N5.out hb6)
  have B6 := Lib.hid (below_trans B5.out hb6)
  have V6 := Lib.hid (V5.out.below hb6)
  clear hb6 SM1
  by_cases hz : genV t = 0
  · obtain ⟨_, v, hv, hvs⟩ := FT.out hz
    have E1 : trOf (repV t m) = v := by rw [hv]; rfl
    have E2 : errI (repV t m) = 0 := by rw [hv]; rfl
    rw [hz, E1, E2, errOf_ok]
    rw [E1] at T3 V6
    have R2 := Lib.hid (fun (W : World) (hb : Below w.heap.size w W) (L : Option Addr) (lc : Nat) (hl : At W W.heap.size L m) (hcap : m.length ≤ lc) => show Calls Tryd.prog 17 #[gv t A c, .slice L m.length lc] W (RpOut n (.ok v) W) by
      have := R1.out W hb m L lc hl hcap (by have := ML.out; omega)
      rw [hv] at this
      exact this)
    have M3 := Lib.hid (fun (W : World) (hb : Below w.heap.size w W) => show Calls Tryd.prog 19 #[gv t A c, .slice L l.length lc] W fun e w' => ∃ (A' : Option Addr) (c' : Nat), e = .returned (.tuple #[.slice A' m.length c', .nilIface]) ∧ Own w' W.heap.size A' c' m ∧ Below W.heap.size W w' by
      have := M1.out W hb L lc (HL.out W hb) LN.out.2.2
      rw [hz, errOf_ok] at this
      exact this)
    have HRN := Lib.hid (fun (W : World) (hb : Below w3.heap.size w3 W) => show 0 < v.items.length → ∃ g off, A3 = some ⟨g, off, none⟩ ∧ w2.heap.size ≤ g ∧ g < w3.heap.size ∧ ∃ n, off + v.items.length * 3 ≤ n ∧ RowN g n W from fun hp => by
      obtain ⟨_, A', c', _, _, ev, hit⟩ := T3.out.1.open_
      obtain ⟨rfl, rfl⟩ : A3 = A' ∧ c3 = c' := by
        simp only [tval, Value.agg.injEq, Array.mk.injEq, List.cons.injEq, and_true, Value.slice.injEq] at ev
        exact ⟨ev.2.2.1, ev.2.2.2.2⟩
      obtain ⟨b, off, rfl, hs, hc⟩ := hit hp
      obtain ⟨_, _, x2, _, _, h2, _⟩ := hc (v.items.length - 1) (by omega)
      obtain ⟨n, hn, cur, T, hcs, hh⟩ := RowN.of T3.out.2 rfl h2
      exact ⟨b, off, rfl, hs.1, hs.2, n, by omega, cur, T, hcs, (hb.block b hs.2).trans hh⟩)
    have TX := Lib.hid (text_prog (B := w6.heap.size) w6 (T3.out.1.keep fun b hb => ⟨(by show b < w6.heap.size; have := N6.out.size; have := hb.2; omega), fun o => N6.out.cell (p := ⟨b, o, none⟩) hb.2⟩) (Nat.le_refl _) (by omega) (TB.out w6 B6.out))
    have hvl : v.items.length ≤ 1399680 := by have := len_sizes v.items; have := size_items v; omega
    have VS := Lib.hid hvs
    clear FT NZ hz hv E1 E2 R1 M1 hvs
    obtain ⟨p0, p1, p2, _, _, _⟩ := V6.out.facts
    go_wp2_with fail
    ((with_reducible refine TX.out.mono ?_))
    rintro e w7 ⟨rfl, hb7⟩
    have N7 := Lib.hid (below_trans N6.out hb7)
    have B7 := Lib.hid (below_trans B6.out hb7)
    have V7 := Lib.hid (V6.out.below hb7)
    have HR7 := Lib.hid (HRN.out w7 N7.out)
    clear hb7 TX p0 p1 p2
    obtain ⟨row, hrow1, hrow2⟩ : ∃ row : Option Nat, (∀ g, row = some g → w2.heap.size ≤ g ∧ g < w3.heap.size) ∧ (0 < v.items.length → row = blockOf A3) := by
      by_cases h0 : 0 < v.items.length
      · obtain ⟨g, off, e, h1, h2, _⟩ := HR7.out h0
        refine ⟨blockOf A3, fun g' hg' => ?_, fun _ => rfl⟩
        rw [e] at hg'
        have : g = g' := by simpa [blockOf] using hg'
        omega
      · exact ⟨none, (fun g hg => by cases hg), fun h => absurd h h0⟩
    have ROW1 := Lib.hid hrow1
    have ROW2 := Lib.hid hrow2
    clear hrow1 hrow2
    go_wp2_with fail
    go_loopw [16] (fun i wr => ∃ k : Nat, k ≤ v.items.length ∧ i = .int .i64 k ∧ Hid (w7.grownBy wr row) ∧ Hid (V3 w3.heap.size (.bool v.list) (.int .i64 v.num) (.slice A3 v.items.length c3) wr) ∧ Hid (0 < v.items.length → ∃ g off, A3 = some ⟨g, off, none⟩ ∧ w2.heap.size ≤ g ∧ g < w3.heap.size ∧ ∃ n, off + v.items.length * 3 ≤ n ∧ RowN g n wr)) (fun i _ => v.items.length - (intOf i).toNat)
    case atStart => exact ⟨0, Nat.zero_le _, rfl, World.grownBy.refl w7 _, V7.out, HR7.out⟩
    case round =>
      obtain ⟨k, hk, rfl, HG, HV, HC⟩ := hrel
      by_cases hlt : k < v.items.length
      · obtain ⟨g, off, rfl, hg1, hg2, n', hn', hrow⟩ := HC.out (by omega)
        obtain ⟨⟨u0, d0⟩, f0⟩ := hrow.cell (show off + k * 3 < n' by omega)
        obtain ⟨⟨u1, d1⟩, f1⟩ := hrow.cell (show off + k * 3 + 1 < n' by omega)
        obtain ⟨⟨u2, d2⟩, f2⟩ := hrow.cell (show off + k * 3 + 2 < n' by omega)
        obtain ⟨p0, p1, p2, _, _, _⟩ := HV.out.facts
        have hne : w3.heap.size ≠ g := by omega
        have NX := Lib.hid (show ∀ W, W = ((wr.setCell ⟨g, off + k * 3, none⟩ (.bool false)).setCell ⟨g, off + k * 3 + 1, none⟩ (.int .i64 x)).setCell ⟨g, off + k * 3 + 2, none⟩ (.slice none 0 0) → w7.grownBy W row ∧ V3 w3.heap.size (.bool v.list) (.int .i64 v.num) (.slice (some ⟨g, off, none⟩) v.items.length c3) W ∧ (0 < v.items.length → ∃ g' off', (some ⟨g, off, none⟩ : Option Addr) = some ⟨g', off', none⟩ ∧ w2.heap.size ≤ g' ∧ g' < w3.heap.size ∧ ∃ n, off' + v.items.length * 3 ≤ n ∧ RowN g' n W) from fun W hW => by
          subst hW
          have hr : row = some g := ROW2.out (by omega)
          have hg0 := HG.out
          rw [hr] at hg0 ⊢
          exact ⟨gr_set (gr_set (gr_set hg0 _ _) _ _) _ _, ((HV.out.other hne _ _).other hne _ _).other hne _ _, fun _ => ⟨g, off, rfl, hg1, hg2, n', hn', ((hrow.put _ _).put _ _).put _ _⟩⟩)
        clear hrow hn' hg1 hg2 hne
        go_wp2_with fail
        generalize hW : ((wr.setCell ⟨g, off + k * 3, none⟩ (.bool false)).setCell ⟨g, off + k * 3 + 1, none⟩ (.int .i64 x)).setCell ⟨g, off + k * 3 + 2, none⟩ (.slice none 0 0) = W8 at *
        have NX := Lib.hid (NX.out W8 rfl)
        clear hW
        go_roundw
        case rel => exact ⟨k + 1, hlt, by go_num, NX.out.1, NX.out.2.1, NX.out.2.2⟩
        case measure => simp [intOf]; omega
      · obtain ⟨p0, p1, p2, _, _, _⟩ := HV.out.facts
        have hnat : ¬ (k < v.items.length) := by omega
        have B8 := Lib.hid (B7.out.grown HG.out B7.out.size (fun g hg => Nat.le_trans B2.out.size (ROW1.out g hg).1))
        have M8 := Lib.hid (show Own wr w1.heap.size A2 c2 m from (M2.out.below (below_trans H3.out N7.out)).grown HG.out (fun g hg h => by have h1 := own_row_lt M2.out hg; have h2 := (ROW1.out g h).1; omega))
        have G8 := Lib.hid (show G4 w.heap.size (.int .i64 t.kind) (.int .i64 t.a) (.int .i64 t.b) (.slice A t.subs.length c) wr from (HG.out.block w.heap.size (by have := G2.out.lt; have := (below_trans H3.out N7.out).size; omega) (fun h => by have h1 := (ROW1.out _ h.symm).1; have h2 := G2.out.lt; omega)).trans (G2.out.below (below_trans H3.out N7.out)))
        clear HC HG HV
        have I9 := Lib.hid (ints_ok (lc := c2) wr M8.out.at_ (by have := ML.out; omega))
        go_wp2_with fail
        ((with_reducible refine I9.out.mono ?_))
        rintro e w9 ⟨A9, c9, rfl, ho9, hb9⟩
        have B9 := Lib.hid (below_trans B8.out hb9)
        have G9 := Lib.hid (G8.out.below hb9)
        have M9 := Lib.hid (M8.out.below hb9)
        have O9 := Lib.hid ho9
        have SP := Lib.hid (spoil_ok w9 x M9.out (by have := ML.out; omega))
        clear hb9 ho9 I9 p0 p1 p2
        go_wp2_with fail
        ((with_reducible refine SP.out.mono ?_))
        rintro e w10 ⟨rfl, g10⟩
        have B10 := Lib.hid (B9.out.grown g10 B9.out.size (fun g hg => Nat.le_trans B1.out.size (M9.out.ge g hg)))
        have G10 := Lib.hid (show G4 w.heap.size (.int .i64 t.kind) (.int .i64 t.a) (.int .i64 t.b) (.slice A t.subs.length c) w10 from (g10.block w.heap.size G9.out.lt (fun h => by have h1 := M9.out.ge _ h.symm; have h2 := G1.out.lt; omega)).trans G9.out)
        have U10 := Lib.hid (O9.out.grown g10 (fun g hg h => by have h1 := O9.out.ge g hg; have h2 := own_row_lt M8.out h; omega))
        clear g10 SP
        obtain ⟨k0, k1, k2, k3⟩ := G10.out.facts
        go_wp2_with fail
        ((with_reducible refine (R2.out w10 B10.out A9 c9 U10.out.at_ U10.out.cap_).mono ?_))
        rintro e w11 ⟨A11, c11, rfl, ht11, _, hb11⟩
        have n12 := bel1 w11 (.cells #[.bool v.list, .int .i64 v.num, .slice A11 v.items.length c11] 38)
        have V12 := Lib.hid (show V3 w11.heap.size (.bool v.list) (.int .i64 v.num) (.slice A11 v.items.length c11) (w11.alloc (.cells #[.bool v.list, .int .i64 v.num, .slice A11 v.items.length c11] 38)) from new_obj w11 _)
        have T12 := Lib.hid (show TAt (w11.alloc (.cells #[.bool v.list, .int .i64 v.num, .slice A11 v.items.length c11] 38)) (Bel w11.heap.size) n (tval v A11 c11) v from ht11.keep fun b hb => ⟨hb.2, fun o => n12.cell (p := ⟨b, o, none⟩) hb.2⟩)
        have B12 := Lib.hid (below_trans (below_trans B10.out hb11) n12)
        have G12 := Lib.hid ((G10.out.below hb11).below n12)
        have U12 := Lib.hid ((U10.out.below hb11).below n12)
        have Z12 := Lib.hid n12.size
        simp only [trOf, errI, errOf_ok]
        clear hb11 n12 ht11 k0 k1 k2 k3
        obtain ⟨k0, k1, k2, k3⟩ := G12.out.facts
        go_wp2_with fail
        generalize hw12 : w11.alloc (.cells #[.bool v.list, .int .i64 v.num, .slice A11 v.items.length c11] 38) = w12 at *
        clear hw12
        ((with_reducible refine (M3.out w12 B12.out).mono ?_))
        rintro e w13 ⟨A13, c13, rfl, ho13, hb13⟩
        have B13 := Lib.hid (below_trans B12.out hb13)
        have SM2 := same_below m m A13 A9 c13 c9 w13.heap.size (by simp only [maxLen]; have := ML.out; omega) (by simp only [maxLen]; have := ML.out; omega) w13 ho13.at_ (U12.out.below hb13).at_
        rw [decide_eq_true (rfl : m = m)] at SM2
        have SM2 := Lib.hid SM2
        have V13 := Lib.hid (V12.out.below hb13)
        have T13 := Lib.hid (T12.out.below (hb13.mono Z12.out))
        have Z13 := Lib.hid (Nat.le_trans Z12.out hb13.size)
        clear hb13 ho13 k0 k1 k2 k3
        go_wp2_with fail
        ((with_reducible refine SM2.out.mono ?_))
        rintro e w14 ⟨rfl, hb14⟩
        have B14 := Lib.hid (below_trans B13.out hb14)
        have TY := Lib.hid (text_prog (B := w11.heap.size) w14 (T13.out.below (hb14.mono Z13.out)) (Nat.le_trans Z13.out hb14.size) (by have := VS.out; omega) (TB.out w14 B14.out))
        obtain ⟨p0, p1, p2, _, _, _⟩ := (V13.out.below hb14).facts
        clear hb14 SM2
        generalize (⟨(textV v).toArray⟩ : ByteArray) = sx at *
        go_wp2_with fail
        ((with_reducible refine TY.out.mono ?_))
        rintro e w15 ⟨rfl, hb15⟩
        have B15 := Lib.hid (below_trans B14.out hb15)
        clear hb15 TY p0 p1 p2
        go_wp2_with fail
        go_ret
        exact ⟨rfl, B15.out⟩
  · have hm0 := NZ.out hz
    have RE := Lib.hid (errOf_no hz)
    rw [errOf_no hz, hm0]
    clear FT NZ hm0
    generalize genV t = q at *
    generalize errOf (errI (repV t m)) = q2 at *
    go_wp2_with fail
    go_ret
    exact ⟨rfl, B6.out⟩
end Go.Proofs.YtboecgbgcbkcjaaDoor.GOwnLaw
