/- GenDraws: the walk. Conditions: the sizes. -/
import Derived.Test.YtppahcjpffbkbaaSrcDraw
import Derived.Test.YtppahcjpffbkbaaMade
import Derived.Test.YtppahcjpffbkbaaGrowS
import Derived.Test.YtppahcjpffbkbaaSame
import Derived.Test.YtppahcjpffbkbaaCheck
import Derived.Test.YtppahcjpffbkbaaTCheck
namespace Go.Proofs.Ytppahcjpffbkbaa.DrawsLaw
open Go.RowKit Lists Ints Vals Gens
set_option linter.unusedVariables false

theorem draws_facts {t : Gn} (s : Int × Int) (h0 : genV t = 0) : (drawL t s).length ≤ 1399680 ∧ mendL t (drawL t s) = drawL t s ∧ (∃ v, repV t (drawL t s) = .ok v ∧ faultV v 0 = 0 ∧ v.size ≤ 1399680) ∧ ∀ x ∈ drawL t s, 0 ≤ x ∧ x ≤ 1000 := by
  obtain ⟨v, r, h1, n1⟩ := draw_run (t := t) s h0
  obtain ⟨hr, hl⟩ := gen_right h0
  have h2 := play_again draw_bounded read_reads t hr _ _ _ _ h1 []
  have h3 := play_again draw_bounded mend_reads t hr _ _ _ _ h1 []
  rw [List.append_nil] at h2 h3
  have hv := small_val draw_bounded hr hl h1
  refine ⟨n1, mendL_of h0 h3, ⟨v, ?_, (fault_ok 6 v 0 rfl).2 hv.1, hv.2⟩, ?_⟩
  · unfold repV repG
    rw [if_pos h0, h2]
    rfl
  · exact (play_inv (P := fun _ => True) (Q := fun x => 0 ≤ x ∧ x ≤ 1000) draw_bounded (fun s m x s' a b _ h => ⟨by have := draw_bounded s m x s' a h; omega, trivial⟩) hr (small30 h0) h1 trivial).1

set_option maxHeartbeats 4000000 in
set_option maxRecDepth 100000 in
theorem walk (t : Gn) (A : Option Addr) (c n : Nat) (a g : Int) (hbulk : t.size ≤ 1048576) (w : World) (hg : GAt w (GBel w.heap.size) n (gv t A c) t) (ua : Rng.U64 a) (ug : Rng.U64 g) :
    Calls Try.prog 3 #[gv t A c, .agg #[.int .u64 a, .int .u64 g]] w fun e w' => e = .returned (.bool true) ∧ Below w.heap.size w w' := by
  have b1 : Below w.heap.size w ((w.alloc (gc t A c)).alloc (.cells #[.int .u64 a, .int .u64 g] 27)) := ((Below.refl _ _).alloc (Nat.le_refl _) _).alloc (by simp) _
  have s1 : (w.alloc (gc t A c)).heap.size = w.heap.size + 1 := by simp
  have g1 : G4 w.heap.size (.int .i64 t.kind) (.int .i64 t.a) (.int .i64 t.b) (.slice A t.subs.length c) ((w.alloc (gc t A c)).alloc (.cells #[.int .u64 a, .int .u64 g] 27)) := (Below.heap_alloc _ _ _ (by omega)).trans (new_obj w _)
  have l1 : SB (w.heap.size + 1) (a, g) ((w.alloc (gc t A c)).alloc (.cells #[.int .u64 a, .int .u64 g] 27)) := by
    have := new_obj (w.alloc (gc t A c)) (.cells #[.int .u64 a, .int .u64 g] 27)
    rw [s1] at this; exact this
  have JC := Lib.hid (fun (w : World) => made_ok w)
  have D1 := Lib.hid (fun (W : World) (hb : Below w.heap.size w W) => draw_prog (a := a) (g := g) W ((hg.below hb).more hb.size) (by omega))
  have M1 := Lib.hid (fun (W : World) (hb : Below w.heap.size w W) (l : List Int) (L : Option Addr) (lc : Nat) (hl : At W W.heap.size L l) (hcap : l.length ≤ lc) (hln : l.length ≤ 4294967296) => mend_prog (L := L) (l := l) (lc := lc) W ((hg.below hb).more hb.size) hl hcap hln (by omega))
  have R1 := Lib.hid (fun (W : World) (hb : Below w.heap.size w W) (l : List Int) (L : Option Addr) (lc : Nat) (hl : At W W.heap.size L l) (hcap : l.length ≤ lc) (hln : l.length ≤ 4294967296) => replay_prog (L := L) (l := l) (lc := lc) W ((hg.below hb).more hb.size) hl hcap hln (by omega))
  have HB := Lib.hid (And.intro b1 (And.intro g1 l1))
  have FT := Lib.hid (fun (h0 : genV t = 0) => draws_facts (a, g) h0)
  have NZ := Lib.hid (fun (h0 : ¬ genV t = 0) => show drawL t (a, g) = [] by unfold drawL; rw [if_neg h0])
  clear b1 s1 g1 l1 hg hbulk ua ug
  go_enter Try.func3, Try.ntmps3
  go_wp2_with fail
  generalize (w.alloc (gc t A c)).alloc (.cells #[.int .u64 a, .int .u64 g] 27) = W0 at *
  refine (JC.out _).mono ?_
  rintro e w1 ⟨rfl, hb1⟩
  have B1 := Lib.hid (below_trans HB.out.1 hb1)
  have G1 := Lib.hid (HB.out.2.1.below hb1)
  obtain ⟨k0, k1, k2, k3⟩ := G1.out.facts
  obtain ⟨s0, s1, _, _⟩ := (show SB (w.heap.size + 1) (a, g) w1 from (hb1.block _ HB.out.2.2.lt).trans HB.out.2.2).facts
  simp only at s0 s1
  clear hb1
  go_wp2_with fail
  refine (D1.out w1 B1.out).mono ?_
  rintro e w2 ⟨A1, c1, rfl, ho1, hb2⟩
  have B2 := Lib.hid (below_trans B1.out hb2)
  have G2 := Lib.hid (G1.out.below hb2)
  have O2 := Lib.hid ho1
  clear hb2 ho1 k0 k1 k2 k3 s0 s1
  by_cases hz : genV t = 0
  · obtain ⟨f1, f2, ⟨v, f3, f4, f5⟩, f6⟩ := FT.out hz
    rw [hz, errOf_ok]
    have F2 := Lib.hid f2
    have F3 := Lib.hid f3
    have F45 := Lib.hid (And.intro f4 f5)
    have F6 := Lib.hid f6
    have F1 := Lib.hid f1
    clear FT NZ f1 f2 f3 f4 f5 f6
    generalize hmm : drawL t (a, g) = m at *
    clear hmm D1
    obtain ⟨k0, k1, k2, k3⟩ := G2.out.facts
    have RM := R1.out w2 B2.out m A1 c1 O2.out.at_ O2.out.cap_ (by have := F1.out; omega)
    rw [F3.out] at RM
    have RM := Lib.hid RM
    go_wp2_with fail
    refine RM.out.mono ?_
    rintro e w3 ⟨A3, c3, rfl, ht3, hn3, hb3⟩
    have B3 := Lib.hid (below_trans B2.out hb3)
    have G3 := Lib.hid (G2.out.below hb3)
    have O3 := Lib.hid (O2.out.below hb3)
    have T3 := Lib.hid ht3
    clear ht3 hn3 hb3 RM
    simp only [trOf, errI, errOf_ok]
    have n4 := new_obj w3 (.cells #[.bool v.list, .int .i64 v.num, .slice A3 v.items.length c3] 36)
    have b4 := bel1 w3 (.cells #[.bool v.list, .int .i64 v.num, .slice A3 v.items.length c3] 36)
    have z4 : (w3.alloc (.cells #[.bool v.list, .int .i64 v.num, .slice A3 v.items.length c3] 36)).heap.size = w3.heap.size + 1 := by simp
    have N4 := Lib.hid (And.intro n4 (And.intro b4 z4))
    obtain ⟨k0, k1, k2, k3⟩ := (G3.out.below b4).facts
    clear n4 b4 z4
    go_wp2_with fail
    generalize w3.alloc (.cells #[.bool v.list, .int .i64 v.num, .slice A3 v.items.length c3] 36) = w4 at *
    have V4 := Lib.hid (show V3 w3.heap.size (.bool v.list) (.int .i64 v.num) (.slice A3 v.items.length c3) w4 from N4.out.1)
    have B4 := Lib.hid (below_trans B3.out N4.out.2.1)
    have O4 := Lib.hid (O3.out.below N4.out.2.1)
    have T4 := Lib.hid (show TAt w4 (Bel w4.heap.size) n (tval v A3 c3) v from TAt.keep (fun b hb => ⟨by show b < w4.heap.size; have := N4.out.2.2; have := hb.2; omega, fun o => N4.out.2.1.cell (p := ⟨b, o, none⟩) hb.2⟩) T3.out)
    have MX := M1.out w4 B4.out m A1 c1 O4.out.at_ O4.out.cap_ (by have := F1.out; omega)
    rw [F2.out, hz, errOf_ok] at MX
    have MX := Lib.hid MX
    refine MX.out.mono ?_
    rintro e w7 ⟨A7, c7, rfl, ho7, hb7⟩
    have E7 := Lib.hid hb7
    have O7 := Lib.hid ho7
    have ml : m.length ≤ maxLen := by have := F1.out; simp only [maxLen]; omega
    have SM := same_below m m A7 A1 c7 c1 w7.heap.size ml ml w7 O7.out.at_ (O4.out.below E7.out).at_
    rw [decide_eq_true (rfl : m = m)] at SM
    have SM := Lib.hid SM
    clear ho7 hb7 MX ml k0 k1 k2 k3
    go_wp2_with fail
    refine SM.out.mono ?_
    rintro e w8 ⟨rfl, hb8⟩
    have E8 := Lib.hid (E7.out.trans (hb8.mono E7.out.size))
    have B8 := Lib.hid (below_trans B4.out E8.out)
    clear hb8 SM
    obtain ⟨v0, v1, v2, _⟩ := (V4.out.below E8.out).facts
    have CK := check_prog w8 (T4.out.below E8.out) E8.out.size (by have := F45.out.2; omega)
    rw [F45.out.1, errOf_ok] at CK
    have CK := Lib.hid CK
    go_wp2_with fail
    refine CK.out.mono ?_
    rintro e w9 ⟨rfl, hb9⟩
    have E9 := Lib.hid (E8.out.trans (hb9.mono E8.out.size))
    have B9 := Lib.hid (below_trans B4.out E9.out)
    have TK := Lib.hid (tcheck_ok m A1 c1 w9.heap.size (by have := F1.out; omega) F6.out w9 (O4.out.below E9.out).at_)
    clear hb9 CK
    go_wp2_with fail
    refine TK.out.mono ?_
    rintro e w10 ⟨rfl, rfl⟩
    go_wp2_with fail
    go_ret
    exact ⟨rfl, B9.out⟩
  · have RE := Lib.hid (errOf_no hz)
    have hm0 := NZ.out hz
    rw [errOf_no hz, hm0]
    clear NZ FT M1 R1 D1 hm0
    generalize genV t = q at *
    go_wp2_with fail
    go_ret
    exact ⟨rfl, B2.out⟩
end Go.Proofs.Ytppahcjpffbkbaa.DrawsLaw
