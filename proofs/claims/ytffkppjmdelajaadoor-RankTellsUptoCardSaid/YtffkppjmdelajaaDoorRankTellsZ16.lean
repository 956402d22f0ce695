/- RankTells, part 16 of the proof: GenTells: of any generator, any list and any seed the program tells what the document does: Check, Count, Replay, Mend, Draw. -/
import Derived.Test.YtffkppjmdelajaaDoorRankTellsZ11
import Derived.Test.YtffkppjmdelajaaDoorRankTellsZ13
import Derived.Test.YtffkppjmdelajaaDoorRankTellsZ7
import Derived.Test.YtffkppjmdelajaaDoorRankTellsZ6
import Derived.Test.YtffkppjmdelajaaDoorRankTellsZ14
import Derived.Test.YtffkppjmdelajaaDoorRankTellsZ15
/-
  GenTells: of any generator, any list and any seed the program tells what the document does: Check, Count, Replay, Mend, Draw.
  Conditions: the second form's bound on what comes in; the library's variable that errors.As reads.
-/
namespace Go.Proofs.YtffkppjmdelajaaDoor.GenTellsLaw
open Go.ChangeShapes Go.WideShapes Go.ChangeAt Go.RowKit Lists Ints Vals Gens
set_option linter.unusedVariables false

/-- what the document's ReplayOf tells, one way -/
def Rd (w : World) (r : Except Int Tr) (e : Ending) (w' : World) : Prop :=
  ∃ (A : Option Addr) (c n : Nat), e = .returned (.tuple #[tval (trOf r) A c, .int .i64 (errI r)]) ∧ TAt w' (fun b => w.heap.size ≤ b ∧ b < w'.heap.size) n (tval (trOf r) A c) (trOf r) ∧ Below w.heap.size w w'
theorem rd_of {w w' : World} {r : Except Int Tr} {e : Ending} (h : RpPost w r e w') : Rd w r e w' := by
  cases r with
  | ok v =>
    obtain ⟨hb, VA, vc, n, he, ht⟩ := h
    exact ⟨VA, vc, n, he, ht, hb⟩
  | error er =>
    obtain ⟨hb, hne, he⟩ := h
    exact ⟨none, 0, 1, he, ⟨(by decide : (Lit.int .i64 0).wf = true), none, 0, rfl, fun hp => by simp [trOf, Tr.items] at hp⟩, hb⟩
/-- as RpOut, the error by its number -/
theorem rp_of {n : Nat} {r : Except Int Tr} {w w' : World} {e : Ending} (h : RpOut n r w e w') : ∃ (A : Option Addr) (c : Nat), e = .returned (.tuple #[tval (trOf r) A c, errOf (errI r)]) ∧ TAt w' (fun b => w.heap.size ≤ b ∧ b < w'.heap.size) n (tval (trOf r) A c) (trOf r) ∧ Below w.heap.size w w' := by
  obtain ⟨A, c, h1, h2, _, h3⟩ := h
  exact ⟨A, c, h1, h2, h3⟩
theorem sb2 (w : World) (o : Obj) (a g : Int) : SB (w.heap.size + 1) (a, g) ((w.alloc o).alloc (.cells #[.int .u64 a, .int .u64 g] 28)) := by
  have := new_obj (w.alloc o) (.cells #[.int .u64 a, .int .u64 g] 28)
  rw [show (w.alloc o).heap.size = w.heap.size + 1 by simp] at this
  exact this
theorem _root_.Go.Proofs.YtffkppjmdelajaaDoor.Gens.SB.lt' {p : Nat} {s : Int × Int} {w : World} (h : SB p s w) : p < w.heap.size := (Array.getElem?_eq_some_iff.1 h).1
theorem _root_.Go.Proofs.YtffkppjmdelajaaDoor.Gens.SB.bel' {p : Nat} {s : Int × Int} {w w' : World} (h : SB p s w) (hb : Below w.heap.size w w') : SB p s w' := (hb.block p h.lt').trans h
theorem _root_.Go.Proofs.YtffkppjmdelajaaDoor.Gens.SB.cells' {p : Nat} {s : Int × Int} {w : World} (h : SB p s w) : w.cell? ⟨p, 0, none⟩ = some (.int .u64 s.1) ∧ w.cell? ⟨p, 1, none⟩ = some (.int .u64 s.2) := ⟨by rw [Lib.cell_of_heap h]; rfl, by rw [Lib.cell_of_heap h]; rfl⟩
/-- a store of a whole value into a box: what lay in other blocks is as it was -/
theorem tree_put {w W : World} {B rb n : Nat} {v : Value} {t : Tr} (h : TAt w (fun b => B ≤ b ∧ b < w.heap.size) n v t) (hk : ∀ b, b ≠ rb → W.heap[b]? = w.heap[b]?) (hs : W.heap.size = w.heap.size) (hr : rb < B) : TAt W (Bel W.heap.size) n v t :=
  h.keep fun b hb => ⟨by show b < _; omega, fun o => World.cell?_of_block (hk b (by omega))⟩

theorem ints_one (l : List Int) (A B : Option Addr) (c d N : Nat) (hl : l.length ≤ 4294967296) (w : World) (ha : At w N A l) (hb : At w N B l) :
    Calls Tryd.prog 23 #[.slice A l.length c, .slice B l.length d] w fun e w' => e = .returned (.bool true) ∧ Below w.heap.size w w' := by
  have := same_below l l A B c d N (by unfold maxLen; omega) (by unfold maxLen; omega) w ha hb
  simpa using this
theorem zero_one (w : World) (B : Nat) : TAt w (Bel B) 1 (.agg #[.bool false, .int .i64 0, .slice none 0 0]) (.node false 0 []) := ⟨by decide, none, 0, rfl, fun hp => by simp [Tr.items] at hp⟩
theorem trsz (t : Gn) (l : List Int) (h0 : genV t = 0) : (trOf (replayG t l)).size ≤ 4294967296 := by
  obtain ⟨hr, hl⟩ := gen_right h0
  unfold replayG
  cases h : play readC t l with
  | error e => simp [trOf, Tr.size, sizes]
  | ok p =>
    obtain ⟨c, v, r⟩ := p
    have := (small_val read_bounded hr hl h).2
    simp only []
    split
    · simp only [trOf]; omega
    · simp [trOf, Tr.size, sizes]

set_option maxHeartbeats 16000000 in
set_option maxRecDepth 100000 in
theorem walk (t : Gn) (A : Option Addr) (c n : Nat) (l : List Int) (L : Option Addr) (lc : Nat) (a gm : Int) (hbulk : t.size + l.length ≤ 1048576) (w : World) (hg : GAt w (GBel w.heap.size) n (gv t A c) t) (hl : At w w.heap.size L l) (hcap : l.length ≤ lc) (ua : Rng.U64 a) (ug : Rng.U64 gm) (hh : Told.Handle w) :
    Calls Tryd.prog 3 #[gv t A c, .slice L l.length lc, .agg #[.int .u64 a, .int .u64 gm]] w fun e w' => e = .returned (.bool true) ∧ Below w.heap.size w w' := by
  have hb0 : Below w.heap.size w ((w.alloc (gc t A c)).alloc (.cells #[.int .u64 a, .int .u64 gm] 28)) := bel2 w _ _ (Nat.le_refl _)
  have g0 : G4 w.heap.size (.int .i64 t.kind) (.int .i64 t.a) (.int .i64 t.b) (.slice A t.subs.length c) ((w.alloc (gc t A c)).alloc (.cells #[.int .u64 a, .int .u64 gm] 28)) := new12 w _ _
  have s0 := sb2 w (gc t A c) a gm
  have GF := Lib.hid (fun (W : World) (hb : Below w.heap.size w W) => gen_any n t A c w.heap.size W (hg.below hb) hb.size (by omega))
  have CK := Lib.hid (fun (W : World) (hb : Below w.heap.size w W) => gcheck (v := gv t A c) W (hg.below hb) hb.size (by omega))
  have CD := Lib.hid (fun (hr : Right t) (W : World) (hb : Below w.heap.size w W) => count_any n t (gv t A c) w.heap.size W (hg.below hb) hb.size (by omega) hr)
  have CP := Lib.hid (fun (W : World) (hb : Below w.heap.size w W) => gcount (v := gv t A c) W (hg.below hb) hb.size (by omega))
  have RD := Lib.hid (fun (hr : Right t) (hq : longG t ≤ 1399680) (W : World) (hb : Below w.heap.size w W) => (replayof_any n t A c l L lc w.heap.size W (hg.below hb) hr (by omega) (hl.below hb) hb.size (by omega) (by omega)).mono (fun e w' h => rd_of h))
  have RP := Lib.hid (fun (W : World) (hb : Below w.heap.size w W) => (replay_prog (v := gv t A c) (L := L) (l := l) (lc := lc) W ((hg.below hb).more hb.size) ((hl.below hb).more hb.size) hcap (by omega) (by omega)).mono (fun e w' h => rp_of h))
  have MD := Lib.hid (fun (hr : Right t) (hq : longG t ≤ 1399680) (m r : List Int) (x : Tr) (hm : play mendC t l = .ok (m, x, r)) (W : World) (hb : Below w.heap.size w W) => mendof_any plays_all n t A c l L lc w.heap.size W (hg.below hb) hr (by omega) (hl.below hb) hb.size (by omega) (by omega) hm)
  have MP := Lib.hid (fun (W : World) (hb : Below w.heap.size w W) => mend_prog (v := gv t A c) (L := L) (l := l) (lc := lc) W ((hg.below hb).more hb.size) ((hl.below hb).more hb.size) hcap (by omega) (by omega))
  have DD := Lib.hid (fun (hr : Right t) (h30 : t.size ≤ 30) (hq : longG t ≤ 1399680) (m : List Int) (s' : Int × Int) (x : Tr) (hm : play drawC t (a, gm) = .ok (m, x, s')) (W : World) (hb : Below w.heap.size w W) => drawof_any n t A c w.heap.size a gm W (hg.below hb) hr h30 hb.size (by omega) hm)
  have DP := Lib.hid (fun (W : World) (hb : Below w.heap.size w W) => draw_prog (v := gv t A c) (a := a) (g := gm) W ((hg.below hb).more hb.size) (by omega))
  have ET := Lib.hid (fun (f : Int) (W : World) (hb : Below w.heap.size w W) => err_ok f W (hh.below hb))
  have HB0 := Lib.hid (And.intro hb0 (And.intro g0 s0))
  have RV := Lib.hid (fun (h0 : genV t = 0) => show repV t l = replayG t l by unfold repV; rw [if_pos h0]; rfl)
  have MR := Lib.hid (fun (h0 : genV t = 0) => mend_run l h0)
  have DR := Lib.hid (fun (h0 : genV t = 0) => draw_run (a, gm) h0)
  have TS := Lib.hid (fun (h0 : genV t = 0) => trsz t l h0)
  have RE := Lib.hid (fun (h0 : ¬ genV t = 0) => show repV t l = .error (genV t) by unfold repV; rw [if_neg h0])
  have CN := Lib.hid (show countN t = (if genV t = 0 then (if 1048576 < countG t then 0 else countG t) else 0) from rfl)
  have CE := Lib.hid (show countE t = (if genV t = 0 then (if 1048576 < countG t then 4 else 0) else genV t) from rfl)
  have ML := Lib.hid (fun (h0 : ¬ genV t = 0) => show mendL t l = [] by unfold mendL; rw [if_neg h0])
  have DL := Lib.hid (fun (h0 : ¬ genV t = 0) => show drawL t (a, gm) = [] by unfold drawL; rw [if_neg h0])
  clear hg hl hcap hh hbulk hb0 g0 s0 ua ug
  by_cases h0 : genV t = 0
  · obtain ⟨hr, hlg⟩ := gen_right h0
    have h30 := small30 h0
    have hq := small_long hlg
    obtain ⟨mx, mr, hm, hml⟩ := MR.out h0
    obtain ⟨dx, dr, hd, hdl⟩ := DR.out h0
    have MD := Lib.hid (MD.out hr hq _ _ _ hm)
    have DD := Lib.hid (DD.out hr h30 hq _ _ _ hd)
    have RD := Lib.hid (RD.out hr hq)
    have CD := Lib.hid (CD.out hr)
    have HML := Lib.hid (show (mendL t l).length ≤ 4294967296 by omega)
    have HDL := Lib.hid (show (drawL t (a, gm)).length ≤ 4294967296 by omega)
    have TS := Lib.hid (TS.out h0)
    rw [RV.out h0] at RP
    have EH := Lib.hid (ET.out (errI (replayG t l)))
    have EF := Lib.hid ET.out
    have ET := Lib.hid (ET.out 0)
    rw [if_pos h0] at CN CE
    rw [CN.out, CE.out] at CP
    rw [errOf_ok] at ET
    rw [h0] at GF CK MP DP
    rw [errOf_ok] at CK MP DP
    clear RV MR DR RE CN CE ML DL hr hlg h30 hq hm hml hd hdl
    generalize replayG t l = r at *
    generalize countG t = q at *
    clear h0
    by_cases hc : 1048576 < q
    · have g2 : decide (1048576 < q) = true := by rw [decide_eq_true_eq]; exact hc
      have EC := Lib.hid (EF.out 4)
      rw [if_pos hc, if_pos hc] at CP
      clear hc EF
      go_enter Tryd.func3, Tryd.ntmps3
      go_wp2_with fail
      generalize (w.alloc (.cells #[.int .i64 t.kind, .int .i64 t.a, .int .i64 t.b, .slice A t.subs.length c] 24)).alloc (.cells #[.int .u64 a, .int .u64 gm] 28) = w0 at HB0 ⊢
      have B0 := Lib.hid HB0.out.1
      have GG0 := Lib.hid HB0.out.2.1
      have SS0 := Lib.hid HB0.out.2.2
      refine (made_ok _).mono ?_
      rintro e w1 ⟨rfl, b1⟩
      have B1 := Lib.hid (below_trans B0.out b1)
      have GG1 := Lib.hid (GG0.out.below b1)
      have SS1 := Lib.hid (SS0.out.bel' b1)
      clear b1
      obtain ⟨k0, k1, k2, k3⟩ := GG1.out.facts
      obtain ⟨s0, s1⟩ := SS1.out.cells'
      go_wp2_with fail
      refine (GF.out w1 B1.out).mono ?_
      rintro e w2 ⟨rfl, b2⟩
      have B2 := Lib.hid (below_trans B1.out b2)
      have GG2 := Lib.hid (GG1.out.below b2)
      have SS2 := Lib.hid (SS1.out.bel' b2)
      clear b2 k0 k1 k2 k3 s0 s1
      obtain ⟨k0, k1, k2, k3⟩ := GG2.out.facts
      obtain ⟨s0, s1⟩ := SS2.out.cells'
      go_wp2_with fail
      refine (CK.out w2 B2.out).mono ?_
      rintro e w3 ⟨rfl, b3⟩
      have B3 := Lib.hid (below_trans B2.out b3)
      have GG3 := Lib.hid (GG2.out.below b3)
      have SS3 := Lib.hid (SS2.out.bel' b3)
      clear b3 k0 k1 k2 k3 s0 s1
      obtain ⟨k0, k1, k2, k3⟩ := GG3.out.facts
      obtain ⟨s0, s1⟩ := SS3.out.cells'
      go_wp2_with fail
      refine (ET.out w3 B3.out).mono ?_
      rintro e w4 ⟨rfl, b4⟩
      have B4 := Lib.hid (below_trans B3.out b4)
      have GG4 := Lib.hid (GG3.out.below b4)
      have SS4 := Lib.hid (SS3.out.bel' b4)
      clear b4 k0 k1 k2 k3 s0 s1
      obtain ⟨k0, k1, k2, k3⟩ := GG4.out.facts
      obtain ⟨s0, s1⟩ := SS4.out.cells'
      have qGG := GG4.out.lt
      have qSS := SS4.out.lt'
      go_wp2_with fail
      clear qGG qSS
      have b5 := bel1 w4 (.cells #[.bool false, .int .i64 0, .slice none 0 0] 38)
      have B5 := Lib.hid (below_trans B4.out b5)
      have GG5 := Lib.hid (GG4.out.below b5)
      have SS5 := Lib.hid (SS4.out.bel' b5)
      have VV5 := Lib.hid (show V3 w4.heap.size (.bool false) (.int .i64 0) (.slice none 0 0) (w4.alloc (.cells #[.bool false, .int .i64 0, .slice none 0 0] 38)) from new_obj _ _)
      clear b5 k0 k1 k2 k3 s0 s1
      generalize w4.alloc (.cells #[.bool false, .int .i64 0, .slice none 0 0] 38) = w5 at B5 GG5 SS5 VV5 ⊢
      obtain ⟨k0, k1, k2, k3⟩ := GG5.out.facts
      obtain ⟨s0, s1⟩ := SS5.out.cells'
      obtain ⟨z0, z1, z2, y0, y1, y2⟩ := VV5.out.facts
      go_wp2_with fail
      refine (CD.out w5 B5.out).mono ?_
      rintro e w6 ⟨rfl, b6⟩
      have B6 := Lib.hid (below_trans B5.out b6)
      have GG6 := Lib.hid (GG5.out.below b6)
      have SS6 := Lib.hid (SS5.out.bel' b6)
      have VV6 := Lib.hid (VV5.out.below b6)
      clear b6 k0 k1 k2 k3 s0 s1 z0 z1 z2 y0 y1 y2
      obtain ⟨k0, k1, k2, k3⟩ := GG6.out.facts
      obtain ⟨s0, s1⟩ := SS6.out.cells'
      obtain ⟨z0, z1, z2, y0, y1, y2⟩ := VV6.out.facts
      go_wp2_with fail
      refine (RD.out w6 B6.out).mono ?_
      rintro e w7 ⟨WA, wc, wn, rfl, wt, b7⟩
      have B7 := Lib.hid (below_trans B6.out b7)
      have GG7 := Lib.hid (GG6.out.below b7)
      have SS7 := Lib.hid (SS6.out.bel' b7)
      have VV7 := Lib.hid (VV6.out.below b7)
      have WT7 := Lib.hid wt
      clear wt
      have HLT := Lib.hid (And.intro GG6.out.lt (And.intro SS6.out.lt' (show w4.heap.size < w6.heap.size from VV6.out.lt)))
      clear b7 k0 k1 k2 k3 s0 s1 z0 z1 z2 y0 y1 y2
      obtain ⟨k0, k1, k2, k3⟩ := GG7.out.facts
      obtain ⟨s0, s1⟩ := SS7.out.cells'
      obtain ⟨z0, z1, z2, y0, y1, y2⟩ := VV7.out.facts
      have n1 : w.heap.size ≠ w4.heap.size := by have := GG4.out.lt; omega
      have n3 : w4.heap.size ≠ w.heap.size := n1.symm
      have n2 : w.heap.size + 1 ≠ w4.heap.size := by have := SS4.out.lt'; omega
      have n4 : w4.heap.size ≠ w.heap.size + 1 := n2.symm
      go_wp2_with fail
      clear n1 n2 n3 n4
      obtain ⟨v9, k9, q9, b9, _⟩ := three_put w7 VV7.out (.bool (trOf r).list) (.int .i64 (trOf r).num) (.slice WA (trOf r).items.length wc) _ rfl
      have VV8 := Lib.hid v9
      have TW8 := Lib.hid (tree_put WT7.out k9 q9 (by have := VV6.out.lt; omega))
      have GG8 : Hid (G4 w.heap.size (.int .i64 t.kind) (.int .i64 t.a) (.int .i64 t.b) (.slice A t.subs.length c) _) := Lib.hid ((k9 _ (by have := GG4.out.lt; omega)).trans GG7.out)
      have SS8 : Hid (SB (w.heap.size + 1) (a, gm) _) := Lib.hid ((k9 _ (by have := SS4.out.lt'; omega)).trans SS7.out)
      have B8 := Lib.hid (B7.out.trans (b9 _ B4.out.size))
      clear v9 k9 q9 b9 WT7 k0 k1 k2 k3 s0 s1 z0 z1 z2 y0 y1 y2
      generalize ((w7.setCell ⟨w4.heap.size, 0, none⟩ (.bool (trOf r).list)).setCell ⟨w4.heap.size, 1, none⟩ (.int .i64 (trOf r).num)).setCell ⟨w4.heap.size, 2, none⟩ (.slice WA (trOf r).items.length wc) = w8 at VV8 TW8 GG8 SS8 B8 ⊢
      obtain ⟨k0, k1, k2, k3⟩ := GG8.out.facts
      obtain ⟨s0, s1⟩ := SS8.out.cells'
      obtain ⟨z0, z1, z2, y0, y1, y2⟩ := VV8.out.facts
      go_wp2_with fail
      refine (MD.out w8 B8.out).mono ?_
      rintro e w9 ⟨b9, MA, mc, rfl, ma⟩
      have B9 := Lib.hid (below_trans B8.out b9)
      have GG9 := Lib.hid (GG8.out.below b9)
      have SS9 := Lib.hid (SS8.out.bel' b9)
      have VV9 := Lib.hid (VV8.out.below b9)
      have TW9 := Lib.hid ((TW8.out.below b9).more b9.size)
      have TM9 := Lib.hid ma
      clear ma
      clear b9 k0 k1 k2 k3 s0 s1 z0 z1 z2 y0 y1 y2
      obtain ⟨k0, k1, k2, k3⟩ := GG9.out.facts
      obtain ⟨s0, s1⟩ := SS9.out.cells'
      obtain ⟨z0, z1, z2, y0, y1, y2⟩ := VV9.out.facts
      go_wp2_with fail
      refine (DD.out w9 B9.out).mono ?_
      rintro e w10 ⟨DA, dc, rfl, da, b10⟩
      have B10 := Lib.hid (below_trans B9.out b10)
      have GG10 := Lib.hid (GG9.out.below b10)
      have SS10 := Lib.hid (SS9.out.bel' b10)
      have VV10 := Lib.hid (VV9.out.below b10)
      have TW10 := Lib.hid ((TW9.out.below b10).more b10.size)
      have TM10 := Lib.hid ((TM9.out.below b10).more b10.size)
      have TD10 := Lib.hid da.at_
      clear da
      clear b10 k0 k1 k2 k3 s0 s1 z0 z1 z2 y0 y1 y2
      obtain ⟨k0, k1, k2, k3⟩ := GG10.out.facts
      obtain ⟨s0, s1⟩ := SS10.out.cells'
      obtain ⟨z0, z1, z2, y0, y1, y2⟩ := VV10.out.facts
      go_wp2_with fail
      refine (CP.out w10 B10.out).mono ?_
      rintro e w11 ⟨rfl, b11⟩
      have B11 := Lib.hid (below_trans B10.out b11)
      have GG11 := Lib.hid (GG10.out.below b11)
      have SS11 := Lib.hid (SS10.out.bel' b11)
      have VV11 := Lib.hid (VV10.out.below b11)
      have TW11 := Lib.hid ((TW10.out.below b11).more b11.size)
      have TM11 := Lib.hid ((TM10.out.below b11).more b11.size)
      have TD11 := Lib.hid ((TD10.out.below b11).more b11.size)
      clear b11 k0 k1 k2 k3 s0 s1 z0 z1 z2 y0 y1 y2
      obtain ⟨k0, k1, k2, k3⟩ := GG11.out.facts
      obtain ⟨s0, s1⟩ := SS11.out.cells'
      obtain ⟨z0, z1, z2, y0, y1, y2⟩ := VV11.out.facts
      go_wp2_with fail
      refine (EC.out w11 B11.out).mono ?_
      rintro e w12 ⟨rfl, b12⟩
      have B12 := Lib.hid (below_trans B11.out b12)
      have GG12 := Lib.hid (GG11.out.below b12)
      have SS12 := Lib.hid (SS11.out.bel' b12)
      have VV12 := Lib.hid (VV11.out.below b12)
      have TW12 := Lib.hid ((TW11.out.below b12).more b12.size)
      have TM12 := Lib.hid ((TM11.out.below b12).more b12.size)
      have TD12 := Lib.hid ((TD11.out.below b12).more b12.size)
      clear b12 k0 k1 k2 k3 s0 s1 z0 z1 z2 y0 y1 y2
      obtain ⟨k0, k1, k2, k3⟩ := GG12.out.facts
      obtain ⟨s0, s1⟩ := SS12.out.cells'
      obtain ⟨z0, z1, z2, y0, y1, y2⟩ := VV12.out.facts
      go_wp2_with fail
      refine (RP.out w12 B12.out).mono ?_
      rintro e w13 ⟨RA, rc, rfl, rt, b13⟩
      have B13 := Lib.hid (below_trans B12.out b13)
      have GG13 := Lib.hid (GG12.out.below b13)
      have SS13 := Lib.hid (SS12.out.bel' b13)
      have VV13 := Lib.hid (VV12.out.below b13)
      have TW13 := Lib.hid ((TW12.out.below b13).more b13.size)
      have TM13 := Lib.hid ((TM12.out.below b13).more b13.size)
      have TD13 := Lib.hid ((TD12.out.below b13).more b13.size)
      have TR13 := Lib.hid (TAt.bel_of rt)
      clear rt
      clear b13 k0 k1 k2 k3 s0 s1 z0 z1 z2 y0 y1 y2
      obtain ⟨k0, k1, k2, k3⟩ := GG13.out.facts
      obtain ⟨s0, s1⟩ := SS13.out.cells'
      obtain ⟨z0, z1, z2, y0, y1, y2⟩ := VV13.out.facts
      have qGG := GG13.out.lt
      have qSS := SS13.out.lt'
      have qVV := VV13.out.lt
      go_wp2_with fail
      clear qGG qSS qVV
      have b14 := bel1 w13 (.cells #[.bool (trOf r).list, .int .i64 (trOf r).num, .slice RA (trOf r).items.length rc] 38)
      have B14 := Lib.hid (below_trans B13.out b14)
      have GG14 := Lib.hid (GG13.out.below b14)
      have SS14 := Lib.hid (SS13.out.bel' b14)
      have VV14 := Lib.hid (VV13.out.below b14)
      have TW14 := Lib.hid ((TW13.out.below b14).more b14.size)
      have TM14 := Lib.hid ((TM13.out.below b14).more b14.size)
      have TD14 := Lib.hid ((TD13.out.below b14).more b14.size)
      have TR14 := Lib.hid ((TR13.out.below b14).more b14.size)
      have U14 := Lib.hid (show V3 w13.heap.size (.bool (trOf r).list) (.int .i64 (trOf r).num) (.slice RA (trOf r).items.length rc) (w13.alloc (.cells #[.bool (trOf r).list, .int .i64 (trOf r).num, .slice RA (trOf r).items.length rc] 38)) from new_obj _ _)
      clear b14 k0 k1 k2 k3 s0 s1 z0 z1 z2 y0 y1 y2
      generalize w13.alloc (.cells #[.bool (trOf r).list, .int .i64 (trOf r).num, .slice RA (trOf r).items.length rc] 38) = w14 at B14 GG14 SS14 VV14 TW14 TM14 TD14 TR14 U14 ⊢
      obtain ⟨k0, k1, k2, k3⟩ := GG14.out.facts
      obtain ⟨s0, s1⟩ := SS14.out.cells'
      obtain ⟨z0, z1, z2, y0, y1, y2⟩ := VV14.out.facts
      obtain ⟨u0, u1, u2, v0, v1, v2⟩ := U14.out.facts
      go_wp2_with fail
      refine (EH.out w14 B14.out).mono ?_
      rintro e w15 ⟨rfl, b15⟩
      have B15 := Lib.hid (below_trans B14.out b15)
      have GG15 := Lib.hid (GG14.out.below b15)
      have SS15 := Lib.hid (SS14.out.bel' b15)
      have VV15 := Lib.hid (VV14.out.below b15)
      have U15 := Lib.hid (U14.out.below b15)
      have TW15 := Lib.hid ((TW14.out.below b15).more b15.size)
      have TM15 := Lib.hid ((TM14.out.below b15).more b15.size)
      have TD15 := Lib.hid ((TD14.out.below b15).more b15.size)
      have TR15 := Lib.hid ((TR14.out.below b15).more b15.size)
      clear b15 k0 k1 k2 k3 s0 s1 z0 z1 z2 y0 y1 y2 u0 u1 u2 v0 v1 v2
      obtain ⟨k0, k1, k2, k3⟩ := GG15.out.facts
      obtain ⟨s0, s1⟩ := SS15.out.cells'
      obtain ⟨z0, z1, z2, y0, y1, y2⟩ := VV15.out.facts
      obtain ⟨u0, u1, u2, v0, v1, v2⟩ := U15.out.facts
      go_wp2_with fail
      refine (same_one w15 TR15.out TW15.out (Nat.le_refl _) TS.out).mono ?_
      rintro e w16 ⟨rfl, b16⟩
      have B16 := Lib.hid (below_trans B15.out b16)
      have GG16 := Lib.hid (GG15.out.below b16)
      have SS16 := Lib.hid (SS15.out.bel' b16)
      have VV16 := Lib.hid (VV15.out.below b16)
      have U16 := Lib.hid (U15.out.below b16)
      have TW16 := Lib.hid ((TW15.out.below b16).more b16.size)
      have TM16 := Lib.hid ((TM15.out.below b16).more b16.size)
      have TD16 := Lib.hid ((TD15.out.below b16).more b16.size)
      have TR16 := Lib.hid ((TR15.out.below b16).more b16.size)
      clear b16 k0 k1 k2 k3 s0 s1 z0 z1 z2 y0 y1 y2 u0 u1 u2 v0 v1 v2
      obtain ⟨k0, k1, k2, k3⟩ := GG16.out.facts
      obtain ⟨s0, s1⟩ := SS16.out.cells'
      obtain ⟨z0, z1, z2, y0, y1, y2⟩ := VV16.out.facts
      obtain ⟨u0, u1, u2, v0, v1, v2⟩ := U16.out.facts
      go_wp2_with fail
      refine (MP.out w16 B16.out).mono ?_
      rintro e w17 ⟨QA, qc, rfl, qa, b17⟩
      have B17 := Lib.hid (below_trans B16.out b17)
      have GG17 := Lib.hid (GG16.out.below b17)
      have SS17 := Lib.hid (SS16.out.bel' b17)
      have VV17 := Lib.hid (VV16.out.below b17)
      have U17 := Lib.hid (U16.out.below b17)
      have TW17 := Lib.hid ((TW16.out.below b17).more b17.size)
      have TM17 := Lib.hid ((TM16.out.below b17).more b17.size)
      have TD17 := Lib.hid ((TD16.out.below b17).more b17.size)
      have TR17 := Lib.hid ((TR16.out.below b17).more b17.size)
      have TQ17 := Lib.hid qa.at_
      clear qa
      clear b17 k0 k1 k2 k3 s0 s1 z0 z1 z2 y0 y1 y2 u0 u1 u2 v0 v1 v2
      obtain ⟨k0, k1, k2, k3⟩ := GG17.out.facts
      obtain ⟨s0, s1⟩ := SS17.out.cells'
      obtain ⟨z0, z1, z2, y0, y1, y2⟩ := VV17.out.facts
      obtain ⟨u0, u1, u2, v0, v1, v2⟩ := U17.out.facts
      go_wp2_with fail
      refine (ET.out w17 B17.out).mono ?_
      rintro e w18 ⟨rfl, b18⟩
      have B18 := Lib.hid (below_trans B17.out b18)
      have GG18 := Lib.hid (GG17.out.below b18)
      have SS18 := Lib.hid (SS17.out.bel' b18)
      have VV18 := Lib.hid (VV17.out.below b18)
      have U18 := Lib.hid (U17.out.below b18)
      have TW18 := Lib.hid ((TW17.out.below b18).more b18.size)
      have TM18 := Lib.hid ((TM17.out.below b18).more b18.size)
      have TD18 := Lib.hid ((TD17.out.below b18).more b18.size)
      have TR18 := Lib.hid ((TR17.out.below b18).more b18.size)
      have TQ18 := Lib.hid ((TQ17.out.below b18).more b18.size)
      clear b18 k0 k1 k2 k3 s0 s1 z0 z1 z2 y0 y1 y2 u0 u1 u2 v0 v1 v2
      obtain ⟨k0, k1, k2, k3⟩ := GG18.out.facts
      obtain ⟨s0, s1⟩ := SS18.out.cells'
      obtain ⟨z0, z1, z2, y0, y1, y2⟩ := VV18.out.facts
      obtain ⟨u0, u1, u2, v0, v1, v2⟩ := U18.out.facts
      go_wp2_with fail
      refine (ints_one (mendL t l) QA MA qc mc w18.heap.size HML.out w18 TQ18.out TM18.out).mono ?_
      rintro e w19 ⟨rfl, b19⟩
      have B19 := Lib.hid (below_trans B18.out b19)
      have GG19 := Lib.hid (GG18.out.below b19)
      have SS19 := Lib.hid (SS18.out.bel' b19)
      have VV19 := Lib.hid (VV18.out.below b19)
      have U19 := Lib.hid (U18.out.below b19)
      have TW19 := Lib.hid ((TW18.out.below b19).more b19.size)
      have TM19 := Lib.hid ((TM18.out.below b19).more b19.size)
      have TD19 := Lib.hid ((TD18.out.below b19).more b19.size)
      have TR19 := Lib.hid ((TR18.out.below b19).more b19.size)
      have TQ19 := Lib.hid ((TQ18.out.below b19).more b19.size)
      clear b19 k0 k1 k2 k3 s0 s1 z0 z1 z2 y0 y1 y2 u0 u1 u2 v0 v1 v2
      obtain ⟨k0, k1, k2, k3⟩ := GG19.out.facts
      obtain ⟨s0, s1⟩ := SS19.out.cells'
      obtain ⟨z0, z1, z2, y0, y1, y2⟩ := VV19.out.facts
      obtain ⟨u0, u1, u2, v0, v1, v2⟩ := U19.out.facts
      go_wp2_with fail
      refine (DP.out w19 B19.out).mono ?_
      rintro e w20 ⟨EA, ec, rfl, ea, b20⟩
      have B20 := Lib.hid (below_trans B19.out b20)
      have GG20 := Lib.hid (GG19.out.below b20)
      have SS20 := Lib.hid (SS19.out.bel' b20)
      have VV20 := Lib.hid (VV19.out.below b20)
      have U20 := Lib.hid (U19.out.below b20)
      have TW20 := Lib.hid ((TW19.out.below b20).more b20.size)
      have TM20 := Lib.hid ((TM19.out.below b20).more b20.size)
      have TD20 := Lib.hid ((TD19.out.below b20).more b20.size)
      have TR20 := Lib.hid ((TR19.out.below b20).more b20.size)
      have TQ20 := Lib.hid ((TQ19.out.below b20).more b20.size)
      have TE20 := Lib.hid ea.at_
      clear ea
      clear b20 k0 k1 k2 k3 s0 s1 z0 z1 z2 y0 y1 y2 u0 u1 u2 v0 v1 v2
      obtain ⟨k0, k1, k2, k3⟩ := GG20.out.facts
      obtain ⟨s0, s1⟩ := SS20.out.cells'
      obtain ⟨z0, z1, z2, y0, y1, y2⟩ := VV20.out.facts
      obtain ⟨u0, u1, u2, v0, v1, v2⟩ := U20.out.facts
      go_wp2_with fail
      refine (ET.out w20 B20.out).mono ?_
      rintro e w21 ⟨rfl, b21⟩
      have B21 := Lib.hid (below_trans B20.out b21)
      have GG21 := Lib.hid (GG20.out.below b21)
      have SS21 := Lib.hid (SS20.out.bel' b21)
      have VV21 := Lib.hid (VV20.out.below b21)
      have U21 := Lib.hid (U20.out.below b21)
      have TW21 := Lib.hid ((TW20.out.below b21).more b21.size)
      have TM21 := Lib.hid ((TM20.out.below b21).more b21.size)
      have TD21 := Lib.hid ((TD20.out.below b21).more b21.size)
      have TR21 := Lib.hid ((TR20.out.below b21).more b21.size)
      have TQ21 := Lib.hid ((TQ20.out.below b21).more b21.size)
      have TE21 := Lib.hid ((TE20.out.below b21).more b21.size)
      clear b21 k0 k1 k2 k3 s0 s1 z0 z1 z2 y0 y1 y2 u0 u1 u2 v0 v1 v2
      obtain ⟨k0, k1, k2, k3⟩ := GG21.out.facts
      obtain ⟨s0, s1⟩ := SS21.out.cells'
      obtain ⟨z0, z1, z2, y0, y1, y2⟩ := VV21.out.facts
      obtain ⟨u0, u1, u2, v0, v1, v2⟩ := U21.out.facts
      go_wp2_with fail
      refine (ints_one (drawL t (a, gm)) EA DA ec dc w21.heap.size HDL.out w21 TE21.out TD21.out).mono ?_
      rintro e w22 ⟨rfl, b22⟩
      have B22 := Lib.hid (below_trans B21.out b22)
      have GG22 := Lib.hid (GG21.out.below b22)
      have SS22 := Lib.hid (SS21.out.bel' b22)
      have VV22 := Lib.hid (VV21.out.below b22)
      have U22 := Lib.hid (U21.out.below b22)
      have TW22 := Lib.hid ((TW21.out.below b22).more b22.size)
      have TM22 := Lib.hid ((TM21.out.below b22).more b22.size)
      have TD22 := Lib.hid ((TD21.out.below b22).more b22.size)
      have TR22 := Lib.hid ((TR21.out.below b22).more b22.size)
      have TQ22 := Lib.hid ((TQ21.out.below b22).more b22.size)
      have TE22 := Lib.hid ((TE21.out.below b22).more b22.size)
      clear b22 k0 k1 k2 k3 s0 s1 z0 z1 z2 y0 y1 y2 u0 u1 u2 v0 v1 v2
      obtain ⟨k0, k1, k2, k3⟩ := GG22.out.facts
      obtain ⟨s0, s1⟩ := SS22.out.cells'
      obtain ⟨z0, z1, z2, y0, y1, y2⟩ := VV22.out.facts
      obtain ⟨u0, u1, u2, v0, v1, v2⟩ := U22.out.facts
      go_wp2_with fail
      go_ret
      exact ⟨rfl, B22.out⟩
    · have g2 : decide (1048576 < q) = false := by rw [decide_eq_false_iff_not]; exact hc
      have EC := Lib.hid (EF.out 0)
      rw [if_neg hc, if_neg hc, errOf_ok] at CP
      rw [errOf_ok] at EC
      clear hc EF
      go_enter Tryd.func3, Tryd.ntmps3
      go_wp2_with fail
      generalize (w.alloc (.cells #[.int .i64 t.kind, .int .i64 t.a, .int .i64 t.b, .slice A t.subs.length c] 24)).alloc (.cells #[.int .u64 a, .int .u64 gm] 28) = w0 at HB0 ⊢
      have B0 := Lib.hid HB0.out.1
      have GG0 := Lib.hid HB0.out.2.1
      have SS0 := Lib.hid HB0.out.2.2
      refine (made_ok _).mono ?_
      rintro e w1 ⟨rfl, b1⟩
      have B1 := Lib.hid (below_trans B0.out b1)
      have GG1 := Lib.hid (GG0.out.below b1)
      have SS1 := Lib.hid (SS0.out.bel' b1)
      clear b1
      obtain ⟨k0, k1, k2, k3⟩ := GG1.out.facts
      obtain ⟨s0, s1⟩ := SS1.out.cells'
      go_wp2_with fail
      refine (GF.out w1 B1.out).mono ?_
      rintro e w2 ⟨rfl, b2⟩
      have B2 := Lib.hid (below_trans B1.out b2)
      have GG2 := Lib.hid (GG1.out.below b2)
      have SS2 := Lib.hid (SS1.out.bel' b2)
      clear b2 k0 k1 k2 k3 s0 s1
      obtain ⟨k0, k1, k2, k3⟩ := GG2.out.facts
      obtain ⟨s0, s1⟩ := SS2.out.cells'
      go_wp2_with fail
      refine (CK.out w2 B2.out).mono ?_
      rintro e w3 ⟨rfl, b3⟩
      have B3 := Lib.hid (below_trans B2.out b3)
      have GG3 := Lib.hid (GG2.out.below b3)
      have SS3 := Lib.hid (SS2.out.bel' b3)
      clear b3 k0 k1 k2 k3 s0 s1
      obtain ⟨k0, k1, k2, k3⟩ := GG3.out.facts
      obtain ⟨s0, s1⟩ := SS3.out.cells'
      go_wp2_with fail
      refine (ET.out w3 B3.out).mono ?_
      rintro e w4 ⟨rfl, b4⟩
      have B4 := Lib.hid (below_trans B3.out b4)
      have GG4 := Lib.hid (GG3.out.below b4)
      have SS4 := Lib.hid (SS3.out.bel' b4)
      clear b4 k0 k1 k2 k3 s0 s1
      obtain ⟨k0, k1, k2, k3⟩ := GG4.out.facts
      obtain ⟨s0, s1⟩ := SS4.out.cells'
      have qGG := GG4.out.lt
      have qSS := SS4.out.lt'
      go_wp2_with fail
      clear qGG qSS
      have b5 := bel1 w4 (.cells #[.bool false, .int .i64 0, .slice none 0 0] 38)
      have B5 := Lib.hid (below_trans B4.out b5)
      have GG5 := Lib.hid (GG4.out.below b5)
      have SS5 := Lib.hid (SS4.out.bel' b5)
      have VV5 := Lib.hid (show V3 w4.heap.size (.bool false) (.int .i64 0) (.slice none 0 0) (w4.alloc (.cells #[.bool false, .int .i64 0, .slice none 0 0] 38)) from new_obj _ _)
      clear b5 k0 k1 k2 k3 s0 s1
      generalize w4.alloc (.cells #[.bool false, .int .i64 0, .slice none 0 0] 38) = w5 at B5 GG5 SS5 VV5 ⊢
      obtain ⟨k0, k1, k2, k3⟩ := GG5.out.facts
      obtain ⟨s0, s1⟩ := SS5.out.cells'
      obtain ⟨z0, z1, z2, y0, y1, y2⟩ := VV5.out.facts
      go_wp2_with fail
      refine (CD.out w5 B5.out).mono ?_
      rintro e w6 ⟨rfl, b6⟩
      have B6 := Lib.hid (below_trans B5.out b6)
      have GG6 := Lib.hid (GG5.out.below b6)
      have SS6 := Lib.hid (SS5.out.bel' b6)
      have VV6 := Lib.hid (VV5.out.below b6)
      clear b6 k0 k1 k2 k3 s0 s1 z0 z1 z2 y0 y1 y2
      obtain ⟨k0, k1, k2, k3⟩ := GG6.out.facts
      obtain ⟨s0, s1⟩ := SS6.out.cells'
      obtain ⟨z0, z1, z2, y0, y1, y2⟩ := VV6.out.facts
      go_wp2_with fail
      refine (RD.out w6 B6.out).mono ?_
      rintro e w7 ⟨WA, wc, wn, rfl, wt, b7⟩
      have B7 := Lib.hid (below_trans B6.out b7)
      have GG7 := Lib.hid (GG6.out.below b7)
      have SS7 := Lib.hid (SS6.out.bel' b7)
      have VV7 := Lib.hid (VV6.out.below b7)
      have WT7 := Lib.hid wt
      clear wt
      have HLT := Lib.hid (And.intro GG6.out.lt (And.intro SS6.out.lt' (show w4.heap.size < w6.heap.size from VV6.out.lt)))
      clear b7 k0 k1 k2 k3 s0 s1 z0 z1 z2 y0 y1 y2
      obtain ⟨k0, k1, k2, k3⟩ := GG7.out.facts
      obtain ⟨s0, s1⟩ := SS7.out.cells'
      obtain ⟨z0, z1, z2, y0, y1, y2⟩ := VV7.out.facts
      have n1 : w.heap.size ≠ w4.heap.size := by have := GG4.out.lt; omega
      have n3 : w4.heap.size ≠ w.heap.size := n1.symm
      have n2 : w.heap.size + 1 ≠ w4.heap.size := by have := SS4.out.lt'; omega
      have n4 : w4.heap.size ≠ w.heap.size + 1 := n2.symm
      go_wp2_with fail
      clear n1 n2 n3 n4
      obtain ⟨v9, k9, q9, b9, _⟩ := three_put w7 VV7.out (.bool (trOf r).list) (.int .i64 (trOf r).num) (.slice WA (trOf r).items.length wc) _ rfl
      have VV8 := Lib.hid v9
      have TW8 := Lib.hid (tree_put WT7.out k9 q9 (by have := VV6.out.lt; omega))
      have GG8 : Hid (G4 w.heap.size (.int .i64 t.kind) (.int .i64 t.a) (.int .i64 t.b) (.slice A t.subs.length c) _) := Lib.hid ((k9 _ (by have := GG4.out.lt; omega)).trans GG7.out)
      have SS8 : Hid (SB (w.heap.size + 1) (a, gm) _) := Lib.hid ((k9 _ (by have := SS4.out.lt'; omega)).trans SS7.out)
      have B8 := Lib.hid (B7.out.trans (b9 _ B4.out.size))
      clear v9 k9 q9 b9 WT7 k0 k1 k2 k3 s0 s1 z0 z1 z2 y0 y1 y2
      generalize ((w7.setCell ⟨w4.heap.size, 0, none⟩ (.bool (trOf r).list)).setCell ⟨w4.heap.size, 1, none⟩ (.int .i64 (trOf r).num)).setCell ⟨w4.heap.size, 2, none⟩ (.slice WA (trOf r).items.length wc) = w8 at VV8 TW8 GG8 SS8 B8 ⊢
      obtain ⟨k0, k1, k2, k3⟩ := GG8.out.facts
      obtain ⟨s0, s1⟩ := SS8.out.cells'
      obtain ⟨z0, z1, z2, y0, y1, y2⟩ := VV8.out.facts
      go_wp2_with fail
      refine (MD.out w8 B8.out).mono ?_
      rintro e w9 ⟨b9, MA, mc, rfl, ma⟩
      have B9 := Lib.hid (below_trans B8.out b9)
      have GG9 := Lib.hid (GG8.out.below b9)
      have SS9 := Lib.hid (SS8.out.bel' b9)
      have VV9 := Lib.hid (VV8.out.below b9)
      have TW9 := Lib.hid ((TW8.out.below b9).more b9.size)
      have TM9 := Lib.hid ma
      clear ma
      clear b9 k0 k1 k2 k3 s0 s1 z0 z1 z2 y0 y1 y2
      obtain ⟨k0, k1, k2, k3⟩ := GG9.out.facts
      obtain ⟨s0, s1⟩ := SS9.out.cells'
      obtain ⟨z0, z1, z2, y0, y1, y2⟩ := VV9.out.facts
      go_wp2_with fail
      refine (DD.out w9 B9.out).mono ?_
      rintro e w10 ⟨DA, dc, rfl, da, b10⟩
      have B10 := Lib.hid (below_trans B9.out b10)
      have GG10 := Lib.hid (GG9.out.below b10)
      have SS10 := Lib.hid (SS9.out.bel' b10)
      have VV10 := Lib.hid (VV9.out.below b10)
      have TW10 := Lib.hid ((TW9.out.below b10).more b10.size)
      have TM10 := Lib.hid ((TM9.out.below b10).more b10.size)
      have TD10 := Lib.hid da.at_
      clear da
      clear b10 k0 k1 k2 k3 s0 s1 z0 z1 z2 y0 y1 y2
      obtain ⟨k0, k1, k2, k3⟩ := GG10.out.facts
      obtain ⟨s0, s1⟩ := SS10.out.cells'
      obtain ⟨z0, z1, z2, y0, y1, y2⟩ := VV10.out.facts
      go_wp2_with fail
      refine (CP.out w10 B10.out).mono ?_
      rintro e w11 ⟨rfl, b11⟩
      have B11 := Lib.hid (below_trans B10.out b11)
      have GG11 := Lib.hid (GG10.out.below b11)
      have SS11 := Lib.hid (SS10.out.bel' b11)
      have VV11 := Lib.hid (VV10.out.below b11)
      have TW11 := Lib.hid ((TW10.out.below b11).more b11.size)
      have TM11 := Lib.hid ((TM10.out.below b11).more b11.size)
      have TD11 := Lib.hid ((TD10.out.below b11).more b11.size)
      clear b11 k0 k1 k2 k3 s0 s1 z0 z1 z2 y0 y1 y2
      obtain ⟨k0, k1, k2, k3⟩ := GG11.out.facts
      obtain ⟨s0, s1⟩ := SS11.out.cells'
      obtain ⟨z0, z1, z2, y0, y1, y2⟩ := VV11.out.facts
      go_wp2_with fail
      refine (EC.out w11 B11.out).mono ?_
      rintro e w12 ⟨rfl, b12⟩
      have B12 := Lib.hid (below_trans B11.out b12)
      have GG12 := Lib.hid (GG11.out.below b12)
      have SS12 := Lib.hid (SS11.out.bel' b12)
      have VV12 := Lib.hid (VV11.out.below b12)
      have TW12 := Lib.hid ((TW11.out.below b12).more b12.size)
      have TM12 := Lib.hid ((TM11.out.below b12).more b12.size)
      have TD12 := Lib.hid ((TD11.out.below b12).more b12.size)
      clear b12 k0 k1 k2 k3 s0 s1 z0 z1 z2 y0 y1 y2
      obtain ⟨k0, k1, k2, k3⟩ := GG12.out.facts
      obtain ⟨s0, s1⟩ := SS12.out.cells'
      obtain ⟨z0, z1, z2, y0, y1, y2⟩ := VV12.out.facts
      go_wp2_with fail
      refine (RP.out w12 B12.out).mono ?_
      rintro e w13 ⟨RA, rc, rfl, rt, b13⟩
      have B13 := Lib.hid (below_trans B12.out b13)
      have GG13 := Lib.hid (GG12.out.below b13)
      have SS13 := Lib.hid (SS12.out.bel' b13)
      have VV13 := Lib.hid (VV12.out.below b13)
      have TW13 := Lib.hid ((TW12.out.below b13).more b13.size)
      have TM13 := Lib.hid ((TM12.out.below b13).more b13.size)
      have TD13 := Lib.hid ((TD12.out.below b13).more b13.size)
      have TR13 := Lib.hid (TAt.bel_of rt)
      clear rt
      clear b13 k0 k1 k2 k3 s0 s1 z0 z1 z2 y0 y1 y2
      obtain ⟨k0, k1, k2, k3⟩ := GG13.out.facts
      obtain ⟨s0, s1⟩ := SS13.out.cells'
      obtain ⟨z0, z1, z2, y0, y1, y2⟩ := VV13.out.facts
      have qGG := GG13.out.lt
      have qSS := SS13.out.lt'
      have qVV := VV13.out.lt
      go_wp2_with fail
      clear qGG qSS qVV
      have b14 := bel1 w13 (.cells #[.bool (trOf r).list, .int .i64 (trOf r).num, .slice RA (trOf r).items.length rc] 38)
      have B14 := Lib.hid (below_trans B13.out b14)
      have GG14 := Lib.hid (GG13.out.below b14)
      have SS14 := Lib.hid (SS13.out.bel' b14)
      have VV14 := Lib.hid (VV13.out.below b14)
      have TW14 := Lib.hid ((TW13.out.below b14).more b14.size)
      have TM14 := Lib.hid ((TM13.out.below b14).more b14.size)
      have TD14 := Lib.hid ((TD13.out.below b14).more b14.size)
      have TR14 := Lib.hid ((TR13.out.below b14).more b14.size)
      have U14 := Lib.hid (show V3 w13.heap.size (.bool (trOf r).list) (.int .i64 (trOf r).num) (.slice RA (trOf r).items.length rc) (w13.alloc (.cells #[.bool (trOf r).list, .int .i64 (trOf r).num, .slice RA (trOf r).items.length rc] 38)) from new_obj _ _)
      clear b14 k0 k1 k2 k3 s0 s1 z0 z1 z2 y0 y1 y2
      generalize w13.alloc (.cells #[.bool (trOf r).list, .int .i64 (trOf r).num, .slice RA (trOf r).items.length rc] 38) = w14 at B14 GG14 SS14 VV14 TW14 TM14 TD14 TR14 U14 ⊢
      obtain ⟨k0, k1, k2, k3⟩ := GG14.out.facts
      obtain ⟨s0, s1⟩ := SS14.out.cells'
      obtain ⟨z0, z1, z2, y0, y1, y2⟩ := VV14.out.facts
      obtain ⟨u0, u1, u2, v0, v1, v2⟩ := U14.out.facts
      go_wp2_with fail
      refine (EH.out w14 B14.out).mono ?_
      rintro e w15 ⟨rfl, b15⟩
      have B15 := Lib.hid (below_trans B14.out b15)
      have GG15 := Lib.hid (GG14.out.below b15)
      have SS15 := Lib.hid (SS14.out.bel' b15)
      have VV15 := Lib.hid (VV14.out.below b15)
      have U15 := Lib.hid (U14.out.below b15)
      have TW15 := Lib.hid ((TW14.out.below b15).more b15.size)
      have TM15 := Lib.hid ((TM14.out.below b15).more b15.size)
      have TD15 := Lib.hid ((TD14.out.below b15).more b15.size)
      have TR15 := Lib.hid ((TR14.out.below b15).more b15.size)
      clear b15 k0 k1 k2 k3 s0 s1 z0 z1 z2 y0 y1 y2 u0 u1 u2 v0 v1 v2
      obtain ⟨k0, k1, k2, k3⟩ := GG15.out.facts
      obtain ⟨s0, s1⟩ := SS15.out.cells'
      obtain ⟨z0, z1, z2, y0, y1, y2⟩ := VV15.out.facts
      obtain ⟨u0, u1, u2, v0, v1, v2⟩ := U15.out.facts
      go_wp2_with fail
      refine (same_one w15 TR15.out TW15.out (Nat.le_refl _) TS.out).mono ?_
      rintro e w16 ⟨rfl, b16⟩
      have B16 := Lib.hid (below_trans B15.out b16)
      have GG16 := Lib.hid (GG15.out.below b16)
      have SS16 := Lib.hid (SS15.out.bel' b16)
      have VV16 := Lib.hid (VV15.out.below b16)
      have U16 := Lib.hid (U15.out.below b16)
      have TW16 := Lib.hid ((TW15.out.below b16).more b16.size)
      have TM16 := Lib.hid ((TM15.out.below b16).more b16.size)
      have TD16 := Lib.hid ((TD15.out.below b16).more b16.size)
      have TR16 := Lib.hid ((TR15.out.below b16).more b16.size)
      clear b16 k0 k1 k2 k3 s0 s1 z0 z1 z2 y0 y1 y2 u0 u1 u2 v0 v1 v2
      obtain ⟨k0, k1, k2, k3⟩ := GG16.out.facts
      obtain ⟨s0, s1⟩ := SS16.out.cells'
      obtain ⟨z0, z1, z2, y0, y1, y2⟩ := VV16.out.facts
      obtain ⟨u0, u1, u2, v0, v1, v2⟩ := U16.out.facts
      go_wp2_with fail
      refine (MP.out w16 B16.out).mono ?_
      rintro e w17 ⟨QA, qc, rfl, qa, b17⟩
      have B17 := Lib.hid (below_trans B16.out b17)
      have GG17 := Lib.hid (GG16.out.below b17)
      have SS17 := Lib.hid (SS16.out.bel' b17)
      have VV17 := Lib.hid (VV16.out.below b17)
      have U17 := Lib.hid (U16.out.below b17)
      have TW17 := Lib.hid ((TW16.out.below b17).more b17.size)
      have TM17 := Lib.hid ((TM16.out.below b17).more b17.size)
      have TD17 := Lib.hid ((TD16.out.below b17).more b17.size)
      have TR17 := Lib.hid ((TR16.out.below b17).more b17.size)
      have TQ17 := Lib.hid qa.at_
      clear qa
      clear b17 k0 k1 k2 k3 s0 s1 z0 z1 z2 y0 y1 y2 u0 u1 u2 v0 v1 v2
      obtain ⟨k0, k1, k2, k3⟩ := GG17.out.facts
      obtain ⟨s0, s1⟩ := SS17.out.cells'
      obtain ⟨z0, z1, z2, y0, y1, y2⟩ := VV17.out.facts
      obtain ⟨u0, u1, u2, v0, v1, v2⟩ := U17.out.facts
      go_wp2_with fail
      refine (ET.out w17 B17.out).mono ?_
      rintro e w18 ⟨rfl, b18⟩
      have B18 := Lib.hid (below_trans B17.out b18)
      have GG18 := Lib.hid (GG17.out.below b18)
      have SS18 := Lib.hid (SS17.out.bel' b18)
      have VV18 := Lib.hid (VV17.out.below b18)
      have U18 := Lib.hid (U17.out.below b18)
      have TW18 := Lib.hid ((TW17.out.below b18).more b18.size)
      have TM18 := Lib.hid ((TM17.out.below b18).more b18.size)
      have TD18 := Lib.hid ((TD17.out.below b18).more b18.size)
      have TR18 := Lib.hid ((TR17.out.below b18).more b18.size)
      have TQ18 := Lib.hid ((TQ17.out.below b18).more b18.size)
      clear b18 k0 k1 k2 k3 s0 s1 z0 z1 z2 y0 y1 y2 u0 u1 u2 v0 v1 v2
      obtain ⟨k0, k1, k2, k3⟩ := GG18.out.facts
      obtain ⟨s0, s1⟩ := SS18.out.cells'
      obtain ⟨z0, z1, z2, y0, y1, y2⟩ := VV18.out.facts
      obtain ⟨u0, u1, u2, v0, v1, v2⟩ := U18.out.facts
      go_wp2_with fail
      refine (ints_one (mendL t l) QA MA qc mc w18.heap.size HML.out w18 TQ18.out TM18.out).mono ?_
      rintro e w19 ⟨rfl, b19⟩
      have B19 := Lib.hid (below_trans B18.out b19)
      have GG19 := Lib.hid (GG18.out.below b19)
      have SS19 := Lib.hid (SS18.out.bel' b19)
      have VV19 := Lib.hid (VV18.out.below b19)
      have U19 := Lib.hid (U18.out.below b19)
      have TW19 := Lib.hid ((TW18.out.below b19).more b19.size)
      have TM19 := Lib.hid ((TM18.out.below b19).more b19.size)
      have TD19 := Lib.hid ((TD18.out.below b19).more b19.size)
      have TR19 := Lib.hid ((TR18.out.below b19).more b19.size)
      have TQ19 := Lib.hid ((TQ18.out.below b19).more b19.size)
      clear b19 k0 k1 k2 k3 s0 s1 z0 z1 z2 y0 y1 y2 u0 u1 u2 v0 v1 v2
      obtain ⟨k0, k1, k2, k3⟩ := GG19.out.facts
      obtain ⟨s0, s1⟩ := SS19.out.cells'
      obtain ⟨z0, z1, z2, y0, y1, y2⟩ := VV19.out.facts
      obtain ⟨u0, u1, u2, v0, v1, v2⟩ := U19.out.facts
      go_wp2_with fail
      refine (DP.out w19 B19.out).mono ?_
      rintro e w20 ⟨EA, ec, rfl, ea, b20⟩
      have B20 := Lib.hid (below_trans B19.out b20)
      have GG20 := Lib.hid (GG19.out.below b20)
      have SS20 := Lib.hid (SS19.out.bel' b20)
      have VV20 := Lib.hid (VV19.out.below b20)
      have U20 := Lib.hid (U19.out.below b20)
      have TW20 := Lib.hid ((TW19.out.below b20).more b20.size)
      have TM20 := Lib.hid ((TM19.out.below b20).more b20.size)
      have TD20 := Lib.hid ((TD19.out.below b20).more b20.size)
      have TR20 := Lib.hid ((TR19.out.below b20).more b20.size)
      have TQ20 := Lib.hid ((TQ19.out.below b20).more b20.size)
      have TE20 := Lib.hid ea.at_
      clear ea
      clear b20 k0 k1 k2 k3 s0 s1 z0 z1 z2 y0 y1 y2 u0 u1 u2 v0 v1 v2
      obtain ⟨k0, k1, k2, k3⟩ := GG20.out.facts
      obtain ⟨s0, s1⟩ := SS20.out.cells'
      obtain ⟨z0, z1, z2, y0, y1, y2⟩ := VV20.out.facts
      obtain ⟨u0, u1, u2, v0, v1, v2⟩ := U20.out.facts
      go_wp2_with fail
      refine (ET.out w20 B20.out).mono ?_
      rintro e w21 ⟨rfl, b21⟩
      have B21 := Lib.hid (below_trans B20.out b21)
      have GG21 := Lib.hid (GG20.out.below b21)
      have SS21 := Lib.hid (SS20.out.bel' b21)
      have VV21 := Lib.hid (VV20.out.below b21)
      have U21 := Lib.hid (U20.out.below b21)
      have TW21 := Lib.hid ((TW20.out.below b21).more b21.size)
      have TM21 := Lib.hid ((TM20.out.below b21).more b21.size)
      have TD21 := Lib.hid ((TD20.out.below b21).more b21.size)
      have TR21 := Lib.hid ((TR20.out.below b21).more b21.size)
      have TQ21 := Lib.hid ((TQ20.out.below b21).more b21.size)
      have TE21 := Lib.hid ((TE20.out.below b21).more b21.size)
      clear b21 k0 k1 k2 k3 s0 s1 z0 z1 z2 y0 y1 y2 u0 u1 u2 v0 v1 v2
      obtain ⟨k0, k1, k2, k3⟩ := GG21.out.facts
      obtain ⟨s0, s1⟩ := SS21.out.cells'
      obtain ⟨z0, z1, z2, y0, y1, y2⟩ := VV21.out.facts
      obtain ⟨u0, u1, u2, v0, v1, v2⟩ := U21.out.facts
      go_wp2_with fail
      refine (ints_one (drawL t (a, gm)) EA DA ec dc w21.heap.size HDL.out w21 TE21.out TD21.out).mono ?_
      rintro e w22 ⟨rfl, b22⟩
      have B22 := Lib.hid (below_trans B21.out b22)
      have GG22 := Lib.hid (GG21.out.below b22)
      have SS22 := Lib.hid (SS21.out.bel' b22)
      have VV22 := Lib.hid (VV21.out.below b22)
      have U22 := Lib.hid (U21.out.below b22)
      have TW22 := Lib.hid ((TW21.out.below b22).more b22.size)
      have TM22 := Lib.hid ((TM21.out.below b22).more b22.size)
      have TD22 := Lib.hid ((TD21.out.below b22).more b22.size)
      have TR22 := Lib.hid ((TR21.out.below b22).more b22.size)
      have TQ22 := Lib.hid ((TQ21.out.below b22).more b22.size)
      have TE22 := Lib.hid ((TE21.out.below b22).more b22.size)
      clear b22 k0 k1 k2 k3 s0 s1 z0 z1 z2 y0 y1 y2 u0 u1 u2 v0 v1 v2
      obtain ⟨k0, k1, k2, k3⟩ := GG22.out.facts
      obtain ⟨s0, s1⟩ := SS22.out.cells'
      obtain ⟨z0, z1, z2, y0, y1, y2⟩ := VV22.out.facts
      obtain ⟨u0, u1, u2, v0, v1, v2⟩ := U22.out.facts
      go_wp2_with fail
      go_ret
      exact ⟨rfl, B22.out⟩
  · have RP := Lib.hid (fun (W : World) (hb : Below w.heap.size w W) => show Calls Tryd.prog 20 #[gv t A c, .slice L l.length lc] W (fun e w' => ∃ (A : Option Addr) (c : Nat), e = .returned (.tuple #[.agg #[.bool false, .int .i64 0, .slice A 0 c], errOf (genV t)]) ∧ TAt w' (fun b => W.heap.size ≤ b ∧ b < w'.heap.size) n (.agg #[.bool false, .int .i64 0, .slice A 0 c]) (.node false 0 []) ∧ Below W.heap.size W w') from by have h := RP.out W hb; rw [RE.out h0] at h; exact h)
    have MP := Lib.hid (show ∀ (W : World) (hb : Below w.heap.size w W), Calls Tryd.prog 22 #[gv t A c, .slice L l.length lc] W (fun e w' => ∃ (A' : Option Addr) (c' : Nat), e = .returned (.tuple #[.slice A' 0 c', errOf (genV t)]) ∧ Own w' W.heap.size A' c' [] ∧ Below W.heap.size W w') from by have h := MP.out; rw [ML.out h0] at h; exact h)
    have DP := Lib.hid (show ∀ (W : World) (hb : Below w.heap.size w W), Calls Tryd.prog 24 #[gv t A c, .agg #[.int .u64 a, .int .u64 gm]] W (fun e w' => ∃ (A' : Option Addr) (c' : Nat), e = .returned (.tuple #[.slice A' 0 c', errOf (genV t)]) ∧ Own w' W.heap.size A' c' [] ∧ Below W.heap.size W w') from by have h := DP.out; rw [DL.out h0] at h; exact h)
    have ET := Lib.hid (ET.out (genV t))
    have EC := Lib.hid ET.out
    have EH := Lib.hid ET.out
    rw [if_neg h0] at CN CE
    rw [CN.out, CE.out] at CP
    have g1 : (genV t == 0) = false := by rw [beq_eq_false_iff_ne]; exact h0
    clear RV MR DR RE CN CE ML DL TS CD RD MD DD
    generalize genV t = f at *
    generalize errOf f = E at *
    clear h0
    go_enter Tryd.func3, Tryd.ntmps3
    go_wp2_with fail
    generalize (w.alloc (.cells #[.int .i64 t.kind, .int .i64 t.a, .int .i64 t.b, .slice A t.subs.length c] 24)).alloc (.cells #[.int .u64 a, .int .u64 gm] 28) = w0 at HB0 ⊢
    have B0 := Lib.hid HB0.out.1
    have GG0 := Lib.hid HB0.out.2.1
    have SS0 := Lib.hid HB0.out.2.2
    refine (made_ok _).mono ?_
    rintro e w1 ⟨rfl, b1⟩
    have B1 := Lib.hid (below_trans B0.out b1)
    have GG1 := Lib.hid (GG0.out.below b1)
    have SS1 := Lib.hid (SS0.out.bel' b1)
    clear b1
    obtain ⟨k0, k1, k2, k3⟩ := GG1.out.facts
    obtain ⟨s0, s1⟩ := SS1.out.cells'
    go_wp2_with fail
    refine (GF.out w1 B1.out).mono ?_
    rintro e w2 ⟨rfl, b2⟩
    have B2 := Lib.hid (below_trans B1.out b2)
    have GG2 := Lib.hid (GG1.out.below b2)
    have SS2 := Lib.hid (SS1.out.bel' b2)
    clear b2 k0 k1 k2 k3 s0 s1
    obtain ⟨k0, k1, k2, k3⟩ := GG2.out.facts
    obtain ⟨s0, s1⟩ := SS2.out.cells'
    go_wp2_with fail
    refine (CK.out w2 B2.out).mono ?_
    rintro e w3 ⟨rfl, b3⟩
    have B3 := Lib.hid (below_trans B2.out b3)
    have GG3 := Lib.hid (GG2.out.below b3)
    have SS3 := Lib.hid (SS2.out.bel' b3)
    clear b3 k0 k1 k2 k3 s0 s1
    obtain ⟨k0, k1, k2, k3⟩ := GG3.out.facts
    obtain ⟨s0, s1⟩ := SS3.out.cells'
    go_wp2_with fail
    refine (ET.out w3 B3.out).mono ?_
    rintro e w4 ⟨rfl, b4⟩
    have B4 := Lib.hid (below_trans B3.out b4)
    have GG4 := Lib.hid (GG3.out.below b4)
    have SS4 := Lib.hid (SS3.out.bel' b4)
    clear b4 k0 k1 k2 k3 s0 s1
    obtain ⟨k0, k1, k2, k3⟩ := GG4.out.facts
    obtain ⟨s0, s1⟩ := SS4.out.cells'
    have qGG := GG4.out.lt
    have qSS := SS4.out.lt'
    go_wp2_with fail
    clear qGG qSS
    have b5 := bel1 w4 (.cells #[.bool false, .int .i64 0, .slice none 0 0] 38)
    have B5 := Lib.hid (below_trans B4.out b5)
    have GG5 := Lib.hid (GG4.out.below b5)
    have SS5 := Lib.hid (SS4.out.bel' b5)
    have VV5 := Lib.hid (show V3 w4.heap.size (.bool false) (.int .i64 0) (.slice none 0 0) (w4.alloc (.cells #[.bool false, .int .i64 0, .slice none 0 0] 38)) from new_obj _ _)
    clear b5 k0 k1 k2 k3 s0 s1
    generalize w4.alloc (.cells #[.bool false, .int .i64 0, .slice none 0 0] 38) = w5 at B5 GG5 SS5 VV5 ⊢
    obtain ⟨k0, k1, k2, k3⟩ := GG5.out.facts
    obtain ⟨s0, s1⟩ := SS5.out.cells'
    obtain ⟨z0, z1, z2, y0, y1, y2⟩ := VV5.out.facts
    go_wp2_with fail
    refine (CP.out w5 B5.out).mono ?_
    rintro e w6 ⟨rfl, b6⟩
    have B6 := Lib.hid (below_trans B5.out b6)
    have GG6 := Lib.hid (GG5.out.below b6)
    have SS6 := Lib.hid (SS5.out.bel' b6)
    have VV6 := Lib.hid (VV5.out.below b6)
    clear b6 k0 k1 k2 k3 s0 s1 z0 z1 z2 y0 y1 y2
    obtain ⟨k0, k1, k2, k3⟩ := GG6.out.facts
    obtain ⟨s0, s1⟩ := SS6.out.cells'
    obtain ⟨z0, z1, z2, y0, y1, y2⟩ := VV6.out.facts
    go_wp2_with fail
    refine (EC.out w6 B6.out).mono ?_
    rintro e w7 ⟨rfl, b7⟩
    have B7 := Lib.hid (below_trans B6.out b7)
    have GG7 := Lib.hid (GG6.out.below b7)
    have SS7 := Lib.hid (SS6.out.bel' b7)
    have VV7 := Lib.hid (VV6.out.below b7)
    clear b7 k0 k1 k2 k3 s0 s1 z0 z1 z2 y0 y1 y2
    obtain ⟨k0, k1, k2, k3⟩ := GG7.out.facts
    obtain ⟨s0, s1⟩ := SS7.out.cells'
    obtain ⟨z0, z1, z2, y0, y1, y2⟩ := VV7.out.facts
    go_wp2_with fail
    refine (RP.out w7 B7.out).mono ?_
    rintro e w8 ⟨RA, rc, rfl, rt, b8⟩
    have B8 := Lib.hid (below_trans B7.out b8)
    have GG8 := Lib.hid (GG7.out.below b8)
    have SS8 := Lib.hid (SS7.out.bel' b8)
    have VV8 := Lib.hid (VV7.out.below b8)
    have TR8 := Lib.hid (TAt.bel_of rt)
    clear rt
    clear b8 k0 k1 k2 k3 s0 s1 z0 z1 z2 y0 y1 y2
    obtain ⟨k0, k1, k2, k3⟩ := GG8.out.facts
    obtain ⟨s0, s1⟩ := SS8.out.cells'
    obtain ⟨z0, z1, z2, y0, y1, y2⟩ := VV8.out.facts
    have qGG := GG8.out.lt
    have qSS := SS8.out.lt'
    have qVV := VV8.out.lt
    go_wp2_with fail
    clear qGG qSS qVV
    have b9 := bel1 w8 (.cells #[.bool false, .int .i64 0, .slice RA 0 rc] 38)
    have B9 := Lib.hid (below_trans B8.out b9)
    have GG9 := Lib.hid (GG8.out.below b9)
    have SS9 := Lib.hid (SS8.out.bel' b9)
    have VV9 := Lib.hid (VV8.out.below b9)
    have TR9 := Lib.hid ((TR8.out.below b9).more b9.size)
    have U9 := Lib.hid (show V3 w8.heap.size (.bool false) (.int .i64 0) (.slice RA 0 rc) (w8.alloc (.cells #[.bool false, .int .i64 0, .slice RA 0 rc] 38)) from new_obj _ _)
    clear b9 k0 k1 k2 k3 s0 s1 z0 z1 z2 y0 y1 y2
    generalize w8.alloc (.cells #[.bool false, .int .i64 0, .slice RA 0 rc] 38) = w9 at B9 GG9 SS9 VV9 TR9 U9 ⊢
    obtain ⟨k0, k1, k2, k3⟩ := GG9.out.facts
    obtain ⟨s0, s1⟩ := SS9.out.cells'
    obtain ⟨z0, z1, z2, y0, y1, y2⟩ := VV9.out.facts
    obtain ⟨u0, u1, u2, v0, v1, v2⟩ := U9.out.facts
    go_wp2_with fail
    refine (EH.out w9 B9.out).mono ?_
    rintro e w10 ⟨rfl, b10⟩
    have B10 := Lib.hid (below_trans B9.out b10)
    have GG10 := Lib.hid (GG9.out.below b10)
    have SS10 := Lib.hid (SS9.out.bel' b10)
    have VV10 := Lib.hid (VV9.out.below b10)
    have U10 := Lib.hid (U9.out.below b10)
    have TR10 := Lib.hid ((TR9.out.below b10).more b10.size)
    clear b10 k0 k1 k2 k3 s0 s1 z0 z1 z2 y0 y1 y2 u0 u1 u2 v0 v1 v2
    obtain ⟨k0, k1, k2, k3⟩ := GG10.out.facts
    obtain ⟨s0, s1⟩ := SS10.out.cells'
    obtain ⟨z0, z1, z2, y0, y1, y2⟩ := VV10.out.facts
    obtain ⟨u0, u1, u2, v0, v1, v2⟩ := U10.out.facts
    go_wp2_with fail
    refine (same_one w10 TR10.out (zero_one w10 _) (Nat.le_refl _) (by decide)).mono ?_
    rintro e w11 ⟨rfl, b11⟩
    have B11 := Lib.hid (below_trans B10.out b11)
    have GG11 := Lib.hid (GG10.out.below b11)
    have SS11 := Lib.hid (SS10.out.bel' b11)
    have VV11 := Lib.hid (VV10.out.below b11)
    have U11 := Lib.hid (U10.out.below b11)
    have TR11 := Lib.hid ((TR10.out.below b11).more b11.size)
    clear b11 k0 k1 k2 k3 s0 s1 z0 z1 z2 y0 y1 y2 u0 u1 u2 v0 v1 v2
    obtain ⟨k0, k1, k2, k3⟩ := GG11.out.facts
    obtain ⟨s0, s1⟩ := SS11.out.cells'
    obtain ⟨z0, z1, z2, y0, y1, y2⟩ := VV11.out.facts
    obtain ⟨u0, u1, u2, v0, v1, v2⟩ := U11.out.facts
    go_wp2_with fail
    refine (MP.out w11 B11.out).mono ?_
    rintro e w12 ⟨QA, qc, rfl, qa, b12⟩
    have B12 := Lib.hid (below_trans B11.out b12)
    have GG12 := Lib.hid (GG11.out.below b12)
    have SS12 := Lib.hid (SS11.out.bel' b12)
    have VV12 := Lib.hid (VV11.out.below b12)
    have U12 := Lib.hid (U11.out.below b12)
    have TR12 := Lib.hid ((TR11.out.below b12).more b12.size)
    have TQ12 := Lib.hid qa.at_
    clear qa
    clear b12 k0 k1 k2 k3 s0 s1 z0 z1 z2 y0 y1 y2 u0 u1 u2 v0 v1 v2
    obtain ⟨k0, k1, k2, k3⟩ := GG12.out.facts
    obtain ⟨s0, s1⟩ := SS12.out.cells'
    obtain ⟨z0, z1, z2, y0, y1, y2⟩ := VV12.out.facts
    obtain ⟨u0, u1, u2, v0, v1, v2⟩ := U12.out.facts
    go_wp2_with fail
    refine (ET.out w12 B12.out).mono ?_
    rintro e w13 ⟨rfl, b13⟩
    have B13 := Lib.hid (below_trans B12.out b13)
    have GG13 := Lib.hid (GG12.out.below b13)
    have SS13 := Lib.hid (SS12.out.bel' b13)
    have VV13 := Lib.hid (VV12.out.below b13)
    have U13 := Lib.hid (U12.out.below b13)
    have TR13 := Lib.hid ((TR12.out.below b13).more b13.size)
    have TQ13 := Lib.hid ((TQ12.out.below b13).more b13.size)
    clear b13 k0 k1 k2 k3 s0 s1 z0 z1 z2 y0 y1 y2 u0 u1 u2 v0 v1 v2
    obtain ⟨k0, k1, k2, k3⟩ := GG13.out.facts
    obtain ⟨s0, s1⟩ := SS13.out.cells'
    obtain ⟨z0, z1, z2, y0, y1, y2⟩ := VV13.out.facts
    obtain ⟨u0, u1, u2, v0, v1, v2⟩ := U13.out.facts
    go_wp2_with fail
    refine (ints_one [] QA none qc 0 w13.heap.size (by decide) w13 TQ13.out At.nil).mono ?_
    rintro e w14 ⟨rfl, b14⟩
    have B14 := Lib.hid (below_trans B13.out b14)
    have GG14 := Lib.hid (GG13.out.below b14)
    have SS14 := Lib.hid (SS13.out.bel' b14)
    have VV14 := Lib.hid (VV13.out.below b14)
    have U14 := Lib.hid (U13.out.below b14)
    have TR14 := Lib.hid ((TR13.out.below b14).more b14.size)
    have TQ14 := Lib.hid ((TQ13.out.below b14).more b14.size)
    clear b14 k0 k1 k2 k3 s0 s1 z0 z1 z2 y0 y1 y2 u0 u1 u2 v0 v1 v2
    obtain ⟨k0, k1, k2, k3⟩ := GG14.out.facts
    obtain ⟨s0, s1⟩ := SS14.out.cells'
    obtain ⟨z0, z1, z2, y0, y1, y2⟩ := VV14.out.facts
    obtain ⟨u0, u1, u2, v0, v1, v2⟩ := U14.out.facts
    go_wp2_with fail
    refine (DP.out w14 B14.out).mono ?_
    rintro e w15 ⟨EA, ec, rfl, ea, b15⟩
    have B15 := Lib.hid (below_trans B14.out b15)
    have GG15 := Lib.hid (GG14.out.below b15)
    have SS15 := Lib.hid (SS14.out.bel' b15)
    have VV15 := Lib.hid (VV14.out.below b15)
    have U15 := Lib.hid (U14.out.below b15)
    have TR15 := Lib.hid ((TR14.out.below b15).more b15.size)
    have TQ15 := Lib.hid ((TQ14.out.below b15).more b15.size)
    have TE15 := Lib.hid ea.at_
    clear ea
    clear b15 k0 k1 k2 k3 s0 s1 z0 z1 z2 y0 y1 y2 u0 u1 u2 v0 v1 v2
    obtain ⟨k0, k1, k2, k3⟩ := GG15.out.facts
    obtain ⟨s0, s1⟩ := SS15.out.cells'
    obtain ⟨z0, z1, z2, y0, y1, y2⟩ := VV15.out.facts
    obtain ⟨u0, u1, u2, v0, v1, v2⟩ := U15.out.facts
    go_wp2_with fail
    refine (ET.out w15 B15.out).mono ?_
    rintro e w16 ⟨rfl, b16⟩
    have B16 := Lib.hid (below_trans B15.out b16)
    have GG16 := Lib.hid (GG15.out.below b16)
    have SS16 := Lib.hid (SS15.out.bel' b16)
    have VV16 := Lib.hid (VV15.out.below b16)
    have U16 := Lib.hid (U15.out.below b16)
    have TR16 := Lib.hid ((TR15.out.below b16).more b16.size)
    have TQ16 := Lib.hid ((TQ15.out.below b16).more b16.size)
    have TE16 := Lib.hid ((TE15.out.below b16).more b16.size)
    clear b16 k0 k1 k2 k3 s0 s1 z0 z1 z2 y0 y1 y2 u0 u1 u2 v0 v1 v2
    obtain ⟨k0, k1, k2, k3⟩ := GG16.out.facts
    obtain ⟨s0, s1⟩ := SS16.out.cells'
    obtain ⟨z0, z1, z2, y0, y1, y2⟩ := VV16.out.facts
    obtain ⟨u0, u1, u2, v0, v1, v2⟩ := U16.out.facts
    go_wp2_with fail
    refine (ints_one [] EA none ec 0 w16.heap.size (by decide) w16 TE16.out At.nil).mono ?_
    rintro e w17 ⟨rfl, b17⟩
    have B17 := Lib.hid (below_trans B16.out b17)
    have GG17 := Lib.hid (GG16.out.below b17)
    have SS17 := Lib.hid (SS16.out.bel' b17)
    have VV17 := Lib.hid (VV16.out.below b17)
    have U17 := Lib.hid (U16.out.below b17)
    have TR17 := Lib.hid ((TR16.out.below b17).more b17.size)
    have TQ17 := Lib.hid ((TQ16.out.below b17).more b17.size)
    have TE17 := Lib.hid ((TE16.out.below b17).more b17.size)
    clear b17 k0 k1 k2 k3 s0 s1 z0 z1 z2 y0 y1 y2 u0 u1 u2 v0 v1 v2
    obtain ⟨k0, k1, k2, k3⟩ := GG17.out.facts
    obtain ⟨s0, s1⟩ := SS17.out.cells'
    obtain ⟨z0, z1, z2, y0, y1, y2⟩ := VV17.out.facts
    obtain ⟨u0, u1, u2, v0, v1, v2⟩ := U17.out.facts
    go_wp2_with fail
    go_ret
    exact ⟨rfl, B17.out⟩
end Go.Proofs.YtffkppjmdelajaaDoor.GenTellsLaw
