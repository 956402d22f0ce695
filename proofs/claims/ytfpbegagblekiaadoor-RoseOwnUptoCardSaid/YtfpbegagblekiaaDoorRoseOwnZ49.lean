/- RoseOwn, part 49 of the proof: RoseOwn: the walk. Conditions: the sizes; the library's variable that errors.As reads. -/
import Derived.Test.YtfpbegagblekiaaDoorRoseOwnZ30
import Derived.Test.YtfpbegagblekiaaDoorRoseOwnZ43
import Derived.Test.YtfpbegagblekiaaDoorRoseOwnZ46
import Derived.Test.YtfpbegagblekiaaDoorRoseOwnZ48
import Derived.Test.YtfpbegagblekiaaDoorRoseOwnZ45
import Derived.Deep.RegionHeld3
/- RoseOwn: the walk. Conditions: the sizes; the library's variable that errors.As reads. -/
namespace Go.Proofs.YtfpbegagblekiaaDoor.RoOwnLaw
open Go.RowKit Lists Ints Vals Gens Owns
set_option linter.unusedVariables false

theorem at_one {w : World} {b B : Nat} {x : Int} {T : TypeId} (hB : b < B) (h : w.heap[b]? = some (.cells #[.int .i64 x] T (0, 0))) : At w B (some ⟨b, 0, none⟩) [x] := fun hp => by
  refine ⟨b, 0, rfl, hB, fun j hj => ?_⟩
  have hj : j = 0 := by simpa using hj
  subst hj
  rw [Lib.cell_of_heap h]; rfl
theorem fact_call (w : World) (g : Nat) (hg : w.heap[g]? = some (.cells #[.int .i64 1] 3 (0, 0))) :
    Calls Tryd.prog 14 #[.agg #[.int .i64 2, .int .i64 0, .int .i64 1, .slice none 0 0], .slice (some ⟨g, 0, none⟩) 1 1] w fun e w' => ∃ (A : Option Addr) (c : Nat), e = .returned (.tuple #[.slice A 4 c, .nilIface]) ∧ Below w.heap.size w w' := by
  have h := rose_prog (n := 1) (t := .node 2 0 1 []) (L := some ⟨g, 0, none⟩) (l := [1]) (lc := 1) w (gat_leaf (by decide) (by decide) (by decide)) (at_one (Array.getElem?_eq_some_iff.1 hg).1 hg) (by simp) (by simp) (by simp [Gn.size, gsizes])
  have e0 : roseE (.node 2 0 1 []) [1] = 0 := by rfl
  have e1 : (roseV (.node 2 0 1 []) [1]).length = 4 := by
    unfold roseV
    rw [if_pos e0, rose_one e0]
    rfl
  refine Calls.mono h ?_
  rintro e w' ⟨A, c, rfl, ho, hb⟩
  rw [e1, e0]
  exact ⟨A, c, rfl, hb⟩
/-- between the calls of spoil: what was there is as it was, the lists at even places ahead of i aside -/
structure Sp (Ds : Nat → Option Addr) (ds : Nat → Nat) (z : List (List Int)) (base : Nat) (wl : World) (i : Nat) (wr : World) : Prop where
  os : wr.os = wl.os
  tape : wr.tape = wl.tape
  output : wr.output = wl.output
  size : wl.heap.size ≤ wr.heap.size
  blk : ∀ b, b < wl.heap.size → (∀ k, k < z.length → rowOf (Ds k) ≠ some b) → wr.heap[b]? = wl.heap[b]?
  own : ∀ k (hk : k < z.length), k % 2 = 1 ∨ i ≤ k → Own wr base (Ds k) (ds k) (z[k]'hk)
theorem Sp.step {Ds : Nat → Option Addr} {ds : Nat → Nat} {z : List (List Int)} {base i : Nat} {wl wr w' : World} (h : Sp Ds ds z base wl i wr) (hi : i < z.length) (he : i % 2 = 0) (hd : ∀ i j, i < z.length → j < z.length → i ≠ j → ∀ g, rowOf (Ds i) = some g → rowOf (Ds j) ≠ some g)
    (g : wr.grownBy w' (rowOf (Ds i))) : Sp Ds ds z base wl (i + 2) w' :=
  ⟨g.os.trans h.os, g.tape.trans h.tape, g.output.trans h.output, Nat.le_trans h.size g.size,
    fun b hb hn => (g.block b (Nat.lt_of_lt_of_le hb h.size) (fun e => hn i hi e.symm)).trans (h.blk b hb hn),
    fun k hk hp => (h.own k hk (by omega)).grown g (fun b hb => fun e => hd k i hk hi (by omega) b hb e)⟩
theorem Sp.below {Ds : Nat → Option Addr} {ds : Nat → Nat} {z : List (List Int)} {base i B : Nat} {wl wr : World} (h : Sp Ds ds z base wl i wr) (hB : B ≤ wl.heap.size) (hn : ∀ k, k < z.length → ∀ b, rowOf (Ds k) = some b → B ≤ b) : Below B wl wr :=
  ⟨h.os, h.tape, h.output, h.size, fun b hb => h.blk b (Nat.lt_of_lt_of_le hb hB) (fun k hk e => absurd (hn k hk b e) (by omega))⟩
theorem ownrows_keep {w w' : World} {base c : Nat} {A : Option Addr} {zs : List (List Int)} (h : OwnRows w base A c zs) (hs : w.heap.size ≤ w'.heap.size) (hk : ∀ b, base ≤ b → b < w.heap.size → w'.heap[b]? = w.heap[b]?) : OwnRows w' base A c zs := by
  obtain ⟨xs, h1, h2, h3⟩ := h
  refine ⟨xs, h1, ⟨h2.1, ?_⟩, fun j hj hj' => ?_⟩
  · rcases h2.2 with h0 | ⟨g, cap, cur, he, hg, hh, h4⟩
    · exact .inl h0
    · exact .inr ⟨g, cap, cur, he, hg, (hk g hg (Array.getElem?_eq_some_iff.1 hh).1).trans hh, h4⟩
  · obtain ⟨D, d, e, hd, ha⟩ := h3 j hj hj'
    exact ⟨D, d, e, hd, ha.keep fun b hB => ⟨⟨hB.1, Nat.lt_of_lt_of_le hB.2.1 hs, hB.2.2⟩, fun o => World.cell?_of_block (hk b hB.1 hB.2.1)⟩⟩
/-- what is known of the candidates, whether there are some or an error -/
theorem rose_sizes (t : Gn) (l : List Int) (hl : l.length ≤ 1048576) : (roseV t l).length ≤ 4194304 ∧ ∀ x ∈ roseV t l, x.length ≤ 1399680 := by
  unfold roseV
  by_cases h : roseE t l = 0
  · rw [if_pos h]
    obtain ⟨f1, f2⟩ := rose_facts (rep_facts h).1 l
    exact ⟨by omega, fun x hx => (f2 x hx).2.2⟩
  · rw [if_neg h]
    exact ⟨by simp, fun x hx => by simp at hx⟩

set_option maxHeartbeats 8000000 in
set_option maxRecDepth 100000 in
theorem walk (t : Gn) (A : Option Addr) (c n : Nat) (l : List Int) (L : Option Addr) (lc : Nat) (x : Int) (hbulk : t.size + l.length ≤ 1048576) (w : World) (hg : GAt w (GBel w.heap.size) n (gv t A c) t) (hl : At w w.heap.size L l) (hcap : l.length ≤ lc) (wx : (Lit.int .i64 x).wf = true) (hh : Told.Handle w) :
    Calls Tryd.prog 6 #[gv t A c, .slice L l.length lc, .int .i64 x] w fun e w' => e = .returned (.bool true) ∧ Below w.heap.size w w' := by
  have hb0 : Below w.heap.size w (w.alloc (gc t A c)) := (Below.refl _ _).alloc (Nat.le_refl _) _
  have g0 : G4 w.heap.size (.int .i64 t.kind) (.int .i64 t.a) (.int .i64 t.b) (.slice A t.subs.length c) (w.alloc (gc t A c)) := new_obj w _
  have RO := Lib.hid (fun (W : World) (hb : Below w.heap.size w W) (L : Option Addr) (lc : Nat) (hl : At W W.heap.size L l) (hcap : l.length ≤ lc) => show Calls Tryd.prog 14 #[gv t A c, .slice L l.length lc] W (RoPost t l W) from rose_prog (L := L) (l := l) (lc := lc) W ((hg.below hb).more hb.size) hl hcap (by omega) (by omega))
  have TS := Lib.hid (fun (W : World) (hb : Below w.heap.size w W) => told_same (roseE t l) W (hh.below hb))
  have HL := Lib.hid (fun (W : World) (hb : Below w.heap.size w W) => show At W W.heap.size L l from (hl.below hb).more hb.size)
  have LN := Lib.hid (show l.length ≤ 4294967296 ∧ l.length ≤ maxLen ∧ l.length ≤ lc by simp only [maxLen]; omega)
  have RS := Lib.hid (rose_sizes t l (by omega))
  have FC := Lib.hid fact_call
  have B0 := Lib.hid hb0
  have G0 := Lib.hid g0
  have Z0 := Lib.hid (show (w.alloc (gc t A c)).heap.size = w.heap.size + 1 by simp)
  clear hb0 g0 hg hl hcap hbulk hh wx
  unfold RoPost at RO
  generalize errOf (roseE t l) = ev at *
  generalize roseV t l = z at *
  go_enter Tryd.func6, Tryd.ntmps6
  go_wp2_with fail
  generalize w.alloc (gc t A c) = W0 at *
  have I1 := Lib.hid (ints_ok (lc := lc) W0 (HL.out W0 B0.out) LN.out.1)
  ((with_reducible refine I1.out.mono ?_))
  rintro e w1 ⟨A1, c1, rfl, ho1, hb1⟩
  have B1 := Lib.hid (below_trans B0.out hb1)
  have G1 := Lib.hid (G0.out.below hb1)
  have O1 := Lib.hid ho1
  clear hb1 ho1 I1
  obtain ⟨k0, k1, k2, k3⟩ := G1.out.facts
  go_wp2_with fail
  ((with_reducible refine (RO.out w1 B1.out A1 c1 O1.out.at_ O1.out.cap_).mono ?_))
  rintro e w2 ⟨A2, c2, rfl, ho2, hb2⟩
  have B2 := Lib.hid (below_trans B1.out hb2)
  have G2 := Lib.hid (G1.out.below hb2)
  have O2 := Lib.hid (O1.out.below hb2)
  have M2 := Lib.hid ho2
  have S12 := Lib.hid hb2.size
  clear hb2 ho2 k0 k1 k2 k3
  have HN := Lib.hid (new_obj w2 (.cells #[.int .i64 1] 3))
  have NB := Lib.hid (bel1 w2 (.cells #[.int .i64 1] 3))
  have FK := Lib.hid (FC.out _ _ HN.out)
  go_wp2_with fail
  generalize w2.alloc (.cells #[.int .i64 1] 3) = w3 at *
  ((with_reducible refine FK.out.mono ?_))
  rintro e w4 ⟨A4, c4, rfl, hb4⟩
  have N4 := Lib.hid (below_trans NB.out hb4)
  have B4 := Lib.hid (below_trans B2.out N4.out)
  have G4' := Lib.hid (G2.out.below N4.out)
  have O4 := Lib.hid (O2.out.below N4.out)
  have M4 := Lib.hid (M2.out.below N4.out)
  clear hb4 FK
  have SM1 := same_below l l A1 L c1 lc w4.heap.size LN.out.2.1 LN.out.2.1 w4 O4.out.at_ (HL.out w4 B4.out)
  rw [decide_eq_true (rfl : l = l)] at SM1
  have SM1 := Lib.hid SM1
  go_wp2_with fail
  ((with_reducible refine SM1.out.mono ?_))
  rintro e w5 ⟨rfl, hb5⟩
  have B5 := Lib.hid (below_trans B4.out hb5)
  have G5 := Lib.hid (G4'.out.below hb5)
  have M5 := Lib.hid (M4.out.below hb5)
  have N5 := Lib.hid (below_trans N4.out hb5)
  clear hb5 SM1
  obtain ⟨Ds, ds, hD1, hD2⟩ := M5.out.open_
  have DB := Lib.hid (fun k (hk : k < z.length) b (hb : rowOf (Ds k) = some b) => own_blk (hD1 k hk).2.1 b hb)
  have HD1 := Lib.hid hD1
  have HD2 := Lib.hid hD2
  have RK := Lib.hid (rows_ok z A2 c2 w5.heap.size w5 M5.out.at_ (Nat.le_refl _) (by have := RS.out.1; omega) (fun y hy => by have := RS.out.2 y hy; omega))
  clear hD1 hD2
  go_wp2_with fail
  ((with_reducible refine RK.out.mono ?_))
  rintro e w6 ⟨A6, c6, rfl, ho6, hb6⟩
  have B6 := Lib.hid (below_trans B5.out hb6)
  have G6 := Lib.hid (G5.out.below hb6)
  have C6 := Lib.hid ho6
  have S56 := Lib.hid hb6.size
  have S15 := Lib.hid (show w1.heap.size ≤ w5.heap.size from Nat.le_trans S12.out N5.out.size)
  have S01 := Lib.hid (show w.heap.size < w1.heap.size from G1.out.lt)
  have SP0 := Lib.hid (show Sp Ds ds z w1.heap.size w6 0 w6 from ⟨rfl, rfl, rfl, Nat.le_refl _, fun _ _ _ => rfl, fun k hk _ => (HD1.out k hk).2.1.below hb6⟩)
  have MC := Lib.hid (fun (i : Nat) (W : World) (hs : Sp Ds ds z w1.heap.size w6 i W) (k : Nat) (hk : k < z.length) => show ∃ g, A2 = some ⟨g, 0, none⟩ ∧ W.cell? ⟨g, k, none⟩ = some (.slice (Ds k) (z[k]'hk).length (ds k)) from by
    obtain ⟨⟨g, e1, e2, e3, e4⟩, _, _⟩ := HD1.out k hk
    refine ⟨g, e1, ?_⟩
    have h1 := hs.blk g (Nat.lt_of_lt_of_le e3 hb6.size) (fun k' hk' e => (HD1.out k' hk').2.2 g e (by rw [e1]; rfl))
    rw [World.cell?_of_block (w := w6) (w' := W) (a := ⟨g, k, none⟩) h1, hb6.cell (p := ⟨g, k, none⟩) e3]
    exact e4)
  have BB := Lib.hid (fun (i : Nat) (W : World) (hs : Sp Ds ds z w1.heap.size w6 i W) => show Below w1.heap.size w6 W from hs.below (Nat.le_trans S15.out hb6.size) (fun k hk b hb => (DB.out k hk b hb).1))
  clear hb6 ho6 RK
  go_wp2_with fail
  go_loopw [14] (fun i wr => ∃ k : Nat, k % 2 = 0 ∧ k ≤ z.length + 1 ∧ i = .int .i64 k ∧ Hid (Sp Ds ds z w1.heap.size w6 k wr)) (fun i _ => z.length + 2 - (intOf i).toNat)
  case atStart => exact ⟨0, rfl, by omega, rfl, SP0.out⟩
  case round =>
    obtain ⟨k, hk2, hkl, rfl, hs⟩ := hrel
    have ZB := RS.out.1
    by_cases hlt : k < z.length
    · obtain ⟨g, rfl, e0⟩ := MC.out k wr hs.out k hlt
      have SK := Lib.hid (spoil_ok wr x (hs.out.own k hlt (.inr (Nat.le_refl _))) (by have := RS.out.2 _ (List.getElem_mem hlt); omega))
      have ST := Lib.hid (fun (w' : World) (g : wr.grownBy w' (rowOf (Ds k))) => hs.out.step hlt hk2 HD2.out g)
      generalize z[k]'hlt = y at *
      go_wp2_with fail
      ((with_reducible refine SK.out.mono ?_))
      rintro e w7 ⟨rfl, g7⟩
      have S7 := Lib.hid (ST.out w7 g7)
      clear g7 e0 SK ST
      go_wp2_with fail
      go_roundw
      case rel => exact ⟨k + 2, by omega, by omega, by go_num, S7.out⟩
      case measure => simp [intOf]; omega
    · obtain ⟨ws, rfl⟩ : ∃ ws : World, ws = wr := ⟨_, rfl⟩
      have BS1 := Lib.hid (BB.out k ws hs.out)
      have BS := Lib.hid (show Below w.heap.size w ws from B6.out.trans (BS1.out.mono (Nat.le_of_lt S01.out)))
      have GS := Lib.hid (show G4 w.heap.size (.int .i64 t.kind) (.int .i64 t.a) (.int .i64 t.b) (.slice A t.subs.length c) ws from (BS1.out.block _ S01.out).trans G6.out)
      have CS := Lib.hid (show OwnRows ws w5.heap.size A6 c6 z from ownrows_keep C6.out hs.out.size (fun b hb hlt => hs.out.blk b hlt (fun k hk e => absurd (DB.out k hk b e).2 (by omega))))
      have HS := Lib.hid hs.out
      clear hs
      go_wp2_with fail
      go_loopw [15] (fun i wr => ∃ k : Nat, k % 2 = 1 ∧ k ≤ z.length + 1 ∧ i = .int .i64 k ∧ Hid (Below ws.heap.size ws wr)) (fun i _ => z.length + 2 - (intOf i).toNat)
      case atStart => exact ⟨1, rfl, by omega, rfl, Below.refl _ _⟩
      case round =>
        obtain ⟨k, hk2, hkl, rfl, hbb⟩ := hrel
        by_cases hlt : k < z.length
        · obtain ⟨g, rfl, e0⟩ := MC.out _ ws HS.out k hlt
          have p0 := (hbb.out.cell (p := ⟨g, k, none⟩) (World.block_lt_of_cell? _ _ e0)).trans e0
          obtain ⟨rb, ro, rfl, hrb, hrc⟩ := CS.out.at_ (by omega)
          obtain ⟨E, e', q0, _, q1⟩ := hrc k hlt
          have q0 := (hbb.out.cell (p := ⟨rb, ro + k, none⟩) hrb).trans q0
          have PA := (HS.out.own k hlt (.inl hk2)).at_.below hbb.out
          have YL : (z[k]'hlt).length ≤ maxLen := by have := RS.out.2 _ (List.getElem_mem hlt); simp only [maxLen]; omega
          have QA : At wr ws.heap.size E (z[k]'hlt) := q1.keep fun b hb => ⟨hb, fun o => hbb.out.cell (p := ⟨b, o, none⟩) hb⟩
          have SM := same_below (z[k]'hlt) (z[k]'hlt) (Ds k) E (ds k) e' ws.heap.size YL YL wr.drew PA.drew QA.drew
          rw [decide_eq_true (rfl : z[k]'hlt = z[k]'hlt)] at SM
          have SM := Lib.hid SM
          have g1 : g < wr.heap.size := World.block_lt_of_cell? _ _ p0
          have g2 : rb < wr.heap.size := World.block_lt_of_cell? _ _ q0
          clear e0 hrc q1 PA QA YL hrb
          generalize z[k]'hlt = y at *
          generalize Ds k = Dk at *
          generalize ds k = dk at *
          go_wp2_with fail
          go_region_held3 (fun w' => w'.cell? ⟨g, k, none⟩ = some (.slice Dk y.length dk) ∧ w'.cell? ⟨rb, ro + k, none⟩ = some (.slice E y.length e')) (first | exact ⟨p0, q0⟩ | exact ⟨p2, q2⟩) (((with_reducible refine SM.out.mono ?_); rintro e w7 ⟨rfl, hb7⟩; have p2 := (hb7.cell (p := ⟨g, k, none⟩) g1).trans p0; have q2 := (hb7.cell (p := ⟨rb, ro + k, none⟩) g2).trans q0))
          have B7 := Lib.hid (show Below ws.heap.size ws w7 from hbb.out.trans (Below.mono (w := wr) ⟨hb7.os, hb7.tape, hb7.output, hb7.size, hb7.block⟩ hbb.out.size))
          clear hb7 p0 q0 p2 q2 SM
          go_wp2_with fail
          go_roundw
          case rel => exact ⟨k + 2, by omega, by omega, by go_num, B7.out⟩
          case measure => simp [intOf]; omega
        · have BT := Lib.hid (below_trans BS.out hbb.out)
          have GT := Lib.hid (GS.out.below hbb.out)
          have CR := Lib.hid (show RowsWAt wr wr.heap.size A6 z from ((CS.out.at_.below hbb.out).more hbb.out.size).weak)
          obtain ⟨k0, k1, k2, k3⟩ := GT.out.facts
          go_wp2_with fail
          ((with_reducible refine (RO.out wr BT.out L lc (HL.out wr BT.out) LN.out.2.2).mono ?_))
          rintro e w8 ⟨A8, c8, rfl, ho8, hb8⟩
          have B8 := Lib.hid (below_trans BT.out hb8)
          have SR := samerows z z A8 A6 c8 c6 w8.heap.size w8 ho8.at_.weak ((CR.out.below hb8).more hb8.size) (Nat.le_refl _) (by omega) (by omega) (fun y hy => by have := RS.out.2 y hy; simp only [maxLen]; omega) (fun y hy => by have := RS.out.2 y hy; simp only [maxLen]; omega)
          rw [decide_eq_true (rfl : z = z)] at SR
          have SR := Lib.hid SR
          clear hb8 ho8 k0 k1 k2 k3
          go_wp2_with fail
          ((with_reducible refine SR.out.mono ?_))
          rintro e w9 ⟨rfl, hb9⟩
          have B9 := Lib.hid (below_trans B8.out hb9)
          clear hb9 SR
          go_wp2_with fail
          ((with_reducible refine (TS.out w9 B9.out).mono ?_))
          rintro e w10 ⟨rfl, hb10⟩
          have B10 := Lib.hid (below_trans B9.out hb10)
          clear hb10
          go_wp2_with fail
          go_ret
          exact ⟨rfl, B10.out⟩
end Go.Proofs.YtfpbegagblekiaaDoor.RoOwnLaw
