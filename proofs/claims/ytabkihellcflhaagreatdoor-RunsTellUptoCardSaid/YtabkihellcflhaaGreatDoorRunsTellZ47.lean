/- RunsTell, part 47 of the proof: The document's MostOf along a draw. · Small laws on memory: what is laid behind a call's own blocks; a block that holds a seed. · The document's own answers on random numbers, as the statements write them: Mix, Step, BelowOf (for seats without SplitOf). Conditions: none. · Contract of the document's own DrawOf. Condition: the sizes. · The document's own SplitOf (the rest: RefRngD). Conditions: none. -/
import Derived.Test.YtabkihellcflhaaGreatDoorRunsTellZ46
import Derived.Test.YtabkihellcflhaaGreatDoorRunsTellZ40
import Derived.Test.YtabkihellcflhaaGreatDoorRunsTellZ14
import Derived.Test.YtabkihellcflhaaGreatDoorRunsTellZ17
import Derived.Deep.RegionHeld3
import Derived.StillTailTactics
/- The document's MostOf along a draw. -/
namespace Go.Proofs.YtabkihellcflhaaGreatDoor.Gens
open Go.RowKit Lists Ints Vals Rng
set_option linter.unusedVariables false

theorem most_at {g : Gn} {s : Int × Int} {c : List Int} (h : NxC (play mendC g) s c) (i : Nat) (hi : i < c.length) :
    ∃ m : Int, 0 ≤ m ∧ m ≤ 1000 ∧ mostG g (c.take i) i = m ∧ c.getD i 0 = belowK (adv i s).1 (adv i s).2 (m + 1) := by
  obtain ⟨m, c', v', r', q0, q1, q2, q3⟩ := h i hi []
  refine ⟨m, q0, q1, ?_, q2⟩
  have ht : (c.take i).take i = c.take i := by rw [List.take_take, Nat.min_self]
  have hl : (c.take i).length = i := by rw [List.length_take]; omega
  unfold mostG
  rw [ht, q3]
  have hn : ¬ (c.take i ++ m :: c').length ≤ i := by rw [List.length_append, hl, List.length_cons]; omega
  simp only [if_neg hn]
  rw [List.getD, List.getElem?_append_right (by omega), hl, Nat.sub_self]
  rfl
theorem most_end {g : Gn} {c : List Int} {v : Tr} (h : ∀ r, play mendC g (c ++ r) = .ok (c, v, r)) : mostG g c c.length = -1 := by
  unfold mostG
  rw [List.take_length, h]
  simp
end Go.Proofs.YtabkihellcflhaaGreatDoor.Gens

/- Small laws on memory: what is laid behind a call's own blocks; a block that holds a seed. -/
namespace Go.Proofs.YtabkihellcflhaaGreatDoor.Rng
open Go.RowKit

/-- Block b holds a seed, and may be written. -/
structure InT (b : Nat) (x y : Int) (w : World) : Prop where
  c0 : w.cell? ⟨b, 0, none⟩ = some (.int .u64 x)
  c1 : w.cell? ⟨b, 1, none⟩ = some (.int .u64 y)
  f0 : w.frozen? ⟨b, 0, none⟩ = false
  f1 : w.frozen? ⟨b, 1, none⟩ = false
  lt : b < w.heap.size

theorem InT.below {b : Nat} {x y : Int} {w w' : World} (h : InT b x y w) (hb : Below w.heap.size w w') : InT b x y w' :=
  ⟨(hb.cell (p := ⟨b, 0, none⟩) h.lt).trans h.c0, (hb.cell (p := ⟨b, 1, none⟩) h.lt).trans h.c1, (hb.frozen (p := ⟨b, 0, none⟩) h.lt).trans h.f0, (hb.frozen (p := ⟨b, 1, none⟩) h.lt).trans h.f1, Nat.lt_of_lt_of_le h.lt hb.size⟩
theorem InT.set {b : Nat} {x y : Int} {w : World} (h : InT b x y w) (x' y' : Int) (o : Obj) : InT b x' y' (((w.setCell ⟨b, 0, none⟩ (.int .u64 x')).setCell ⟨b, 1, none⟩ (.int .u64 y')).alloc o) := by
  have ne : (⟨b, 0, none⟩ : Addr) ≠ ⟨b, 1, none⟩ := by simp
  have lt := h.lt
  have k0 : (w.setCell ⟨b, 0, none⟩ (.int .u64 x')).cell? ⟨b, 0, none⟩ = some (.int .u64 x') := World.cell?_setCell_same w _ _ h.c0
  have k1 : (w.setCell ⟨b, 0, none⟩ (.int .u64 x')).cell? ⟨b, 1, none⟩ = some (.int .u64 y) := (World.cell?_setCell_other w _ _ _ ne).trans h.c1
  have q0 : ((w.setCell ⟨b, 0, none⟩ (.int .u64 x')).setCell ⟨b, 1, none⟩ (.int .u64 y')).cell? ⟨b, 0, none⟩ = some (.int .u64 x') := (World.cell?_setCell_other _ _ _ _ ne.symm).trans k0
  have q1 : ((w.setCell ⟨b, 0, none⟩ (.int .u64 x')).setCell ⟨b, 1, none⟩ (.int .u64 y')).cell? ⟨b, 1, none⟩ = some (.int .u64 y') := World.cell?_setCell_same _ _ _ k1
  have z : ((w.setCell ⟨b, 0, none⟩ (.int .u64 x')).setCell ⟨b, 1, none⟩ (.int .u64 y')).heap.size = w.heap.size := by simp [World.setCell]
  have bl : Below ((w.setCell ⟨b, 0, none⟩ (.int .u64 x')).setCell ⟨b, 1, none⟩ (.int .u64 y')).heap.size ((w.setCell ⟨b, 0, none⟩ (.int .u64 x')).setCell ⟨b, 1, none⟩ (.int .u64 y')) (((w.setCell ⟨b, 0, none⟩ (.int .u64 x')).setCell ⟨b, 1, none⟩ (.int .u64 y')).alloc o) := (Below.refl _ _).alloc (Nat.le_refl _) _
  exact InT.below ⟨q0, q1, by simp [h.f0], by simp [h.f1], by rw [z]; exact lt⟩ bl

theorem InT.fresh {w : World} {b T : Nat} (x y : Int) (h : w.heap.size = b) : InT b x y (w.alloc (.cells #[.int .u64 x, .int .u64 y] T)) := by
  subst h
  exact ⟨by simp, by simp, by simp, by simp, by simp⟩
theorem InT.alloc {b : Nat} {x y : Int} {w : World} (h : InT b x y w) (o : Obj) : InT b x y (w.alloc o) := h.below ((Below.refl _ _).alloc (Nat.le_refl _) _)
theorem InT.belowB {B b : Nat} {x y : Int} {w w' : World} (h : InT b x y w) (hb : Below B w w') (hB : b < B) : InT b x y w' :=
  ⟨(hb.cell (p := ⟨b, 0, none⟩) hB).trans h.c0, (hb.cell (p := ⟨b, 1, none⟩) hB).trans h.c1, (hb.frozen (p := ⟨b, 0, none⟩) hB).trans h.f0, (hb.frozen (p := ⟨b, 1, none⟩) hB).trans h.f1, Nat.lt_of_lt_of_le h.lt hb.size⟩
theorem InT.set0 {b : Nat} {x y : Int} {w : World} (h : InT b x y w) (x' y' : Int) : InT b x' y' ((w.setCell ⟨b, 0, none⟩ (.int .u64 x')).setCell ⟨b, 1, none⟩ (.int .u64 y')) := by
  have ne : (⟨b, 0, none⟩ : Addr) ≠ ⟨b, 1, none⟩ := by simp
  have k0 : (w.setCell ⟨b, 0, none⟩ (.int .u64 x')).cell? ⟨b, 0, none⟩ = some (.int .u64 x') := World.cell?_setCell_same w _ _ h.c0
  have k1 : (w.setCell ⟨b, 0, none⟩ (.int .u64 x')).cell? ⟨b, 1, none⟩ = some (.int .u64 y) := (World.cell?_setCell_other w _ _ _ ne).trans h.c1
  exact ⟨(World.cell?_setCell_other _ _ _ _ ne.symm).trans k0, World.cell?_setCell_same _ _ _ k1, by simp [h.f0], by simp [h.f1], by have := h.lt; simpa [World.setCell] using this⟩
end Go.Proofs.YtabkihellcflhaaGreatDoor.Rng

/- The document's own answers on random numbers, as the statements write them: Mix, Step, BelowOf (for seats without SplitOf). Conditions: none. -/
namespace Go.Proofs.YtabkihellcflhaaGreatDoor.Rng
open Go.RowKit

theorem mixR_any (x : Int) (w : World) :
    Calls Tryz.prog 49 #[.int .u64 x] w fun e w' => e = .returned (.int .u64 (mixI x)) ∧ w = w' := by
  go_enter Tryz.func49, Tryz.ntmps49
  go_wp2
  go_ret
  exact ⟨rfl, rfl⟩

theorem mixR_same (x : Int) (w : World) :
    Calls Tryz.prog 49 #[.int .u64 x] w fun e w' => e = .returned (.int .u64 (mixI x)) ∧ w' = w :=
  (mixR_any x w).mono fun _ _ ⟨h1, h2⟩ => ⟨h1, h2.symm⟩

def stepW (a g : Int) (w : World) : World := (w.alloc (.cells #[.int .u64 a, .int .u64 g] 65)).alloc (.cells #[.int .u64 (plus a g), .int .u64 g] 65)
theorem step_exact (a g : Int) (w : World) :
    Calls Tryz.prog 48 #[.agg #[.int .u64 a, .int .u64 g]] w fun e w' => e = .returned (.agg #[.int .u64 (plus a g), .int .u64 g]) ∧ stepW a g w = w' := by
  go_enter Tryz.func48, Tryz.ntmps48
  go_wp2
  exact bodyPost_ret (v := .agg #[.int .u64 (plus a g), .int .u64 g]) (by simp [results, Tryz.results48, go_sem, plus]) rfl ⟨rfl, rfl⟩
theorem step_any (a g : Int) (w : World) :
    Calls Tryz.prog 48 #[.agg #[.int .u64 a, .int .u64 g]] w fun e w' => e = .returned (.agg #[.int .u64 (plus a g), .int .u64 g]) ∧ Below w.heap.size w w' :=
  (step_exact a g w).mono fun _ _ ⟨h1, h2⟩ => ⟨h1, h2 ▸ ((Below.refl _ _).alloc (Nat.le_refl _) _).alloc (by simp) _⟩

theorem field0 (x y : Int) (w : World) : (Instr.field 65 (.agg #[.int .u64 x, .int .u64 y]) 0).run Tryz.prog w = .ok (.int .u64 x) w := by kernel_rfl
theorem seedEq (x y : Int) (w : World) : (binOp .eql 65 (.agg #[.int .u64 x, .int .u64 y]) (.agg #[.int .u64 x, .int .u64 y])).run Tryz.prog w = .ok (.bool true) w := by simp [go_sem]
theorem belowR_any (a g n : Int) (h1 : 1 ≤ n) (h2 : n ≤ 2147483647) (w : World) :
    Calls Tryz.prog 51 #[.agg #[.int .u64 a, .int .u64 g], .int .i64 n] w fun e w' => e = .returned (.int .i64 (belowK a g n)) ∧ Below w.heap.size w w' := by
  have hf0 := field0
  go_enter Tryz.func51, Tryz.ntmps51
  go_wp2_with fail
  refine (step_any _ _ _).mono ?_
  rintro e w1 ⟨rfl, hb⟩
  go_wp2_with fail
  refine (mixR_any _ _).mono ?_
  rintro e w2 ⟨rfl, rfl⟩
  go_wp2
  go_ret
  exact ⟨rfl, after hb⟩
end Go.Proofs.YtabkihellcflhaaGreatDoor.Rng

/- Contract of the document's own DrawOf. Condition: the sizes. -/
namespace Go.Proofs.YtabkihellcflhaaGreatDoor.Gens
open Go.RowKit Lists Ints Vals Rng
set_option linter.unusedVariables false

theorem own_cap {w : World} {base c : Nat} {A : Option Addr} {z : List Int} (h : Own w base A c z) : z.length ≤ c := by
  rcases h.2 with ⟨he, h0⟩ | ⟨g, cap, cur, he, _, _, h1, _⟩
  · omega
  · have e : c = cap := by injection he
    omega
set_option maxHeartbeats 400000 in
set_option maxRecDepth 100000 in
theorem drawof_any (n : Nat) (g : Gn) (A : Option Addr) (c B : Nat) (a gm : Int) (w : World) (hg : GAt w (GBel B) n (gv g A c) g) (hr : Right g) (hs : g.size ≤ 30) (hB : B ≤ w.heap.size)
    (hq : longG g ≤ 4294967294) {cs : List Int} {v : Tr} {s' : Int × Int} (h : play drawC g (a, gm) = .ok (cs, v, s')) :
    Calls Tryz.prog 26 #[gv g A c, .agg #[.int .u64 a, .int .u64 gm]] w fun e w' => ∃ (L : Option Addr) (lc : Nat), e = .returned (.slice L cs.length lc) ∧ Own w' (w.heap.size + 2) L lc cs ∧ Below w.heap.size w w' := by
  obtain ⟨_, d2, d3⟩ := draw_next hr hs h
  have hlen := play_long draw_bounded g hr _ _ _ _ h
  have ME := Lib.hid (most_end d2)
  have MA := Lib.hid (fun i hi => most_at d3 i hi)
  have LN := Lib.hid (show cs.length ≤ 4294967294 by omega)
  have MO := Lib.hid (fun (w1 : World) (b1 : Below w.heap.size w w1) (l : List Int) (L : Option Addr) (lc : Nat) (ho : At w1 w1.heap.size L l) (hl : l.length ≤ 4294967295) (hc : l.length ≤ lc) =>
    mostof_any plays_all n g A c l L lc l.length w1.heap.size w1 ((hg.below (b1.mono hB)).more (Nat.le_trans hB b1.size)) hr (by omega) ho (Nat.le_refl _) (by omega) hl (Nat.le_refl _) hc)
  have H0 := Lib.hid (show Below w.heap.size w ((w.alloc (gc g A c)).alloc (.cells #[.int .u64 a, .int .u64 gm] 65)) from bel2 w _ _ (Nat.le_refl _))
  have G0 := Lib.hid (show G4 w.heap.size (.int .i64 g.kind) (.int .i64 g.a) (.int .i64 g.b) (.slice A g.subs.length c) ((w.alloc (gc g A c)).alloc (.cells #[.int .u64 a, .int .u64 gm] 65)) from new12 w _ _)
  have S0 := Lib.hid (show SB (w.heap.size + 1) (a, gm) ((w.alloc (gc g A c)).alloc (.cells #[.int .u64 a, .int .u64 gm] 65)) from new22 w _ _)
  clear h d2 d3 hg hr hs hB hq hlen
  go_enter Tryz.func26, Tryz.ntmps26
  go_wp2_with fail
  go_loopw [5] (fun s wr => ∃ (i : Nat) (L : Option Addr) (lc : Nat), i ≤ cs.length ∧ s = .slice L i lc ∧ Hid (Own wr (w.heap.size + 2) L lc (cs.take i)) ∧ Hid (SB (w.heap.size + 1) (adv i (a, gm)) wr) ∧ Hid (Below w.heap.size w wr) ∧ Hid (G4 w.heap.size (.int .i64 g.kind) (.int .i64 g.a) (.int .i64 g.b) (.slice A g.subs.length c) wr) ∧ Hid (w.heap.size + 2 ≤ wr.heap.size)) (fun s _ => cs.length - (match s with | .slice _ n _ => n | _ => 0))
  case atStart => exact ⟨0, none, 0, Nat.zero_le _, rfl, Own.none, S0.out, H0.out, G0.out, (show _ ≤ _ by simp)⟩
  case round =>
    obtain ⟨i, L, lc, hi, rfl, HO, HS, HW, HG, HZ⟩ := hrel
    have LT : (cs.take i).length = i := by rw [List.length_take]; omega
    have M1 := MO.out wr HW.out (cs.take i) L lc HO.out.at_ (by have := LN.out; omega) (own_cap HO.out)
    rw [LT] at M1
    obtain ⟨k0, k1, k2, k3⟩ := HG.out.facts
    by_cases hlt : i < cs.length
    · obtain ⟨m, m0, m1, hm, hx⟩ := MA.out i hlt
      have M2 := Lib.hid (fun (w1 : World) (b1 : Below wr.heap.size wr w1) => MO.out w1 (HW.out.trans (b1.mono HW.out.size)) (cs.take i) L lc (HO.out.below b1).at_ (by have := LN.out; omega) (own_cap HO.out))
      rw [LT, hm] at M2
      rw [hm] at M1
      have M1 := Lib.hid M1
      have HX := Lib.hid (And.intro hm hx)
      have LTH := Lib.hid LT
      clear hm hx LT
      go_wp2_with fail
      refine M1.out.mono ?_
      rintro e w1 ⟨rfl, b1⟩
      have B1 := Lib.hid b1
      clear b1 k0 k1 k2 k3
      obtain ⟨k0, k1, k2, k3⟩ := (HG.out.below B1.out).facts
      have gm0 : decide (m ≥ 0) = true := decide_eq_true m0
      have gm1 : m ≥ 0 := m0
      go_wp2_with fail
      refine (M2.out w1 B1.out).mono ?_
      rintro e w2 ⟨rfl, b2⟩
      have B2 := Lib.hid (Ints.on B1.out b2)
      clear b2 k0 k1 k2 k3
      have S2 : Hid (SB _ _ w2) := (B2.out.block _ HS.out.lt).trans HS.out
      obtain ⟨s0, s1, f0, f1⟩ := S2.out.facts
      go_wp2_with fail
      refine (belowR_any _ _ (m + 1) (by omega) (by omega) w2).mono ?_
      rintro e w3 ⟨rfl, b3⟩
      have B3 := Lib.hid (Ints.on B2.out b3)
      clear b3 s0 s1 f0 f1
      obtain ⟨y, hy⟩ : ∃ y, y = cs.getD i 0 := ⟨_, rfl⟩
      rw [← HX.out.2, ← hy]
      have HY := Lib.hid hy
      clear hy
      have ZA := Lib.hid (show (w3.alloc (.cells #[.int .i64 y] 3)).heap.size = w3.heap.size + 1 by simp)
      have O3 := Lib.hid (HO.out.below B3.out)
      have Z3 := Lib.hid (Nat.le_trans HZ.out B3.out.size)
      have LI : i + 1 ≤ 17592186044416 := by have := LN.out; omega
      go_wp2_with (
        at_builtin
        go_loud (
          refine wpList_append_ints rfl (.tmp 19) (.tmp 23) rfl (w.heap.size + 2) lc L (cs.take i) (O3.out.below (bel1 _ _)) (w3.heap.size + 1) (some ⟨w3.heap.size, 0, none⟩) 1 [y]
            (lone_at w3.heap.size _ _ (by simp)) (by rw [LTH.out]; rfl) rfl (by rw [LTH.out]; exact LI) (by have := Z3.out; have := ZA.out; omega) ?_
          intro A4 c4 w4 z4 hz4 own4 g4 r4
          have Z4 := Lib.hid (show z4 = cs.take (i + 1) by rw [hz4.out, HY.out, List.take_add_one, List.getD, List.getElem?_eq_getElem hlt]; rfl)
          have LZ := Lib.hid (show z4.length = i + 1 by rw [Z4.out, List.length_take]; omega)
          have K4 := Lib.hid (show Below wr.heap.size wr w4 ∨ True from .inr trivial)
          have N3 := bel1 w3 (.cells #[.int .i64 y] 3)
          have R4 : ∀ q, q < w.heap.size + 2 → w4.heap[q]? = wr.heap[q]? := fun q hq => by
            have h1 := Z3.out
            have h2 := HZ.out
            exact (g4.block q (by have := ZA.out; omega) (fun e => by have := O3.out.ge q e.symm; omega)).trans ((N3.block q (by omega)).trans (B3.out.block q (by omega)))
          have S4 : Hid (SB (w.heap.size + 1) (adv i (a, gm)) w4) := (R4 _ (by omega)).trans HS.out
          have G4' : Hid (G4 w.heap.size (.int .i64 g.kind) (.int .i64 g.a) (.int .i64 g.b) (.slice A g.subs.length c) w4) := (R4 _ (by omega)).trans HG.out
          have W4 := Lib.hid (((HW.out.trans (B3.out.mono HW.out.size)).trans (N3.mono (Nat.le_trans HW.out.size B3.out.size))).grown g4 (by have := Z3.out; have := ZA.out; omega) (fun q e => by have := O3.out.ge q e; omega))
          have O4 := Lib.hid own4
          have ZZ := Lib.hid (show w.heap.size + 2 ≤ w4.heap.size by have := g4.size; have := Z3.out; have := ZA.out; omega)
          clear own4 g4 r4 N3 R4 hz4
          obtain ⟨s0, s1, f0, f1⟩ := S4.out.facts))
      refine (step_any _ _ w4).mono ?_
      rintro e w5 ⟨rfl, b5⟩
      have B5 := Lib.hid b5
      clear b5 s0 s1 f0 f1
      have S5 : Hid (SB (w.heap.size + 1) (adv i (a, gm)) w5) := (B5.out.block _ S4.out.lt).trans S4.out
      obtain ⟨s0, s1, f0, f1⟩ := S5.out.facts
      have GR : ∀ (x y : Value), w5.grownBy ((w5.setCell ⟨w.heap.size + 1, 0, none⟩ x).setCell ⟨w.heap.size + 1, 1, none⟩ y) (some (w.heap.size + 1)) := fun x y => gr_set (gr_set (gr_refl _ w5) 0 x) 1 y
      have GR := Lib.hid GR
      go_wp2_with fail
      go_roundw
      case rel =>
        have h5 := B5.out.size
        refine ⟨i + 1, A4, c4, by omega, by rw [LZ.out], ?_, ?_, (W4.out.trans (B5.out.mono W4.out.size)).grown (GR.out _ _) (Nat.le_trans W4.out.size B5.out.size) (fun q e => by have e := Option.some.inj e; omega), ?_, ?_⟩
        · rw [← Z4.out]
          exact (O4.out.below B5.out).grown (GR.out _ _) (fun q e e2 => by have h := O4.out.ge q e; have e2 := Option.some.inj e2; omega)
        · rw [adv_add]
          exact S5.out.put _ _
        · have hl := G4'.out.lt
          exact ((GR.out _ _).block w.heap.size (by omega) (fun e => by have e := Option.some.inj e; omega)).trans ((B5.out.block w.heap.size hl).trans G4'.out)
        · have := (GR.out (.int .u64 (plus (adv i (a, gm)).1 (adv i (a, gm)).2)) (.int .u64 (adv i (a, gm)).2)).size
          have := ZZ.out
          show w.heap.size + 2 ≤ _
          omega
      case measure =>
        have := LZ.out
        simp only []
        omega
    · have hie : i = cs.length := by omega
      subst hie
      have hmm : mostG g (cs.take cs.length) cs.length = -1 := by rw [List.take_length]; exact ME.out
      rw [hmm] at M1
      have M1 := Lib.hid M1
      have LTH := Lib.hid LT
      clear LT hmm
      have gq : decide ((-1 : Int) ≥ 0) = false := by decide
      go_wp2_with fail
      refine M1.out.mono ?_
      rintro e w1 ⟨rfl, b1⟩
      have B1 := Lib.hid b1
      clear b1 k0 k1 k2 k3
      go_wp2_with fail
      go_ret
      have OE := HO.out.below B1.out
      rw [List.take_length] at OE
      exact ⟨L, lc, rfl, OE, HW.out.trans (B1.out.mono HW.out.size)⟩
end Go.Proofs.YtabkihellcflhaaGreatDoor.Gens

/- The document's own SplitOf (the rest: RefRngD). Conditions: none. -/
namespace Go.Proofs.YtabkihellcflhaaGreatDoor.Rng
open Go.RowKit

set_option maxHeartbeats 4000000 in
theorem splitR_any (a g : Int) (w : World) :
    Calls Tryz.prog 25 #[.agg #[.int .u64 a, .int .u64 g]] w fun e w' => e = .returned (.tuple #[.agg #[.int .u64 (plus (plus a g) g), .int .u64 g], .agg #[.int .u64 (mixI (plus a g)), .int .u64 (odd (mixI (plus (plus a g) g)))]]) ∧ Below w.heap.size w w' := by
  go_enter Tryz.func25, Tryz.ntmps25
  go_wp2_with fail
  refine (step_exact _ _ _).mono ?_
  rintro e w1 ⟨rfl, rfl⟩
  unfold stepW
  go_wp2_with fail
  refine (step_exact _ _ _).mono ?_
  rintro e w2 ⟨rfl, rfl⟩
  unfold stepW
  go_wp2_with fail
  go_region_with (go_at_call 49; refine (mixR_any _ _).mono ?_; rintro e w' ⟨rfl, rfl⟩)
  all_goals go_wp2
  all_goals exact bodyPost_ret (v := .tuple #[.agg #[.int .u64 (plus (plus a g) g), .int .u64 g], .agg #[.int .u64 (mixI (plus a g)), .int .u64 (odd (mixI (plus (plus a g) g)))]]) (by simp [results, Tryz.results25, go_sem, odd]) rfl ⟨rfl, by repeat (first | exact Below.refl _ _ | refine Below.drew ?_ | refine Below.alloc ?_ (by simp <;> omega) _)⟩
end Go.Proofs.YtabkihellcflhaaGreatDoor.Rng
