/- ShrinkLeast, part 48 of the proof: Expressions that the statements build, of constants. Conditions: the program's table. · The program's Less (package rose). Conditions: the sizes. · The program's Less at a tape of its generator, as the statements want it. Conditions: the sizes. · A generator without parts, in memory. -/
import Derived.Test.YtfpbegagblekiaaDoorShrinkLeastZ34
import Derived.Test.YtfpbegagblekiaaDoorShrinkLeastZ45
import Derived.Test.YtfpbegagblekiaaDoorShrinkLeastZ24
import Derived.Test.YtfpbegagblekiaaDoorShrinkLeastZ3
/- Expressions that the statements build, of constants. Conditions: the program's table. -/
namespace Go.Proofs.YtfpbegagblekiaaDoor.Exprs
open Go.RowKit Go.ChangeShapes Go.WideShapes Lists Gens Rng Vals
set_option linter.unusedVariables false

theorem eat_leaf {w : World} {S : Nat → Prop} {n : Nat} (k a b : Int) (hk : EWf k) (ha : EWf a) (c : Nat) : EAt w S (n + 1) (.agg #[.int .i64 k, .int .i64 a, .slice none 0 c]) (.node k a b []) :=
  ⟨⟨hk, ha⟩, none, c, rfl, Nat.zero_le _, fun hp => by simp [Gn.subs] at hp⟩
/-- a new row of one part, or two -/
theorem eat_one {w : World} {b n : Nat} {x : Gn} {A : Option Addr} {c cc : Nat} {T : TypeId} (k a : Int) (hk : EWf k) (ha : EWf a) (hr : w.heap[b]? = some (.cells #[.int .i64 x.kind, .int .i64 x.a, .slice A x.subs.length c] T (0, 0)))
    (hx : EAt w (EBel w.heap.size) n (ev x A c) x) (hc : 1 ≤ cc) : EAt w (EBel w.heap.size) (n + 1) (.agg #[.int .i64 k, .int .i64 a, .slice (some ⟨b, 0, none⟩) 1 cc]) (.node k a 0 [x]) := by
  refine ⟨⟨hk, ha⟩, some ⟨b, 0, none⟩, cc, rfl, hc, fun _ => ⟨b, 0, rfl, (Array.getElem?_eq_some_iff.1 hr).1, fun j hj => ?_⟩⟩
  obtain rfl : j = 0 := by simp [Gn.subs] at hj; exact hj
  exact ⟨_, _, _, by rw [Lib.cell_of_heap hr]; rfl, by rw [Lib.cell_of_heap hr]; rfl, by rw [Lib.cell_of_heap hr]; rfl, hx⟩
theorem eat_two {w : World} {b n : Nat} {x y : Gn} {A D : Option Addr} {c d cc : Nat} {T : TypeId} (k a : Int) (hk : EWf k) (ha : EWf a) (hr : w.heap[b]? = some (.cells #[.int .i64 x.kind, .int .i64 x.a, .slice A x.subs.length c, .int .i64 y.kind, .int .i64 y.a, .slice D y.subs.length d] T (0, 0)))
    (hx : EAt w (EBel w.heap.size) n (ev x A c) x) (hy : EAt w (EBel w.heap.size) n (ev y D d) y) (hc : 2 ≤ cc) : EAt w (EBel w.heap.size) (n + 1) (.agg #[.int .i64 k, .int .i64 a, .slice (some ⟨b, 0, none⟩) 2 cc]) (.node k a 0 [x, y]) := by
  refine ⟨⟨hk, ha⟩, some ⟨b, 0, none⟩, cc, rfl, hc, fun _ => ⟨b, 0, rfl, (Array.getElem?_eq_some_iff.1 hr).1, fun j hj => ?_⟩⟩
  have : j = 0 ∨ j = 1 := by simp [Gn.subs] at hj; omega
  rcases this with rfl | rfl
  · exact ⟨_, _, _, by rw [Lib.cell_of_heap hr]; rfl, by rw [Lib.cell_of_heap hr]; rfl, by rw [Lib.cell_of_heap hr]; rfl, hx⟩
  · exact ⟨_, _, _, by rw [Lib.cell_of_heap hr]; rfl, by rw [Lib.cell_of_heap hr]; rfl, by rw [Lib.cell_of_heap hr]; rfl, hy⟩
set_option maxHeartbeats 1000000 in
set_option maxRecDepth 100000 in
theorem asked_ok (w : World) (hsub : Subs w) : Calls Tryd.prog 17 #[] w fun e w' => e = .returned (.bool true) ∧ Below w.heap.size w w' := by
  have hb : Below w.heap.size w (w.alloc (.cells #[.int .i64 2, .int .i64 0, .slice none 0 0, .int .i64 1, .int .i64 2, .slice none 0 0] 45)) := (Below.refl _ _).alloc (Nat.le_refl _) _
  have hr := eheap_new w (.cells #[.int .i64 2, .int .i64 0, .slice none 0 0, .int .i64 1, .int .i64 2, .slice none 0 0] 45)
  have hx := eat_two (x := .node 2 0 0 []) (y := .node 1 2 0 []) (n := 1) 5 0 (by decide) (by decide) hr (eat_leaf 2 0 0 (by decide) (by decide) 0) (eat_leaf 1 2 0 (by decide) (by decide) 0) (Nat.le_refl 2)
  have hv : TAt (w.alloc (.cells #[.int .i64 2, .int .i64 0, .slice none 0 0, .int .i64 1, .int .i64 2, .slice none 0 0] 45)) (Bel (w.alloc (.cells #[.int .i64 2, .int .i64 0, .slice none 0 0, .int .i64 1, .int .i64 2, .slice none 0 0] 45)).heap.size) 1 (vv (.node false 3 []) none 0) (.node false 3 []) := ⟨by decide, none, 0, rfl, fun hp => by simp [Tr.items] at hp⟩
  have E1 := eval_any (g := .node 5 0 0 [.node 2 0 0 [], .node 1 2 0 []]) (t := .node false 3 []) _ hx hv (Nat.le_refl _) (by decide) (by decide) (hsub.below hb)
  rw [show evalN (.node 5 0 0 [.node 2 0 0 [], .node 1 2 0 []]) (.node false 3 []) = 5 by decide +kernel, show evalF (.node 5 0 0 [.node 2 0 0 [], .node 1 2 0 []]) (.node false 3 []) = 0 by decide +kernel, errOf_ok] at E1
  have E1 := Lib.hid E1
  have HB := Lib.hid hb
  clear hb hr hx hv hsub
  go_enter Tryd.func17, Tryd.ntmps17
  go_wp2_with fail
  refine E1.out.mono ?_
  rintro e w1 ⟨rfl, b1⟩
  have B1 := Lib.hid (on HB.out b1)
  clear b1
  go_wp2_with fail
  go_ret
  exact ⟨rfl, B1.out⟩
/-- a number of its own, of the value of nothing -/
theorem seven_ok (w : World) (hsub : Subs w) : Calls Tryd.prog 29 #[.agg #[.int .i64 1, .int .i64 7, .slice none 0 0], .agg #[.bool false, .int .i64 0, .slice none 0 0]] w fun e w' => e = .returned (.tuple #[.int .i64 7, .nilIface]) ∧ Below w.heap.size w w' := by
  have hv : TAt w (Bel w.heap.size) 1 (vv (.node false 0 []) none 0) (.node false 0 []) := ⟨by decide, none, 0, rfl, fun hp => by simp [Tr.items] at hp⟩
  have hx : EAt w (EBel w.heap.size) 1 (ev (.node 1 7 0 []) none 0) (.node 1 7 0 []) := eat_leaf 1 7 0 (by decide) (by decide) 0
  have E1 := eval_any (g := .node 1 7 0 []) (t := .node false 0 []) w hx hv (Nat.le_refl _) (by decide) (by decide) hsub
  rw [show evalN (.node 1 7 0 []) (.node false 0 []) = 7 by decide +kernel, show evalF (.node 1 7 0 []) (.node false 0 []) = 0 by decide +kernel, errOf_ok] at E1
  exact E1
end Go.Proofs.YtfpbegagblekiaaDoor.Exprs

/- The program's Less (package rose). Conditions: the sizes. -/
namespace Go.Proofs.YtfpbegagblekiaaDoor.Gens
open Go.RowKit Lists Ints Vals
set_option linter.unusedVariables false

/-- the box of a slice of lists -/
def RB (p : Nat) (A : Option Addr) (n c : Nat) (w : World) : Prop := w.heap[p]? = some (.cells #[.slice A n c] 29 (0, 0))
theorem RB.cell {p n c : Nat} {A : Option Addr} {w : World} (h : RB p A n c w) : w.cell? ⟨p, 0, none⟩ = some (.slice A n c) := by rw [Lib.cell_of_heap h]; rfl
theorem RB.free {p n c : Nat} {A : Option Addr} {w : World} (h : RB p A n c w) : w.frozen? ⟨p, 0, none⟩ = false := Lib.frozen_of_heap h 0
theorem RB.lt {p n c : Nat} {A : Option Addr} {w : World} (h : RB p A n c w) : p < w.heap.size := (Array.getElem?_eq_some_iff.1 h).1
theorem RB.put {p n c : Nat} {A : Option Addr} {w : World} (h : RB p A n c w) (A' : Option Addr) (n' c' : Nat) : RB p A' n' c' (w.setCell ⟨p, 0, none⟩ (.slice A' n' c')) := by
  unfold RB at h ⊢
  simp [World.setCell, Array.getElem?_modify, h]
/-- what has been noted -/
def Noted (q : Nat) (X : Nat → Prop) (z : List (List Int)) (w : World) : Prop :=
  ∃ (A : Option Addr) (c : Nat), RB q A z.length c w ∧ OwnRowsD w (q + 1) A c z ∧ ∀ b, X b ↔ (b = q ∨ rowOf A = some b)

set_option maxHeartbeats 2000000 in
set_option maxRecDepth 100000 in
theorem see_add (t : Gn) (l : List Int) (q : Nat) : SeeB 41 #[.pointer (some ⟨q, 0, none⟩)] t l (fun _ => false) (Noted q) := by
  refine ⟨fun _ _ => rfl, ?_, ?_, ?_⟩
  · rintro X z w ⟨A, c, hr, ho, hx⟩ b hb
    rcases (hx b).1 hb with rfl | h
    · exact hr.lt
    · exact (ho.ge b h).2
  · rintro X z w w' ⟨A, c, hr, ho, hx⟩ hb
    exact ⟨A, c, (hb.block _ hr.lt).trans hr, ho.below hb, hx⟩
  · rintro X z w0 w1 D d x _ hz _ ⟨A, c, hr, ho, hx⟩ hb hox
    show Calls Tryd.prog 41 #[.slice D x.length d, .pointer (some ⟨q, 0, none⟩)] w1 _
    have H0 := Lib.hid ho
    have HX := Lib.hid hx
    have HG := Lib.hid ho.ge
    have QL := Lib.hid hr.lt
    have NB := Lib.hid (bel1 w1 (.cells #[.slice D x.length d] 25))
    have NH := Lib.hid (heap_new2 w1 (.cells #[.slice D x.length d] 25))
    have WN := Lib.hid (below_trans hb NB.out)
    have ON := Lib.hid (hox.below NB.out)
    have R1 := Lib.hid ((show RB q A z.length c _ from (WN.out.block q hr.lt).trans hr))
    have ZS := Lib.hid (show z.length + 1 ≤ 4398046511104 by omega)
    have f0 := (show RB q A z.length c w1 from (hb.block q hr.lt).trans hr).cell
    have SZ := Lib.hid (show w1.heap.size + 1 = (w1.alloc (.cells #[.slice D x.length d] 25)).heap.size by simp)
    have S0 := Lib.hid hb.size
    have SB0 := Lib.hid (show q + 1 ≤ w0.heap.size from hr.lt)
    clear ho hx hr hz hb hox
    go_enter Tryd.func41, Tryd.ntmps41
    go_wp2_with (at_builtin; refine wpList_append_rowsd rfl (.tmp 4) (.tmp 6) rfl w0 (q + 1) c A z H0.out WN.out w1.heap.size x D d _ ON.out NH.out rfl rfl ZS.out SB0.out ?_; intro A5 c5 w5 z5 hz5 own5 g5 r5; have R5 := Lib.hid (show RB q A z.length c w5 from (g5.block q (by have := QL.out; have := SZ.out; have := S0.out; omega) (fun e => by have := (HG.out q e.symm).1; omega)).trans R1.out); have q0 := R5.out.cell; have q1 := R5.out.free; have O5 := Lib.hid own5; have G5 := Lib.hid g5; have RR := Lib.hid r5; clear own5 g5 r5)
    go_ret
    refine ⟨rfl, fun b => b = q ∨ rowOf A5 = some b, ⟨A5, c5, by rw [← hz5.out]; exact R5.out.put _ _ _, ?_, fun b => Iff.rfl⟩, ?_⟩
    · rw [← hz5.out]
      exact O5.out.set (p := ⟨q, 0, none⟩) (by show q < q + 1; omega) _
    · have e1 := Below.setCell (p := ⟨q, 0, none⟩) (Below.refl q w5) (Nat.le_refl _) (.slice A5 z5.length c5)
      have sz5 := G5.out.size
      refine ⟨?_, ?_, ?_, ?_, fun b hb hn => ?_, fun b hb => ?_⟩
      · exact e1.os.trans (G5.out.os.trans WN.out.os)
      · exact e1.tape.trans (G5.out.tape.trans WN.out.tape)
      · exact e1.output.trans (G5.out.output.trans WN.out.output)
      · have := e1.size
        have := SZ.out
        have := S0.out
        omega
      · have h1 : b ≠ q := fun h => hn ((HX.out b).2 (.inl h))
        have h2 : rowOf A ≠ some b := fun h => hn ((HX.out b).2 (.inr h))
        exact (Below.heap_setCell w5 ⟨q, 0, none⟩ _ b h1).trans ((G5.out.block b (by have := SZ.out; have := S0.out; omega) (fun e => h2 e.symm)).trans (WN.out.block b hb))
      · rcases hb with rfl | hb
        · exact .inl ((HX.out b).2 (.inl rfl))
        · rcases RR.out with h | h
          · rw [h] at hb; exact .inl ((HX.out b).2 (.inr hb))
          · rw [h] at hb
            injection hb with hb
            have := SZ.out
            have := S0.out
            exact .inr (by omega)

def RoPost (t : Gn) (l : List Int) (w : World) (e : Ending) (w' : World) : Prop :=
  ∃ (A : Option Addr) (c : Nat), e = .returned (.tuple #[.slice A (roseV t l).length c, errOf (roseE t l)]) ∧ OwnRowsD w' w.heap.size A c (roseV t l) ∧ Below w.heap.size w w'
theorem noted_new (w : World) (o : Obj) : Noted (w.heap.size + 1) (fun b => b = w.heap.size + 1) [] ((w.alloc o).alloc (.cells #[.slice none 0 0] 29)) := by
  have z1 : (w.alloc o).heap.size = w.heap.size + 1 := by simp
  have n2 := new_obj (w.alloc o) (.cells #[.slice none 0 0] 29)
  rw [z1] at n2
  exact ⟨none, 0, n2, OwnRowsD.zero, fun b => ⟨fun h => .inl h, fun h => by rcases h with h | h; exact h; cases h⟩⟩
set_option maxHeartbeats 4000000 in
set_option maxRecDepth 100000 in
theorem rose_prog {n : Nat} {t : Gn} {v : Value} {L : Option Addr} {l : List Int} {lc : Nat} (w : World) (h : GAt w (GBel w.heap.size) n v t) (hat : At w w.heap.size L l) (hcap : l.length ≤ lc) (hl : l.length ≤ 4294967296) (hsz : t.size ≤ 4294967296) :
    Calls Tryd.prog 14 #[v, .slice L l.length lc] w (RoPost t l w) := by
  obtain ⟨m, A, c, e, hw, rfl, _⟩ := h.open_
  have g0 : G4 w.heap.size (.int .i64 t.kind) (.int .i64 t.a) (.int .i64 t.b) (.slice A t.subs.length c) (w.alloc (gc t A c)) := new_obj w _
  have b0 : Below w.heap.size w ((w.alloc (gc t A c)).alloc (.cells #[.slice none 0 0] 29)) := ((Below.refl _ _).alloc (Nat.le_refl _) _).alloc (by simp) _
  have g1 := g0.below ((Below.refl _ _).alloc (Nat.le_refl _) (.cells #[.slice none 0 0] 29))
  have E := each_ok (n := n) (B := w.heap.size) (lc := lc) (see_add t l (w.heap.size + 1)) (X := fun b => b = w.heap.size + 1) ((w.alloc (gc t A c)).alloc (.cells #[.slice none 0 0] 29)) b0.size (fun b h => by omega) (h.below b0) (hat.below b0) hcap hl hsz (noted_new w _)
  unfold EachPost at E
  rw [seen_all (fun a _ => rfl)] at E
  have C := Lib.hid E
  have B0 := Lib.hid b0
  have hmf : ∀ (fn : Fn) (first cap : Array Value) (w : World), (Instr.makeFunc fn first cap).run Tryd.prog w = .ok (.func fn first cap) w := fun _ _ _ _ => rfl
  have G1 := Lib.hid g1
  clear h hat hcap hl hsz e hw E g0 b0 g1
  go_enter Tryd.func14, Tryd.ntmps14
  obtain ⟨k0, k1, k2, k3⟩ := G1.out.facts
  go_wp2_with fail
  generalize (w.alloc (gc t A c)).alloc (.cells #[.slice none 0 0] 29) = W0 at *
  ((with_reducible refine C.out.mono ?_))
  rintro e w1 ⟨X1, rfl, ⟨A1, c1, hr, ho, hx⟩, hm⟩
  have f0 := hr.cell
  have O1 := Lib.hid (ho.less (base' := w.heap.size) (by omega))
  have B1 := Lib.hid (B0.out.trans (mv_below hm B0.out.size (fun b (h : b = w.heap.size + 1) => by omega)))
  clear hr ho hx hm C k0 k1 k2 k3
  generalize hzv : roseV t l = z at *
  have ZV := Lib.hid hzv
  clear hzv
  go_wp2_with fail
  go_ret2
  exact ⟨A1, c1, by rw [ZV.out]; rfl, by rw [ZV.out]; exact O1.out, B1.out⟩
end Go.Proofs.YtfpbegagblekiaaDoor.Gens

/- The program's Less at a tape of its generator, as the statements want it. Conditions: the sizes. -/
namespace Go.Proofs.YtfpbegagblekiaaDoor.Gens
open Go.RowKit Lists Ints Vals
set_option linter.unusedVariables false

def RsOk (z : List (List Int)) (w : World) (e : Ending) (w' : World) : Prop := ∃ (A : Option Addr) (c : Nat), e = .returned (.tuple #[.slice A z.length c, .nilIface]) ∧ OwnRows w' w.heap.size A c z ∧ Below w.heap.size w w'
theorem rose_ok {n : Nat} {t : Gn} {v : Value} {L : Option Addr} {l : List Int} {lc : Nat} {z : List (List Int)} (w : World) (h : GAt w (GBel w.heap.size) n v t) (hat : At w w.heap.size L l) (hcap : l.length ≤ lc) (hl : l.length ≤ 4294967296) (hsz : t.size ≤ 4294967296) (hz : roseE t l = 0) (hv : roseL t l = z) :
    Calls Tryd.prog 14 #[v, .slice L l.length lc] w (RsOk z w) := by
  have e2 : roseV t l = z := by unfold roseV; rw [if_pos hz, hv]
  refine (rose_prog w h hat hcap hl hsz).mono ?_
  rintro e w' ⟨A, c, rfl, ho, hb⟩
  rw [e2] at ho ⊢
  rw [hz, errOf_ok]
  exact ⟨A, c, rfl, ho.weak, hb⟩
theorem roseE_mend {t : Gn} (h0 : genV t = 0) (l : List Int) : roseE t (mendL t l) = 0 := rep_mend0 h0 l
theorem mend_len {t : Gn} (h0 : genV t = 0) (l : List Int) : (mendL t l).length ≤ 1399680 := by
  obtain ⟨v, r, _, h⟩ := mend_run (t := t) l h0
  exact h
end Go.Proofs.YtfpbegagblekiaaDoor.Gens

/- A generator without parts, in memory. -/
namespace Go.Proofs.YtfpbegagblekiaaDoor.Gens
open Go.RowKit
set_option linter.unusedVariables false
theorem gat_leaf {w : World} {B : Nat} {k a b : Int} (hk : Wf k) (ha : Wf a) (hb : Wf b) : GAt w (GBel B) 1 (.agg #[.int .i64 k, .int .i64 a, .int .i64 b, .slice none 0 0]) (.node k a b []) :=
  ⟨⟨hk, ha, hb⟩, none, 0, rfl, Nat.le_refl _, fun hp => by simp [Gn.subs] at hp⟩
end Go.Proofs.YtfpbegagblekiaaDoor.Gens
