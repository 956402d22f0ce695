/- RoseOwn, part 43 of the proof: The program's Less (package rose). Conditions: the sizes. -/
import Derived.Test.YtfpbegagblekiaaDoorRoseOwnZ42
/- The program's Less (package rose). Conditions: the sizes. -/
namespace Go.Proofs.YtfpbegagblekiaaDoor.Gens
open Go.RowKit Lists Ints Vals
set_option linter.unusedVariables false

/-- the box of a slice of lists -/
def RB (p : Nat) (A : Option Addr) (n c : Nat) (w : World) : Prop := w.heap[p]? = some (.cells #[.slice A n c] 29 (0, 0))
theorem RB.cell {p n c : Nat} {A : Option Addr} {w : World} (h : RB p A n c w) : w.cell? ⟨p, 0, none⟩ = some (.slice A n c) := by rw [Lib.cell_of_heap h]; rfl
theorem RB.free {p n c : Nat} {A : Option Addr} {w : World} (h : RB p A n c w) : w.frozen? ⟨p, 0, none⟩ = false := Lib.frozen_of_heap h 0
theorem RB.lt {p n c : Nat} {A : Option Addr} {w : World} (h : RB p A n c w) : p < w.heap.size := (Array.getElem?_eq_some_iff.1 h).1
theorem RB.put {p n c : Nat} {A : Option Addr} {w : World} (h : RB p A n c w) (A' : Option Addr) (n' c' : Nat) : RB p A' n' c' (w.setCell ⟨p, 0, none⟩ (.slice A' n' c')) := by
  unfold RB at h ⊢
  simp [World.setCell, Array.getElem?_modify, h]
/-- what has been noted -/
def Noted (q : Nat) (X : Nat → Prop) (z : List (List Int)) (w : World) : Prop :=
  ∃ (A : Option Addr) (c : Nat), RB q A z.length c w ∧ OwnRowsD w (q + 1) A c z ∧ ∀ b, X b ↔ (b = q ∨ rowOf A = some b)

set_option maxHeartbeats 2000000 in
set_option maxRecDepth 100000 in
theorem see_add (t : Gn) (l : List Int) (q : Nat) : SeeB 41 #[.pointer (some ⟨q, 0, none⟩)] t l (fun _ => false) (Noted q) := by
  refine ⟨fun _ _ => rfl, ?_, ?_, ?_⟩
  · rintro X z w ⟨A, c, hr, ho, hx⟩ b hb
    rcases (hx b).1 hb with rfl | h
    · exact hr.lt
    · exact (ho.ge b h).2
  · rintro X z w w' ⟨A, c, hr, ho, hx⟩ hb
    exact ⟨A, c, (hb.block _ hr.lt).trans hr, ho.below hb, hx⟩
  · rintro X z w0 w1 D d x _ hz _ ⟨A, c, hr, ho, hx⟩ hb hox
    show Calls Tryd.prog 41 #[.slice D x.length d, .pointer (some ⟨q, 0, none⟩)] w1 _
    have H0 := Lib.hid ho
    have HX := Lib.hid hx
    have HG := Lib.hid ho.ge
    have QL := Lib.hid hr.lt
    have NB := Lib.hid (bel1 w1 (.cells #[.slice D x.length d] 25))
    have NH := Lib.hid (heap_new2 w1 (.cells #[.slice D x.length d] 25))
    have WN := Lib.hid (below_trans hb NB.out)
    have ON := Lib.hid (hox.below NB.out)
    have R1 := Lib.hid ((show RB q A z.length c _ from (WN.out.block q hr.lt).trans hr))
    have ZS := Lib.hid (show z.length + 1 ≤ 4398046511104 by omega)
    have f0 := (show RB q A z.length c w1 from (hb.block q hr.lt).trans hr).cell
    have SZ := Lib.hid (show w1.heap.size + 1 = (w1.alloc (.cells #[.slice D x.length d] 25)).heap.size by simp)
    have S0 := Lib.hid hb.size
    have SB0 := Lib.hid (show q + 1 ≤ w0.heap.size from hr.lt)
    clear ho hx hr hz hb hox
    go_enter Tryd.func41, Tryd.ntmps41
    go_wp2_with (at_builtin; refine wpList_append_rowsd rfl (.tmp 4) (.tmp 6) rfl w0 (q + 1) c A z H0.out WN.out w1.heap.size x D d _ ON.out NH.out rfl rfl ZS.out SB0.out ?_; intro A5 c5 w5 z5 hz5 own5 g5 r5; have R5 := Lib.hid (show RB q A z.length c w5 from (g5.block q (by have := QL.out; have := SZ.out; have := S0.out; omega) (fun e => by have := (HG.out q e.symm).1; omega)).trans R1.out); have q0 := R5.out.cell; have q1 := R5.out.free; have O5 := Lib.hid own5; have G5 := Lib.hid g5; have RR := Lib.hid r5; clear own5 g5 r5)
    go_ret
    refine ⟨rfl, fun b => b = q ∨ rowOf A5 = some b, ⟨A5, c5, by rw [← hz5.out]; exact R5.out.put _ _ _, ?_, fun b => Iff.rfl⟩, ?_⟩
    · rw [← hz5.out]
      exact O5.out.set (p := ⟨q, 0, none⟩) (by show q < q + 1; omega) _
    · have e1 := Below.setCell (p := ⟨q, 0, none⟩) (Below.refl q w5) (Nat.le_refl _) (.slice A5 z5.length c5)
      have sz5 := G5.out.size
      refine ⟨?_, ?_, ?_, ?_, fun b hb hn => ?_, fun b hb => ?_⟩
      · exact e1.os.trans (G5.out.os.trans WN.out.os)
      · exact e1.tape.trans (G5.out.tape.trans WN.out.tape)
      · exact e1.output.trans (G5.out.output.trans WN.out.output)
      · have := e1.size
        have := SZ.out
        have := S0.out
        omega
      · have h1 : b ≠ q := fun h => hn ((HX.out b).2 (.inl h))
        have h2 : rowOf A ≠ some b := fun h => hn ((HX.out b).2 (.inr h))
        exact (Below.heap_setCell w5 ⟨q, 0, none⟩ _ b h1).trans ((G5.out.block b (by have := SZ.out; have := S0.out; omega) (fun e => h2 e.symm)).trans (WN.out.block b hb))
      · rcases hb with rfl | hb
        · exact .inl ((HX.out b).2 (.inl rfl))
        · rcases RR.out with h | h
          · rw [h] at hb; exact .inl ((HX.out b).2 (.inr hb))
          · rw [h] at hb
            injection hb with hb
            have := SZ.out
            have := S0.out
            exact .inr (by omega)

def RoPost (t : Gn) (l : List Int) (w : World) (e : Ending) (w' : World) : Prop :=
  ∃ (A : Option Addr) (c : Nat), e = .returned (.tuple #[.slice A (roseV t l).length c, errOf (roseE t l)]) ∧ OwnRowsD w' w.heap.size A c (roseV t l) ∧ Below w.heap.size w w'
theorem noted_new (w : World) (o : Obj) : Noted (w.heap.size + 1) (fun b => b = w.heap.size + 1) [] ((w.alloc o).alloc (.cells #[.slice none 0 0] 29)) := by
  have z1 : (w.alloc o).heap.size = w.heap.size + 1 := by simp
  have n2 := new_obj (w.alloc o) (.cells #[.slice none 0 0] 29)
  rw [z1] at n2
  exact ⟨none, 0, n2, OwnRowsD.zero, fun b => ⟨fun h => .inl h, fun h => by rcases h with h | h; exact h; cases h⟩⟩
set_option maxHeartbeats 4000000 in
set_option maxRecDepth 100000 in
theorem rose_prog {n : Nat} {t : Gn} {v : Value} {L : Option Addr} {l : List Int} {lc : Nat} (w : World) (h : GAt w (GBel w.heap.size) n v t) (hat : At w w.heap.size L l) (hcap : l.length ≤ lc) (hl : l.length ≤ 4294967296) (hsz : t.size ≤ 4294967296) :
    Calls Tryd.prog 14 #[v, .slice L l.length lc] w (RoPost t l w) := by
  obtain ⟨m, A, c, e, hw, rfl, _⟩ := h.open_
  have g0 : G4 w.heap.size (.int .i64 t.kind) (.int .i64 t.a) (.int .i64 t.b) (.slice A t.subs.length c) (w.alloc (gc t A c)) := new_obj w _
  have b0 : Below w.heap.size w ((w.alloc (gc t A c)).alloc (.cells #[.slice none 0 0] 29)) := ((Below.refl _ _).alloc (Nat.le_refl _) _).alloc (by simp) _
  have g1 := g0.below ((Below.refl _ _).alloc (Nat.le_refl _) (.cells #[.slice none 0 0] 29))
  have E := each_ok (n := n) (B := w.heap.size) (lc := lc) (see_add t l (w.heap.size + 1)) (X := fun b => b = w.heap.size + 1) ((w.alloc (gc t A c)).alloc (.cells #[.slice none 0 0] 29)) b0.size (fun b h => by omega) (h.below b0) (hat.below b0) hcap hl hsz (noted_new w _)
  unfold EachPost at E
  rw [seen_all (fun a _ => rfl)] at E
  have C := Lib.hid E
  have B0 := Lib.hid b0
  have hmf : ∀ (fn : Fn) (first cap : Array Value) (w : World), (Instr.makeFunc fn first cap).run Tryd.prog w = .ok (.func fn first cap) w := fun _ _ _ _ => rfl
  have G1 := Lib.hid g1
  clear h hat hcap hl hsz e hw E g0 b0 g1
  go_enter Tryd.func14, Tryd.ntmps14
  obtain ⟨k0, k1, k2, k3⟩ := G1.out.facts
  go_wp2_with fail
  generalize (w.alloc (gc t A c)).alloc (.cells #[.slice none 0 0] 29) = W0 at *
  ((with_reducible refine C.out.mono ?_))
  rintro e w1 ⟨X1, rfl, ⟨A1, c1, hr, ho, hx⟩, hm⟩
  have f0 := hr.cell
  have O1 := Lib.hid (ho.less (base' := w.heap.size) (by omega))
  have B1 := Lib.hid (B0.out.trans (mv_below hm B0.out.size (fun b (h : b = w.heap.size + 1) => by omega)))
  clear hr ho hx hm C k0 k1 k2 k3
  generalize hzv : roseV t l = z at *
  have ZV := Lib.hid hzv
  clear hzv
  go_wp2_with fail
  go_ret2
  exact ⟨A1, c1, by rw [ZV.out]; rfl, by rw [ZV.out]; exact O1.out, B1.out⟩
end Go.Proofs.YtfpbegagblekiaaDoor.Gens
