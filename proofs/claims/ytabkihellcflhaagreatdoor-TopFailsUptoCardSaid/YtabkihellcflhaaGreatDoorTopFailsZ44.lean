/- TopFails, part 44 of the proof: What the statements ask behind a walk: Replay and Fails at a tape of its generator. Conditions: the sizes; the program's table. · The program's Less (package rose). Conditions: the sizes. · The program's Less at a tape of its generator, as the statements want it. Conditions: the sizes. · Plain laws on how many tapes a generator has. No program. -/
import Derived.Test.YtabkihellcflhaaGreatDoorTopFailsZ41
import Derived.Test.YtabkihellcflhaaGreatDoorTopFailsZ39
import Derived.Test.YtabkihellcflhaaGreatDoorTopFailsZ20
import Derived.Test.YtabkihellcflhaaGreatDoorTopFailsZ9
/- What the statements ask behind a walk: Replay and Fails at a tape of its generator. Conditions: the sizes; the program's table. -/
namespace Go.Proofs.YtabkihellcflhaaGreatDoor.Gens
open Go.RowKit Lists Ints Vals Exprs
set_option linter.unusedVariables false

/-- what Replay hands back of a tape of its generator -/
def RvOk (v : Tr) (n : Nat) (w : World) (e : Ending) (w' : World) : Prop :=
  ∃ (A : Option Addr) (c : Nat), e = .returned (.tuple #[.agg #[.bool v.list, .int .i64 v.num, .slice A v.items.length c], .nilIface]) ∧ TAt w' (fun b => w.heap.size ≤ b ∧ b < w'.heap.size) n (vv v A c) v ∧ Below w.heap.size w w'
theorem rv_ok {n : Nat} {t : Gn} {A L : Option Addr} {c lc : Nat} {l : List Int} {v : Tr} (w : World) (hg : GAt w (GBel w.heap.size) n (gv t A c) t) (hl : At w w.heap.size L l) (hcap : l.length ≤ lc) (hll : l.length ≤ 4294967296) (hsz : t.size ≤ 4294967296) (hv : repV t l = .ok v) :
    Calls Tryz.prog 14 #[gv t A c, .slice L l.length lc] w (RvOk v n w) := by
  have R := replay_prog w hg hl hcap hll hsz
  rw [hv] at R
  refine R.mono ?_
  rintro e w' ⟨A1, c1, rfl, ht, _, hb⟩
  exact ⟨A1, c1, rfl, ht, hb⟩
theorem fv_ok {n nx : Nat} {t x : Gn} {XA A : Option Addr} {xc c : Nat} {l : List Int} {v : Tr} (w : World) (hx : EAt w (EBel w.heap.size) nx (ev x XA xc) x) (hv : TAt w (Bel w.heap.size) n (vv v A c) v) (hf : faultE x = 0) (hsub : Subs w) (hxz : x.size ≤ 4294967296) (hr : repV t l = .ok v) :
    Calls Tryz.prog 15 #[ev x XA xc, .agg #[.bool v.list, .int .i64 v.num, .slice A v.items.length c]] w fun e w' => e = .returned (.tuple #[.bool (badT t x l), .nilIface]) ∧ Below w.heap.size w w' := by
  obtain ⟨vs, vf⟩ := rep_size hr
  have F := fails_any (g := x) (t := v) w hx hv (Nat.le_refl _) hxz (by omega) hsub
  have e1 : failF x v = 0 := by unfold failF; rw [if_pos hf]; exact vf
  have e2 : failB x v = badT t x l := by unfold failB badT; rw [if_pos e1, hr]
  rw [e1, e2, errOf_ok] at F
  exact F
/-- a box written whole -/
theorem box_put {w : World} {p : Nat} {a0 a1 a2 : Value} (h : V3 p a0 a1 a2 w) (y0 y1 y2 : Value) :
    let W := ((w.setCell ⟨p, 0, none⟩ y0).setCell ⟨p, 1, none⟩ y1).setCell ⟨p, 2, none⟩ y2
    V3 p y0 y1 y2 W ∧ Below p w W ∧ ∀ b, b ≠ p → W.heap[b]? = w.heap[b]? := by
  intro W
  refine ⟨?_, ?_, fun b hb => ?_⟩
  · unfold V3 at h ⊢
    show (((w.setCell ⟨p, 0, none⟩ y0).setCell ⟨p, 1, none⟩ y1).setCell ⟨p, 2, none⟩ y2).heap[p]? = _
    simp [World.setCell, Array.getElem?_modify, h]
  · exact Below.setCell (p := ⟨p, 2, none⟩) (Below.setCell (p := ⟨p, 1, none⟩) (Below.setCell (p := ⟨p, 0, none⟩) (Below.refl _ _) (Nat.le_refl _) _) (Nat.le_refl _) _) (Nat.le_refl _) _
  · exact (Below.heap_setCell _ ⟨p, 2, none⟩ _ b hb).trans ((Below.heap_setCell _ ⟨p, 1, none⟩ _ b hb).trans (Below.heap_setCell _ ⟨p, 0, none⟩ _ b hb))
end Go.Proofs.YtabkihellcflhaaGreatDoor.Gens

/- The program's Less (package rose). Conditions: the sizes. -/
namespace Go.Proofs.YtabkihellcflhaaGreatDoor.Gens
open Go.RowKit Lists Ints Vals
set_option linter.unusedVariables false

/-- the box of a slice of lists -/
def RB (p : Nat) (A : Option Addr) (n c : Nat) (w : World) : Prop := w.heap[p]? = some (.cells #[.slice A n c] 52 (0, 0))
theorem RB.cell {p n c : Nat} {A : Option Addr} {w : World} (h : RB p A n c w) : w.cell? ⟨p, 0, none⟩ = some (.slice A n c) := by rw [Lib.cell_of_heap h]; rfl
theorem RB.free {p n c : Nat} {A : Option Addr} {w : World} (h : RB p A n c w) : w.frozen? ⟨p, 0, none⟩ = false := Lib.frozen_of_heap h 0
theorem RB.lt {p n c : Nat} {A : Option Addr} {w : World} (h : RB p A n c w) : p < w.heap.size := (Array.getElem?_eq_some_iff.1 h).1
theorem RB.put {p n c : Nat} {A : Option Addr} {w : World} (h : RB p A n c w) (A' : Option Addr) (n' c' : Nat) : RB p A' n' c' (w.setCell ⟨p, 0, none⟩ (.slice A' n' c')) := by
  unfold RB at h ⊢
  simp [World.setCell, Array.getElem?_modify, h]
/-- what has been noted -/
def Noted (q : Nat) (X : Nat → Prop) (z : List (List Int)) (w : World) : Prop :=
  ∃ (A : Option Addr) (c : Nat), RB q A z.length c w ∧ OwnRowsD w (q + 1) A c z ∧ ∀ b, X b ↔ (b = q ∨ rowOf A = some b)

set_option maxHeartbeats 2000000 in
set_option maxRecDepth 100000 in
theorem see_add (t : Gn) (l : List Int) (q : Nat) : SeeB 41 #[.pointer (some ⟨q, 0, none⟩)] t l (fun _ => false) (Noted q) := by
  refine ⟨fun _ _ => rfl, ?_, ?_, ?_⟩
  · rintro X z w ⟨A, c, hr, ho, hx⟩ b hb
    rcases (hx b).1 hb with rfl | h
    · exact hr.lt
    · exact (ho.ge b h).2
  · rintro X z w w' ⟨A, c, hr, ho, hx⟩ hb
    exact ⟨A, c, (hb.block _ hr.lt).trans hr, ho.below hb, hx⟩
  · rintro X z w0 w1 D d x _ hz _ ⟨A, c, hr, ho, hx⟩ hb hox
    show Calls Tryz.prog 41 #[.slice D x.length d, .pointer (some ⟨q, 0, none⟩)] w1 _
    have H0 := Lib.hid ho
    have HX := Lib.hid hx
    have HG := Lib.hid ho.ge
    have QL := Lib.hid hr.lt
    have NB := Lib.hid (bel1 w1 (.cells #[.slice D x.length d] 32))
    have NH := Lib.hid (heap_new2 w1 (.cells #[.slice D x.length d] 32))
    have WN := Lib.hid (below_trans hb NB.out)
    have ON := Lib.hid (hox.below NB.out)
    have R1 := Lib.hid ((show RB q A z.length c _ from (WN.out.block q hr.lt).trans hr))
    have ZS := Lib.hid (show z.length + 1 ≤ 4398046511104 by omega)
    have f0 := (show RB q A z.length c w1 from (hb.block q hr.lt).trans hr).cell
    have SZ := Lib.hid (show w1.heap.size + 1 = (w1.alloc (.cells #[.slice D x.length d] 32)).heap.size by simp)
    have S0 := Lib.hid hb.size
    have SB0 := Lib.hid (show q + 1 ≤ w0.heap.size from hr.lt)
    clear ho hx hr hz hb hox
    go_enter Tryz.func41, Tryz.ntmps41
    go_wp2_with (at_builtin; refine wpList_append_rowsd rfl (.tmp 4) (.tmp 6) rfl w0 (q + 1) c A z H0.out WN.out w1.heap.size x D d _ ON.out NH.out rfl rfl ZS.out SB0.out ?_; intro A5 c5 w5 z5 hz5 own5 g5 r5; have R5 := Lib.hid (show RB q A z.length c w5 from (g5.block q (by have := QL.out; have := SZ.out; have := S0.out; omega) (fun e => by have := (HG.out q e.symm).1; omega)).trans R1.out); have q0 := R5.out.cell; have q1 := R5.out.free; have O5 := Lib.hid own5; have G5 := Lib.hid g5; have RR := Lib.hid r5; clear own5 g5 r5)
    go_ret
    refine ⟨rfl, fun b => b = q ∨ rowOf A5 = some b, ⟨A5, c5, by rw [← hz5.out]; exact R5.out.put _ _ _, ?_, fun b => Iff.rfl⟩, ?_⟩
    · rw [← hz5.out]
      exact O5.out.set (p := ⟨q, 0, none⟩) (by show q < q + 1; omega) _
    · have e1 := Below.setCell (p := ⟨q, 0, none⟩) (Below.refl q w5) (Nat.le_refl _) (.slice A5 z5.length c5)
      have sz5 := G5.out.size
      refine ⟨?_, ?_, ?_, ?_, fun b hb hn => ?_, fun b hb => ?_⟩
      · exact e1.os.trans (G5.out.os.trans WN.out.os)
      · exact e1.tape.trans (G5.out.tape.trans WN.out.tape)
      · exact e1.output.trans (G5.out.output.trans WN.out.output)
      · have := e1.size
        have := SZ.out
        have := S0.out
        omega
      · have h1 : b ≠ q := fun h => hn ((HX.out b).2 (.inl h))
        have h2 : rowOf A ≠ some b := fun h => hn ((HX.out b).2 (.inr h))
        exact (Below.heap_setCell w5 ⟨q, 0, none⟩ _ b h1).trans ((G5.out.block b (by have := SZ.out; have := S0.out; omega) (fun e => h2 e.symm)).trans (WN.out.block b hb))
      · rcases hb with rfl | hb
        · exact .inl ((HX.out b).2 (.inl rfl))
        · rcases RR.out with h | h
          · rw [h] at hb; exact .inl ((HX.out b).2 (.inr hb))
          · rw [h] at hb
            injection hb with hb
            have := SZ.out
            have := S0.out
            exact .inr (by omega)

def RoPost (t : Gn) (l : List Int) (w : World) (e : Ending) (w' : World) : Prop :=
  ∃ (A : Option Addr) (c : Nat), e = .returned (.tuple #[.slice A (roseV t l).length c, errOf (roseE t l)]) ∧ OwnRowsD w' w.heap.size A c (roseV t l) ∧ Below w.heap.size w w'
theorem noted_new (w : World) (o : Obj) : Noted (w.heap.size + 1) (fun b => b = w.heap.size + 1) [] ((w.alloc o).alloc (.cells #[.slice none 0 0] 52)) := by
  have z1 : (w.alloc o).heap.size = w.heap.size + 1 := by simp
  have n2 := new_obj (w.alloc o) (.cells #[.slice none 0 0] 52)
  rw [z1] at n2
  exact ⟨none, 0, n2, OwnRowsD.zero, fun b => ⟨fun h => .inl h, fun h => by rcases h with h | h; exact h; cases h⟩⟩
set_option maxHeartbeats 4000000 in
set_option maxRecDepth 100000 in
theorem rose_prog {n : Nat} {t : Gn} {v : Value} {L : Option Addr} {l : List Int} {lc : Nat} (w : World) (h : GAt w (GBel w.heap.size) n v t) (hat : At w w.heap.size L l) (hcap : l.length ≤ lc) (hl : l.length ≤ 4294967296) (hsz : t.size ≤ 4294967296) :
    Calls Tryz.prog 16 #[v, .slice L l.length lc] w (RoPost t l w) := by
  obtain ⟨m, A, c, e, hw, rfl, _⟩ := h.open_
  have g0 : G4 w.heap.size (.int .i64 t.kind) (.int .i64 t.a) (.int .i64 t.b) (.slice A t.subs.length c) (w.alloc (gc t A c)) := new_obj w _
  have b0 : Below w.heap.size w ((w.alloc (gc t A c)).alloc (.cells #[.slice none 0 0] 52)) := ((Below.refl _ _).alloc (Nat.le_refl _) _).alloc (by simp) _
  have g1 := g0.below ((Below.refl _ _).alloc (Nat.le_refl _) (.cells #[.slice none 0 0] 52))
  have E := each_ok (n := n) (B := w.heap.size) (lc := lc) (see_add t l (w.heap.size + 1)) (X := fun b => b = w.heap.size + 1) ((w.alloc (gc t A c)).alloc (.cells #[.slice none 0 0] 52)) b0.size (fun b h => by omega) (h.below b0) (hat.below b0) hcap hl hsz (noted_new w _)
  unfold EachPost at E
  rw [seen_all (fun a _ => rfl)] at E
  have C := Lib.hid E
  have B0 := Lib.hid b0
  have hmf : ∀ (fn : Fn) (first cap : Array Value) (w : World), (Instr.makeFunc fn first cap).run Tryz.prog w = .ok (.func fn first cap) w := fun _ _ _ _ => rfl
  have G1 := Lib.hid g1
  clear h hat hcap hl hsz e hw E g0 b0 g1
  go_enter Tryz.func16, Tryz.ntmps16
  obtain ⟨k0, k1, k2, k3⟩ := G1.out.facts
  go_wp2_with fail
  generalize (w.alloc (gc t A c)).alloc (.cells #[.slice none 0 0] 52) = W0 at *
  ((with_reducible refine C.out.mono ?_))
  rintro e w1 ⟨X1, rfl, ⟨A1, c1, hr, ho, hx⟩, hm⟩
  have f0 := hr.cell
  have O1 := Lib.hid (ho.less (base' := w.heap.size) (by omega))
  have B1 := Lib.hid (B0.out.trans (mv_below hm B0.out.size (fun b (h : b = w.heap.size + 1) => by omega)))
  clear hr ho hx hm C k0 k1 k2 k3
  generalize hzv : roseV t l = z at *
  have ZV := Lib.hid hzv
  clear hzv
  go_wp2_with fail
  go_ret2
  exact ⟨A1, c1, by rw [ZV.out]; rfl, by rw [ZV.out]; exact O1.out, B1.out⟩
end Go.Proofs.YtabkihellcflhaaGreatDoor.Gens

/- The program's Less at a tape of its generator, as the statements want it. Conditions: the sizes. -/
namespace Go.Proofs.YtabkihellcflhaaGreatDoor.Gens
open Go.RowKit Lists Ints Vals
set_option linter.unusedVariables false

def RsOk (z : List (List Int)) (w : World) (e : Ending) (w' : World) : Prop := ∃ (A : Option Addr) (c : Nat), e = .returned (.tuple #[.slice A z.length c, .nilIface]) ∧ OwnRows w' w.heap.size A c z ∧ Below w.heap.size w w'
theorem rose_ok {n : Nat} {t : Gn} {v : Value} {L : Option Addr} {l : List Int} {lc : Nat} {z : List (List Int)} (w : World) (h : GAt w (GBel w.heap.size) n v t) (hat : At w w.heap.size L l) (hcap : l.length ≤ lc) (hl : l.length ≤ 4294967296) (hsz : t.size ≤ 4294967296) (hz : roseE t l = 0) (hv : roseL t l = z) :
    Calls Tryz.prog 16 #[v, .slice L l.length lc] w (RsOk z w) := by
  have e2 : roseV t l = z := by unfold roseV; rw [if_pos hz, hv]
  refine (rose_prog w h hat hcap hl hsz).mono ?_
  rintro e w' ⟨A, c, rfl, ho, hb⟩
  rw [e2] at ho ⊢
  rw [hz, errOf_ok]
  exact ⟨A, c, rfl, ho.weak, hb⟩
end Go.Proofs.YtabkihellcflhaaGreatDoor.Gens

/- Plain laws on how many tapes a generator has. No program. -/
namespace Go.Proofs.YtabkihellcflhaaGreatDoor.Gens
set_option linter.unusedVariables false

def manyN (k : Int) : Nat → Int → Int → Int
  | 0, n, _ => n
  | i + 1, n, p => manyN k i (min 1048577 (n + p)) (min 1048577 (p * k))
mutual
def countG : Gn → Int
  | .node k a b subs => if k = 1 then 1 else if k = 2 then b - a + 1 else if k = 5 then countAny subs 0 else if k = 3 then countBoth subs 1 else manyN (countHead subs) (a + 1).toNat 0 1
def countAny : List Gn → Int → Int
  | [], n => n
  | g :: r, n => countAny r (min 1048577 (n + countG g))
def countBoth : List Gn → Int → Int
  | [], n => n
  | g :: r, n => countBoth r (min 1048577 (n * countG g))
def countHead : List Gn → Int
  | [] => 0
  | g :: _ => countG g
end
abbrev Few (n : Int) : Prop := 0 ≤ n ∧ n ≤ 1048577
theorem few_add {n m : Int} (h : Few n) (h' : Few m) : Few (min 1048577 (n + m)) := by
  obtain ⟨a, b⟩ := h
  obtain ⟨c, d⟩ := h'
  exact ⟨by omega, by omega⟩
theorem few_mul {n m : Int} (h : Few n) (h' : Few m) : Few (min 1048577 (n * m)) := by
  obtain ⟨a, b⟩ := h
  obtain ⟨c, d⟩ := h'
  have := Int.mul_nonneg a c
  exact ⟨by omega, by omega⟩
theorem mul_fits {n m : Int} (h : Few n) (h' : Few m) : 0 ≤ n * m ∧ n * m ≤ 1099513724929 := by
  obtain ⟨a, b⟩ := h
  obtain ⟨c, d⟩ := h'
  refine ⟨Int.mul_nonneg a c, ?_⟩
  have := Int.mul_le_mul b d c (by omega)
  omega
theorem few_many {k : Int} (hk : Few k) : ∀ i n p, Few n → Few p → Few (manyN k i n p)
  | 0, n, p, hn, hp => by rw [manyN]; exact hn
  | i + 1, n, p, hn, hp => by rw [manyN]; exact few_many hk i _ _ (few_add hn hp) (few_mul hp hk)
mutual
theorem count_few : ∀ (g : Gn), Right g → Few (countG g)
  | .node k a b subs, hg => by
    have hm := right_max hg
    have hs : ∀ x ∈ subs, Right x := hg.subs
    simp only [countG]
    split
    · exact ⟨by omega, by omega⟩
    · split
      · rename_i hk
        have := hm.1 hk
        exact ⟨by omega, by omega⟩
      · split
        · exact any_few subs hs 0 ⟨by omega, by omega⟩
        · split
          · exact both_few subs hs 1 ⟨by omega, by omega⟩
          · exact few_many (head_few subs hs) _ 0 1 ⟨by omega, by omega⟩ ⟨by omega, by omega⟩
theorem any_few : ∀ (l : List Gn), (∀ x ∈ l, Right x) → ∀ n, Few n → Few (countAny l n)
  | [], _, n, hn => by rw [countAny]; exact hn
  | g :: l, hl, n, hn => by
    rw [countAny]
    exact any_few l (fun x hx => hl x (by simp [hx])) _ (few_add hn (count_few g (hl g (by simp))))
theorem both_few : ∀ (l : List Gn), (∀ x ∈ l, Right x) → ∀ n, Few n → Few (countBoth l n)
  | [], _, n, hn => by rw [countBoth]; exact hn
  | g :: l, hl, n, hn => by
    rw [countBoth]
    exact both_few l (fun x hx => hl x (by simp [hx])) _ (few_mul hn (count_few g (hl g (by simp))))
theorem head_few : ∀ (l : List Gn), (∀ x ∈ l, Right x) → Few (countHead l)
  | [], _ => by rw [countHead]; exact ⟨by omega, by omega⟩
  | g :: l, hl => by rw [countHead]; exact count_few g (hl g (by simp))
end
theorem any_drop (l : List Gn) (k : Nat) (n : Int) (h : k < l.length) : countAny (l.drop k) n = countAny (l.drop (k + 1)) (min 1048577 (n + countG (l[k]'h))) := by
  rw [List.drop_eq_getElem_cons h, countAny]
theorem both_drop (l : List Gn) (k : Nat) (n : Int) (h : k < l.length) : countBoth (l.drop k) n = countBoth (l.drop (k + 1)) (min 1048577 (n * countG (l[k]'h))) := by
  rw [List.drop_eq_getElem_cons h, countBoth]
theorem head_get (l : List Gn) (h : 0 < l.length) : countHead l = countG (l[0]'h) := by
  cases l with
  | nil => simp at h
  | cons x r => rw [countHead]; rfl
end Go.Proofs.YtabkihellcflhaaGreatDoor.Gens
