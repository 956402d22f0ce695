/- RoseOwn, part 40 of the proof: The program's candidates: what is noted of one that is tried. Conditions: the sizes. -/
import Derived.Test.YtplladlodgfloaaDoorRoseOwnZ37
import Derived.Test.YtplladlodgfloaaDoorRoseOwnZ38
import Derived.Test.YtplladlodgfloaaDoorRoseOwnZ39
/- The program's candidates: what is noted of one that is tried. Conditions: the sizes. -/
namespace Go.Proofs.YtplladlodgfloaaDoor.Gens
open Go.RowKit Lists Ints Vals
set_option linter.unusedVariables false

/-- the box of a slice of lists -/
def RB (p : Nat) (A : Option Addr) (n c : Nat) (w : World) : Prop := w.heap[p]? = some (.cells #[.slice A n c] 29 (0, 0))
theorem RB.cell {p n c : Nat} {A : Option Addr} {w : World} (h : RB p A n c w) : w.cell? ⟨p, 0, none⟩ = some (.slice A n c) := by rw [Lib.cell_of_heap h]; rfl
theorem RB.free {p n c : Nat} {A : Option Addr} {w : World} (h : RB p A n c w) : w.frozen? ⟨p, 0, none⟩ = false := Lib.frozen_of_heap h 0
theorem RB.lt {p n c : Nat} {A : Option Addr} {w : World} (h : RB p A n c w) : p < w.heap.size := (Array.getElem?_eq_some_iff.1 h).1
theorem RB.put {p n c : Nat} {A : Option Addr} {w : World} (h : RB p A n c w) (A' : Option Addr) (n' c' : Nat) : RB p A' n' c' (w.setCell ⟨p, 0, none⟩ (.slice A' n' c')) := by
  unfold RB at h ⊢
  simp [World.setCell, Array.getElem?_modify, h]
theorem ownrows_set {w : World} {base c : Nat} {A : Option Addr} {zs : List (List Int)} (h : OwnRows w base A c zs) {p : Addr} (hp : p.block < base) (v : Value) : OwnRows (w.setCell p v) base A c zs := by
  obtain ⟨xs, h1, h2, h3⟩ := h
  refine ⟨xs, h1, ⟨h2.1, ?_⟩, fun j hj hj' => ?_⟩
  · rcases h2.2 with h0 | ⟨g, cap, cur, he, hg, hh, h4⟩
    · exact .inl h0
    · exact .inr ⟨g, cap, cur, he, hg, (Below.heap_setCell w p v g (by omega)).trans hh, h4⟩
  · obtain ⟨D, d, e, hd, ha⟩ := h3 j hj hj'
    exact ⟨D, d, e, hd, ha.keep fun k hk => ⟨⟨hk.1, by simpa [World.setCell] using hk.2.1, hk.2.2⟩, fun o => World.cell?_of_block (Below.heap_setCell w p v k (by have := hk.1; omega))⟩⟩
theorem own_rowB {w : World} {base c : Nat} {A : Option Addr} {z : List Int} (h : Own w base A c z) : AtP w (fun b => base ≤ b ∧ b < w.heap.size) A z := fun hp => by
  obtain ⟨b, off, e, hb, hc⟩ := h.at_ hp
  exact ⟨b, off, e, ⟨h.ge b (by rw [e]; rfl), hb⟩, hc⟩
/-- the state of candidates, of a call whose memory begins at B: the boxes of the generator, of the tape, of what is noted -/
structure CSt (w0 : World) (t : Gn) (GA : Option Addr) (gcap : Nat) (L : Option Addr) (ln lc : Nat) (z : List (List Int)) (A : Option Addr) (c : Nat) (w : World) : Prop where
  bel : Below w0.heap.size w0 w
  g : G4 w0.heap.size (.int .i64 t.kind) (.int .i64 t.a) (.int .i64 t.b) (.slice GA t.subs.length gcap) w
  l : LB (w0.heap.size + 1) L ln lc w
  r : RB (w0.heap.size + 1 + 1) A z.length c w
  own : OwnRowsD w (w0.heap.size + 1 + 1 + 1) A c z
theorem CSt.later {w0 : World} {t : Gn} {GA : Option Addr} {gcap : Nat} {L : Option Addr} {ln lc : Nat} {z : List (List Int)} {A : Option Addr} {c : Nat} {w w' : World} (h : CSt w0 t GA gcap L ln lc z A c w) (hb : Below w.heap.size w w') : CSt w0 t GA gcap L ln lc z A c w' :=
  ⟨below_trans h.bel hb, h.g.below hb, (hb.block _ h.l.lt).trans h.l, (hb.block _ h.r.lt).trans h.r, h.own.below hb⟩
/-- the rows have grown, and are stored -/
theorem CSt.put {w0 : World} {t : Gn} {GA : Option Addr} {gcap : Nat} {L : Option Addr} {ln lc : Nat} {z z' : List (List Int)} {A A' : Option Addr} {c c' : Nat} {w w5 : World} (h : CSt w0 t GA gcap L ln lc z A c w) (g5 : w.grownBy w5 (rowOf A)) (own5 : OwnRowsD w5 (w0.heap.size + 1 + 1 + 1) A' c' z') :
    RB (w0.heap.size + 1 + 1) A z.length c w5 ∧ CSt w0 t GA gcap L ln lc z' A' c' (w5.setCell ⟨w0.heap.size + 1 + 1, 0, none⟩ (.slice A' z'.length c')) := by
  have hr : ∀ g, rowOf A = some g → w0.heap.size + 1 + 1 + 1 ≤ g := fun g hg => (h.own.ge g hg).1
  have blk : ∀ b, b < w0.heap.size + 1 + 1 + 1 → b < w.heap.size → w5.heap[b]? = w.heap[b]? := fun b hb hw => g5.block b hw (fun e => by have := hr b e.symm; omega)
  have r5 : RB (w0.heap.size + 1 + 1) A z.length c w5 := (blk _ (by omega) h.r.lt).trans h.r
  refine ⟨r5, ?_, ?_, ?_, r5.put _ _ _, ?_⟩
  · exact Below.setCell (p := ⟨w0.heap.size + 1 + 1, 0, none⟩) (h.bel.grown g5 h.bel.size (fun k hk => by have := hr k hk; omega)) (by show w0.heap.size ≤ w0.heap.size + 1 + 1; omega) _
  · exact (Below.heap_setCell _ ⟨w0.heap.size + 1 + 1, 0, none⟩ _ _ (by show w0.heap.size ≠ w0.heap.size + 1 + 1; omega)).trans ((blk _ (by omega) h.g.lt).trans h.g)
  · exact (Below.heap_setCell _ ⟨w0.heap.size + 1 + 1, 0, none⟩ _ _ (by show w0.heap.size + 1 ≠ w0.heap.size + 1 + 1; omega)).trans ((blk _ (by omega) h.l.lt).trans h.l)
  · exact own5.set (p := ⟨w0.heap.size + 1 + 1, 0, none⟩) (by show w0.heap.size + 1 + 1 < w0.heap.size + 1 + 1 + 1; omega) _
/-- what is noted of one that is tried -/
def AddPost (w0 : World) (t : Gn) (GA : Option Addr) (gcap : Nat) (L : Option Addr) (l : List Int) (lc : Nat) (z : List (List Int)) (x : List Int) (e : Ending) (w' : World) : Prop :=
  ∃ (A' : Option Addr) (c' : Nat) (z' : List (List Int)), e = .returned (.tuple #[]) ∧ Hid (z' = z ++ keptL t l x) ∧ CSt w0 t GA gcap L l.length lc z' A' c' w'

set_option maxHeartbeats 2000000 in
set_option maxRecDepth 100000 in
theorem add_ok {w0 : World} {t : Gn} {GA : Option Addr} {gcap : Nat} {L : Option Addr} {lc : Nat} {z : List (List Int)} {A : Option Addr} {c n : Nat} {l x : List Int} {X : Option Addr} {xc : Nat} (w : World) (h : CSt w0 t GA gcap L l.length lc z A c w)
    (hg : GAt w0 (GBel w0.heap.size) n (gv t GA gcap) t) (h0 : genV t = 0) (hl : At w0 w0.heap.size L l) (hln : l.length ≤ 4294967296) (hx : At w w.heap.size X x) (hxc : x.length ≤ xc) (hxl : x.length ≤ 4294967296) (hz : z.length ≤ 1099511627776) :
    Calls Tryd.prog 31 #[.slice X x.length xc, .pointer (some ⟨w0.heap.size, 0, none⟩), .pointer (some ⟨w0.heap.size + 1, 0, none⟩), .pointer (some ⟨w0.heap.size + 1 + 1, 0, none⟩)] w (AddPost w0 t GA gcap L l lc z x) := by
  have hs : t.size ≤ 4294967296 := by have := small30 h0; omega
  have M := mend_prog w ((hg.below h.bel).more h.bel.size) hx hxc hxl hs
  rw [h0, errOf_ok] at M
  have M := Lib.hid M
  have K := Lib.hid (show keptL t l x = if lessL (mendL t x) l = true then [mendL t x] else [] from rfl)
  have ML := Lib.hid (show (mendL t x).length ≤ 1399680 from (mend_run x h0).choose_spec.choose_spec.2)
  have H := Lib.hid h
  have HW := Lib.hid (show (∀ g, rowOf A = some g → g < w.heap.size) ∧ w0.heap.size + 1 + 1 + 1 ≤ w.heap.size from ⟨fun g hg => (h.own.ge g hg).2, by have := h.r.lt; omega⟩)
  have HO := Lib.hid h.own
  have HL := Lib.hid hl
  have HN := Lib.hid hln
  have HZ := Lib.hid hz
  obtain ⟨k0, k1, k2, k3⟩ := h.g.facts
  clear h hg h0 hl hln hx hxc hxl hz hs
  generalize mendL t x = m at *
  go_enter Tryd.func31, Tryd.ntmps31
  go_wp2_with fail
  ((with_reducible refine M.out.mono ?_))
  rintro e w1 ⟨A1, c1, rfl, own1, hb1⟩
  have H1 := Lib.hid (H.out.later hb1)
  have O1 := Lib.hid own1
  have BW1 := Lib.hid hb1
  clear own1 hb1 M k0 k1 k2 k3 H
  have f0 := H1.out.l.cell
  have LS := Lib.hid (less_any m l A1 L c1 lc w1.heap.size (by have := ML.out; simp only [maxLen]; omega) (by have := HN.out; simp only [maxLen]; omega) w1 O1.out.at_ ((HL.out.below H1.out.bel).more H1.out.bel.size))
  go_wp2_with fail
  ((with_reducible refine LS.out.mono ?_))
  rintro e w2 ⟨rfl, rfl⟩
  clear f0 LS
  have f1 := H1.out.r.cell
  have f2 := H1.out.r.free
  generalize lessL m l = q at *
  cases q
  · rw [if_neg (by decide)] at K
    go_wp2_with fail
    go_end0
    exact ⟨A, c, z, rfl, Lib.hid (by rw [K.out, List.append_nil]), H1.out⟩
  · rw [if_pos rfl] at K
    have NB := Lib.hid (bel1 w1 (.cells #[.slice A1 m.length c1] 25))
    have NH := Lib.hid (heap_new2 w1 (.cells #[.slice A1 m.length c1] 25))
    have NR := Lib.hid (H1.out.later NB.out)
    have WN := Lib.hid (below_trans BW1.out NB.out)
    have ON := Lib.hid (O1.out.below NB.out)
    have BS := Lib.hid (show w0.heap.size + 1 + 1 + 1 ≤ (w1.alloc (.cells #[.slice A1 m.length c1] 25)).heap.size by have := H1.out.r.lt; simp; omega)
    have ZS := Lib.hid (show z.length + 1 ≤ 4398046511104 by have := HZ.out; omega)
    go_wp2_with (at_builtin; refine wpList_append_rowsd rfl (.tmp 16) (.tmp 18) rfl w (w0.heap.size + 1 + 1 + 1) c A z HO.out WN.out w1.heap.size m A1 c1 _ ON.out NH.out rfl rfl ZS.out HW.out.2 ?_; intro A5 c5 w5 z5 hz5 own5 g5 r5; have PT := NR.out.put g5 own5; have q0 := PT.1.cell; have q1 := PT.1.free; have PT := Lib.hid PT.2; clear own5 g5 r5)
    go_end0
    exact ⟨A5, c5, z5, rfl, Lib.hid (by rw [hz5.out, K.out]), PT.out⟩
end Go.Proofs.YtplladlodgfloaaDoor.Gens
