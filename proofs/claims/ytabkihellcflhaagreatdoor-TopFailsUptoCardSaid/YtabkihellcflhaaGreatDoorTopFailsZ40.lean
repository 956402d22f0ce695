/- TopFails, part 40 of the proof: The program's firstFailing (package shrink). Conditions: the sizes; the program's table. · A walk on its way: the mathematics. No program. -/
import Derived.Test.YtabkihellcflhaaGreatDoorTopFailsZ32
import Derived.Test.YtabkihellcflhaaGreatDoorTopFailsZ39
import Derived.Test.YtabkihellcflhaaGreatDoorTopFailsZ20
import Derived.RegionTactic
import Derived.ChangeAlike
import Derived.Test.YtabkihellcflhaaGreatDoorTopFailsZ23
/- The program's firstFailing (package shrink). Conditions: the sizes; the program's table. -/
namespace Go.Proofs.YtabkihellcflhaaGreatDoor.Gens
open Go.RowKit Lists Ints Vals Exprs
set_option linter.unusedVariables false

/-- the box of a truth value -/
def QB (p : Nat) (b : Bool) (w : World) : Prop := w.heap[p]? = some (.cells #[.bool b] 4 (0, 0))
theorem QB.cell {p : Nat} {b : Bool} {w : World} (h : QB p b w) : w.cell? ⟨p, 0, none⟩ = some (.bool b) := by rw [Lib.cell_of_heap h]; rfl
theorem QB.free {p : Nat} {b : Bool} {w : World} (h : QB p b w) : w.frozen? ⟨p, 0, none⟩ = false := Lib.frozen_of_heap h 0
theorem QB.lt {p : Nat} {b : Bool} {w : World} (h : QB p b w) : p < w.heap.size := (Array.getElem?_eq_some_iff.1 h).1
theorem QB.put {p : Nat} {b : Bool} {w : World} (h : QB p b w) (b' : Bool) : QB p b' (w.setCell ⟨p, 0, none⟩ (.bool b')) := by
  unfold QB at h ⊢
  simp [World.setCell, Array.getElem?_modify, h]
/-- the first that failed of those that were seen: its list, and whether there is one -/
def FirstAt (base p : Nat) (bad : List Int → Bool) (z : List (List Int)) (w : World) : Prop :=
  match z.find? bad with
  | none => LB p none 0 0 w ∧ QB (p + 1) false w
  | some y => ∃ (Y : Option Addr) (yc : Nat), LB p Y y.length yc w ∧ QB (p + 1) true w ∧ Own w base Y yc y
/-- the boxes of firstFailing, and what has been seen -/
def FF (w0 : World) (t x : Gn) (GA : Option Addr) (gcap : Nat) (XA : Option Addr) (xcap : Nat) (bad : List Int → Bool) (X : Nat → Prop) (z : List (List Int)) (w : World) : Prop :=
  Below w0.heap.size w0 w ∧ G4 w0.heap.size (.int .i64 t.kind) (.int .i64 t.a) (.int .i64 t.b) (.slice GA t.subs.length gcap) w ∧ E3 (w0.heap.size + 1) (.int .i64 x.kind) (.int .i64 x.a) (.slice XA x.subs.length xcap) w ∧ w0.heap.size + 4 ≤ w.heap.size ∧ FirstAt w0.heap.size (w0.heap.size + 2) bad z w ∧ ∀ b, X b ↔ (b = w0.heap.size + 2 ∨ b = w0.heap.size + 3)
theorem FirstAt.below {base p : Nat} {bad : List Int → Bool} {z : List (List Int)} {w w' : World} (h : FirstAt base p bad z w) (hb : Below w.heap.size w w') : FirstAt base p bad z w' := by
  unfold FirstAt at h ⊢
  cases hf : z.find? bad with
  | none =>
    rw [hf] at h
    exact ⟨(hb.block _ h.1.lt).trans h.1, (hb.block _ h.2.lt).trans h.2⟩
  | some y =>
    rw [hf] at h
    obtain ⟨Y, yc, h1, h2, h3⟩ := h
    exact ⟨Y, yc, (hb.block _ h1.lt).trans h1, (hb.block _ h2.lt).trans h2, h3.below hb⟩
theorem find_none_all {bad : List Int → Bool} {z : List (List Int)} (h : ∀ a ∈ z, bad a = false) : z.find? bad = none := by
  rw [List.find?_eq_none]
  intro y hy
  rw [h y hy]; simp
theorem own_set {w : World} {base c : Nat} {A : Option Addr} {z : List Int} (h : Own w base A c z) {p : Nat} (hp : p < base) (v : Value) : Own (w.setCell ⟨p, 0, none⟩ v) base A c z := by
  unfold Own at h ⊢
  rcases h with ⟨h0, h | ⟨g, cap, cur, he, hg, hh, h4⟩⟩
  · exact ⟨h0, .inl h⟩
  · exact ⟨h0, .inr ⟨g, cap, cur, he, hg, (Below.heap_setCell w ⟨p, 0, none⟩ v g (by show g ≠ p; omega)).trans hh, h4⟩⟩

set_option maxHeartbeats 4000000 in
set_option maxRecDepth 100000 in
theorem see_first {t x : Gn} {GA XA : Option Addr} {gcap xcap n nx : Nat} {l : List Int} (w0 : World) (hg : GAt w0 (GBel w0.heap.size) n (gv t GA gcap) t) (hx : EAt w0 (EBel w0.heap.size) nx (ev x XA xcap) x) (h0 : genV t = 0) (hf : faultE x = 0) (hsub : Subs w0) (hsz : t.size ≤ 4294967296) (hxz : x.size ≤ 4294967296) :
    SeeB 92 #[.pointer (some ⟨w0.heap.size, 0, none⟩), .pointer (some ⟨w0.heap.size + 1, 0, none⟩), .pointer (some ⟨w0.heap.size + 2, 0, none⟩), .pointer (some ⟨w0.heap.size + 3, 0, none⟩)] t l (badT t x) (FF w0 t x GA gcap XA xcap (badT t x)) := by
  refine ⟨fun _ _ => rfl, ?_, ?_, ?_⟩
  · rintro X z w ⟨_, _, _, hs, _, hX⟩ b hb
    rcases (hX b).1 hb with rfl | rfl <;> omega
  · rintro X z w w' ⟨h1, h2, h3, h4, h5, h6⟩ hb
    exact ⟨below_trans h1 hb, h2.below hb, h3.below hb, Nat.le_trans h4 hb.size, h5.below hb, h6⟩
  · rintro X z w1 w2 D d y hy _ hst ⟨h1, h2, h3, h4, h5, h6⟩ hb ho
    show Calls Tryz.prog 92 #[.slice D y.length d, .pointer (some ⟨w0.heap.size, 0, none⟩), .pointer (some ⟨w0.heap.size + 1, 0, none⟩), .pointer (some ⟨w0.heap.size + 2, 0, none⟩), .pointer (some ⟨w0.heap.size + 3, 0, none⟩)] w2 _
    have hb0 : Below w0.heap.size w0 w2 := below_trans h1 hb
    have FN := find_none_all hst
    unfold FirstAt at h5
    rw [FN] at h5
    have yl := ((rose_facts h0 l).2 y hy).2.2
    have ye : roseE t y = 0 := by
      obtain ⟨v, hv⟩ := ((rose_facts h0 l).2 y hy).1
      unfold roseE; rw [hv]; rfl
    have C := shfails_ok w2 ((hg.below hb0).more hb0.size) ((hx.below hb0).more hb0.size) hf (hsub.below hb0) ho.at_ ho.cap_ (by omega) hsz hxz
    rw [ye, errOf_ok] at C
    have C := Lib.hid C
    have G2 := Lib.hid (h2.below hb)
    have X2 := Lib.hid (h3.below hb)
    have L2 := Lib.hid (show LB (w0.heap.size + 2) none 0 0 w2 from (hb.block _ h5.1.lt).trans h5.1)
    have Q2 := Lib.hid (show QB (w0.heap.size + 3) false w2 from (hb.block _ h5.2.lt).trans h5.2)
    have HB := Lib.hid hb
    have H1 := Lib.hid h1
    have H4 := Lib.hid h4
    have H6 := Lib.hid h6
    have HO := Lib.hid ho
    have FN := Lib.hid FN
    have LN : y.length ≤ 4294967296 := by omega
    obtain ⟨k0, k1, k2, k3⟩ := G2.out.facts
    obtain ⟨x0, x1, x2⟩ := X2.out.facts
    clear hg hx hsub hsz hxz h1 h2 h3 h4 h5 h6 hb hb0 ho hst yl ye hy
    have FA := Lib.hid (fun (q : Bool) (h : badT t x y = q) => show (z ++ [y]).find? (badT t x) = if q = true then some y else none by
      rw [List.find?_append, FN.out]
      cases q <;> simp [h])
    generalize hq : badT t x y = q at *
    have FQ := Lib.hid (FA.out q rfl)
    clear FA hq
    go_enter Tryz.func92, Tryz.ntmps92
    go_wp2_with fail
    ((with_reducible refine C.out.mono ?_))
    rintro e w3 ⟨rfl, hb3⟩
    have B3 := Lib.hid (below_trans HB.out hb3)
    have L3 := Lib.hid (show LB (w0.heap.size + 2) none 0 0 w3 from (hb3.block _ L2.out.lt).trans L2.out)
    have Q3 := Lib.hid (show QB (w0.heap.size + 3) false w3 from (hb3.block _ Q2.out.lt).trans Q2.out)
    have G3 := Lib.hid (G2.out.below hb3)
    have X3 := Lib.hid (X2.out.below hb3)
    have O3 := Lib.hid (HO.out.below hb3)
    clear hb3 C k0 k1 k2 k3 x0 x1 x2
    have f0 := L3.out.cell
    have f1 := L3.out.free
    have f2 := Q3.out.cell
    have f3 := Q3.out.free
    cases q with
    | false =>
      go_wp2_with fail
      go_ret
      exact ⟨rfl, X, ⟨below_trans H1.out B3.out, G3.out, X3.out, Nat.le_trans H4.out B3.out.size, by unfold FirstAt; rw [FQ.out]; exact ⟨L3.out, Q3.out⟩, H6.out⟩, mv_of B3.out⟩
    | true =>
      go_wp2_with fail
      go_ret
      have h4 := H4.out
      have e1 := Below.setCell (p := ⟨w0.heap.size + 3, 0, none⟩) (Below.setCell (p := ⟨w0.heap.size + 2, 0, none⟩) (below_trans H1.out B3.out) (show w0.heap.size ≤ w0.heap.size + 2 by omega) (.slice D y.length d)) (show w0.heap.size ≤ w0.heap.size + 3 by omega) (.bool true)
      have sz := B3.out.size
      have hne : ∀ b, b ≠ w0.heap.size + 2 → b ≠ w0.heap.size + 3 → ((w3.setCell ⟨w0.heap.size + 2, 0, none⟩ (.slice D y.length d)).setCell ⟨w0.heap.size + 3, 0, none⟩ (.bool true)).heap[b]? = w3.heap[b]? := fun b h2 h3 => (Below.heap_setCell _ ⟨w0.heap.size + 3, 0, none⟩ _ b h3).trans (Below.heap_setCell _ ⟨w0.heap.size + 2, 0, none⟩ _ b h2)
      have e2 := Below.setCell (p := ⟨w0.heap.size + 3, 0, none⟩) (Below.setCell (p := ⟨w0.heap.size + 2, 0, none⟩) (Below.refl 0 w3) (Nat.zero_le _) (.slice D y.length d)) (Nat.zero_le _) (.bool true)
      refine ⟨rfl, X, ⟨e1, (hne _ (by omega) (by omega)).trans G3.out, (hne _ (by omega) (by omega)).trans X3.out, Nat.le_trans h4 (Nat.le_trans sz e2.size), ?_, H6.out⟩, ⟨e2.os.trans B3.out.os, e2.tape.trans B3.out.tape, e2.output.trans B3.out.output, Nat.le_trans sz e2.size, fun b hb hn => ?_, fun b hb => .inl hb⟩⟩
      · unfold FirstAt
        rw [FQ.out]
        refine ⟨D, d, (Below.heap_setCell _ ⟨w0.heap.size + 3, 0, none⟩ _ (w0.heap.size + 2) (by show w0.heap.size + 2 ≠ w0.heap.size + 3; omega)).trans (L3.out.put _ _ _), ?_, ?_⟩
        · have q : QB (w0.heap.size + 3) false (w3.setCell ⟨w0.heap.size + 2, 0, none⟩ (.slice D y.length d)) := (Below.heap_setCell _ ⟨w0.heap.size + 2, 0, none⟩ _ (w0.heap.size + 3) (by show w0.heap.size + 3 ≠ w0.heap.size + 2; omega)).trans Q3.out
          exact q.put true
        · exact own_less (own_set (own_set O3.out (show w0.heap.size + 2 < w1.heap.size by omega) _) (show w0.heap.size + 3 < w1.heap.size by omega) _) (by omega)
      · have n2 : b ≠ w0.heap.size + 2 := fun h => hn ((H6.out b).2 (.inl h))
        have n3 : b ≠ w0.heap.size + 3 := fun h => hn ((H6.out b).2 (.inr h))
        exact (hne b n2 n3).trans (B3.out.block b hb)

/-- the four boxes at its start -/
theorem ff_new (w : World) (t x : Gn) (GA XA : Option Addr) (gcap xcap : Nat) (bad : List Int → Bool) :
    FF w t x GA gcap XA xcap bad (fun b => b = w.heap.size + 2 ∨ b = w.heap.size + 3) [] ((((w.alloc (gc t GA gcap)).alloc (ec x XA xcap)).alloc (.cells #[.slice none 0 0] 32)).alloc (.cells #[.bool false] 4)) := by
  obtain ⟨h1, h2, h3, h4⟩ := gx_boxes w t x GA XA gcap xcap
  generalize (w.alloc (gc t GA gcap)).alloc (ec x XA xcap) = W at *
  have z1 : (W.alloc (.cells #[.slice none 0 0] 32)).heap.size = w.heap.size + 3 := by simp [h4]
  have z2 : ((W.alloc (.cells #[.slice none 0 0] 32)).alloc (.cells #[.bool false] 4)).heap.size = w.heap.size + 4 := by simp [h4]
  have b1 := bel1 W (.cells #[.slice none 0 0] 32)
  have b2 := bel1 (W.alloc (.cells #[.slice none 0 0] 32)) (.cells #[.bool false] 4)
  have n1 := new_obj W (.cells #[.slice none 0 0] 32)
  have n2 := new_obj (W.alloc (.cells #[.slice none 0 0] 32)) (.cells #[.bool false] 4)
  rw [h4] at n1
  rw [z1] at n2
  refine ⟨below_trans (below_trans h3 b1) b2, (h1.below b1).below b2, (h2.below b1).below b2, by omega, ?_, fun b => Iff.rfl⟩
  unfold FirstAt
  exact ⟨(b2.block _ (by omega)).trans n1, n2⟩
/-- what firstFailing tells -/
def FirstPost (t x : Gn) (l : List Int) (w : World) (e : Ending) (w' : World) : Prop :=
  match stepT t x l with
  | none => e = .returned (.tuple #[.slice none 0 0, .bool false]) ∧ Below w.heap.size w w'
  | some y => ∃ (Y : Option Addr) (yc : Nat), e = .returned (.tuple #[.slice Y y.length yc, .bool true]) ∧ Own w' w.heap.size Y yc y ∧ Below w.heap.size w w'

/-- what is written as it was -/
theorem two_put {w w1 : World} {Y : Option Addr} {n c : Nat} {q : Bool} (h1 : LB (w.heap.size + 2) Y n c w1) (h2 : QB (w.heap.size + 3) q w1) (hb : Below w.heap.size w w1) {v : Value} (hv : v = .slice Y n c) :
    let W := ((w1.setCell ⟨w.heap.size + 1 + 1, 0, none⟩ v).setCell ⟨w.heap.size + 1 + 1 + 1, 0, none⟩ (.bool q)).drew
    LB (w.heap.size + 1 + 1) Y n c W ∧ QB (w.heap.size + 1 + 1 + 1) q W ∧ Below w.heap.size w W ∧ ∀ base A c2 z, Own w1 base A c2 z → Own W base A c2 z := by
  subst hv
  intro W
  have p1 : LB (w.heap.size + 1 + 1) Y n c (w1.setCell ⟨w.heap.size + 1 + 1, 0, none⟩ (.slice Y n c)) := LB.put (p := w.heap.size + 1 + 1) h1 _ _ _
  have p2 : QB (w.heap.size + 1 + 1 + 1) q (w1.setCell ⟨w.heap.size + 1 + 1, 0, none⟩ (.slice Y n c)) := (Below.heap_setCell _ ⟨w.heap.size + 1 + 1, 0, none⟩ _ (w.heap.size + 1 + 1 + 1) (by show w.heap.size + 1 + 1 + 1 ≠ w.heap.size + 1 + 1; omega)).trans h2
  have e1 : ∀ b : Nat, W.heap[b]? = w1.heap[b]? := fun b => by
    show ((w1.setCell ⟨w.heap.size + 1 + 1, 0, none⟩ (.slice Y n c)).setCell ⟨w.heap.size + 1 + 1 + 1, 0, none⟩ (.bool q)).heap[b]? = _
    by_cases hb3 : b = w.heap.size + 1 + 1 + 1
    · subst hb3
      exact (p2.put q).trans h2.symm
    · refine (Below.heap_setCell _ ⟨w.heap.size + 1 + 1 + 1, 0, none⟩ _ b hb3).trans ?_
      by_cases hb2 : b = w.heap.size + 1 + 1
      · subst hb2
        exact p1.trans h1.symm
      · exact Below.heap_setCell _ ⟨w.heap.size + 1 + 1, 0, none⟩ _ b hb2
  have sz : W.heap.size = w1.heap.size := by show (World.setCell _ _ _).heap.size = _; simp [World.setCell]
  refine ⟨(e1 _).trans h1, (e1 _).trans h2, ?_, fun base A c2 z ho => ?_⟩
  · have e := Below.setCell (p := ⟨w.heap.size + 1 + 1 + 1, 0, none⟩) (Below.setCell (p := ⟨w.heap.size + 1 + 1, 0, none⟩) hb (show w.heap.size ≤ w.heap.size + 1 + 1 by omega) (.slice Y n c)) (show w.heap.size ≤ w.heap.size + 1 + 1 + 1 by omega) (.bool q)
    exact e.drew
  · unfold Own at ho ⊢
    rcases ho with ⟨h0, h | ⟨g, cap, cur, he, hg, hh, h4⟩⟩
    · exact ⟨h0, .inl h⟩
    · exact ⟨h0, .inr ⟨g, cap, cur, he, hg, (e1 g).trans hh, h4⟩⟩
set_option maxHeartbeats 4000000 in
set_option maxRecDepth 100000 in
theorem first_ok {t x : Gn} {GA XA L : Option Addr} {gcap xcap lc n nx : Nat} {l : List Int} (w : World) (hg : GAt w (GBel w.heap.size) n (gv t GA gcap) t) (hx : EAt w (EBel w.heap.size) nx (ev x XA xcap) x) (hf : faultE x = 0) (hsub : Subs w) (hl : At w w.heap.size L l) (hcap : l.length ≤ lc) (hz : roseE t l = 0) (hxz : x.size ≤ 4294967296) :
    Calls Tryz.prog 61 #[gv t GA gcap, ev x XA xcap, .slice L l.length lc] w (FirstPost t x l w) := by
  have h0 := (rep_facts hz).1
  have hll := (rep_facts hz).2.1
  have hs := small30 h0
  have NW := ff_new w t x GA XA gcap xcap (badT t x)
  have SF := see_first (l := l) w hg hx h0 hf hsub (by omega) hxz
  have E := each_ok (n := n) (B := w.heap.size) (lc := lc) SF (X := fun b => b = w.heap.size + 2 ∨ b = w.heap.size + 3) ((((w.alloc (gc t GA gcap)).alloc (ec x XA xcap)).alloc (.cells #[.slice none 0 0] 32)).alloc (.cells #[.bool false] 4)) NW.1.size (fun b h => by omega) (hg.below NW.1) (hl.below NW.1) hcap (by omega) (by omega) NW
  unfold EachPost at E
  rw [show roseV t l = roseL t l by unfold roseV; rw [if_pos hz]] at E
  have C := Lib.hid E
  have ST := Lib.hid (show (seenL (badT t x) (roseL t l)).find? (badT t x) = stepT t x l from find_seen _ _)
  have G0 := Lib.hid NW.2.1
  have hmf : ∀ (fn : Fn) (first cap : Array Value) (w : World), (Instr.makeFunc fn first cap).run Tryz.prog w = .ok (.func fn first cap) w := fun _ _ _ _ => rfl
  clear hg hx hf hsub hl hcap hz hxz h0 hll hs NW SF E
  go_enter Tryz.func61, Tryz.ntmps61
  obtain ⟨k0, k1, k2, k3⟩ := G0.out.facts
  go_wp2_with fail
  generalize (((w.alloc (gc t GA gcap)).alloc (ec x XA xcap)).alloc (.cells #[.slice none 0 0] 32)).alloc (.cells #[.bool false] 4) = W0 at *
  ((with_reducible refine C.out.mono ?_))
  rintro e w1 ⟨X1, rfl, ⟨h1, _, _, h4, h5, _⟩, _⟩
  unfold FirstAt at h5
  rw [ST.out] at h5
  clear k0 k1 k2 k3 C
  cases hs : stepT t x l with
  | none =>
    rw [hs] at h5
    have f0 : w1.cell? ⟨w.heap.size + 1 + 1, 0, none⟩ = some (.slice none 0 0) := h5.1.cell
    have f1 : w1.frozen? ⟨w.heap.size + 1 + 1, 0, none⟩ = false := h5.1.free
    have f2 : w1.cell? ⟨w.heap.size + 1 + 1 + 1, 0, none⟩ = some (.bool false) := h5.2.cell
    have f3 : w1.frozen? ⟨w.heap.size + 1 + 1 + 1, 0, none⟩ = false := h5.2.free
    have P2 := Lib.hid (two_put h5.1 h5.2 h1 rfl)
    have SE := Lib.hid hs
    clear h1 h4 h5 hs
    go_wp2_with fail
    go_region
    generalize ((w1.setCell ⟨w.heap.size + 1 + 1, 0, none⟩ (.slice none 0 0)).setCell ⟨w.heap.size + 1 + 1 + 1, 0, none⟩ (.bool false)).drew = W2 at *
    clear f0 f1 f2 f3
    have f0 := P2.out.1.cell
    have f2 := P2.out.2.1.cell
    go_wp2_with fail
    refine bodyPost_ret (v := .tuple #[.slice none 0 0, .bool false]) (by simp [results, Tryz.results61, go_sem, f0, f2]) rfl ?_
    unfold FirstPost
    rw [SE.out]
    exact ⟨rfl, P2.out.2.2.1⟩
  | some y =>
    rw [hs] at h5
    obtain ⟨Y, yc, q1, q2, q3⟩ := h5
    have f0 : w1.cell? ⟨w.heap.size + 1 + 1, 0, none⟩ = some (.slice Y y.length yc) := q1.cell
    have f1 : w1.frozen? ⟨w.heap.size + 1 + 1, 0, none⟩ = false := q1.free
    have f2 : w1.cell? ⟨w.heap.size + 1 + 1 + 1, 0, none⟩ = some (.bool true) := q2.cell
    have f3 : w1.frozen? ⟨w.heap.size + 1 + 1 + 1, 0, none⟩ = false := q2.free
    have P2 := Lib.hid (two_put q1 q2 h1 rfl)
    have Q3 := Lib.hid (P2.out.2.2.2 w.heap.size Y yc y q3)
    have SE := Lib.hid hs
    clear h1 h4 q1 q2 q3 hs
    go_wp2_with fail
    go_region
    generalize ((w1.setCell ⟨w.heap.size + 1 + 1, 0, none⟩ (.slice Y y.length yc)).setCell ⟨w.heap.size + 1 + 1 + 1, 0, none⟩ (.bool true)).drew = W2 at *
    clear f0 f1 f2 f3
    have f0 := P2.out.1.cell
    have f2 := P2.out.2.1.cell
    go_wp2_with fail
    refine bodyPost_ret (v := .tuple #[.slice Y y.length yc, .bool true]) (by simp [results, Tryz.results61, go_sem, f0, f2]) rfl ?_
    unfold FirstPost
    rw [SE.out]
    exact ⟨Y, yc, rfl, Q3.out, P2.out.2.2.1⟩
end Go.Proofs.YtabkihellcflhaaGreatDoor.Gens

/- A walk on its way: the mathematics. No program. -/
namespace Go.Proofs.YtabkihellcflhaaGreatDoor.Gens
open Go.RowKit Lists Ints Vals Exprs
set_option linter.unusedVariables false

/-- where the walk stands at the tape y, behind so many steps -/
def Along (t x : Gn) (l y : List Int) (st : Nat) : Prop := roseE t y = 0 ∧ walkT t x l = ((walkT t x y).1, (walkT t x y).2 + st) ∧ st + measL y ≤ measL l
theorem along_start {t x : Gn} {l : List Int} (h : roseE t l = 0) : Along t x l l 0 := ⟨h, by simp, by omega⟩
theorem along_step {t x : Gn} {l y y2 : List Int} {st : Nat} (h : Along t x l y st) (hs : stepT t x y = some y2) : Along t x l y2 (st + 1) ∧ measL y2 < measL y := by
  obtain ⟨h1, h2, h3⟩ := h
  obtain ⟨s1, s2, _, _⟩ := step_facts h1 hs
  refine ⟨⟨s2, ?_, by omega⟩, s1⟩
  rw [h2, walk_step h1 hs]
  simp only [Prod.mk.injEq, true_and]
  omega
theorem along_end {t x : Gn} {l y : List Int} {st : Nat} (h : Along t x l y st) (hs : stepT t x y = none) : walkT t x l = (y, st) := by
  obtain ⟨h1, h2, _⟩ := h
  rw [h2, walk_stop h1 hs]
  simp
end Go.Proofs.YtabkihellcflhaaGreatDoor.Gens
