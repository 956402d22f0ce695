/- The program's isTrue and Min (package dd). Conditions: the sizes. -/
import Derived.Test.YtcenekjkdnfhkaaDdM
import Derived.Test.YtcenekjkdnfhkaaConcat
import Derived.Test.YtcenekjkdnfhkaaCutRow
import Derived.Defers
import Derived.Recover
import Derived.Deep.RegionHeld3
import Derived.Deep.LoopGhost
namespace Go.Proofs.Ytcenekjkdnfhkaa.Dd
open Go.RowKit Rng Ints Lists Vals Gens
set_option linter.unusedVariables false

/-- the box of isTrue's result -/
def TB (p : Nat) (x : Bool) (w : World) : Prop := w.heap[p]? = some (.cells #[.bool x] 4 (0, 0))
theorem TB.cell {p : Nat} {x : Bool} {w : World} (h : TB p x w) : w.cell? ⟨p, 0, none⟩ = some (.bool x) := by rw [Lib.cell_of_heap h]; rfl
theorem TB.free {p : Nat} {x : Bool} {w : World} (h : TB p x w) : w.frozen? ⟨p, 0, none⟩ = false := Lib.frozen_of_heap h 0
theorem TB.lt {p : Nat} {x : Bool} {w : World} (h : TB p x w) : p < w.heap.size := (Array.getElem?_eq_some_iff.1 h).1
theorem TB.put {p : Nat} {x : Bool} {w : World} (h : TB p x w) (y : Bool) : TB p y (w.setCell ⟨p, 0, none⟩ (.bool y)) := by
  unfold TB at h ⊢
  simp [World.setCell, Array.getElem?_modify, h]
theorem TB.below {p : Nat} {x : Bool} {w w' : World} (h : TB p x w) (hb : Below w.heap.size w w') : TB p x w' := (hb.block p h.lt).trans h
theorem dslots3 (p v : Value) : #[p] ++ ((Array.replicate 2 undef).setIfInBounds 1 v).setIfInBounds 0 v = #[p, v, v] := rfl
set_option maxHeartbeats 1000000 in
theorem dcatch_idle (p : Addr) (w : World) :
    CallsD Try.prog 16 #[.pointer (some p)] .returning w fun e u' w' => e = .returned (.tuple #[]) ∧ u' = .returning ∧ w' = w := by
  refine callsD_of_wpS Try.func16 rfl fun c₀ cs hu => ?_
  apply wpS_seq
  apply wpS_region
  simp [wpOpsS, go_sem, recoverD, hu, Try.ntmps16, Exit.thenS]
  refine wpS_of_wp ?_
  have HU := Lib.hid hu
  clear hu
  go_wp2_with fail
  cases c₀
  have HU := HU.out
  simp_all [bodyPostS, results, Try.results16]
theorem on_ {w w1 w2 : World} (h1 : Below w.heap.size w w1) (h2 : Below w1.heap.size w1 w2) : Below w.heap.size w w2 := h1.trans (h2.mono h1.size)

theorem own_lessd {w : World} {base base' c : Nat} {A : Option Addr} {z : List Int} (h : Own w base A c z) (hb : base' ≤ base) : Own w base' A c z := by
  refine ⟨h.1, ?_⟩
  rcases h.2 with h0 | ⟨g, cap, cur, he, hb2, hh, h1⟩
  · exact .inl h0
  · exact .inr ⟨g, cap, cur, he, by omega, hh, h1⟩

set_option maxHeartbeats 2000000 in
set_option maxRecDepth 100000 in
theorem istrue_ok {k B N lc : Nat} {cap : Array Value} {P : List Int → Bool} {I : World → Prop} {A : Option Addr} {l : List Int} (w : World) (F : FailF k cap B P I) (hI : I w) (hB : B ≤ w.heap.size) (hat : At w N A l) (hN : N ≤ w.heap.size) (h12 : l.length ≤ 12) :
    Calls Try.prog 12 #[dfv k cap, .slice A l.length lc] w fun e w' => e = .returned (.bool (P l)) ∧ Below w.heap.size w w' := by
  have B0 : Below w.heap.size w (w.alloc (.cells #[.bool false] 4)) := (Below.refl _ _).alloc (Nat.le_refl _) _
  have T0 : TB w.heap.size false (w.alloc (.cells #[.bool false] 4)) := heap_new2 w _
  have CL := Lib.hid (clone_ok (lc := lc) (w.alloc (.cells #[.bool false] 4)) (hat.below (B0.mono hN)) (Nat.le_trans hN B0.size) (by omega))
  have hent := F.ent
  have FK := Lib.hid F.keep
  have FC := Lib.hid (fun (w' : World) (A' : Option Addr) (c : Nat) (hb : Below w.heap.size w w') (ho : Own w' w.heap.size A' c l) => F.call w' A' c l (F.keep w w' hI (hb.mono hB)) (Nat.le_trans hB hb.size) (own_lessd ho hB) h12)
  have B0 := Lib.hid B0
  have T0 := Lib.hid T0
  clear hat hI FK F
  have hmf : ∀ (fn : Fn) (first cap : Array Value) (w : World), (Instr.makeFunc fn first cap).run Try.prog w = .ok (.func fn first cap) w := fun _ _ _ _ => rfl
  go_enter_defers Try.func12, Try.ntmps12
  go_wp2_with fail
  generalize w.alloc (.cells #[.bool false] 4) = W at *
  ((with_reducible refine CL.out.mono ?_))
  rintro e w1 ⟨A1, c1, rfl, own1, hb1⟩
  have T1 := Lib.hid (T0.out.below hb1)
  have B1 := Lib.hid (on_ B0.out hb1)
  have G1 := Lib.hid own1.ge
  have S1 := Lib.hid hb1.size
  have C1 := Lib.hid (FC.out w1 A1 c1 B1.out (own_lessd own1 B0.out.size))
  have Z := Lib.hid T0.out.lt
  clear own1 hb1 CL
  go_wp2_with fail
  ((refine C1.out.mono ?_))
  rintro e w2 ⟨rfl, hg⟩
  have b2 := Lib.hid (grown_below hg S1.out G1.out)
  have T2 := Lib.hid (show TB w.heap.size false w2 from (b2.out.block _ Z.out).trans T1.out)
  have B2 := Lib.hid (B1.out.trans (b2.out.mono B0.out.size))
  have c0 := T2.out.cell
  have f0 := T2.out.free
  clear hg C1 FC
  go_wp2_with fail
  have T3 := T2.out.put (P l)
  have B3 := Lib.hid (Below.setCell (p := ⟨w.heap.size, 0, none⟩) B2.out (Nat.le_refl _) (.bool (P l)))
  clear c0 f0
  generalize w2.setCell ⟨w.heap.size, 0, none⟩ (.bool (P l)) = W9 at T3 B3 ⊢
  refine leaves_cons (f := 16) (args := #[.pointer (some ⟨w.heap.size, 0, none⟩)]) (by simp) (by simp [go_sem]) ?_
  refine (dcatch_idle ⟨w.heap.size, 0, none⟩ W9).mono ?_
  rintro e u' w3 ⟨rfl, rfl, rfl⟩
  have e2 := T3.cell
  refine ⟨.bool (P l), by simp [results, Try.results12, go_sem, e2], ?_⟩
  exact ⟨rfl, B3.out⟩

theorem rows_twod {w : World} {b N : Nat} {D E : Option Addr} {x y : List Int} {d e : Nat} {T : TypeId} (hN : b < N) (h : w.heap[b]? = some (.cells #[.slice D x.length d, .slice E y.length e] T (0, 0))) (hd : x.length ≤ d) (he : y.length ≤ e) (hx : At w N D x) (hy : At w N E y) : RowsAt w N (some ⟨b, 0, none⟩) [x, y] := fun _ =>
  ⟨b, 0, rfl, hN, fun j hj => by
    have hj : j < 2 := hj
    obtain rfl | rfl : j = 0 ∨ j = 1 := by omega
    · exact ⟨D, d, by rw [Lib.cell_of_heap h]; rfl, hd, hx⟩
    · exact ⟨E, e, by rw [Lib.cell_of_heap h]; rfl, he, hy⟩⟩
/-- the call in Min -/
theorem lackd_call (w w' : World) {b off lc : Nat} {l : List Int} (i : Nat) (hi : i < l.length) (hcap : l.length ≤ lc) (hat : At w w.heap.size (some ⟨b, off, none⟩) l) (hln : l.length ≤ 4294967296) (hb : Below w.heap.size w w') (T : TypeId) (g : Nat) (hg2 : g < w'.heap.size)
    (h : w'.heap[g]? = some (.cells #[.slice (some ⟨b, off, none⟩) i lc, .slice (tailAt b off lc i) (l.length - (i + 1)) (lc - (i + 1))] T (0, 0))) :
    Calls Try.prog 13 #[.slice (some ⟨g, 0, none⟩) 2 2] w' fun e w2 => ∃ (A : Option Addr) (c : Nat), e = .returned (.slice A (lackL l i).length c) ∧ Own w2 w.heap.size A c (lackL l i) ∧ Below w.heap.size w w2 := by
  have h1 : (l.take i).length = i := by rw [List.length_take]; omega
  have h2 : (l.drop (i + 1)).length = l.length - (i + 1) := by rw [List.length_drop]
  have hf : [l.take i, l.drop (i + 1)].flatten = lackL l i := by simp [lackL]
  rw [← h2] at h
  have h := (show w'.heap[g]? = some (.cells #[.slice (some ⟨b, off, none⟩) (l.take i).length lc, .slice (tailAt b off lc i) (l.drop (i + 1)).length (lc - (i + 1))] T (0, 0)) by rw [h1]; exact h)
  have hw : At w' w'.heap.size (some ⟨b, off, none⟩) l := (hat.below hb).more hb.size
  have R := rows_twod hg2 h (by omega) (by omega) (rs_take hw i) (tail_at hw hcap)
  have C := concat_ok [l.take i, l.drop (i + 1)] (some ⟨g, 0, none⟩) 2 w'.heap.size w' R (Nat.le_refl _) (by simp) (by rw [hf]; exact Nat.le_trans (lack_len l i) hln)
  rw [hf] at C
  refine C.mono ?_
  rintro e w2 ⟨A, c, rfl, ho, hb2⟩
  exact ⟨A, c, rfl, own_lessd ho hb.size, hb.trans (hb2.mono hb.size)⟩

set_option maxHeartbeats 4000000 in
set_option maxRecDepth 100000 in
theorem min_prog {k lc : Nat} {cap : Array Value} {P : List Int → Bool} {I : World → Prop} {L : Option Addr} {l : List Int} (w : World) (F : FailF k cap w.heap.size P I) (hI : I w) (hl : At w w.heap.size L l) (hcap : l.length ≤ lc) (hln : l.length ≤ 4294967296) :
    Calls Try.prog 5 #[.slice L l.length lc, dfv k cap] w (MnPost (minV P l) (minE P l) w) := by
  have CL := Lib.hid (clone_ok (lc := lc) w hl (Nat.le_refl _) hln)
  have IT := Lib.hid (fun (w' : World) (A' : Option Addr) (c : Nat) (r : List Int) (hb : Below w.heap.size w w') (ho : Own w' w.heap.size A' c r) (h12 : r.length ≤ 12) => istrue_ok (lc := c) w' F (F.keep w w' hI hb) hb.size ho.at_ (Nat.le_refl _) h12)
  have EF := Lib.hid (minE_full (P := P) (l := l))
  have EN := Lib.hid (minE_none (P := P) (l := l))
  have EI := Lib.hid (minE_is (P := P) (l := l))
  have VN := Lib.hid (min_no (P := P) (l := l))
  have VI := Lib.hid (minV_is (P := P) (l := l))
  clear F hI hl hcap
  unfold MnPost
  by_cases h12 : 12 < l.length
  · have eq := EF.out h12
    have vz := VN.out (by rw [eq]; decide)
    rw [eq, vz]
    have h12' : (12 : Int) < l.length := by omega
    clear EF EN EI VN VI CL IT
    go_enter Try.func5, Try.ntmps5
    go_wp2_with fail
    go_ret2
    exact ⟨none, 0, rfl, Own.none, Below.refl _ _⟩
  · have h12' : ¬ (12 : Int) < l.length := by omega
    cases hP : P l with
    | false =>
      have eq := EN.out h12 hP
      have vz := VN.out (by rw [eq]; decide)
      rw [eq, vz]
      clear EF EN EI VN VI
      go_enter Try.func5, Try.ntmps5
      go_wp2_with fail
      ((with_reducible refine CL.out.mono ?_))
      rintro e w1 ⟨A1, c1, rfl, own1, hb1⟩
      have B1 := Lib.hid hb1
      have C1 := IT.out w1 A1 c1 l hb1 own1 (by omega)
      rw [hP] at C1
      have C1 := Lib.hid C1
      clear own1 hb1 CL IT hP
      go_wp2_with fail
      ((with_reducible refine C1.out.mono ?_))
      rintro e w2 ⟨rfl, hb2⟩
      have B2 := Lib.hid (on_ B1.out hb2)
      clear hb2
      go_wp2_with fail
      go_ret2
      exact ⟨none, 0, rfl, Own.none, B2.out⟩
    | true =>
      have eq := EI.out h12 hP
      have vz := Lib.hid (VI.out eq)
      rw [eq, errOf_ok]
      clear EF EN EI VN VI eq
      generalize minV P l = z at *
      go_enter Try.func5, Try.ntmps5
      go_wp2_with fail
      ((with_reducible refine CL.out.mono ?_))
      rintro e w1 ⟨A1, c1, rfl, own1, hb1⟩
      have O1 := Lib.hid own1
      have B1 := Lib.hid hb1
      have C1 := IT.out w1 A1 c1 l hb1 own1 (by omega)
      rw [hP] at C1
      have C1 := Lib.hid C1
      clear own1 hb1 CL hP
      go_wp2_with fail
      ((with_reducible refine C1.out.mono ?_))
      rintro e w2 ⟨rfl, hb2⟩
      have B2 := Lib.hid (on_ B1.out hb2)
      have O2 := Lib.hid (O1.out.below hb2)
      clear hb2 O1 B1 C1
      go_wp2_with fail
      have L12 := Lib.hid (show l.length ≤ 12 by omega)
      clear h12 h12'
      go_loopg [6, 7] 400 (fun g rv av wr => ∃ (a : Nat) (A : Option Addr) (c : Nat) (r : List Int), a ≤ r.length ∧ r.length ≤ 12 ∧ rv = .slice A r.length c ∧ av = .int .i64 a ∧ Hid (Own wr w.heap.size A c r) ∧ Hid (Below w.heap.size w wr) ∧ Hid (z = runM P g r a ∧ 15 * r.length - a ≤ g))
      case atStart => exact ⟨0, A1, c1, l, Nat.zero_le _, L12.out, rfl, rfl, O2.out, B2.out, vz.out, by have := L12.out; omega⟩
      case round =>
        obtain ⟨a, A, c, r, ha, hr, rfl, rfl, ho, hbb, hz⟩ := hrel
        by_cases hlt : a < r.length
        · obtain ⟨g, hg, hs1, hs2⟩ := run_step hlt hz.out.2 hr
          subst hg
          have HS1 := Lib.hid hs1
          have HS2 := Lib.hid hs2
          obtain ⟨b, off, rfl, hb, hc⟩ := ho.out.at_ (by omega)
          clear hc hs1 hs2
          have hcap := ho.out.cap_
          have HS := fun W => slice_from b off r.length c a hlt hcap W
          have LC := Lib.hid (fun (w' : World) (hb : Below wr.heap.size wr w') (T : TypeId) (g : Nat) (hg2 : g < w'.heap.size) h => lackd_call wr w' a hlt hcap ho.out.at_ (by omega) hb T g hg2 h)
          generalize tailAt b off c a = TA at *
          have LL := Lib.hid (show (lackL r a).length ≤ 12 by have := lack_len r a; omega)
          have s0 : IntKind.i64.wrap ((a : Int) + 1) = (a : Int) + 1 := IntWalk.i64_in _ (by omega)
          have s1 : (0 : Int) ≤ (a : Int) + 1 := by omega
          have s3 : (0 : Int) ≤ (a : Int) := by omega
          have s4 : (a : Int) ≤ (c : Int) := by omega
          have s5 : (a : Int) + 1 ≤ (r.length : Int) := by omega
          have s6 : (r.length : Int) ≤ (c : Int) := by omega
          have hlt' : (a : Int) < r.length := by omega
          have IT2 := Lib.hid (fun (w' : World) (A' : Option Addr) (c' : Nat) (hb : Below w.heap.size w w') (ho : Own w' w.heap.size A' c' (lackL r a)) => IT.out w' A' c' (lackL r a) hb ho LL.out)
          generalize lackL r a = r2 at *
          go_wp2_with fail
          go_region_held3 (fun w' => True) (trivial) (((with_reducible refine (LC.out _ (bel_new _ _) _ _ (lt_new _ _) (heap_new3 _ _)).mono ?_); rintro e w3 ⟨A3, c3, rfl, ho3, hb3⟩))
          have B3 := Lib.hid (on_ hbb.out hb3)
          have O3 := Lib.hid (own_lessd ho3 hbb.out.size)
          have Q3 := Lib.hid (ho.out.below hb3)
          have C3 := Lib.hid (IT2.out w3 A3 c3 B3.out O3.out)
          clear ho3 hb3 LC IT2 HS
          cases hP : P r2 with
          | true =>
            rw [hP] at C3
            have E := Lib.hid (HS1.out hP)
            clear HS1 HS2
            go_wp2_with fail
            ((with_reducible refine C3.out.mono ?_))
            rintro e w4 ⟨rfl, hb4⟩
            have B4 := Lib.hid (on_ B3.out hb4)
            have O4 := Lib.hid (O3.out.below hb4)
            clear hb4 C3
            go_wp2_with fail
            go_roundg g
            case rel => exact ⟨0, A3, c3, r2, Nat.zero_le _, LL.out, rfl, rfl, O4.out, B4.out, hz.out.1.trans E.out.1, E.out.2.1⟩
            case measure => omega
          | false =>
            rw [hP] at C3
            have E := Lib.hid (HS2.out hP)
            clear HS1 HS2
            go_wp2_with fail
            ((with_reducible refine C3.out.mono ?_))
            rintro e w4 ⟨rfl, hb4⟩
            have B4 := Lib.hid (on_ B3.out hb4)
            have O4 := Lib.hid (Q3.out.below hb4)
            clear hb4 C3
            go_wp2_with fail
            go_roundg g
            case rel => exact ⟨a + 1, some ⟨b, off, none⟩, c, r, hlt, hr, rfl, by go_num, O4.out, B4.out, hz.out.1.trans E.out.1, E.out.2⟩
            case measure => omega
        · have e := Lib.hid (show z = r from hz.out.1.trans (run_end hlt))
          go_wp2_with fail
          go_ret2
          exact ⟨A, c, (by rw [e.out]; rfl), (by rw [e.out]; exact ho.out), hbb.out⟩
end Go.Proofs.Ytcenekjkdnfhkaa.Dd
