/- RunsTell, part 45 of the proof: The document's own LessTapes. Conditions: the sizes. -/
import Derived.Test.YtabkihellcflhaaGreatDoorRunsTellZ43
import Derived.Test.YtabkihellcflhaaGreatDoorRunsTellZ44
import Derived.Test.YtabkihellcflhaaGreatDoorRunsTellZ15
import Derived.Deep.RegionHeld3
import Derived.Deep.CutRange
/- The document's own LessTapes. Conditions: the sizes. -/
namespace Go.Proofs.YtabkihellcflhaaGreatDoor.Gens
open Go.RowKit Lists Ints Vals
set_option linter.unusedVariables false

/-- where what is behind a place lies -/
def tailAt (b off lc i : Nat) : Option Addr := if lc = i + 1 then some ⟨b, off, none⟩ else some ⟨b, off + (i + 1), none⟩
set_option maxRecDepth 100000 in
theorem slice_from (b off m lc i : Nat) (hi : i < m) (hm : m ≤ lc) (w : World) :
    (Instr.slice 32 (.slice (some ⟨b, off, none⟩) m lc) (some (.int .i64 ((i : Int) + 1))) none none).run Tryz.prog w = .ok (.slice (tailAt b off lc i) (m - (i + 1)) (lc - (i + 1))) w := by
  obtain ⟨i0, h1, h2, h3, h4⟩ := info_parts int_info
  have e1 : ((0 : Int) ≤ (i : Int) + 1 ∧ (i : Int) + 1 ≤ (m : Int)) := by omega
  have e2 : ((i : Int) + 1).toNat = i + 1 := by omega
  unfold tailAt
  by_cases hc : lc = i + 1 <;> simp [Instr.slice, Instr.sliceBounds, Instr.sliceBound, run_underlying Tryz.underlying32, sizeOf, typeInfo, h1, h3, asIntOf, e1, e2, hc, Addr.add, go_sem]
theorem tail_at {w : World} {N b off lc i : Nat} {l : List Int} (h : At w N (some ⟨b, off, none⟩) l) (hc : l.length ≤ lc) : At w N (tailAt b off lc i) (l.drop (i + 1)) := by
  unfold tailAt
  by_cases e : lc = i + 1
  · intro hp
    rw [List.length_drop] at hp
    omega
  · rw [if_neg e]
    exact rs_drop h (i + 1)
/-- what is asked of the document's LessTapes: in new memory -/
def LtOwn (z : List (List Int)) (w : World) (e : Ending) (w' : World) : Prop := ∃ (A : Option Addr) (c : Nat), e = .returned (.slice A z.length c) ∧ OwnRows w' w.heap.size A c z ∧ Below w.heap.size w w'
def LtPost (z : List (List Int)) (w : World) (e : Ending) (w' : World) : Prop := ∃ (A : Option Addr) (c : Nat), e = .returned (.slice A z.length c) ∧ RowsAt w' w'.heap.size A z ∧ Below w.heap.size w w'
theorem own_later {u W : World} {base c lo : Nat} {A : Option Addr} {z : List Int} (h : Own u base A c z) (hb : Below u.heap.size u W) (hlo : lo ≤ base) : AtP W (fun b => lo ≤ b ∧ b < W.heap.size) A z :=
  (own_rowB h).keep fun k hk => ⟨⟨Nat.le_trans hlo hk.1, Nat.lt_of_lt_of_le hk.2 hb.size⟩, fun o => hb.cell (p := ⟨k, o, none⟩) hk.2⟩
theorem rows_four {w : World} {b : Nat} {S : Nat → Prop} {D0 D1 D2 D3 : Option Addr} {x0 x1 x2 x3 : List Int} {n0 n1 n2 n3 d0 d1 d2 d3 : Nat} {T : TypeId} (hb : S b) (h : w.heap[b]? = some (.cells #[.slice D0 n0 d0, .slice D1 n1 d1, .slice D2 n2 d2, .slice D3 n3 d3] T (0, 0)))
    (e0 : n0 = x0.length) (e1 : n1 = x1.length) (e2 : n2 = x2.length) (e3 : n3 = x3.length) (h0 : AtP w S D0 x0) (h1 : AtP w S D1 x1) (h2 : AtP w S D2 x2) (h3 : AtP w S D3 x3) : RowsW w S S (some ⟨b, 0, none⟩) [x0, x1, x2, x3] := fun _ =>
  ⟨b, 0, rfl, hb, fun j hj => by
    subst e0 e1 e2 e3
    have hj : j < 4 := hj
    obtain rfl | rfl | rfl | rfl : j = 0 ∨ j = 1 ∨ j = 2 ∨ j = 3 := by omega
    · exact ⟨D0, d0, by rw [Lib.cell_of_heap h]; rfl, h0⟩
    · exact ⟨D1, d1, by rw [Lib.cell_of_heap h]; rfl, h1⟩
    · exact ⟨D2, d2, by rw [Lib.cell_of_heap h]; rfl, h2⟩
    · exact ⟨D3, d3, by rw [Lib.cell_of_heap h]; rfl, h3⟩⟩
theorem rows_single {w : World} {b : Nat} {S : Nat → Prop} {D0 : Option Addr} {x0 : List Int} {n0 d0 : Nat} {T : TypeId} (hb : S b) (h : w.heap[b]? = some (.cells #[.slice D0 n0 d0] T (0, 0))) (e0 : n0 = x0.length) (h0 : AtP w S D0 x0) : RowsW w S S (some ⟨b, 0, none⟩) [x0] := fun _ =>
  ⟨b, 0, rfl, hb, fun j hj => by
    subst e0
    have hj : j < 1 := hj
    obtain rfl : j = 0 := by omega
    exact ⟨D0, d0, by rw [Lib.cell_of_heap h]; rfl, h0⟩⟩
theorem atp_imp {w : World} {S S' : Nat → Prop} {A : Option Addr} {l : List Int} (h : AtP w S A l) (hs : ∀ b, S b → S' b) : AtP w S' A l := h.keep fun b hb => ⟨hs b hb, fun _ => rfl⟩
theorem tries_len (l : List Int) (j : Nat) (hj : j < l.length) : ∀ x ∈ triesL l j, x.length ≤ l.length := by
  intro x hx
  unfold triesL at hx
  have hl := lack_len l j
  split at hx
  · simp only [List.mem_cons, List.not_mem_nil, or_false] at hx
    rcases hx with rfl | rfl | rfl | rfl <;> first | (rw [List.length_set]; exact Nat.le_refl _) | exact hl
  · simp only [List.mem_cons, List.not_mem_nil, or_false] at hx
    subst hx; exact hl
theorem tries_count (l : List Int) (j : Nat) : (triesL l j).length ≤ 4 := by unfold triesL; split <;> simp
theorem take_flat (t : Gn) (l : List Int) (tr : List (List Int)) (p : Nat) (hp : p < tr.length) : (tr.take (p + 1)).flatMap (keptL t l) = (tr.take p).flatMap (keptL t l) ++ keptL t l (tr[p]'hp) := by
  rw [List.take_succ_eq_append_getElem hp, List.flatMap_append, List.flatMap_singleton]
/-- the blocks that are not the row's at A -/
abbrev NotRow (A : Option Addr) (w : World) (b : Nat) : Prop := b < w.heap.size ∧ rowOf A ≠ some b
theorem rows_grow {w w5 : World} {A A5 T : Option Addr} {zs : List (List Int)} (h : RowsW w (NotRow A w) (NotRow A w) T zs) (g : w.grownBy w5 (rowOf A)) (r : rowOf A5 = rowOf A ∨ rowOf A5 = some w.heap.size) : RowsW w5 (NotRow A5 w5) (NotRow A5 w5) T zs := by
  have hk : ∀ b, NotRow A w b → NotRow A5 w5 b ∧ ∀ o, w5.cell? ⟨b, o, none⟩ = w.cell? ⟨b, o, none⟩ := fun b hb =>
    ⟨⟨Nat.lt_of_lt_of_le hb.1 g.size, by
      rcases r with h | h
      · rw [h]; exact hb.2
      · rw [h]; intro e; have := Option.some.inj e; have := hb.1; omega⟩, fun o => World.cell?_of_block (g.block b hb.1 (fun e => hb.2 e.symm))⟩
  exact h.keep hk hk
theorem rows_below {w w' : World} {A T : Option Addr} {zs : List (List Int)} (h : RowsW w (NotRow A w) (NotRow A w) T zs) (hb : Below w.heap.size w w') : RowsW w' (NotRow A w') (NotRow A w') T zs := by
  have hk : ∀ b, NotRow A w b → NotRow A w' b ∧ ∀ o, w'.cell? ⟨b, o, none⟩ = w.cell? ⟨b, o, none⟩ := fun b hx =>
    ⟨⟨Nat.lt_of_lt_of_le hx.1 hb.size, hx.2⟩, fun o => hb.cell (p := ⟨b, o, none⟩) hx.1⟩
  exact h.keep hk hk
theorem oe_new (w : World) : Own (w.alloc (.cells #[] 3)).drew w.heap.size (some ⟨w.heap.size, 0, none⟩) 0 [] := Own.empty (heap_new2 w _)

set_option maxHeartbeats 16000000 in
set_option maxRecDepth 100000 in
theorem lesstapes_own {t : Gn} {GA : Option Addr} {gcap n : Nat} {L : Option Addr} {l : List Int} {lc : Nat} (w : World) (hg : GAt w (GBel w.heap.size) n (gv t GA gcap) t) (h0 : genV t = 0) (hl : At w w.heap.size L l) (hcap : l.length ≤ lc) (hln : l.length ≤ 1399680) (hv : ∀ x ∈ l, 0 ≤ x ∧ x ≤ 1000) :
    Calls Tryz.prog 54 #[gv t GA gcap, .slice L l.length lc] w (LtOwn (roseL t l) w) := by
  have hln2 : l.length ≤ 4294967296 := by omega
  have B0 := Lib.hid (show Below w.heap.size w (w.alloc (gc t GA gcap)) from bel1 _ _)
  have G0 := Lib.hid (show G4 w.heap.size (.int .i64 t.kind) (.int .i64 t.a) (.int .i64 t.b) (.slice GA t.subs.length gcap) (w.alloc (gc t GA gcap)) from new_obj w _)
  have WI := Lib.hid (fun (W : World) (hb : Below w.heap.size w W) => refwith_ok (lc := lc) (N := w.heap.size) W (hl.below hb) hb.size hln2)
  have HV := Lib.hid (fun i (hi : i < l.length) => show 0 ≤ l.getD i 0 ∧ l.getD i 0 ≤ 1000 by simp only [List.getD, List.getElem?_eq_getElem hi, Option.getD_some]; exact hv _ (List.getElem_mem hi))
  have ZL := Lib.hid (fun k => lessTo_len t l k)
  have HL := Lib.hid hl
  have ME := Lib.hid (fun (x : List Int) (X : Option Addr) (xc : Nat) (W : World) (hb : Below w.heap.size w W) (hx : At W W.heap.size X x) (hxl : x.length ≤ 4294967296) =>
    mendof_new n t GA gcap x X xc W.heap.size W ((hg.below hb).more hb.size) (gen_right h0).1 (by have := small30 h0; omega) hx (Nat.le_refl _) (by have := small_long (gen_right h0).2; omega) hxl (mend_run x h0).choose_spec.choose_spec.1)
  have ML := Lib.hid (fun x => mend_len h0 x)
  clear hg hl h0 hv
  go_enter Tryz.func54, Tryz.ntmps54
  go_wp2_with fail
  generalize w.alloc (gc t GA gcap) = W0 at *
  go_loopg [5, 6] l.length (fun g v i wr => ∃ (j : Nat) (A : Option Addr) (c : Nat) (z : List (List Int)), j ≤ l.length ∧ g = l.length - j ∧ i = .int .i64 j ∧ v = .slice A z.length c ∧ Hid (z = lessTo t l j) ∧ Hid (OwnRows wr W0.heap.size A c z) ∧ Hid (Below W0.heap.size W0 wr))
  case atStart => exact ⟨0, none, 0, [], Nat.zero_le _, rfl, rfl, rfl, Lib.hid rfl, OwnRows.zero, Below.refl _ _⟩
  case round =>
    obtain ⟨j, A, c, z, hj, rfl, rfl, rfl, hz, ho, hbb⟩ := hrel
    by_cases hlt : j < l.length
    · obtain ⟨lb, lo, rfl, hlb, hlc⟩ := HL.out (by omega)
      have BW := Lib.hid (below_trans B0.out hbb.out)
      have HA := Lib.hid (fun (W : World) (hb : Below wr.heap.size wr W) => show At W w.heap.size (some ⟨lb, lo, none⟩) l from HL.out.below (below_trans BW.out hb))
      have hlj := hlc j hlt
      clear hlc
      have HS := fun W => slice_from lb lo l.length lc j hlt hcap W
      have HT := Lib.hid (fun (W : World) (hb : Below wr.heap.size wr W) => tail_at (i := j) (HA.out W hb) hcap)
      have TK := Lib.hid (show (l.take j).length = j by rw [List.length_take]; omega)
      have TD := Lib.hid (show (l.drop (j + 1)).length = l.length - (j + 1) by rw [List.length_drop])
      generalize tailAt lb lo lc j = TA at *
      have s0 : IntKind.i64.wrap ((j : Int) + 1) = (j : Int) + 1 := IntWalk.i64_in _ (by omega)
      have s1 : (0 : Int) ≤ (j : Int) + 1 := by omega
      have s3 : (0 : Int) ≤ (j : Int) := by omega
      have s4 : (j : Int) ≤ (lc : Int) := by omega
      have s5 : (j : Int) + 1 ≤ (l.length : Int) := by omega
      have s6 : (l.length : Int) ≤ (lc : Int) := by omega
      go_wp2_with fail
      go_region_held3 (fun w' => True) (trivial) (first
        | (refine step_append_ints (by rfl) (.tmp 16) (.tmp 19) (by rfl) wr.heap.size 0 (some ⟨wr.heap.size, 0, none⟩) [] (oe_new wr) w.heap.size (some ⟨lb, lo, none⟩) lc (l.take j) (rs_take (HA.out _ (bel_new _ _)) j) (by rfl) (by rw [TK.out]; rfl) ?_ ?_ ?_
           · rw [TK.out]; simp; omega
           · show wr.heap.size ≤ (World.alloc _ _).heap.size; simp
           intro A5 c5 w5 z5 hz5 own5 g5 r5
           have BX5 := Lib.hid (Below.grown (bel_new wr _) g5 (Nat.le_of_lt (lt_new wr _)) (by intro k hk; simp [rowOf] at hk; omega))
           have O5 := Lib.hid own5
           have Z5 := BX5.out.size
           have L5 := Lib.hid (show z5.length ≤ 4294967296 by rw [hz5.out]; simp; omega)
           clear own5 g5 r5)
        | (refine step_append_ints (by rfl) (.tmp 20) (.tmp 24) (by rfl) wr.heap.size c5 A5 z5 O5.out w.heap.size TA (lc - (j + 1)) (l.drop (j + 1)) (HT.out _ BX5.out) (by rfl) (by rw [TD.out]; rfl) ?_ ?_ ?_
           · rw [TD.out]; have := L5.out; omega
           · exact Z5
           intro A6 c6 w6 z6 hz6 own6 g6 r6
           have BX6 := Lib.hid (BX5.out.grown g6 Z5 O5.out.ge)
           have O6 := Lib.hid own6
           have Z6 := BX6.out.size
           have HE6 := Lib.hid (show z6 = lackL l j by rw [hz6.out, hz5.out]; rfl)
           clear own6 g6 r6))
      clear HS s0 s1 s4 s5 s6
      have e6 := ((below_trans BW.out BX6.out).cell (p := ⟨lb, lo + j, none⟩) hlb).trans hlj
      have hlw : lb < w6.heap.size := by have := BW.out.size; omega
      have vv := HV.out j hlt
      obtain ⟨tr, htr⟩ : ∃ tr, tr = triesL l j := ⟨_, rfl⟩
      have TRL := Lib.hid (show (∀ x ∈ tr, x.length ≤ l.length) ∧ tr.length ≤ 4 ∧ lessTo t l (j + 1) = lessTo t l j ++ tr.flatMap (keptL t l) from by rw [htr]; exact ⟨tries_len l j hlt, tries_count l j, lessTo_succ t l j⟩)
      have AGE := Lib.hid ho.out.ge
      have NR := Lib.hid (fun b (hb : wr.heap.size ≤ b) => show rowOf A ≠ some b from fun e => absurd (AGE.out b e).2 (by omega))
      have hp7 := Lib.hid (bel1 w6 (.cells #[.slice A6 z6.length c6] 32))
      have nh7 := Lib.hid (new_obj w6 (.cells #[.slice A6 z6.length c6] 32))
      have BX7 := Lib.hid (show Below wr.heap.size wr (w6.alloc (.cells #[.slice A6 z6.length c6] 32)) from BX6.out.trans (hp7.out.mono BX6.out.size))
      have HTR := Lib.hid htr
      clear htr
      generalize hvv : l.getD j 0 = v at e6 vv hlj
      have HVV := Lib.hid hvv
      clear hvv hlj
      go_upto_if 31 with (fail)
      go_cut [7] from 10 to 73 (fun s7 wx => ∃ (T : Option Addr) (tc : Nat), s7 = .slice T tr.length tc ∧ Hid (Below wr.heap.size wr wx) ∧ Hid (RowsW wx (NotRow A wx) (NotRow A wx) T tr))
      case first =>
        by_cases hp : 0 < v
        · have htr4 := Lib.hid (show tr = [l.set j 0, l.set j (v / 2), l.set j (v - 1), lackL l j] by rw [HTR.out]; unfold triesL; rw [HVV.out, if_pos hp])
          have t7 : (w6.alloc (.cells #[.slice A6 z6.length c6] 32)).cell? ⟨w6.heap.size, 0, none⟩ = some (.slice A6 z6.length c6) := by rw [Lib.cell_of_heap nh7.out]; rfl
          have e7 := (hp7.out.cell (p := ⟨lb, lo + j, none⟩) hlw).trans e6
          have K0 := Lib.hid (fun (W' : World) (hb : Below (w6.alloc (.cells #[.slice A6 z6.length c6] 32)).heap.size (w6.alloc (.cells #[.slice A6 z6.length c6] 32)) W') => own_later (lo := wr.heap.size) O6.out (below_trans hp7.out hb) (Nat.le_refl _))
          have ZE := Lib.hid (show z6.length = (lackL l j).length by rw [HE6.out])
          have hl7 : lb < (w6.alloc (.cells #[.slice A6 z6.length c6] 32)).heap.size := by simp; omega
          have ht7 : w6.heap.size < (w6.alloc (.cells #[.slice A6 z6.length c6] 32)).heap.size := by simp
          have ZW : wr.heap.size ≤ (w6.alloc (.cells #[.slice A6 z6.length c6] 32)).heap.size := BX7.out.size
          have WC := Lib.hid (fun (W : World) (hb : Below (w6.alloc (.cells #[.slice A6 z6.length c6] 32)).heap.size (w6.alloc (.cells #[.slice A6 z6.length c6] 32)) W) (x : Int) => WI.out W (below_trans (below_trans BW.out BX7.out) hb) j hlt x)
          have e8 : IntKind.i64.wrap (v - 1) = v - 1 := IntWalk.i64_in _ (by omega)
          have e9 : IntKind.i64.wrap (v.tdiv 2) = v / 2 := by
            rw [Int.tdiv_eq_ediv_of_nonneg (by omega)]
            exact IntWalk.i64_in _ (by omega)
          clear e6 hlw
          generalize w6.alloc (.cells #[.slice A6 z6.length c6] 32) = w7 at *
          generalize w6.heap.size = tb at *
          go_wp2_with fail
          go_region_held3 (fun w' => w'.cell? ⟨lb, lo + j, none⟩ = some (.int .i64 v) ∧ w'.cell? ⟨tb, 0, none⟩ = some (.slice A6 z6.length c6)) (first | exact ⟨e7, t7⟩ | exact ⟨p1, q1⟩ | exact ⟨p2, q2⟩ | exact ⟨p3, q3⟩ | exact ⟨(World.cell?_alloc_lt _ _ ⟨lb, lo + j, none⟩ ll3).trans p3, (World.cell?_alloc_lt _ _ ⟨tb, 0, none⟩ tl3).trans q3⟩) (first
          | (with_reducible refine (WC.out _ ?_ (0)).mono ?_
             · repeat (first | with_reducible exact E1.out | with_reducible exact E2.out | with_reducible exact E3.out | with_reducible exact Below.refl _ _ | with_reducible refine Below.drew ?_ | with_reducible refine below_trans ?_ (bel1 _ _))
             rintro e u1 ⟨X1, d1, rfl, own1, hb1⟩
             have E1 := Lib.hid (show Below w7.heap.size w7 u1 by
               refine Below.trans ?_ (hb1.mono ?_)
               · repeat (first | with_reducible exact E1.out | with_reducible exact E2.out | with_reducible exact E3.out | with_reducible exact Below.refl _ _ | with_reducible refine Below.drew ?_ | with_reducible refine below_trans ?_ (bel1 _ _))
               · (first | exact Nat.le_refl _ | exact E1.out.size | exact E2.out.size | exact E3.out.size))
             have H1 := Lib.hid hb1
             have K1 := Lib.hid (fun (W' : World) (hb : Below u1.heap.size u1 W') => own_later (lo := wr.heap.size) own1 hb (by first | exact ZW | exact Nat.le_trans ZW E1.out.size | exact Nat.le_trans ZW E2.out.size | exact Nat.le_trans ZW E3.out.size))
             have zz1 : wr.heap.size ≤ u1.heap.size := Nat.le_trans ZW E1.out.size
             have p1 := (E1.out.cell (p := ⟨lb, lo + j, none⟩) hl7).trans e7
             have q1 := (E1.out.cell (p := ⟨tb, 0, none⟩) ht7).trans t7
             have ll1 : lb < u1.heap.size := Nat.lt_of_lt_of_le hl7 E1.out.size
             have tl1 : tb < u1.heap.size := Nat.lt_of_lt_of_le ht7 E1.out.size
             clear own1 hb1)
          | (with_reducible refine (WC.out _ ?_ (v / 2)).mono ?_
             · repeat (first | with_reducible exact E1.out | with_reducible exact E2.out | with_reducible exact E3.out | with_reducible exact Below.refl _ _ | with_reducible refine Below.drew ?_ | with_reducible refine below_trans ?_ (bel1 _ _))
             rintro e u2 ⟨X2, d2, rfl, own2, hb2⟩
             have E2 := Lib.hid (show Below w7.heap.size w7 u2 by
               refine Below.trans ?_ (hb2.mono ?_)
               · repeat (first | with_reducible exact E1.out | with_reducible exact E2.out | with_reducible exact E3.out | with_reducible exact Below.refl _ _ | with_reducible refine Below.drew ?_ | with_reducible refine below_trans ?_ (bel1 _ _))
               · (first | exact Nat.le_refl _ | exact E1.out.size | exact E2.out.size | exact E3.out.size))
             have H2 := Lib.hid hb2
             have K2 := Lib.hid (fun (W' : World) (hb : Below u2.heap.size u2 W') => own_later (lo := wr.heap.size) own2 hb (by first | exact ZW | exact Nat.le_trans ZW E1.out.size | exact Nat.le_trans ZW E2.out.size | exact Nat.le_trans ZW E3.out.size))
             have zz2 : wr.heap.size ≤ u2.heap.size := Nat.le_trans ZW E2.out.size
             have p2 := (E2.out.cell (p := ⟨lb, lo + j, none⟩) hl7).trans e7
             have q2 := (E2.out.cell (p := ⟨tb, 0, none⟩) ht7).trans t7
             have ll2 : lb < u2.heap.size := Nat.lt_of_lt_of_le hl7 E2.out.size
             have tl2 : tb < u2.heap.size := Nat.lt_of_lt_of_le ht7 E2.out.size
             clear own2 hb2)
          | (with_reducible refine (WC.out _ ?_ (v - 1)).mono ?_
             · repeat (first | with_reducible exact E1.out | with_reducible exact E2.out | with_reducible exact E3.out | with_reducible exact Below.refl _ _ | with_reducible refine Below.drew ?_ | with_reducible refine below_trans ?_ (bel1 _ _))
             rintro e u3 ⟨X3, d3, rfl, own3, hb3⟩
             have E3 := Lib.hid (show Below w7.heap.size w7 u3 by
               refine Below.trans ?_ (hb3.mono ?_)
               · repeat (first | with_reducible exact E1.out | with_reducible exact E2.out | with_reducible exact E3.out | with_reducible exact Below.refl _ _ | with_reducible refine Below.drew ?_ | with_reducible refine below_trans ?_ (bel1 _ _))
               · (first | exact Nat.le_refl _ | exact E1.out.size | exact E2.out.size | exact E3.out.size))
             have H3 := Lib.hid hb3
             have K3 := Lib.hid (fun (W' : World) (hb : Below u3.heap.size u3 W') => own_later (lo := wr.heap.size) own3 hb (by first | exact ZW | exact Nat.le_trans ZW E1.out.size | exact Nat.le_trans ZW E2.out.size | exact Nat.le_trans ZW E3.out.size))
             have zz3 : wr.heap.size ≤ u3.heap.size := Nat.le_trans ZW E3.out.size
             have p3 := (E3.out.cell (p := ⟨lb, lo + j, none⟩) hl7).trans e7
             have q3 := (E3.out.cell (p := ⟨tb, 0, none⟩) ht7).trans t7
             have ll3 : lb < u3.heap.size := Nat.lt_of_lt_of_le hl7 E3.out.size
             have tl3 : tb < u3.heap.size := Nat.lt_of_lt_of_le ht7 E3.out.size
             clear own3 hb3))
          have NB := Lib.hid (bel1 u3 (.cells #[.slice X1 l.length d1, .slice X2 l.length d2, .slice X3 l.length d3, .slice A6 z6.length c6] 32))
          have NH := Lib.hid (new_obj u3 (.cells #[.slice X1 l.length d1, .slice X2 l.length d2, .slice X3 l.length d3, .slice A6 z6.length c6] 32))
          have BF := Lib.hid (below_trans (below_trans BX7.out E3.out) NB.out)
          have ST := Lib.hid (show RowsW (u3.alloc (.cells #[.slice X1 l.length d1, .slice X2 l.length d2, .slice X3 l.length d3, .slice A6 z6.length c6] 32)) (NotRow A (u3.alloc (.cells #[.slice X1 l.length d1, .slice X2 l.length d2, .slice X3 l.length d3, .slice A6 z6.length c6] 32))) (NotRow A (u3.alloc (.cells #[.slice X1 l.length d1, .slice X2 l.length d2, .slice X3 l.length d3, .slice A6 z6.length c6] 32))) (some ⟨u3.heap.size, 0, none⟩) tr by
            rw [htr4.out]
            refine rows_four ⟨by simp, NR.out _ zz3⟩ NH.out (by simp) (by simp) (by simp) ZE.out ?_ ?_ ?_ ?_
            · exact atp_imp (K1.out _ (below_trans (below_trans H2.out H3.out) NB.out)) (fun b hb => ⟨hb.2, NR.out b hb.1⟩)
            · exact atp_imp (K2.out _ (below_trans H3.out NB.out)) (fun b hb => ⟨hb.2, NR.out b hb.1⟩)
            · exact atp_imp (K3.out _ NB.out) (fun b hb => ⟨hb.2, NR.out b hb.1⟩)
            · rw [← HE6.out]
              exact atp_imp (K0.out _ (below_trans E3.out NB.out)) (fun b hb => ⟨hb.2, NR.out b hb.1⟩))
          have S7 := Lib.hid (show (Value.slice (some ⟨u3.heap.size, 0, none⟩) 4 4) = .slice (some ⟨u3.heap.size, 0, none⟩) tr.length 4 by rw [htr4.out]; rfl)
          go_wp2_with fail
          go_meet
          exact ⟨_, _, S7.out, BF.out, ST.out⟩
        · have htr1 := Lib.hid (show tr = [lackL l j] by rw [HTR.out]; unfold triesL; rw [HVV.out, if_neg hp])
          have ST := Lib.hid (show RowsW (w6.alloc (.cells #[.slice A6 z6.length c6] 32)) (NotRow A (w6.alloc (.cells #[.slice A6 z6.length c6] 32))) (NotRow A (w6.alloc (.cells #[.slice A6 z6.length c6] 32))) (some ⟨w6.heap.size, 0, none⟩) tr by
            rw [htr1.out]
            exact rows_single ⟨by simp, NR.out _ Z6⟩ nh7.out (by rw [HE6.out]) (by rw [← HE6.out]; exact atp_imp (own_later O6.out hp7.out (Nat.le_refl _)) (fun b hb => ⟨hb.2, NR.out b hb.1⟩)))
          have S7 := Lib.hid (show (Value.slice (some ⟨w6.heap.size, 0, none⟩) 1 1) = .slice (some ⟨w6.heap.size, 0, none⟩) tr.length 1 by rw [htr1.out]; rfl)
          go_wp2_with fail
          go_meet
          exact ⟨_, _, S7.out, BX7.out, ST.out⟩
      case rest =>
        obtain ⟨T, tc, rfl, hbx, hrx⟩ := hcut
        obtain ⟨wo, rfl⟩ : ∃ wo : World, wo = wr := ⟨_, rfl⟩
        have OZ := Lib.hid (ho.out.below hbx.out)
        have BZ := Lib.hid (below_trans hbb.out hbx.out)
        have TRN := TRL.out.2.1
        clear hp7 nh7 BX7 BX6 BX5 O5 O6 e6 hlw vv HVV HTR
        go_wp2_with fail
        go_loopw [5, 8] (fun v7 kk wr => ∃ (p : Nat) (A2 : Option Addr) (c2 : Nat) (z2 : List (List Int)), p ≤ tr.length ∧ kk = .int .i64 p ∧ v7 = .slice A2 z2.length c2 ∧ Hid (z2 = z ++ (tr.take p).flatMap (keptL t l) ∧ z2.length ≤ 4 * j + p) ∧ Hid (OwnRows wr W0.heap.size A2 c2 z2) ∧ Hid (Below W0.heap.size W0 wr) ∧ Hid (RowsW wr (NotRow A2 wr) (NotRow A2 wr) T tr)) (fun _ kk _ => tr.length - (intOf kk).toNat)
        case atStart => exact ⟨0, A, c, z, Nat.zero_le _, rfl, rfl, Lib.hid ⟨by simp, by have := ZL.out j; rw [← hz.out] at this; omega⟩, OZ.out, BZ.out, hrx.out⟩
        case round =>
          obtain ⟨p, A2, c2, z2, hp2, rfl, rfl, hz2, ho2, hb2, hr2⟩ := hrel
          by_cases hpt : p < tr.length
          · obtain ⟨rb, ro, rfl, hrb, hrc⟩ := hr2.out (by omega)
            obtain ⟨D, d, q0, q1⟩ := hrc p hpt
            have XL := Lib.hid (TRL.out.1 _ (List.getElem_mem hpt))
            have TF := Lib.hid (take_flat t l tr p hpt)
            clear hrc
            generalize tr[p]'hpt = x at *
            have BW2 := Lib.hid (below_trans B0.out hb2.out)
            have G2 := Lib.hid (G0.out.below hb2.out)
            obtain ⟨k0, k1, k2, k3⟩ := G2.out.facts
            have CM := Lib.hid (ME.out x D d wr.drew BW2.out.drew (show At wr.drew wr.drew.heap.size D x from (atp_imp q1 (fun b hb => hb.1)).at_) (by have := XL.out; omega))
            have KE := Lib.hid (show keptL t l x = if lessL (mendL t x) l = true then [mendL t x] else [] from rfl)
            have KN := Lib.hid (kept_len t l x)
            have MLX := Lib.hid (ML.out x)
            generalize mendL t x = m at *
            have LB2 := Lib.hid (show At wr w.heap.size (some ⟨lb, lo, none⟩) l from HL.out.below BW2.out)
            have CE := Lib.hid (show w.heap.size < wr.heap.size from G2.out.lt)
            clear q1
            go_wp2_with fail
            go_region_held3 (fun w' => w'.cell? ⟨w.heap.size, 0, none⟩ = some (.int .i64 t.kind) ∧ w'.cell? ⟨w.heap.size, 1, none⟩ = some (.int .i64 t.a) ∧ w'.cell? ⟨w.heap.size, 2, none⟩ = some (.int .i64 t.b) ∧ w'.cell? ⟨w.heap.size, 3, none⟩ = some (.slice GA t.subs.length gcap) ∧ w'.cell? ⟨rb, ro + p, none⟩ = some (.slice D x.length d)) (first | exact ⟨k0, k1, k2, k3, q0⟩ | exact ⟨j0, j1, j2, j3, j4⟩) (((with_reducible refine CM.out.mono ?_); rintro e y1 ⟨hb3, TA1, tc1, rfl, ha3, hc3⟩; have HC3 := Lib.hid hc3; clear hc3; have B3 := Lib.hid (show Below wr.heap.size wr y1 from ⟨hb3.os, hb3.tape, hb3.output, hb3.size, hb3.block⟩); have HA3 := Lib.hid (show AtP y1 (fun b => wr.heap.size ≤ b ∧ b < y1.heap.size) TA1 m from ha3); obtain ⟨j0, j1, j2, j3⟩ := (G2.out.below B3.out).facts; have j4 := (B3.out.cell (p := ⟨rb, ro + p, none⟩) hrb.1).trans q0; clear hb3 ha3))
            have SH := Lib.hid (Ref.shorter_below m l TA1 (some ⟨lb, lo, none⟩) tc1 lc y1.heap.size (by have := MLX.out; simp only [maxLen]; omega) (by simp only [maxLen]; omega) y1 (HA3.out.keep fun b hb => ⟨hb.2, fun _ => rfl⟩).at_ ((LB2.out.below (B3.out.mono (Nat.le_of_lt CE.out))).more (by have := B3.out.size; have := CE.out; omega)))
            generalize lessL m l = q at *
            clear j0 j1 j2 j3 j4 k0 k1 k2 k3 q0 CM
            go_wp2_with fail
            ((with_reducible refine SH.out.mono ?_))
            rintro e y2 ⟨rfl, hb4⟩
            have B4 := Lib.hid (below_trans B3.out hb4)
            have HA4 := Lib.hid (show AtP y2 (fun b => wr.heap.size ≤ b ∧ b < y2.heap.size) TA1 m from HA3.out.keep fun b hb => ⟨⟨hb.1, Nat.lt_of_lt_of_le hb.2 hb4.size⟩, fun o => hb4.cell (p := ⟨b, o, none⟩) hb.2⟩)
            clear hb4 SH
            cases q
            · rw [if_neg (by decide)] at KE
              have OZ5 := Lib.hid (ho2.out.below B4.out)
              have BZ5 := Lib.hid (below_trans hb2.out B4.out)
              have RZ5 := Lib.hid (rows_below hr2.out B4.out)
              have EZ := Lib.hid (show z2 = z ++ (tr.take (p + 1)).flatMap (keptL t l) ∧ z2.length ≤ 4 * j + (p + 1) from ⟨by rw [TF.out, KE.out, List.append_nil]; exact hz2.out.1, by have := hz2.out.2; omega⟩)
              go_wp2_with fail
              go_roundw
              case rel => exact ⟨p + 1, A2, c2, z2, by omega, by go_num, rfl, EZ.out, OZ5.out, BZ5.out, RZ5.out⟩
              case measure => simp [intOf]; omega
            · rw [if_pos rfl] at KE
              have NB := Lib.hid (bel1 y2 (.cells #[.slice TA1 m.length tc1] 32))
              have NH := Lib.hid (new_obj y2 (.cells #[.slice TA1 m.length tc1] 32))
              have BN := Lib.hid (below_trans B4.out NB.out)
              have ON := Lib.hid (ho2.out.below BN.out)
              have RN := Lib.hid (rows_below hr2.out BN.out)
              have AG2 := Lib.hid ho2.out.ge
              have WS := Lib.hid hb2.out.size
              have RO := Lib.hid (show RowsP (y2.alloc (.cells #[.slice TA1 m.length tc1] 32)) (fun _ => True) (fun b => W0.heap.size ≤ b ∧ b < (y2.alloc (.cells #[.slice TA1 m.length tc1] 32)).heap.size ∧ rowOf A2 ≠ some b) (some ⟨y2.heap.size, 0, none⟩) [m] from
                rows_one (d := tc1) NH.out HC3.out (HA4.out.keep fun k hk => ⟨⟨by have := WS.out; have := hk.1; omega, by have := hk.2; simp; omega, fun e => by have := (AG2.out k e).2; have := hk.1; omega⟩, fun o => World.cell?_alloc_lt _ _ ⟨k, o, none⟩ hk.2⟩))
              have BS := Lib.hid (show W0.heap.size ≤ (y2.alloc (.cells #[.slice TA1 m.length tc1] 32)).heap.size by have := WS.out; have := B4.out.size; simp; omega)
              have ZS := Lib.hid (show z2.length + [m].length ≤ 4398046511104 by have := hz2.out.2; simp; omega)
              go_wp2_with (at_builtin; refine wpList_append_rows rfl (.tmp 70) (.tmp 72) rfl W0.heap.size c2 A2 z2 ON.out (some ⟨y2.heap.size, 0, none⟩) 1 [m] RO.out rfl rfl ZS.out BS.out ?_; intro A5 c5 w5 z5 hz5 own5 g5 r5; have O5 := Lib.hid own5; have B5 := Lib.hid ((below_trans hb2.out BN.out).grown g5 BS.out (fun g hg => (AG2.out g hg).1)); have R5 := Lib.hid (rows_grow RN.out g5 r5); clear own5 g5 r5)
              have EZ := Lib.hid (show z5 = z ++ (tr.take (p + 1)).flatMap (keptL t l) ∧ z5.length ≤ 4 * j + (p + 1) from ⟨by rw [hz5.out, TF.out, KE.out, hz2.out.1, List.append_assoc], by rw [hz5.out]; have := hz2.out.2; simp; omega⟩)
              go_wp2_with fail
              go_roundw
              case rel => exact ⟨p + 1, A5, c5, z5, by omega, by go_num, rfl, EZ.out, O5.out, B5.out, R5.out⟩
              case measure => simp [intOf]; omega
          · have EV := Lib.hid (show z2 = lessTo t l (j + 1) by rw [TRL.out.2.2, hz2.out.1, hz.out, List.take_of_length_le (by omega)])
            go_wp2_with fail
            go_roundg (l.length - (j + 1))
            case measure => omega
            case rel => exact ⟨j + 1, A2, c2, z2, by omega, rfl, by go_num, rfl, EV.out, ho2.out, hb2.out⟩
    · have EV := Lib.hid (show z = roseL t l by rw [hz.out, show j = l.length by omega]; rfl)
      have RR := Lib.hid (ho.out.less (base' := w.heap.size) B0.out.size)
      go_wp2_with fail
      go_ret
      exact ⟨A, c, (by rw [← EV.out]; rfl), (by rw [← EV.out]; exact RR.out), below_trans B0.out hbb.out⟩
theorem lesstapes_any {t : Gn} {GA : Option Addr} {gcap n : Nat} {L : Option Addr} {l : List Int} {lc : Nat} (w : World) (hg : GAt w (GBel w.heap.size) n (gv t GA gcap) t) (h0 : genV t = 0) (hl : At w w.heap.size L l) (hcap : l.length ≤ lc) (hln : l.length ≤ 1399680) (hv : ∀ x ∈ l, 0 ≤ x ∧ x ≤ 1000) :
    Calls Tryz.prog 54 #[gv t GA gcap, .slice L l.length lc] w (LtPost (roseL t l) w) := by
  refine (lesstapes_own w hg h0 hl hcap hln hv).mono ?_
  rintro e w' ⟨A, c, he, ho, hb⟩
  exact ⟨A, c, he, ho.at_, hb⟩
end Go.Proofs.YtabkihellcflhaaGreatDoor.Gens
