/- The program's Missing. Conditions: the sizes. -/
import Derived.Test.YtbajkbkfinineaaDoorSieve
import Derived.Test.YtbajkbkfinineaaDoorAllPairs
import Derived.Carry
namespace Go.Proofs.YtbajkbkfinineaaDoor.Pair
open Go.RowKit Ints Lists Vals Arr
set_option linter.unusedVariables false

/-! the mathematics -/
def setF (f : Quad → Bool) (z : List Quad) : Quad → Bool := fun q => f q || decide (q ∈ z)
theorem setF_nil (f : Quad → Bool) : setF f [] = f := by funext q; simp [setF]
theorem setF_step (f : Quad → Bool) (z : List Quad) (q : Quad) : upd (setF f z) q true = setF f (z ++ [q]) := by
  funext p
  unfold upd setF
  by_cases h : p = q
  · subst h; simp
  · rw [if_neg h]; simp [h]
def hadR (rows : List (List Int)) : Quad → Bool := fun q => rows.any fun r => decide (q ∈ prs r)
theorem had_step (rows : List (List Int)) (i : Nat) (h : i < rows.length) : setF (hadR (rows.take i)) (prs rows[i]) = hadR (rows.take (i + 1)) := by
  funext q
  unfold setF hadR
  rw [List.take_succ_eq_append_getElem h, List.any_append]
  simp
theorem row_full {levels r : List Int} (h : rowB levels r = true) : Full levels r := row_right h
theorem quad_small {levels : List Int} (h : levE levels = 0) {q : Quad} (hq : q ∈ quads levels) : Sm q := by
  obtain ⟨h1, h2⟩ := lev_ok h
  obtain ⟨a1, a2, a3, a4⟩ := mem_quads.1 hq
  have l1 := lv_le h2 q.a
  have l2 := lv_le h2 q.b
  exact ⟨by omega, by omega, by omega, by omega⟩
theorem prs_small {levels r : List Int} (h : levE levels = 0) (hr : Full levels r) {q : Quad} (hq : q ∈ prs r) : Sm q := quad_small h ((full_prs hr).1 hq).1
theorem miss_had_eq {levels : List Int} {rows : List (List Int)} (h : ∀ r ∈ rows, rowB levels r = true) : missL levels rows = (missL levels []).filter fun q => !hadR rows q := by
  have e : missL levels [] = quads levels := by
    unfold missL
    rw [List.filter_eq_self]
    intro q _; rfl
  rw [e]
  unfold missL
  apply List.filter_congr
  intro q hq
  congr 1
  unfold hasQ hadR
  rw [Bool.eq_iff_iff, List.any_eq_true, List.any_eq_true]
  constructor
  · rintro ⟨r, hr, hm⟩
    exact ⟨r, hr, decide_eq_true ((full_prs (row_full (h r hr))).2 ⟨hq, hm⟩)⟩
  · rintro ⟨r, hr, hm⟩
    exact ⟨r, hr, ((full_prs (row_full (h r hr))).1 (of_decide_eq_true hm)).2⟩
theorem mis_row {levels : List Int} {rows : List (List Int)} (h : levE levels = 0) {i : Nat} (hi : i < rows.length) (hb : rowB levels rows[i] = false) : misE levels rows = 3 := by
  unfold misE
  rw [if_pos h, if_neg]
  intro hh
  have := List.all_eq_true.1 hh rows[i] (List.getElem_mem hi)
  rw [hb] at this
  cases this
theorem mis_full {levels : List Int} {rows : List (List Int)} (h : levE levels = 0) (ha : ∀ r ∈ rows, rowB levels r = true) : misE levels rows = 0 := by
  unfold misE
  rw [if_pos h, if_pos (List.all_eq_true.2 ha)]
theorem misV_no {levels : List Int} {rows : List (List Int)} (h : ¬ misE levels rows = 0) : misV levels rows = [] := by unfold misV; rw [if_neg h]
theorem misV_ok {levels : List Int} {rows : List (List Int)} (h : misE levels rows = 0) : misV levels rows = missL levels rows := by unfold misV; rw [if_pos h]
theorem count_hid {n : Nat} (h : n ≤ 1000000000000) : n < maxLen := by unfold maxLen; omega

/-! the pairs of a row that are put in -/
structure SetI (B p n : Nat) (f : Quad → Bool) (w0 : World) (z : List Quad) (w : World) : Prop where
  box : Bx p 47 (.map (some B)) w
  map : MBt B (n + z.length) (setF f z) w
  grown : w0.grownBy w (some B)
theorem pre_mem {z l : List Quad} {q : Quad} (h : z ++ [q] <+: l) : q ∈ l := h.subset (by simp)
theorem pre_len {z l : List Quad} {q : Quad} (h : z ++ [q] <+: l) : z.length < l.length := by have := h.length_le; simp at this; omega
theorem set_do {B p n N : Nat} {f : Quad → Bool} {R : Option Addr} {r levels : List Int} {w0 : World} (h0 : levE levels = 0) (hr : Full levels r) (hN : N ≤ B) (hat : At w0 N R r) (hpB : p ≠ B) (hn : n ≤ 900000000000) :
    DoQ 22 #[.pointer (some ⟨p, 0, none⟩)] R r (SetI B p n f w0) := by
  refine ⟨fun args w => rfl, fun hl => ?_, fun z q w hI hpre => ?_⟩
  · obtain ⟨b, off, e, hb, hc⟩ := hat hl
    refine ⟨b, off, e, fun z w hI i hi => ?_⟩
    have := hc i hi
    exact hI.grown.cell this (by simp; omega)
  · have hs := prs_small h0 hr (pre_mem hpre)
    have h12 := (lev_ok h0).1
    have hl := prs_len (r := r) (by rw [hr.1]; exact h12)
    have hz := pre_len hpre
    refine (miss_set w hI.box hI.map (count_hid (by omega)) hs).mono ?_
    rintro e w' ⟨rfl, h1, h2⟩
    refine ⟨rfl, hI.box.kept h2 (by simpa using hpB), ?_, hI.grown.trans h2⟩
    rw [setF_step] at h1
    rw [List.length_append, List.length_singleton, ← Nat.add_assoc]
    exact h1
/-- what owns quadruples, as the sieve wants it -/
theorem own_four {w : World} {base c : Nat} {A : Option Addr} {zs : List Quad} (h : OwnE 4 four 46 w base A c zs) (h0 : 0 < zs.length) : ∃ g, A = some ⟨g, 0, none⟩ ∧ base ≤ g ∧ g < w.heap.size ∧ zs.length ≤ c ∧ (∀ t (h : t < zs.length), At4 g 0 t zs[t] w) ∧ (∀ o, o < zs.length * 4 → (w.cell? ⟨g, 0 + o, none⟩).isSome = true) ∧ ∀ o, w.frozen? ⟨g, o, none⟩ = false := by
  have ha := OwnE.at_ even_four h
  obtain ⟨b, off, e, _, hc⟩ := four_cells ha h0
  rcases h.2 with ⟨e0, h0'⟩ | ⟨g, cap, cur, e0, hbg, hh, h1, h2, h3, ht⟩
  · omega
  · obtain ⟨rfl, rfl⟩ : A = some ⟨g, 0, none⟩ ∧ c = cap := by injection e0 with e1 e2 e3; exact ⟨e1, e3⟩
    injection e with e
    injection e with e1 e2
    subst e1
    subst e2
    refine ⟨g, rfl, hbg, (Array.getElem?_eq_some_iff.1 hh).1, h1, fun t ht => hc t ht, fun o ho => ?_, fun o => Lib.frozen_of_heap hh _⟩
    rw [Lib.cell_of_heap hh]
    have hl := congrArg List.length ht
    rw [List.length_take, flat_len even_four] at hl
    have : 0 + o < cur.size := by simp only [Array.length_toList] at hl; omega
    rw [Array.getElem?_eq_getElem this]
    rfl
theorem four_at {w : World} {g : Nat} {zs : List Quad} {S : Nat → Prop} (hS : S g) (h : ∀ t (h : t < zs.length), At4 g 0 t zs[t] w) : AtE 4 four w S (some ⟨g, 0, none⟩) zs := fun hp => by
  refine ⟨g, 0, rfl, hS, fun t ht q hq => ?_⟩
  obtain ⟨d0, d1, d2, d3⟩ := h t ht
  obtain rfl | rfl | rfl | rfl : q = 0 ∨ q = 1 ∨ q = 2 ∨ q = 3 := by omega
  · exact d0
  · exact d1
  · exact d2
  · exact d3

set_option maxHeartbeats 2000000 in
set_option maxRecDepth 100000 in
theorem delete4_nil {k : Nat} {cap : Array Value} {P : Quad → Bool} {g : Nat} {S : World → Prop} (A : AskQ k cap P g [] S) (L : Option Addr) (c : Nat) (w : World) (hent : ∀ args w, (callFunc k args).run Tryd.prog w = .ok (.enter k args) w) :
    Calls Tryd.prog 23 #[.slice L 0 c, qfv k cap] w fun e w' => e = .returned (.slice L 0 c) ∧ w.grownBy w' none := by
  have IX : Calls Tryd.prog 30 #[.slice L 0 c, qfv k cap] w fun e w' => e = .returned (.int .i64 (-1)) ∧ w.grownBy w' none := by
    clear A
    go_enter Tryd.func30, Tryd.ntmps30
    go_wp2_with fail
    refine wp_loop_rounds 1 ?_
    rw [rounds_succ]
    go_wp2_with fail
    go_ret
    exact ⟨rfl, World.grownBy.refl _ _⟩
  clear A
  go_enter Tryd.func23, Tryd.ntmps23
  go_wp2_with fail
  refine IX.mono ?_
  rintro e w1 ⟨rfl, hg1⟩
  have G1 := Lib.hid hg1
  clear hg1
  go_wp2_with fail
  go_ret
  exact ⟨rfl, G1.out⟩

set_option maxHeartbeats 4000000 in
set_option maxRecDepth 100000 in
theorem missing_prog {L R : Option Addr} {levels : List Int} {rows : List (List Int)} {lc rc : Nat} (w : World) (hl : At w w.heap.size L levels) (hln : levels.length ≤ 4294967296) (hcap : levels.length ≤ lc) (hR : RowsAt w w.heap.size R rows) (hrn : rows.length ≤ 4294967296) (hrc : rows.length ≤ rc) (hrl : ∀ r ∈ rows, r.length ≤ 4294967296) :
    Calls Tryd.prog 10 #[.slice L levels.length lc, .slice R rows.length rc] w (MiPost (misV levels rows) (misE levels rows) w) := by
  have HL := Lib.hid (fun (W : World) (hb : Below w.heap.size w W) => show At W w.heap.size L levels from hl.below hb)
  have HR := Lib.hid (fun (W : World) (hb : Below w.heap.size w W) => show RowsAt W w.heap.size R rows from RowsP.below hR hb)
  have CK := Lib.hid (check_prog (lc := lc) w hl hln hcap)
  have HN := Lib.hid (And.intro hln (And.intro hrn hrl))
  have lni : (levels.length : Int) ≤ 4294967296 := by omega
  have rni : (rows.length : Int) ≤ 4294967296 := by omega
  obtain ⟨E, HE⟩ : ∃ E, Hid (E = misE levels rows) := ⟨_, Lib.hid rfl⟩
  obtain ⟨V, HV⟩ : ∃ V, Hid (V = misV levels rows) := ⟨_, Lib.hid rfl⟩
  rw [← HE.out, ← HV.out]
  have hmm := @run_makeMap Tryd.prog
  clear hl hR hln hcap hrn hrc hrl
  go_enter Tryd.func10, Tryd.ntmps10
  go_wp2_with fail
  refine CK.out.mono ?_
  rintro e w1 ⟨rfl, hb1⟩
  have B1 := Lib.hid hb1
  clear hb1 CK
  by_cases h0 : levE levels = 0
  · rw [h0, errOf_ok]
    have L0 := Lib.hid h0
    have M2 := Lib.hid (MBt.made w1)
    have P2 := Lib.hid (show Bx (w1.alloc (.map #[] 0)).heap.size 47 (.map (some w1.heap.size)) ((w1.alloc (.map #[] 0)).alloc (.cells #[.map (some w1.heap.size)] 47)) from heap_new2 _ _)
    have M3 := Lib.hid (M2.out.kept (World.grownBy_alloc (w1.alloc (.map #[] 0)) (.cells #[.map (some w1.heap.size)] 47) none) (by simp))
    have B3 := Lib.hid ((B1.out.alloc B1.out.size (.map #[] 0)).alloc (Nat.le_trans B1.out.size (by simp)) (.cells #[.map (some w1.heap.size)] 47))
    have SZ := Lib.hid (show (w1.alloc (.map #[] 0)).heap.size = w1.heap.size + 1 by simp)
    rw [SZ.out] at P2
    clear h0 M2 SZ
    go_wp2_with fail
    go_loopw [18] (fun iv wr => ∃ j : Nat, j ≤ rows.length ∧ iv = .int .i64 j ∧ Hid (∀ r ∈ rows.take j, rowB levels r = true) ∧ Hid (∃ n, n ≤ j * 144 ∧ MBt w1.heap.size n (hadR (rows.take j)) wr) ∧ Hid (Bx (w1.heap.size + 1) 47 (.map (some w1.heap.size)) wr) ∧ Hid (Below w.heap.size w wr)) (fun iv _ => rows.length - (intOf iv).toNat)
    case atStart => exact ⟨0, Nat.zero_le _, rfl, Lib.hid (by simp), Lib.hid ⟨0, by omega, M3.out⟩, P2.out, B3.out⟩
    case round =>
      clear M3 P2 B3
      obtain ⟨j, hj, rfl, hall, hm, hp, hbb⟩ := hrel
      by_cases hlt : j < rows.length
      · obtain ⟨rb, ro, rfl, _, rcell⟩ := (HR.out wr hbb.out) (by omega)
        obtain ⟨D, d, r0, _, rD⟩ := rcell j hlt
        have RL := Lib.hid (show At wr w.heap.size D rows[j] from rD)
        have IR := Lib.hid (isrow_prog (lc := lc) (rc := d) wr (HL.out wr hbb.out) RL.out HN.out.1 (HN.out.2.2 rows[j] (List.getElem_mem hlt)))
        have hji : (j : Int) < rows.length := by omega
        have EB := Lib.hid (show rowB levels rows[j] = false → E = 3 ∧ V = [] from fun hb => by
          have h3 := mis_row L0.out hlt hb
          exact ⟨HE.out.trans h3, HV.out.trans (misV_no (by rw [h3]; decide))⟩)
        have EG := Lib.hid (show rowB levels rows[j] = true → (∀ r ∈ rows.take (j + 1), rowB levels r = true) ∧ Calls Tryd.prog 21 #[.slice D rows[j].length d, qfv 22 #[.pointer (some ⟨w1.heap.size + 1, 0, none⟩)]] wr fun e w' => e = .returned (.tuple #[]) ∧ Bx (w1.heap.size + 1) 47 (.map (some w1.heap.size)) w' ∧ (∃ n, n ≤ (j + 1) * 144 ∧ MBt w1.heap.size n (hadR (rows.take (j + 1))) w') ∧ wr.grownBy w' (some w1.heap.size) from fun hb => by
          have hF := row_full hb
          refine ⟨fun r hr => ?_, ?_⟩
          · rw [List.take_succ_eq_append_getElem hlt] at hr
            rcases List.mem_append.1 hr with hr | hr
            · exact hall.out r hr
            · rw [List.mem_singleton] at hr; subst hr; exact hb
          · obtain ⟨n, hn, hM⟩ := hm.out
            have h12 := (lev_ok L0.out).1
            have hn9 : n ≤ 900000000000 := by have := HN.out.2.1; omega
            refine (each_ok (set_do (f := hadR (rows.take j)) (n := n) (p := w1.heap.size + 1) L0.out hF B1.out.size RL.out (by omega) hn9) (HN.out.2.2 rows[j] (List.getElem_mem hlt)) (fun i hi => ?_) d wr ⟨hp.out, by rw [setF_nil]; exact hM, World.grownBy.refl _ _⟩).mono ?_
            · have := hF.2 i (by rw [← hF.1]; exact hi)
              omega
            · rintro e w' ⟨rfl, h1, h2, h3⟩
              refine ⟨rfl, h1, ⟨_, ?_, by rw [← had_step rows j hlt]; exact h2⟩, h3⟩
              have := prs_len (r := rows[j]) (by rw [hF.1]; exact h12)
              omega)
        clear rcell rD hall hm
        generalize rowB levels rows[j] = v at *
        generalize rows[j] = row at *
        go_wp2_with fail
        refine IR.out.mono ?_
        rintro e w2 ⟨rfl, rfl⟩
        clear IR
        cases v with
        | false =>
          obtain ⟨e1, e2⟩ := EB.out rfl
          subst e1
          subst e2
          clear EB EG
          go_wp2_with fail
          go_ret2
          exact ⟨none, 0, rfl, fun h => by simp at h, hbb.out⟩
        | true =>
          obtain ⟨hall2, C1⟩ := EG.out rfl
          have A2 := Lib.hid hall2
          have C1 := Lib.hid C1
          clear EB EG hall2
          go_wp2_with fail
          refine C1.out.mono ?_
          rintro e w3 ⟨rfl, hp3, hm3, hg3⟩
          have P3 := Lib.hid hp3
          have M3 := Lib.hid hm3
          have B3 := Lib.hid (hbb.out.grown hg3 hbb.out.size (fun k hk => by injection hk with hk; rw [← hk]; exact B1.out.size))
          clear hp3 hm3 hg3 C1 r0
          go_wp2_with fail
          go_roundw
          case rel => exact ⟨j + 1, hlt, by go_num, A2.out, M3.out, P3.out, B3.out⟩
          case measure => simp [intOf]; omega
      · obtain rfl : j = rows.length := by omega
        have h0 := L0.out
        have ha : ∀ r ∈ rows, rowB levels r = true := fun r hr => hall.out r (by rw [List.take_length]; exact hr)
        obtain ⟨n, hn, hM⟩ := hm.out
        rw [List.take_length] at hM
        obtain rfl : E = 0 := HE.out.trans (mis_full h0 ha)
        have hV : V = (missL levels []).filter fun q => !hadR rows q := by rw [HV.out, misV_ok (mis_full h0 ha), miss_had_eq ha]
        have AP := Lib.hid (all_pairs levels L lc h0 wr ((HL.out wr hbb.out).more hbb.out.size))
        have QS := Lib.hid (show ∀ q ∈ missL levels [], Sm q from fun q hq => quad_small h0 (mem_miss.1 hq).1)
        have QL := Lib.hid (show (missL levels []).length ≤ 4000 from miss_le (lev_ok h0).1 (lev_ok h0).2 [])
        have HM := Lib.hid hM
        have HV2 := Lib.hid hV
        clear HV hV hall hm hM ha HE HN h0
        generalize missL levels [] = qs at *
        generalize hadR rows = f at *
        go_wp2_with fail
        refine AP.out.mono ?_
        rintro e w4 ⟨A, c, rfl, ho, hb4⟩
        have O4 := Lib.hid ho
        have B4 := Lib.hid hb4
        have B5 := Lib.hid (below_trans hbb.out hb4)
        clear ho hb4 AP
        have G4 : Hid (wr.grownBy w4 none) := Lib.hid ⟨B4.out.os, B4.out.tape, B4.out.output, B4.out.size, fun k hk _ => B4.out.block k hk⟩
        have P4 := Lib.hid (hp.out.kept G4.out (by simp))
        have M4 := Lib.hid (HM.out.kept G4.out (by simp))
        have mlt := HM.out.lt
        have plt := hp.out.lt
        by_cases hz : 0 < qs.length
        · obtain ⟨g, rfl, hg1, hg2, hg3, hg4, hg5, hg6⟩ := own_four O4.out hz
          have AQ : AskQ 25 #[.pointer (some ⟨w1.heap.size + 1, 0, none⟩)] f g qs (fun W => Bx (w1.heap.size + 1) 47 (.map (some w1.heap.size)) W ∧ MBt w1.heap.size n f W) :=
            ⟨fun args w => rfl, fun W W' h hg => ⟨h.1.kept hg (by simp; omega), h.2.kept hg (by simp; omega)⟩, fun q W hq h => miss_had W h.1 h.2 (QS.out q hq)⟩
          have DC := Lib.hid (delete4 AQ 0 c (by have := QL.out; omega) hg3 w4 ⟨P4.out, M4.out⟩ hg2 hg4 hg5 hg6)
          have GB := Lib.hid (And.intro hg1 hg2)
          clear AQ hg1 hg2 hg3 hg4 hg5 hg6 O4
          go_wp2_with fail
          refine DC.out.mono ?_
          rintro e w6 ⟨out, hout, rfl, h1, h2⟩
          have D6 := Lib.hid h1
          have B6 := Lib.hid (B5.out.grown h2 B5.out.size (fun k hk => by injection hk with hk; rw [← hk]; exact Nat.le_trans hbb.out.size GB.out.1))
          have S6 := Lib.hid h2.size
          have E6 := Lib.hid (show V = out by rw [HV2.out, hout.out])
          clear h1 h2 DC hout
          go_wp2_with fail
          go_ret2
          refine ⟨some ⟨g, 0, none⟩, c, by rw [E6.out]; rfl, by rw [E6.out]; exact four_at ⟨Nat.le_trans hbb.out.size GB.out.1, Nat.lt_of_lt_of_le GB.out.2 S6.out⟩ D6.out, B6.out⟩
        · obtain rfl : qs = [] := List.eq_nil_of_length_eq_zero (by omega)
          have AQ : AskQ 25 #[.pointer (some ⟨w1.heap.size + 1, 0, none⟩)] f 0 [] (fun W => False) := ⟨fun args w => rfl, fun W W' h hg => h, fun q W hq h => h.elim⟩
          have DC := Lib.hid (delete4_nil AQ A c w4 (fun args w => rfl))
          have E6 := Lib.hid (show V = [] by rw [HV2.out]; rfl)
          clear AQ O4 HV2
          go_wp2_with fail
          refine DC.out.mono ?_
          rintro e w6 ⟨rfl, h2⟩
          have B6 := Lib.hid (B5.out.grown (grown_some (b := w4.heap.size) h2) B5.out.size (fun k hk => by injection hk with hk; rw [← hk]; exact B5.out.size))
          clear h2 DC
          go_wp2_with fail
          go_ret2
          refine ⟨A, c, by rw [E6.out]; rfl, fun h => by rw [E6.out] at h; simp at h, B6.out⟩
  · obtain rfl : E = levE levels := by rw [HE.out]; unfold misE; rw [if_neg h0]
    obtain rfl : V = [] := by rw [HV.out]; exact misV_no (by rw [← HE.out]; exact h0)
    rw [errOf_no h0]
    clear HE HV HN
    generalize levE levels = q at *
    go_wp2_with fail
    go_ret2
    exact ⟨none, 0, by rw [errOf_no h0]; rfl, fun h => by simp at h, B1.out⟩
end Go.Proofs.YtbajkbkfinineaaDoor.Pair
