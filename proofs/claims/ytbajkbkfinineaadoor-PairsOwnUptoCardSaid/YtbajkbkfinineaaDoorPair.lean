/- The program's Rows: contract. Conditions: the sizes. -/
import Derived.Test.YtbajkbkfinineaaDoorPairNeed
namespace Go.Proofs.YtbajkbkfinineaaDoor.Pair
open Go.RowKit Ints Lists Vals Gens Arr
set_option linter.unusedVariables false

/-- what Rows tells -/
def rowsV (levels : List Int) : List (List Int) := if levE levels = 0 then rowsG levels else []
theorem rows_ok {levels : List Int} (h : levE levels = 0) : RowsOk levels (rowsV levels) := by
  unfold rowsV
  rw [if_pos h]
  exact rowsG_ok (lev_ok h).2
theorem rows_no {levels : List Int} (h : ¬ levE levels = 0) : rowsV levels = [] := by unfold rowsV; rw [if_neg h]
theorem tot_le (rows : List (List Int)) (q : Quad) : totC rows q ≤ rows.length := by
  induction rows with
  | nil => simp [totC]
  | cons r rows ih =>
    rw [totC_cons, List.length_cons]
    have := count_prs r q
    omega
theorem made_small {levels : List Int} (h : levE levels = 0) {n : Nat} (hn : n ≤ (quads levels).length) (q : Quad) : 0 ≤ (madeN levels n).2 q ∧ (madeN levels n).2 q ≤ 4000 := by
  have hm := made_ok (lev_ok h).2 n hn
  have := tot_le (madeN levels n).1 q
  have hl : (quads levels).length ≤ 4000 := by
    have := miss_le (lev_ok h).1 (lev_ok h).2 []
    have e : missL levels [] = quads levels := by
      unfold missL
      rw [List.filter_eq_self]
      intro q _; rfl
    rwa [e] at this
  have h1 := hm.tot q
  have h2 := hm.len
  omega
theorem quads_le {levels : List Int} (h : levE levels = 0) : (quads levels).length ≤ 4000 := by
  have := miss_le (lev_ok h).1 (lev_ok h).2 []
  have e : missL levels [] = quads levels := by
    unfold missL
    rw [List.filter_eq_self]
    intro q _; rfl
  rwa [e] at this
theorem miss_nil (levels : List Int) : missL levels [] = quads levels := by
  unfold missL
  rw [List.filter_eq_self]
  intro q _; rfl
theorem need_small {levels : List Int} (h : levE levels = 0) : ∀ i, i ≤ (madeN levels (quads levels).length).1.length → ∀ q, -5000 ≤ (needN (madeN levels (quads levels).length).1 (madeN levels (quads levels).length).2 i).2 q ∧ (needN (madeN levels (quads levels).length).1 (madeN levels (quads levels).length).2 i).2 q ≤ 5000 := fun i hi q => by
  have hm := made_ok (lev_ok h).2 (quads levels).length (Nat.le_refl _)
  have hd := need_ok hm.full hm.tot (fun q hq => by
    obtain ⟨j, hj, rfl⟩ := List.mem_iff_getElem.1 hq
    exact hm.has j hj hj) i hi
  have h1 := hd.tot q
  have h2 := tot_le ((needN (madeN levels (quads levels).length).1 (madeN levels (quads levels).length).2 i).1 ++ (madeN levels (quads levels).length).1.drop i) q
  rw [List.length_append, List.length_drop] at h2
  have h3 := hd.len
  have h4 := hm.len
  have h5 := quads_le h
  omega
/-- the world, the first blocks alone -/
def cut (w : World) (n : Nat) : World := { w with heap := w.heap.take n }
theorem cut_at (w : World) (n b : Nat) (h : b < n) : (cut w n).heap[b]? = w.heap[b]? := by
  unfold cut
  simp only [Array.take_eq_extract]
  rw [Array.getElem?_extract]
  simp
  omega
theorem cut_size (w : World) (n : Nat) (h : n ≤ w.heap.size) : (cut w n).heap.size = n := by
  unfold cut
  simp
  omega
theorem cut_below (w : World) (n : Nat) (h : n ≤ w.heap.size) : Below (cut w n).heap.size (cut w n) w := ⟨rfl, rfl, rfl, by rw [cut_size w n h]; exact h, fun k hk => by rw [cut_size w n h] at hk; exact (cut_at w n k hk).symm⟩

set_option maxHeartbeats 8000000 in
set_option maxRecDepth 100000 in
theorem rows_prog {L : Option Addr} {levels : List Int} {lc : Nat} (w : World) (hl : At w w.heap.size L levels) (hln : levels.length ≤ 4294967296) (hcap : levels.length ≤ lc) :
    Calls Tryd.prog 12 #[.slice L levels.length lc] w (RwPost (rowsV levels) (levE levels) w) := by
  have HL := Lib.hid (fun (W : World) (hb : Below w.heap.size w W) => show At W W.heap.size L levels from (hl.below hb).more hb.size)
  have CK := Lib.hid (check_prog (lc := lc) w hl hln hcap)
  have lni : (levels.length : Int) ≤ 4294967296 := by omega
  obtain ⟨V, HV⟩ : ∃ V, Hid (V = rowsV levels) := ⟨_, Lib.hid rfl⟩
  rw [← HV.out]
  have hmm := @run_makeMap Tryd.prog
  clear hl hln hcap
  go_enter Tryd.func12, Tryd.ntmps12
  go_wp2_with fail
  refine CK.out.mono ?_
  rintro e w1 ⟨rfl, hb1⟩
  have B1 := Lib.hid hb1
  clear hb1 CK
  by_cases h0 : levE levels = 0
  · rw [h0, errOf_ok]
    have L0 := Lib.hid h0
    have M2 := Lib.hid (MAt.made w1)
    have SZ := Lib.hid (show (w1.alloc (.map #[] 0)).heap.size = w1.heap.size + 1 by simp)
    have P2 := Lib.hid (show Bx (w1.alloc (.map #[] 0)).heap.size 53 (.map (some w1.heap.size)) ((w1.alloc (.map #[] 0)).alloc (.cells #[.map (some w1.heap.size)] 53)) from heap_new2 _ _)
    have M3 := Lib.hid (M2.out.kept (World.grownBy_alloc (w1.alloc (.map #[] 0)) (.cells #[.map (some w1.heap.size)] 53) none) (by simp))
    have B3 := Lib.hid ((B1.out.alloc B1.out.size (.map #[] 0)).alloc (Nat.le_trans B1.out.size (by simp)) (.cells #[.map (some w1.heap.size)] 53))
    rw [SZ.out] at P2
    have AP := Lib.hid (all_pairs levels L lc h0 ((w1.alloc (.map #[] 0)).alloc (.cells #[.map (some w1.heap.size)] 53)) (HL.out _ B3.out))
    rw [miss_nil] at AP
    clear M2 SZ
    go_wp2_with fail
    refine AP.out.mono ?_
    rintro e w4 ⟨A, c, rfl, ho, hb4⟩
    have QA := Lib.hid (OwnE.at_ even_four ho)
    have G4 : Hid (((w1.alloc (.map #[] 0)).alloc (.cells #[.map (some w1.heap.size)] 53)).grownBy w4 none) := Lib.hid (grown_below hb4)
    have P4 := Lib.hid (P2.out.kept G4.out (by simp))
    have M4 := Lib.hid (M3.out.kept G4.out (by simp))
    have B4 := Lib.hid (below_trans B3.out hb4)
    have S4 := Lib.hid (show w1.heap.size + 2 ≤ w4.heap.size from Nat.le_trans (by simp) hb4.size)
    have QG := Lib.hid (show ∀ b, ((w1.alloc (.map #[] 0)).alloc (.cells #[.map (some w1.heap.size)] 53)).heap.size ≤ b → w1.heap.size + 2 ≤ b from fun b hb => by simp at hb; omega)
    have QL := Lib.hid (quads_le h0)
    have qli : ((quads levels).length : Int) ≤ 4000 := by have := QL.out; omega
    clear AP ho hb4 G4 P2 M3 B3 h0
    go_wp2_with fail
    go_loopw [5, 19] (fun rv iv wr => ∃ (k : Nat) (A2 : Option Addr) (c2 : Nat) (z : List (List Int)), k ≤ (quads levels).length ∧ iv = .int .i64 k ∧ rv = .slice A2 z.length c2 ∧ Hid (z = (madeN levels k).1) ∧ Hid (OwnRowsD wr w4.heap.size A2 c2 z) ∧ Hid (Bx (w1.heap.size + 1) 53 (.map (some w1.heap.size)) wr) ∧ Hid (∃ n, n ≤ k * 144 ∧ MAt w1.heap.size n (madeN levels k).2 wr) ∧ Hid (w4.grownBy wr (some w1.heap.size))) (fun _ iv _ => (quads levels).length - (intOf iv).toNat)
    case atStart => exact ⟨0, none, 0, [], Nat.zero_le _, rfl, rfl, Lib.hid rfl, OwnRowsD.zero, P4.out, Lib.hid ⟨0, by omega, M4.out⟩, World.grownBy.refl _ _⟩
    case round =>
      clear P4 M4
      obtain ⟨k, A2, c2, z, hk, rfl, rfl, hz, ho, hp, hm, hg⟩ := hrel
      by_cases hlt : k < (quads levels).length
      · obtain ⟨qb, qo, rfl, hqb, hqc⟩ := four_cells QA.out (by omega)
        have hqb2 := QG.out qb hqb.1
        obtain ⟨d0, d1, d2, d3⟩ := hqc k hlt
        have c0 := hg.out.cell d0 (by simp; omega)
        have c1 := hg.out.cell d1 (by simp; omega)
        have c2' := hg.out.cell d2 (by simp; omega)
        have c3 := hg.out.cell d3 (by simp; omega)
        have hki : (k : Int) < (quads levels).length := by omega
        have HQ := Lib.hid (show (quads levels)[k] ∈ quads levels from List.getElem_mem hlt)
        have MS := Lib.hid (made_step levels k hlt)
        have MO := Lib.hid (made_small L0.out hk)
        have ZL := Lib.hid (show z.length ≤ 4000 by rw [hz.out]; have := (made_ok (lev_ok L0.out).2 k hk).len; have := QL.out; omega)
        clear d0 d1 d2 d3 hqc hqb
        generalize hq : (quads levels)[k] = q at *
        clear hq
        have HS := Lib.hid (quad_small L0.out HQ.out)
        have KG := Lib.hid (keyW_grown wr q)
        obtain ⟨n, hn, hM⟩ := hm.out
        have MK := Lib.hid (hM.kept KG.out (by simp))
        have hr := MK.out.look HS.out
        have PK := Lib.hid (hp.out.kept KG.out (by simp))
        have cK := PK.out.cell
        have plt := hp.out.lt
        have NQ := Lib.hid (show At4 wr.heap.size 0 0 q (keyW wr q) from ⟨four_new wr q 0 (by omega), four_new wr q 1 (by omega), four_new wr q 2 (by omega), four_new wr q 3 (by omega)⟩)
        have GK := Lib.hid (show w4.grownBy (keyW wr q) (some w1.heap.size) from hg.out.andThen KG.out (fun j hj => by cases hj))
        have BK := Lib.hid (show Below w.heap.size w (keyW wr q) from B4.out.grown GK.out B4.out.size (fun j hj => by injection hj with hj; rw [← hj]; exact B1.out.size))
        have RW := Lib.hid (rowwith_prog (lc := lc) (keyW wr q) L0.out HQ.out (HL.out _ BK.out) MK.out)
        have OK := Lib.hid (fun (W : World) (hW : ∀ b, w4.heap.size ≤ b → b < wr.heap.size → W.heap[b]? = wr.heap[b]?) => OwnRowsD.keepb ho.out hW)
        have HN := Lib.hid hn
        have NK := Lib.hid (show n ≤ 600000 by have := QL.out; omega)
        have OGE := Lib.hid hg.out.size
        have HGE := Lib.hid ho.out.ge
        have sK := Lib.hid (show (keyW wr q).heap.size = wr.heap.size + 1 by simp)
        have OQ := Lib.hid (fun (W : World) (hgr : (keyW wr q).grownBy W none) => show OwnRowsD W w4.heap.size A2 c2 z from OwnRowsD.keepb ho.out (fun b hb hl => (hgr.block b (by rw [sK.out]; omega) (by simp)).trans (KG.out.block b hl (by simp))))
        unfold keyV at hr RW
        clear hm hM hp ho
        generalize hs : madeN levels k = st at *
        have HS2 := Lib.hid hs
        clear hs
        obtain ⟨zr, f⟩ := st
        simp only at hz hr MK RW MS MO
        obtain rfl := hz.out
        by_cases hf : f q = 0
        · have NX := Lib.hid (show madeN levels (k + 1) = (z ++ [rowW levels f q], addF f (prs (rowW levels f q))) by rw [MS.out]; unfold stepR; rw [if_pos hf])
          rw [hf] at hr
          have FU := Lib.hid (show Full levels (rowW levels f q) from rowW_full (lev_ok L0.out).2 f HQ.out)
          clear MS hf
          go_wp2_with fail
          refine RW.out.mono ?_
          rintro e w5 ⟨D, d, r, rfl, hrw, hro, hb5⟩
          rw [← hrw.out] at FU NX
          have G5 := Lib.hid (grown_below hb5)
          have O5 := Lib.hid hro
          have P5 := Lib.hid (PK.out.kept G5.out (by simp))
          have RB := Lib.hid (show ∀ g, rowOf D = some g → wr.heap.size + 1 ≤ g from fun g hg' => by have := (own_blk hro g hg').1; rw [sK.out] at this; exact this)
          have E5 := Lib.hid (show Calls Tryd.prog 21 #[.slice D r.length d, qfv 27 #[.pointer (some ⟨w1.heap.size + 1, 0, none⟩)]] w5 fun e w' => e = .returned (.tuple #[]) ∧ Bx (w1.heap.size + 1) 53 (.map (some w1.heap.size)) w' ∧ (∃ n', n' ≤ (k + 1) * 144 ∧ MAt w1.heap.size n' (addF f (prs r)) w') ∧ w5.grownBy w' (some w1.heap.size) by
            have hpl := prs_len (r := r) (by rw [FU.out.1]; exact (lev_ok L0.out).1)
            refine (each_ok (up_do (f := f) (n := n) (p := w1.heap.size + 1) L0.out FU.out hro.at_ (fun g hg' => by have := RB.out g hg'; omega) (by omega) (by have := NK.out; omega) (fun q => by have := MO.out q; omega)) (by have := FU.out.1; have := (lev_ok L0.out).1; omega) (fun j hj => by have := FU.out.2 j (by rw [← FU.out.1]; exact hj); omega) d w5 ⟨P5.out, by rw [addF_nil]; exact MK.out.kept G5.out (by simp), World.grownBy.refl _ _⟩).mono ?_
            rintro e w' ⟨rfl, h⟩
            exact ⟨rfl, h.box, ⟨_, by have := HN.out; omega, h.map⟩, h.grown⟩)
          clear hrw hro hb5 RW MO MK PK P5 OQ cK hr NQ
          go_wp2_with fail
          refine E5.out.mono ?_
          rintro e w6 ⟨rfl, hp6, hm6, hg6⟩
          have NC := Lib.hid (heap_new2 w6 (.cells #[.slice D r.length d] 22))
          have GA := Lib.hid (show w6.grownBy (w6.alloc (.cells #[.slice D r.length d] 22)) none from World.grownBy_alloc _ _ _)
          have P7 := Lib.hid (hp6.kept GA.out (by simp))
          have M7 := Lib.hid (show ∃ n', n' ≤ (k + 1) * 144 ∧ MAt w1.heap.size n' (addF f (prs r)) (w6.alloc (.cells #[.slice D r.length d] 22)) by
            obtain ⟨n', hn', hM'⟩ := hm6
            exact ⟨n', hn', hM'.kept GA.out (by simp)⟩)
          have G7 := Lib.hid (show w4.grownBy (w6.alloc (.cells #[.slice D r.length d] 22)) (some w1.heap.size) from ((GK.out.andThen G5.out (fun j hj => by cases hj)).trans hg6).andThen GA.out (fun j hj => by cases hj))
          have sz7 := Lib.hid (show wr.heap.size ≤ (w6.alloc (.cells #[.slice D r.length d] 22)).heap.size by
            have h1 := KG.out.size; have h2 := G5.out.size; have h3 := hg6.size; have h4 := GA.out.size; omega)
          have blk7 := Lib.hid (show ∀ b, w4.heap.size ≤ b → b < wr.heap.size → (w6.alloc (.cells #[.slice D r.length d] 22)).heap[b]? = wr.heap[b]? from fun b hb hl => by
            have h1 := KG.out.size; have h2 := G5.out.size; have h3 := hg6.size
            rw [GA.out.block b (by omega) (by simp), hg6.block b (by omega) (fun e => by injection e with e; have := S4.out; omega), G5.out.block b (by omega) (by simp), KG.out.block b hl (by simp)])
          have O7 := Lib.hid (show Own (w6.alloc (.cells #[.slice D r.length d] 22)) wr.heap.size D d r from
            own_mono ((O5.out.grown hg6 (fun g hg' e => by injection e with e; have := RB.out g hg'; have := S4.out; have := OGE.out; omega)).grown GA.out (fun g hg' e => by cases e)) (by rw [sK.out]; omega))
          clear hp6 hm6 hg6 E5 GK G5 O5
          have OC := Lib.hid (show OwnRowsD (cut (w6.alloc (.cells #[.slice D r.length d] 22)) wr.heap.size) w4.heap.size A2 c2 z from OK.out _ (fun b hb hl => (cut_at _ _ b hl).trans (blk7.out b hb hl)))
          have BC := Lib.hid (cut_below (w6.alloc (.cells #[.slice D r.length d] 22)) wr.heap.size sz7.out)
          have CS := Lib.hid (cut_size (w6.alloc (.cells #[.slice D r.length d] 22)) wr.heap.size sz7.out)
          have O8 := Lib.hid (show Own (w6.alloc (.cells #[.slice D r.length d] 22)) (cut (w6.alloc (.cells #[.slice D r.length d] 22)) wr.heap.size).heap.size D d r by rw [CS.out]; exact O7.out)
          have HBs := Lib.hid (show w4.heap.size ≤ (cut (w6.alloc (.cells #[.slice D r.length d] 22)) wr.heap.size).heap.size by rw [CS.out]; exact OGE.out)
          have hz4 := ZL.out
          clear OK O7 blk7
          go_wp2_with (
            at_builtin
            refine wpList_append_rowsd rfl (.tmp 34) (.tmp 36) rfl (cut (w6.alloc (.cells #[.slice D r.length d] 22)) wr.heap.size) w4.heap.size c2 A2 z OC.out BC.out w6.heap.size r D d 22 O8.out NC.out rfl rfl (by omega) HBs.out ?_
            intro A5 c5 w8 z5 hz5 own5 g5 r5
            have O9 := Lib.hid own5
            have P9 := Lib.hid (P7.out.kept g5 (fun e => by have := (HGE.out _ e.symm).1; have := S4.out; omega))
            have M9 := Lib.hid (show ∃ n', n' ≤ (k + 1) * 144 ∧ MAt w1.heap.size n' (addF f (prs r)) w8 by
              obtain ⟨n', hn', hM'⟩ := M7.out
              exact ⟨n', hn', hM'.kept g5 (fun e => by have := (HGE.out _ e.symm).1; have := S4.out; omega)⟩)
            have G9 := Lib.hid (G7.out.andThen g5 (fun j hj => .inl (HGE.out j hj).1))
            have Z9 := Lib.hid (show z5 = z ++ [r] from hz5.out)
            clear own5 g5 r5)
          go_roundw
          case rel => exact ⟨k + 1, A5, c5, z5, hlt, by go_num, rfl, by rw [NX.out]; exact Z9.out, O9.out, P9.out, by rw [NX.out]; exact M9.out, G9.out⟩
          case measure => simp [intOf]; omega
        · have NX := Lib.hid (show madeN levels (k + 1) = (z, f) by rw [MS.out]; unfold stepR; rw [if_neg hf])
          have hf1 : (f q == 0) = false := beq_eq_false_iff_ne.2 hf
          have OQ2 := Lib.hid (OQ.out _ (World.grownBy.refl _ _))
          clear MS MO RW OQ OK
          generalize f q = v at *
          go_wp2_with fail
          go_roundw
          case rel => exact ⟨k + 1, A2, c2, z, hlt, by go_num, rfl, by rw [NX.out]; exact Lib.hid rfl, OQ2.out, PK.out, Lib.hid ⟨n, by omega, by rw [NX.out]; exact MK.out⟩, GK.out⟩
          case measure => simp [intOf]; omega
      · obtain rfl : k = (quads levels).length := by omega
        obtain ⟨n, hn, hM⟩ := hm.out
        have hmade := made_ok (lev_ok L0.out).2 (quads levels).length (Nat.le_refl _)
        have hV : V = (needN z (madeN levels (quads levels).length).2 z.length).1 := by rw [HV.out, hz.out]; unfold rowsV; rw [if_pos L0.out]; rfl
        have hfs := need_small L0.out
        have hfull := hmade.full
        have hlen := hmade.len
        rw [← hz.out] at hfs hfull hlen
        have ND := Lib.hid (needed_prog wr ho.out (by have := S4.out; omega) hg.out.size hM (by have := QL.out; omega) hfull L0.out (by have := QL.out; omega) hfs)
        have HV2 := Lib.hid hV
        have BR := Lib.hid (show Below w.heap.size w wr from B4.out.grown hg.out B4.out.size (fun j hj => by injection hj with hj; rw [← hj]; exact B1.out.size))
        have cP := hp.out.cell
        clear HV hV hfs hfull hlen hmade hM hm ho hg hp
        generalize (madeN levels (quads levels).length).2 = f at *
        go_wp2_with fail
        refine ND.out.mono ?_
        rintro e w6 ⟨A6, c6, z6, rfl, h6, ho6, hg6⟩
        have O6 := Lib.hid (ho6.less B4.out.size)
        have B6 := Lib.hid (BR.out.grown hg6 BR.out.size (fun j hj => by injection hj with hj; rw [← hj]; exact B1.out.size))
        have E6 := Lib.hid (show V = z6 by rw [HV2.out, h6.out])
        clear h6 ho6 hg6 ND HV2
        go_wp2_with fail
        go_ret2
        exact ⟨A6, c6, by rw [E6.out, L0.out]; rfl, by rw [E6.out]; exact O6.out, B6.out⟩
  · obtain rfl : V = [] := by rw [HV.out]; exact rows_no h0
    rw [errOf_no h0]
    clear HV
    have H0 := Lib.hid h0
    generalize levE levels = q at *
    go_wp2_with fail
    go_ret2
    exact ⟨none, 0, by rw [errOf_no H0.out]; rfl, OwnRowsD.zero, B1.out⟩
end Go.Proofs.YtbajkbkfinineaaDoor.Pair
