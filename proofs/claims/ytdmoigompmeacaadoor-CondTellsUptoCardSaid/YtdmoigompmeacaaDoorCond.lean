/- The program's Tests and Covers. Conditions: the number of tests. -/
import Derived.Test.YtdmoigompmeacaaDoorCondD
namespace Go.Proofs.YtdmoigompmeacaaDoor.Cnd
open Go.RowKit Ints Vals Bools
set_option linter.unusedVariables false

/-! the first t numbers, noughts behind them -/
def fillV (N t : Nat) : List Value := (List.range t).map (fun u => Value.int .i64 ((u : Nat) : Int)) ++ List.replicate (N - t) (.int .i64 0)
def RF (N : Nat) (w : World) (g t : Nat) : Prop := w.heap[g]? = some (.cells (fillV N t).toArray 3 (0, 0))
theorem fill_len {N t : Nat} (h : t ≤ N) : (fillV N t).length = N := by unfold fillV; simp; omega
theorem fill_set {N t : Nat} (h : t < N) : (fillV N t).set t (.int .i64 (t : Int)) = fillV N (t + 1) := by
  unfold fillV
  rw [List.set_append_right _ _ (by simp), List.length_map, List.length_range, Nat.sub_self, List.range_succ, List.map_append, List.append_assoc]
  congr 1
  obtain ⟨k, hk⟩ : ∃ k, N - t = k + 1 := ⟨N - t - 1, by omega⟩
  rw [hk, show N - (t + 1) = k by omega, List.replicate_succ, List.set_cons_zero]
  rfl
theorem RF.lt {N : Nat} {w : World} {g t : Nat} (h : RF N w g t) : g < w.heap.size := (Array.getElem?_eq_some_iff.1 h).1
theorem RF.cell {N : Nat} {w : World} {g t : Nat} (h : RF N w g t) (hlt : t < N) : w.cell? ⟨g, t, none⟩ = some (.int .i64 0) := by
  rw [Lib.cell_of_heap h]
  unfold fillV
  simp only [List.getElem?_toArray]
  rw [List.getElem?_append_right (by simp), List.length_map, List.length_range, Nat.sub_self, List.getElem?_replicate, if_pos (by omega)]
theorem RF.put {N : Nat} {w : World} {g t : Nat} (h : RF N w g t) (hlt : t < N) : RF N (w.setCell ⟨g, t, none⟩ (.int .i64 (t : Int))) g (t + 1) := by
  unfold RF at h ⊢
  rw [← fill_set hlt]
  simp [World.setCell, Array.getElem?_modify, h]
theorem RF.all {N : Nat} {w : World} {g : Nat} (h : RF N w g N) : RN N w g ((List.range N).map Int.ofNat) := by
  refine ⟨by simp, _, h, by simp [fill_len (Nat.le_refl N)], ?_⟩
  unfold fillV
  rw [Nat.sub_self, List.replicate_zero, List.append_nil, List.length_map, List.length_range]
  rw [List.take_of_length_le (by simp), List.map_map]
  rfl
theorem mk_ints (k : Nat) (hk : k ≤ 64) (w : World) : (Instr.makeSlice 23 (.int .i64 k) (.int .i64 k)).run Tryd.prog w = .ok (.slice (some ⟨w.heap.size, 0, none⟩) k k) (w.alloc (.cells (fillV k 0).toArray 3)) := by
  have e : madeCells #[.int .i64 0] k = (fillV k 0).toArray := by
    apply Array.ext'
    unfold madeCells fillV
    apply List.ext_getElem
    · simp
    · intro i h1 h2
      simp [Nat.mod_one]
  rw [← e]
  exact run_make_row' (P := Tryd.prog) 23 3 (.int .i64 0) 8 Tryd.underlying23 int_info rfl .i64 .i64 k (by omega) (by omega) w
theorem tesV_ok {n : Int} {l : List Bool} {m : Nat} (hn : n = m) (h : condE n l = 0) (hl : l.length = 2 ^ m) : ((List.range l.length).filter (fOf (markL m (fOf l) (2 ^ m)))).map Int.ofNat = tesV n l := by
  unfold tesV testsL
  rw [if_pos h, hn, Int.toNat_natCast, hl]
  congr 1
  apply List.filter_congr
  intro u hu
  exact mark_get (by simpa using hu)
theorem tesV_no {n : Int} {l : List Bool} (h : ¬ condE n l = 0) : tesV n l = [] := if_neg h
def boxW (w : World) (v : Value) : World := w.alloc (.cells #[v] 22)
theorem box_grown (w : World) (v : Value) : w.grownBy (boxW w v) none := World.grownBy_alloc _ _ _
theorem box_is (w : World) (v : Value) : (boxW w v).cell? ⟨w.heap.size, 0, none⟩ = some v := box_cell (new_box w _)
theorem box_size (w : World) (v : Value) : (boxW w v).heap.size = w.heap.size + 1 := by
  unfold boxW
  simp

set_option maxHeartbeats 4000000 in
set_option maxRecDepth 100000 in
theorem tests_prog (n : Int) (A : Option Addr) (c : Nat) (l : List Bool) (w : World) (hl : l.length ≤ 4294967296) (hA : AtB w w.heap.size A l) :
    Calls Tryd.prog 15 #[.int .i64 n, .slice A l.length c] w (TePost (tesV n l) (condE n l) w) := by
  have CC := Lib.hid (check_ok n A c l w hl)
  unfold TePost
  by_cases hq : condE n l = 0
  · obtain ⟨m, hnm, h1, h6, hl2⟩ := cond_ok hq
    have h64 := pow_small h1 h6
    have hl64 : l.length ≤ 64 := by omega
    have hl0 : 0 < l.length := by omega
    obtain ⟨b, off, rfl, hbw, hlie⟩ := lie_at hA hl0
    have TV := Lib.hid (tesV_ok hnm hq hl2)
    rw [hq, errOf_ok] at CC ⊢
    subst hnm
    have ND := Lib.hid (fun (W : World) (hb : Below w.heap.size w W) => needed_ok h1 h6 hl2 b off c W (hlie.below hb hbw))
    have ML := Lib.hid (show (markL m (fOf l) (2 ^ m)).length = l.length by rw [mark_len, hl2])
    have DL := Lib.hid (fun (p g2 c g : Nat) (W : World) hR hM lp l2 np n2 => delete_ok hl0 hl64 p g2 c (markL m (fOf l) (2 ^ m)) ML.out g W hR hM lp l2 np n2)
    have hmk := mk_ints l.length hl64 w
    have F1 := Lib.hid (show RF l.length (w.alloc (.cells (fillV l.length 0).toArray 3)) w.heap.size 0 from new_box w _)
    have B1 := Lib.hid (show Below w.heap.size w (w.alloc (.cells (fillV l.length 0).toArray 3)) from (Below.refl _ _).alloc (Nat.le_refl _) _)
    rw [TV.out] at DL
    clear hq hlie hA h64 hl2 TV hl hbw
    have hl0' : (0 : Int) ≤ l.length := by omega
    generalize hw1 : w.alloc (.cells (fillV l.length 0).toArray 3) = w1 at *
    clear hw1
    go_enter Tryd.func15, Tryd.ntmps15
    go_wp2_with fail
    refine CC.out.mono ?_
    rintro e w0 ⟨rfl, rfl⟩
    clear CC
    go_wp2_with fail
    clear hmk
    go_loopw [21] (fun iv wr => ∃ t : Nat, t ≤ l.length ∧ iv = .int .i64 t ∧ Hid (RF l.length wr w0.heap.size t) ∧ Hid (Below w0.heap.size w0 wr)) (fun iv _ => l.length - (intOf iv).toNat)
    case atStart => exact ⟨0, Nat.zero_le _, rfl, F1.out, B1.out⟩
    case round =>
      clear F1 B1
      obtain ⟨t, ht, rfl, hr, hb⟩ := hrel
      by_cases hlt : t < l.length
      · have hti : (t : Int) < l.length := by omega
        have c1 := hr.out.cell hlt
        have f1 : wr.frozen? ⟨w0.heap.size, t, none⟩ = false := Lib.frozen_of_heap hr.out _
        have SW := Lib.hid hb.out.size
        have R2 := Lib.hid (hr.out.put hlt)
        have B2 := Lib.hid (hb.out.grown (put_grown wr w0.heap.size t (.int .i64 t)) SW.out (fun g hg => by injection hg with hg; omega))
        clear hr hb
        go_wp2_with fail
        go_roundw
        case rel => exact ⟨t + 1, by omega, by go_num, R2.out, B2.out⟩
        case measure => simp [intOf]; omega
      · obtain rfl : t = l.length := by omega
        have R2 := Lib.hid hr.out.all
        have N2 := Lib.hid (ND.out wr hb.out)
        have LT := Lib.hid hr.out.lt
        clear hr
        go_wp2_with fail
        refine N2.out.mono ?_
        rintro e w3 ⟨g2, hg2, rfl, hr3, hb3⟩
        have hgr : wr.grownBy w3 none := ⟨hb3.os, hb3.tape, hb3.output, hb3.size, fun k hk _ => hb3.block k hk⟩
        have BX := box_grown w3 (.slice (some ⟨g2, 0, none⟩) l.length l.length)
        have LT' := LT.out
        have S3 := hb3.size
        have S2 := hr3.lt
        have D4 := Lib.hid (DL.out w3.heap.size g2 l.length w0.heap.size (boxW w3 (.slice (some ⟨g2, 0, none⟩) l.length l.length)) ((R2.out.kept hgr (by simp)).kept BX (by simp))
          ⟨by rw [ML.out]; exact box_is w3 _, (hr3.kept BX (by simp)).lie⟩ (by rw [box_size]; omega) (by rw [box_size]; omega) (by omega) (by omega))
        have B4 := Lib.hid (((hb.out.grown hgr hb.out.size (fun g hg => by cases hg))).grown BX (by have := hb.out.size; omega) (fun g hg => by cases hg))
        clear hr3 hb3 hgr BX N2 R2 hb LT' S3 S2 hg2
        unfold boxW at D4 B4
        go_wp2_with fail
        generalize w3.alloc (.cells #[.slice (some ⟨g2, 0, none⟩) l.length l.length] 22) = w4 at *
        refine D4.out.mono ?_
        rintro e w5 ⟨rfl, hr5, hg5⟩
        have O5 := Lib.hid (hr5.own (base := w0.heap.size) (Nat.le_refl _) hl64)
        have B5 := Lib.hid (B4.out.grown hg5 B4.out.size (fun g hg => by injection hg with hg; omega))
        clear hr5 hg5 D4 B4
        go_wp2_with fail
        go_ret2
        exact ⟨_, _, rfl, O5.out, B5.out⟩
  · rw [tesV_no hq]
    rw [errOf_no hq] at CC ⊢
    generalize condE n l = q at *
    clear hA
    go_enter Tryd.func15, Tryd.ntmps15
    go_wp2_with fail
    refine CC.out.mono ?_
    rintro e w1 ⟨rfl, rfl⟩
    go_wp2_with fail
    go_ret2
    exact ⟨none, 0, rfl, Own.none, Below.refl _ _⟩
/-! Covers -/
theorem covE_no {n : Int} {l : List Bool} {ts : List Int} (h : ¬ condE n l = 0) : covE n l ts = condE n l ∧ covV n l ts = false := by
  have e : covE n l ts = condE n l := if_neg h
  refine ⟨e, ?_⟩
  unfold covV
  rw [if_neg (by rw [e]; exact h)]
theorem covE_bad {n : Int} {l : List Bool} {ts : List Int} (h : condE n l = 0) {k : Nat} (hk : k < ts.length) (hb : ¬ (0 ≤ ts.getD k 0 ∧ ts.getD k 0 < l.length)) : covE n l ts = 1 ∧ covV n l ts = false := by
  have e : covE n l ts = 1 := by
    unfold covE
    rw [if_pos h, if_neg]
    intro ha
    have := ha ts[k] (List.getElem_mem hk)
    rw [List.getD_eq_getElem?_getD, List.getElem?_eq_getElem hk] at hb
    exact hb this
  refine ⟨e, ?_⟩
  unfold covV
  rw [if_neg (by rw [e]; decide)]
theorem covE_good {n : Int} {l : List Bool} {ts : List Int} {m : Nat} (hn : n = m) (h : condE n l = 0) (hb : ∀ k, k < ts.length → 0 ≤ ts.getD k 0 ∧ ts.getD k 0 < l.length) : covE n l ts = 0 ∧ covV n l ts = covB m (fOf l) (hasL ts) := by
  have e : covE n l ts = 0 := by
    unfold covE
    rw [if_pos h, if_pos]
    intro t ht
    obtain ⟨k, hk, rfl⟩ := List.mem_iff_getElem.1 ht
    have := hb k hk
    rwa [List.getD_eq_getElem?_getD, List.getElem?_eq_getElem hk] at this
  refine ⟨e, ?_⟩
  unfold covV
  rw [if_pos e, hn, Int.toNat_natCast]
theorem has_step {ts : List Int} {k : Nat} (hk : k < ts.length) {z : List Bool} (hz : ∀ u, u < z.length → fOf z u = hasL (ts.take k) u) {t : Nat} (ht : ts.getD k 0 = t) : ∀ u, u < (z.set t true).length → fOf (z.set t true) u = hasL (ts.take (k + 1)) u := fun u hu => by
  rw [List.length_set] at hu
  rw [set_get hu]
  have hx : ts[k] = (t : Int) := by rw [← ht]; simp [List.getD, hk]
  unfold setH hasL
  rw [List.take_succ_eq_append_getElem hk, hx]
  by_cases e : u = t
  · rw [if_pos e]; subst e; simp
  · rw [if_neg e, hz u hu]
    unfold hasL
    have : ¬ (u : Int) = t := by omega
    simp [this]

set_option maxHeartbeats 4000000 in
set_option maxRecDepth 100000 in
theorem covers_prog (n : Int) (A : Option Addr) (c : Nat) (l : List Bool) (A2 : Option Addr) (c2 : Nat) (ts : List Int) (w : World) (hl : l.length ≤ 4294967296) (hts : ts.length ≤ 4294967296) (hA : AtB w w.heap.size A l) (hB : At w w.heap.size A2 ts) :
    Calls Tryd.prog 14 #[.int .i64 n, .slice A l.length c, .slice A2 ts.length c2] w (MaPost (covV n l ts) (covE n l ts) w) := by
  have CC := Lib.hid (check_ok n A c l w hl)
  unfold MaPost
  by_cases hq : condE n l = 0
  · obtain ⟨m, hnm, h1, h6, hl2⟩ := cond_ok hq
    have h64 := pow_small h1 h6
    have hl64 : l.length ≤ 64 := by omega
    have hl0 : 0 < l.length := by omega
    obtain ⟨b, off, rfl, hbw, hlie⟩ := lie_at hA hl0
    rw [hq, errOf_ok] at CC
    have BAD := Lib.hid (fun k hk hb => covE_bad (ts := ts) hq (k := k) hk hb)
    have GOOD := Lib.hid (covE_good (ts := ts) hnm hq)
    subst hnm
    have CV := Lib.hid (fun (W : World) (z : List Bool) (hz : z.length = l.length) (hb : Below w.heap.size w W) (hr : RB W w.heap.size z) => covers_ok h1 h6 hl2 hz b off c w.heap.size 0 l.length W (hlie.below hb hbw) hr.lie)
    have CS := Lib.hid (fun (z : List Bool) (hz : z.length = l.length) (hh : ∀ u, u < z.length → fOf z u = hasL ts u) => show covB m (fOf l) (fOf z) = covB m (fOf l) (hasL ts) from covB_same fun u hu => hh u (by omega))
    have hmk := mk_row l.length hl64 w
    have F1 := Lib.hid (show RB (w.alloc (.cells (vrep false l.length).toArray 4)) w.heap.size (List.replicate l.length false) by
      have := new_box w (.cells (vrep false l.length).toArray 4)
      unfold RB
      rw [this]
      simp [vrep])
    have B1 := Lib.hid (show Below w.heap.size w (w.alloc (.cells (vrep false l.length).toArray 4)) from (Below.refl _ _).alloc (Nat.le_refl _) _)
    have HB := Lib.hid hB
    obtain ⟨E, HE⟩ : ∃ E, Hid (E = covE m l ts) := ⟨_, Lib.hid rfl⟩
    obtain ⟨V, HV⟩ : ∃ V, Hid (V = covV m l ts) := ⟨_, Lib.hid rfl⟩
    rw [← HE.out, ← HV.out]
    clear hq hlie hA h64 hl2 hl hbw hB
    have hl0' : (0 : Int) ≤ l.length := by omega
    have htsi : (ts.length : Int) ≤ 4294967296 := by omega
    generalize hw1 : w.alloc (.cells (vrep false l.length).toArray 4) = w1 at *
    clear hw1
    go_enter Tryd.func14, Tryd.ntmps14
    go_wp2_with fail
    refine CC.out.mono ?_
    rintro e w0 ⟨rfl, rfl⟩
    clear CC
    go_wp2_with fail
    clear hmk
    go_loopw [23] (fun iv wr => ∃ (k : Nat) (z : List Bool), k ≤ ts.length ∧ iv = .int .i64 k ∧ Hid (z.length = l.length) ∧ Hid (∀ u, u < z.length → fOf z u = hasL (ts.take k) u) ∧ Hid (∀ j, j < k → 0 ≤ ts.getD j 0 ∧ ts.getD j 0 < l.length) ∧ Hid (RB wr w0.heap.size z) ∧ Hid (Below w0.heap.size w0 wr)) (fun iv _ => ts.length - (intOf iv).toNat)
    case atStart => exact ⟨0, _, Nat.zero_le _, rfl, Lib.hid (by simp), Lib.hid (fun u hu => by simp at hu; simp [fOf, hasL, List.getD, hu]), Lib.hid (fun j h => by omega), F1.out, B1.out⟩
    case round =>
      clear F1 B1
      obtain ⟨k, z, hk, rfl, hz, hh, ha, hr, hb⟩ := hrel
      by_cases hlt : k < ts.length
      · have hki : (k : Int) < ts.length := by omega
        obtain ⟨b2, o2, rfl, hb2, hc2⟩ := HB.out (by omega)
        have c1 : wr.cell? ⟨b2, o2 + k, none⟩ = some (.int .i64 (ts.getD k 0)) := (hb.out.cell (p := ⟨b2, o2 + k, none⟩) hb2).trans (hc2 k hlt)
        have BK := Lib.hid (BAD.out k hlt)
        have HS := Lib.hid (fun t ht => has_step hlt hh.out (t := t) ht)
        have AS := Lib.hid (fun (h : 0 ≤ ts.getD k 0 ∧ ts.getD k 0 < l.length) j (hj : j < k + 1) => show 0 ≤ ts.getD j 0 ∧ ts.getD j 0 < l.length by
          by_cases e : j = k
          · subst e; exact h
          · exact ha.out j (by omega))
        clear hc2 ha hh
        generalize ts.getD k 0 = x at *
        by_cases hx0 : x < 0
        · obtain ⟨e1, e2⟩ := BK.out (by omega)
          rw [← HE.out] at e1
          rw [← HV.out] at e2
          clear BK HS AS HE HV BAD GOOD
          subst e1
          subst e2
          go_wp2_with fail
          go_ret2
          exact ⟨rfl, hb.out⟩
        · by_cases hxl : x < l.length
          · obtain ⟨t, rfl⟩ : ∃ t : Nat, x = t := ⟨x.toNat, by omega⟩
            have htl : t < l.length := by omega
            have c2 : wr.cell? ⟨w0.heap.size, t, none⟩ = some (.bool (fOf z t)) := by
              have := hr.out.lie t (by rw [hz.out]; exact htl)
              rwa [Nat.zero_add] at this
            have f2 := hr.out.free t
            have SW := Lib.hid hb.out.size
            have R2 := Lib.hid (hr.out.put t true)
            have B2 := Lib.hid (hb.out.grown (put_grown wr w0.heap.size t (.bool true)) SW.out (fun g hg => by injection hg with hg; omega))
            have Z2 := Lib.hid (show (z.set t true).length = l.length by rw [List.length_set]; exact hz.out)
            have H2 := Lib.hid (HS.out t rfl)
            have A3 := Lib.hid (AS.out ⟨by omega, hxl⟩)
            clear hr hb hz HS AS BK
            generalize z.set t true = z2 at *
            generalize fOf z t = v0 at *
            go_wp2_with fail
            go_roundw
            case rel => exact ⟨k + 1, z2, by omega, by go_num, Z2.out, H2.out, A3.out, R2.out, B2.out⟩
            case measure => simp [intOf]; omega
          · obtain ⟨e1, e2⟩ := BK.out (by omega)
            rw [← HE.out] at e1
            rw [← HV.out] at e2
            clear BK HS AS HE HV BAD GOOD
            subst e1
            subst e2
            go_wp2_with fail
            go_ret2
            exact ⟨rfl, hb.out⟩
      · obtain rfl : k = ts.length := by omega
        have C2 := CV.out wr z hz.out hb.out hr.out
        have h3 := hh.out
        rw [List.take_length] at h3
        obtain ⟨e1, e2⟩ := GOOD.out ha.out
        rw [← HE.out] at e1
        rw [← HV.out] at e2
        rw [CS.out z hz.out h3, ← e2, hz.out] at C2
        have C2 := Lib.hid C2
        have BW := Lib.hid hb.out
        clear h3 hh hz ha hr hb HE HV BAD GOOD CV CS e2
        subst e1
        go_wp2_with fail
        refine C2.out.mono ?_
        rintro e w3 ⟨rfl, hg3⟩
        have B3 := Lib.hid (BW.out.grown hg3 BW.out.size (fun g hg => by cases hg))
        clear hg3 C2
        go_wp2_with fail
        go_ret2
        exact ⟨rfl, B3.out⟩
  · obtain ⟨e1, e2⟩ := covE_no (ts := ts) hq
    rw [e1, e2]
    rw [errOf_no hq] at CC ⊢
    clear e1 e2
    generalize condE n l = q at *
    clear hA hB
    go_enter Tryd.func14, Tryd.ntmps14
    go_wp2_with fail
    refine CC.out.mono ?_
    rintro e w1 ⟨rfl, rfl⟩
    go_wp2_with fail
    go_ret2
    exact ⟨rfl, Below.refl _ _⟩
end Go.Proofs.YtdmoigompmeacaaDoor.Cnd
