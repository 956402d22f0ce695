/-
  RankTells: of any generator, number and list the program's Nth and Rank tell what the document's list of all tapes does, where that has at most 3000 of them; for generators and lists that together hold at most 1048576 values.
  Conditions: the second form's bound on what comes in; the library's variable errors.errorType as the program's text lays it (the card ties it).
-/
import Derived.Test.YtffkppjmdelajaaDoorRankTellsZ6
import Derived.Test.YtffkppjmdelajaaDoorRankTellsZ16
import Derived.Test.YtffkppjmdelajaaDoorRankTellsZ18
import Derived.Test.YtffkppjmdelajaaDoorCards
import Derived.Test.YtffkppjmdelajaaDoorTie
import Derived.JoinedCond
import Derived.LaidHandle
import Derived.Deep.DeepLaidRun
import Derived.Deep.DeepHandedRow
import Derived.Deep.DeepWitnessRowRef
/- RankTells: the walk. Conditions: the sizes; the library's variable that errors.As reads. -/
namespace Go.Proofs.YtffkppjmdelajaaDoor.RankTellsLaw
open Go.RowKit Lists Ints Vals Gens Rng GenTellsLaw
set_option linter.unusedVariables false

theorem nil_nil (A B : Option Addr) (c d : Nat) (w : World) :
    Calls Tryd.prog 23 #[.slice A 0 c, .slice B 0 d] w fun e w' => e = .returned (.bool true) ∧ Below w.heap.size w w' :=
  same_below [] [] A B c d w.heap.size (by simp) (by simp) w (fun h => by simp at h) (fun h => by simp at h)
/-- the plain facts where the generator is faulty or too large -/
theorem bad_facts {t : Gn} {i : Int} {l : List Int} (h : ¬ countE t = 0) : nthE t i = countE t ∧ nthV t i = [] ∧ rankE t l = countE t ∧ rankV t l = 0 := by
  have h1 : nthE t i = countE t := by unfold nthE; rw [if_neg h]
  have h2 : rankE t l = countE t := by unfold rankE; rw [if_neg h]
  refine ⟨h1, ?_, h2, ?_⟩
  · unfold nthV; rw [if_neg (by rw [h1]; exact h)]
  · unfold rankV; rw [if_neg (by rw [h2]; exact h)]

theorem row_at {W : World} {N tb tof : Nat} {z : List (List Int)} (h : RowsAt W N (some ⟨tb, tof, none⟩) z) (k : Nat) (hk : k < z.length) : ∃ D d, W.cell? ⟨tb, tof + k, none⟩ = some (.slice D (z[k]'hk).length d) ∧ At W N D (z[k]'hk) := by
  obtain ⟨b, off, e, _, hc⟩ := h (by omega)
  simp only [Option.some.injEq, Addr.mk.injEq, and_true] at e
  obtain ⟨rfl, rfl⟩ := e
  obtain ⟨D, d, h1, _, h3⟩ := hc k hk
  exact ⟨D, d, h1, h3⟩
theorem good_facts {t : Gn} {i : Int} {l : List Int} (hr : Right t) (h0 : genV t = 0) (hc : countE t = 0) (hl : (tapesG t).length = (enG t).cnt) :
    (nthE t i = if i < 0 ∨ ((tapesG t).length : Int) ≤ i then 1 else 0) ∧ (nthE t i ≠ 0 → nthV t i = []) ∧ (∀ k (hk : k < (tapesG t).length), i = (k : Int) → nthV t i = (tapesG t)[k]'hk) ∧ rankE t l = errI (replayG t l) ∧ (rankE t l ≠ 0 → rankV t l = 0) ∧
    (rankE t l = 0 → ∃ hk : rankV t l < (tapesG t).length, (tapesG t)[rankV t l]'hk = l ∧ ∀ j (hj : j < (tapesG t).length), (tapesG t)[j]'hj = l → j = rankV t l) := by
  have hget : ∀ z, z = allOf (enG t) → ∀ k (hk : k < z.length), z[k]'hk = (enG t).nth k := by
    rintro z rfl k hk
    simp [allOf]
  have hget := hget _ (tapes_all t hr)
  have e1 : nthE t i = if i < 0 ∨ ((tapesG t).length : Int) ≤ i then 1 else 0 := by unfold nthE; rw [if_pos hc, hl]
  refine ⟨e1, fun h => by unfold nthV; rw [if_neg h], ?_, ?_, fun h => by unfold rankV; rw [if_neg h], ?_⟩
  · intro k hk hi
    subst hi
    unfold nthV
    rw [if_pos (by rw [e1, if_neg (by omega)]), Int.toNat_natCast, hget k hk]
  · unfold rankE; rw [if_pos hc]; unfold repV; rw [if_pos h0]; rfl
  · intro h
    obtain ⟨_, _, _, h3, h4⟩ := rankE_zero h
    refine ⟨by omega, by rw [hget]; exact h4, fun j hj he => ?_⟩
    rw [hget] at he
    have := (good_gen t hr).back j (by omega) []
    rw [List.append_nil, he] at this
    unfold rankV
    rw [if_pos h, this]
set_option maxHeartbeats 16000000 in
set_option maxRecDepth 100000 in
theorem walk (t : Gn) (A : Option Addr) (c n : Nat) (i : Int) (l : List Int) (L : Option Addr) (lc : Nat) (hbulk : t.size + l.length ≤ 1048576) (w : World) (hg : GAt w (GBel w.heap.size) n (gv t A c) t) (wi : (Lit.int .i64 i).wf = true) (hl : At w w.heap.size L l) (hcap : l.length ≤ lc) (hh : Told.Handle w) :
    Calls Tryd.prog 4 #[gv t A c, .int .i64 i, .slice L l.length lc] w fun e w' => e = .returned (.bool true) ∧ Below w.heap.size w w' := by
  have hb0 : Below w.heap.size w (w.alloc (gc t A c)) := (Below.refl _ _).alloc (Nat.le_refl _) _
  have g0 : G4 w.heap.size (.int .i64 t.kind) (.int .i64 t.a) (.int .i64 t.b) (.slice A t.subs.length c) (w.alloc (gc t A c)) := new_obj w _
  have GF := Lib.hid (fun (W : World) (hb : Below w.heap.size w W) => gen_any n t A c w.heap.size W (hg.below hb) hb.size (by omega))
  have CD := Lib.hid (fun (hr : Right t) (W : World) (hb : Below w.heap.size w W) => count_any n t (gv t A c) w.heap.size W (hg.below hb) hb.size (by omega) hr)
  have TP := Lib.hid (fun (hr : Right t) (h30 : t.size ≤ 30) (hq : longG t ≤ 1399680) (h3 : (tapesG t).length ≤ 3000) (W : World) (hb : Below w.heap.size w W) => tapes_any n t (gv t A c) w.heap.size W (hg.below hb) hb.size h30 hr hq h3)
  have RD := Lib.hid (fun (hr : Right t) (hq : longG t ≤ 1399680) (W : World) (hb : Below w.heap.size w W) => (replayof_any n t A c l L lc w.heap.size W (hg.below hb) hr (by omega) (hl.below hb) hb.size (by omega) (by omega)).mono (fun e w' h => rd_of h))
  have N1 := Lib.hid (fun (W : World) (hb : Below w.heap.size w W) => nth_prog W ((hg.below hb).more hb.size) (Nat.le_refl _) (by omega) i (i64_wf wi))
  have K1 := Lib.hid (fun (W : World) (hb : Below w.heap.size w W) => rank_prog (L := L) (l := l) (lc := lc) W ((hg.below hb).more hb.size) ((hl.below hb).more hb.size) hcap (by omega) (by omega))
  have ET := Lib.hid (fun (f : Int) (W : World) (hb : Below w.heap.size w W) => err_ok f W (hh.below hb))
  have CE := Lib.hid (show countE t = (if genV t = 0 then (if 1048576 < countG t then 4 else 0) else genV t) from rfl)
  have B0 := Lib.hid hb0
  have G0 := Lib.hid g0
  have LN := Lib.hid (show l.length ≤ maxLen by simp only [maxLen]; omega)
  have HLA := Lib.hid (fun (W : World) (hb : Below w.heap.size w W) => show At W W.heap.size L l from (hl.below hb).more hb.size)
  clear hb0 g0 hg hbulk wi hl hcap hh
  go_enter Tryd.func4, Tryd.ntmps4
  go_wp2_with fail
  generalize w.alloc (gc t A c) = W0 at *
  ((with_reducible refine (made_ok _).mono ?_))
  rintro e w1 ⟨rfl, hb1⟩
  have B1 := Lib.hid (below_trans B0.out hb1)
  have G1 := Lib.hid (G0.out.below hb1)
  obtain ⟨k0, k1, k2, k3⟩ := G1.out.facts
  clear hb1
  go_wp2_with fail
  ((with_reducible refine (GF.out w1 B1.out).mono ?_))
  rintro e w2 ⟨rfl, hb2⟩
  have B2 := Lib.hid (below_trans B1.out hb2)
  have G2 := Lib.hid (G1.out.below hb2)
  clear hb2 GF k0 k1 k2 k3
  obtain ⟨k0, k1, k2, k3⟩ := G2.out.facts
  by_cases h0 : genV t = 0
  · obtain ⟨hr, hlg⟩ := gen_right h0
    have h30 := small30 h0
    have hq := small_long hlg
    have CD := Lib.hid (CD.out hr)
    have CC := Lib.hid (count_cap t hr)
    have TA := Lib.hid (show (tapesG t).length = (enG t).cnt by rw [tapes_all t hr]; unfold allOf; simp)
    have TP := Lib.hid (TP.out hr h30 hq)
    have RD := Lib.hid (RD.out hr hq)
    rw [if_pos h0] at CE
    rw [h0]
    go_wp2_with fail
    ((with_reducible refine (CD.out w2 B2.out).mono ?_))
    rintro e w3 ⟨rfl, hb3⟩
    have BX := Lib.hid (below_trans B2.out hb3)
    have GX := Lib.hid (G2.out.below hb3)
    clear hb3 k0 k1 k2 k3 CD
    generalize w3 = wx at *
    obtain ⟨k0, k1, k2, k3⟩ := GX.out.facts
    by_cases hc : 1048576 < countG t
    · have g1 : decide (1048576 < countG t) = true := decide_eq_true hc
      have g2 : decide (3000 < countG t) = true := decide_eq_true (by omega)
      rw [if_pos hc] at CE
      have hne : ¬ countE t = 0 := by rw [CE.out]; decide
      have NB := Lib.hid (fun (W : World) (hb : Below w.heap.size w W) => show Calls Tryd.prog 26 #[gv t A c, .int .i64 i] W fun e w' => ∃ (A' : Option Addr) (c' : Nat), e = .returned (.tuple #[.slice A' 0 c', errOf 4]) ∧ Own w' W.heap.size A' c' [] ∧ Below W.heap.size W w' by
        have := N1.out W hb
        rw [(bad_facts (i := i) (l := l) hne).1, (bad_facts (i := i) (l := l) hne).2.1, CE.out] at this
        exact this)
      have KB := Lib.hid (fun (W : World) (hb : Below w.heap.size w W) => show Calls Tryd.prog 27 #[gv t A c, .slice L l.length lc] W fun e w' => e = .returned (.tuple #[.int .i64 0, errOf 4]) ∧ Below W.heap.size W w' by
        have := K1.out W hb
        rw [(bad_facts (i := i) (l := l) hne).2.2.1, (bad_facts (i := i) (l := l) hne).2.2.2, CE.out] at this
        exact this)
      have EE := Lib.hid (ET.out 4)
      clear hne N1 K1 ET CE h0 hr hlg h30 hq CC TA TP RD

      go_wp2_with fail
      ((with_reducible refine (NB.out wx BX.out).mono ?_))
      rintro e w4 ⟨A4, c4, rfl, ho4, hb4⟩
      have B4 := Lib.hid (below_trans BX.out hb4)
      have G4' := Lib.hid (GX.out.below hb4)
      have O4 := Lib.hid ho4
      clear hb4 ho4 k0 k1 k2 k3
      go_wp2_with fail
      ((with_reducible refine (EE.out w4 B4.out).mono ?_))
      rintro e w5 ⟨rfl, hb5⟩
      have B5 := Lib.hid (below_trans B4.out hb5)
      have G5 := Lib.hid (G4'.out.below hb5)
      clear hb5
      go_wp2_with fail
      ((with_reducible refine (nil_nil A4 none c4 0 w5).mono ?_))
      rintro e w6 ⟨rfl, hb6⟩
      have B6 := Lib.hid (below_trans B5.out hb6)
      have G6 := Lib.hid (G5.out.below hb6)
      clear hb6
      obtain ⟨k0, k1, k2, k3⟩ := G6.out.facts
      go_wp2_with fail
      ((with_reducible refine (KB.out w6 B6.out).mono ?_))
      rintro e w7 ⟨rfl, hb7⟩
      have B7 := Lib.hid (below_trans B6.out hb7)
      clear hb7 k0 k1 k2 k3
      go_wp2_with fail
      ((with_reducible refine (EE.out w7 B7.out).mono ?_))
      rintro e w8 ⟨rfl, hb8⟩
      have B8 := Lib.hid (below_trans B7.out hb8)
      clear hb8
      go_wp2_with fail
      go_ret
      exact ⟨rfl, B8.out⟩

    · have g1 : decide (1048576 < countG t) = false := decide_eq_false hc
      rw [if_neg hc] at CE
      by_cases h3 : 3000 < countG t
      · have g2 : decide (3000 < countG t) = true := decide_eq_true h3
        go_wp2_with fail
        go_ret
        exact ⟨rfl, BX.out⟩
      · have g2 : decide (3000 < countG t) = false := decide_eq_false h3
        have tp := tapes_pos hr
        have EQ : countG t = ((tapesG t).length : Int) := by rw [TA.out]; have := CC.out; omega
        have zl : (tapesG t).length ≤ 3000 := by omega
        obtain ⟨f1, f2, f3, f4, f5, f6⟩ := good_facts (i := i) (l := l) hr h0 CE.out TA.out
        have TC := Lib.hid (TP.out zl wx BX.out)
        have ZL := Lib.hid (tape_len hr hq)
        have EE0 := Lib.hid (ET.out (nthE t i))
        have EE2 := Lib.hid (ET.out (rankE t l))
        have RD := Lib.hid (fun (W : World) (hb : Below w.heap.size w W) => show Calls Tryd.prog 16 #[gv t A c, .slice L l.length lc] W fun e w' => ∃ V, e = .returned (.tuple #[V, .int .i64 (rankE t l)]) ∧ Below W.heap.size W w' from (RD.out W hb).mono fun e w' h => by
          obtain ⟨A', c', _, h1, _, h3⟩ := h
          exact ⟨_, by rw [f4]; exact h1, h3⟩)
        have MLN := Lib.hid (show (nthV t i).length ≤ maxLen by have := nthV_len t i; simp only [maxLen]; omega)
        rw [EQ] at g1 g2 ⊢
        clear hc h3 EQ CE TA CC TP h0 hr hlg h30 hq f4 ET
        generalize tapesG t = z at *
        generalize rankE t l = re at *
        generalize rankV t l = rk at *
        generalize nthV t i = m at *
        generalize nthE t i = fe at *
        generalize errOf fe = ev at *
        generalize errOf re = ev2 at *
        go_wp2_with fail
        ((with_reducible refine TC.out.mono ?_))
        rintro e w4 ⟨TA, tc, rfl, tw, hb4⟩
        have B4 := Lib.hid (below_trans BX.out hb4)
        have G4' := Lib.hid (GX.out.below hb4)
        clear hb4 k0 k1 k2 k3 TC
        obtain ⟨k0, k1, k2, k3⟩ := G4'.out.facts
        obtain ⟨tb, tof, rfl, _, _⟩ := tw.at_ tp
        have RW := Lib.hid (fun (W : World) (hb : Below w4.heap.size w4 W) (k : Nat) (hk : k < z.length) => row_at (tw.below hb).at_ k hk)
        clear tw
        by_cases hi : i < 0 ∨ (z.length : Int) ≤ i
        · rw [if_pos hi] at f1
          subst f1
          have hm := f2 (by decide)
          have WS := Lib.hid (fun (W : World) (hb : Below w4.heap.size w4 W) (A6 : Option Addr) (c6 : Nat) (h6 : At W W.heap.size A6 m) => show Calls Tryd.prog 23 #[.slice A6 m.length c6, .slice none 0 0] W fun e w' => e = .returned (.bool true) ∧ Below W.heap.size W w' by
            subst hm
            exact nil_nil A6 none c6 0 W)
          clear f2 f3 hm
          have EE := Lib.hid EE0.out
          clear EE0
          by_cases h0i : i < 0
          · have g3 : decide (i < 0) = true := decide_eq_true h0i
            clear hi
            go_wp2_with fail
            ((with_reducible refine (RD.out w4 B4.out).mono ?_))
            rintro e w5 ⟨V, rfl, hb5⟩
            have BY := Lib.hid (below_trans B4.out hb5)
            have GY := Lib.hid (G4'.out.below hb5)
            have Y4 := Lib.hid hb5
            clear hb5 k0 k1 k2 k3
            obtain ⟨k0, k1, k2, k3⟩ := GY.out.facts
            by_cases hh : re = 0
            · obtain ⟨hk, hz, hu⟩ := f6 hh
              have HU := Lib.hid hu
              subst hh
              clear f5 f6 hu
              go_wp2_with fail
              go_loopw [14] (fun v wr => ∃ j : Nat, v = .int .i64 j ∧ j ≤ rk ∧ Hid (Below w5.heap.size w5 wr)) (fun v _ => rk - (intOf v).toNat)
              case atStart => exact ⟨0, rfl, Nat.zero_le _, Below.refl _ _⟩
              case round =>
                obtain ⟨j, rfl, hj, hb⟩ := hrel
                have hjz : j < z.length := by omega
                have Y5 := Lib.hid (below_trans Y4.out hb.out)
                have BW := Lib.hid (below_trans BY.out hb.out)
                have GW := Lib.hid (GY.out.below hb.out)
                obtain ⟨E, e', cE, hE⟩ := RW.out wr Y5.out j hjz
                have SJ := same_below (z[j]'hjz) l E L e' lc wr.heap.size (by have := ZL.out _ (List.getElem_mem hjz); simp only [maxLen]; omega) LN.out wr hE (HLA.out wr BW.out)
                by_cases hlt : j < rk
                · have hn : z[j]'hjz ≠ l := fun e => by have := HU.out j hjz e; omega
                  rw [decide_eq_false hn] at SJ
                  have SJ := Lib.hid SJ
                  clear hn hE
                  generalize z[j]'hjz = zj at *
                  go_wp2_with fail
                  ((with_reducible refine SJ.out.mono ?_))
                  rintro e wn ⟨rfl, hbn⟩
                  have BN := Lib.hid (below_trans hb.out hbn)
                  clear hbn
                  go_wp2_with fail
                  go_roundw
                  case rel => exact ⟨j + 1, by go_num, by omega, BN.out⟩
                  case measure => simp [intOf]; omega
                · have ej : j = rk := by omega
                  subst ej
                  rw [decide_eq_true hz] at SJ
                  have SJ := Lib.hid SJ
                  clear hE hz HU
                  generalize z[j]'hjz = zj at *
                  go_wp2_with fail
                  ((with_reducible refine SJ.out.mono ?_))
                  rintro e wy ⟨rfl, hbn⟩
                  have BY := Lib.hid (below_trans BW.out hbn)
                  have GY := Lib.hid (GW.out.below hbn)
                  have Y4 := Lib.hid (below_trans Y5.out hbn)
                  clear hbn k0 k1 k2 k3
                  obtain ⟨k0, k1, k2, k3⟩ := GY.out.facts
                  go_wp2_with fail
                  ((with_reducible refine (N1.out wy BY.out).mono ?_))
                  rintro e w6 ⟨A6, c6, rfl, ho6, hb6⟩
                  have B6 := Lib.hid (below_trans BY.out hb6)
                  have G6 := Lib.hid (GY.out.below hb6)
                  have Y6 := Lib.hid (below_trans Y4.out hb6)
                  have O6 := Lib.hid ho6
                  clear hb6 ho6 k0 k1 k2 k3
                  go_wp2_with fail
                  ((with_reducible refine (EE.out w6 B6.out).mono ?_))
                  rintro e w7 ⟨rfl, hb7⟩
                  have B7 := Lib.hid (below_trans B6.out hb7)
                  have G7 := Lib.hid (G6.out.below hb7)
                  have Y7 := Lib.hid (below_trans Y6.out hb7)
                  have O7 := Lib.hid (O6.out.below hb7)
                  clear hb7
                  go_wp2_with fail
                  ((with_reducible refine (WS.out w7 Y7.out A6 c6 O7.out.at_).mono ?_))
                  rintro e w8 ⟨rfl, hb8⟩
                  have B8 := Lib.hid (below_trans B7.out hb8)
                  have G8 := Lib.hid (G7.out.below hb8)
                  clear hb8
                  obtain ⟨k0, k1, k2, k3⟩ := G8.out.facts
                  go_wp2_with fail
                  ((with_reducible refine (K1.out w8 B8.out).mono ?_))
                  rintro e w9 ⟨rfl, hb9⟩
                  have B9 := Lib.hid (below_trans B8.out hb9)
                  clear hb9 k0 k1 k2 k3
                  go_wp2_with fail
                  ((with_reducible refine (EE2.out w9 B9.out).mono ?_))
                  rintro e wa ⟨rfl, hba⟩
                  have BA := Lib.hid (below_trans B9.out hba)
                  clear hba
                  go_wp2_with fail
                  all_goals (go_ret; exact ⟨rfl, BA.out⟩)
            · have g5 : (re == 0) = false := beq_eq_false_iff_ne.2 hh
              obtain rfl := f5 hh
              clear f5 f6 hh
              have wyE : w5 = w5 := rfl
              generalize w5 = wy at *
              go_wp2_with fail
              ((with_reducible refine (N1.out wy BY.out).mono ?_))
              rintro e w6 ⟨A6, c6, rfl, ho6, hb6⟩
              have B6 := Lib.hid (below_trans BY.out hb6)
              have G6 := Lib.hid (GY.out.below hb6)
              have Y6 := Lib.hid (below_trans Y4.out hb6)
              have O6 := Lib.hid ho6
              clear hb6 ho6 k0 k1 k2 k3
              go_wp2_with fail
              ((with_reducible refine (EE.out w6 B6.out).mono ?_))
              rintro e w7 ⟨rfl, hb7⟩
              have B7 := Lib.hid (below_trans B6.out hb7)
              have G7 := Lib.hid (G6.out.below hb7)
              have Y7 := Lib.hid (below_trans Y6.out hb7)
              have O7 := Lib.hid (O6.out.below hb7)
              clear hb7
              go_wp2_with fail
              ((with_reducible refine (WS.out w7 Y7.out A6 c6 O7.out.at_).mono ?_))
              rintro e w8 ⟨rfl, hb8⟩
              have B8 := Lib.hid (below_trans B7.out hb8)
              have G8 := Lib.hid (G7.out.below hb8)
              clear hb8
              obtain ⟨k0, k1, k2, k3⟩ := G8.out.facts
              go_wp2_with fail
              ((with_reducible refine (K1.out w8 B8.out).mono ?_))
              rintro e w9 ⟨rfl, hb9⟩
              have B9 := Lib.hid (below_trans B8.out hb9)
              clear hb9 k0 k1 k2 k3
              go_wp2_with fail
              ((with_reducible refine (EE2.out w9 B9.out).mono ?_))
              rintro e wa ⟨rfl, hba⟩
              have BA := Lib.hid (below_trans B9.out hba)
              clear hba
              go_wp2_with fail
              all_goals (go_ret; exact ⟨rfl, BA.out⟩)
          · have g3 : decide (i < 0) = false := decide_eq_false h0i
            have g4 : decide ((z.length : Int) ≤ i) = true := decide_eq_true (by omega)
            clear hi
            go_wp2_with fail
            ((with_reducible refine (RD.out w4 B4.out).mono ?_))
            rintro e w5 ⟨V, rfl, hb5⟩
            have BY := Lib.hid (below_trans B4.out hb5)
            have GY := Lib.hid (G4'.out.below hb5)
            have Y4 := Lib.hid hb5
            clear hb5 k0 k1 k2 k3
            obtain ⟨k0, k1, k2, k3⟩ := GY.out.facts
            by_cases hh : re = 0
            · obtain ⟨hk, hz, hu⟩ := f6 hh
              have HU := Lib.hid hu
              subst hh
              clear f5 f6 hu
              go_wp2_with fail
              go_loopw [14] (fun v wr => ∃ j : Nat, v = .int .i64 j ∧ j ≤ rk ∧ Hid (Below w5.heap.size w5 wr)) (fun v _ => rk - (intOf v).toNat)
              case atStart => exact ⟨0, rfl, Nat.zero_le _, Below.refl _ _⟩
              case round =>
                obtain ⟨j, rfl, hj, hb⟩ := hrel
                have hjz : j < z.length := by omega
                have Y5 := Lib.hid (below_trans Y4.out hb.out)
                have BW := Lib.hid (below_trans BY.out hb.out)
                have GW := Lib.hid (GY.out.below hb.out)
                obtain ⟨E, e', cE, hE⟩ := RW.out wr Y5.out j hjz
                have SJ := same_below (z[j]'hjz) l E L e' lc wr.heap.size (by have := ZL.out _ (List.getElem_mem hjz); simp only [maxLen]; omega) LN.out wr hE (HLA.out wr BW.out)
                by_cases hlt : j < rk
                · have hn : z[j]'hjz ≠ l := fun e => by have := HU.out j hjz e; omega
                  rw [decide_eq_false hn] at SJ
                  have SJ := Lib.hid SJ
                  clear hn hE
                  generalize z[j]'hjz = zj at *
                  go_wp2_with fail
                  ((with_reducible refine SJ.out.mono ?_))
                  rintro e wn ⟨rfl, hbn⟩
                  have BN := Lib.hid (below_trans hb.out hbn)
                  clear hbn
                  go_wp2_with fail
                  go_roundw
                  case rel => exact ⟨j + 1, by go_num, by omega, BN.out⟩
                  case measure => simp [intOf]; omega
                · have ej : j = rk := by omega
                  subst ej
                  rw [decide_eq_true hz] at SJ
                  have SJ := Lib.hid SJ
                  clear hE hz HU
                  generalize z[j]'hjz = zj at *
                  go_wp2_with fail
                  ((with_reducible refine SJ.out.mono ?_))
                  rintro e wy ⟨rfl, hbn⟩
                  have BY := Lib.hid (below_trans BW.out hbn)
                  have GY := Lib.hid (GW.out.below hbn)
                  have Y4 := Lib.hid (below_trans Y5.out hbn)
                  clear hbn k0 k1 k2 k3
                  obtain ⟨k0, k1, k2, k3⟩ := GY.out.facts
                  go_wp2_with fail
                  ((with_reducible refine (N1.out wy BY.out).mono ?_))
                  rintro e w6 ⟨A6, c6, rfl, ho6, hb6⟩
                  have B6 := Lib.hid (below_trans BY.out hb6)
                  have G6 := Lib.hid (GY.out.below hb6)
                  have Y6 := Lib.hid (below_trans Y4.out hb6)
                  have O6 := Lib.hid ho6
                  clear hb6 ho6 k0 k1 k2 k3
                  go_wp2_with fail
                  ((with_reducible refine (EE.out w6 B6.out).mono ?_))
                  rintro e w7 ⟨rfl, hb7⟩
                  have B7 := Lib.hid (below_trans B6.out hb7)
                  have G7 := Lib.hid (G6.out.below hb7)
                  have Y7 := Lib.hid (below_trans Y6.out hb7)
                  have O7 := Lib.hid (O6.out.below hb7)
                  clear hb7
                  go_wp2_with fail
                  ((with_reducible refine (WS.out w7 Y7.out A6 c6 O7.out.at_).mono ?_))
                  rintro e w8 ⟨rfl, hb8⟩
                  have B8 := Lib.hid (below_trans B7.out hb8)
                  have G8 := Lib.hid (G7.out.below hb8)
                  clear hb8
                  obtain ⟨k0, k1, k2, k3⟩ := G8.out.facts
                  go_wp2_with fail
                  ((with_reducible refine (K1.out w8 B8.out).mono ?_))
                  rintro e w9 ⟨rfl, hb9⟩
                  have B9 := Lib.hid (below_trans B8.out hb9)
                  clear hb9 k0 k1 k2 k3
                  go_wp2_with fail
                  ((with_reducible refine (EE2.out w9 B9.out).mono ?_))
                  rintro e wa ⟨rfl, hba⟩
                  have BA := Lib.hid (below_trans B9.out hba)
                  clear hba
                  go_wp2_with fail
                  all_goals (go_ret; exact ⟨rfl, BA.out⟩)
            · have g5 : (re == 0) = false := beq_eq_false_iff_ne.2 hh
              obtain rfl := f5 hh
              clear f5 f6 hh
              have wyE : w5 = w5 := rfl
              generalize w5 = wy at *
              go_wp2_with fail
              ((with_reducible refine (N1.out wy BY.out).mono ?_))
              rintro e w6 ⟨A6, c6, rfl, ho6, hb6⟩
              have B6 := Lib.hid (below_trans BY.out hb6)
              have G6 := Lib.hid (GY.out.below hb6)
              have Y6 := Lib.hid (below_trans Y4.out hb6)
              have O6 := Lib.hid ho6
              clear hb6 ho6 k0 k1 k2 k3
              go_wp2_with fail
              ((with_reducible refine (EE.out w6 B6.out).mono ?_))
              rintro e w7 ⟨rfl, hb7⟩
              have B7 := Lib.hid (below_trans B6.out hb7)
              have G7 := Lib.hid (G6.out.below hb7)
              have Y7 := Lib.hid (below_trans Y6.out hb7)
              have O7 := Lib.hid (O6.out.below hb7)
              clear hb7
              go_wp2_with fail
              ((with_reducible refine (WS.out w7 Y7.out A6 c6 O7.out.at_).mono ?_))
              rintro e w8 ⟨rfl, hb8⟩
              have B8 := Lib.hid (below_trans B7.out hb8)
              have G8 := Lib.hid (G7.out.below hb8)
              clear hb8
              obtain ⟨k0, k1, k2, k3⟩ := G8.out.facts
              go_wp2_with fail
              ((with_reducible refine (K1.out w8 B8.out).mono ?_))
              rintro e w9 ⟨rfl, hb9⟩
              have B9 := Lib.hid (below_trans B8.out hb9)
              clear hb9 k0 k1 k2 k3
              go_wp2_with fail
              ((with_reducible refine (EE2.out w9 B9.out).mono ?_))
              rintro e wa ⟨rfl, hba⟩
              have BA := Lib.hid (below_trans B9.out hba)
              clear hba
              go_wp2_with fail
              all_goals (go_ret; exact ⟨rfl, BA.out⟩)
        · rw [if_neg hi] at f1
          subst f1
          obtain ⟨k, rfl⟩ := Int.eq_ofNat_of_zero_le (show 0 ≤ i by omega)
          have hk : k < z.length := by omega
          have hm := f3 k hk rfl
          have g3 : decide ((k : Int) < 0) = false := decide_eq_false (by omega)
          have g4 : decide ((z.length : Int) ≤ (k : Int)) = false := decide_eq_false (by omega)
          obtain ⟨D, d, cD, hD⟩ := RW.out w4 (Below.refl _ _) k hk
          rw [← hm] at cD hD
          have WS := Lib.hid (fun (W : World) (hb : Below w4.heap.size w4 W) (A6 : Option Addr) (c6 : Nat) (h6 : At W W.heap.size A6 m) => show Calls Tryd.prog 23 #[.slice A6 m.length c6, .slice D m.length d] W fun e w' => e = .returned (.bool true) ∧ Below W.heap.size W w' by
            have := same_below m m A6 D c6 d W.heap.size MLN.out MLN.out W h6 ((hD.below hb).more hb.size)
            rw [decide_eq_true (rfl : m = m)] at this
            exact this)
          have EE := Lib.hid EE0.out
          clear f2 f3 hm hi hD EE0
          go_wp2_with fail
          ((with_reducible refine (RD.out w4 B4.out).mono ?_))
          rintro e w5 ⟨V, rfl, hb5⟩
          have BY := Lib.hid (below_trans B4.out hb5)
          have GY := Lib.hid (G4'.out.below hb5)
          have Y4 := Lib.hid hb5
          clear hb5 k0 k1 k2 k3
          obtain ⟨k0, k1, k2, k3⟩ := GY.out.facts
          by_cases hh : re = 0
          · obtain ⟨hk, hz, hu⟩ := f6 hh
            have HU := Lib.hid hu
            subst hh
            clear f5 f6 hu
            go_wp2_with fail
            go_loopw [14] (fun v wr => ∃ j : Nat, v = .int .i64 j ∧ j ≤ rk ∧ Hid (Below w5.heap.size w5 wr)) (fun v _ => rk - (intOf v).toNat)
            case atStart => exact ⟨0, rfl, Nat.zero_le _, Below.refl _ _⟩
            case round =>
              obtain ⟨j, rfl, hj, hb⟩ := hrel
              have hjz : j < z.length := by omega
              have Y5 := Lib.hid (below_trans Y4.out hb.out)
              have BW := Lib.hid (below_trans BY.out hb.out)
              have GW := Lib.hid (GY.out.below hb.out)
              obtain ⟨E, e', cE, hE⟩ := RW.out wr Y5.out j hjz
              have SJ := same_below (z[j]'hjz) l E L e' lc wr.heap.size (by have := ZL.out _ (List.getElem_mem hjz); simp only [maxLen]; omega) LN.out wr hE (HLA.out wr BW.out)
              by_cases hlt : j < rk
              · have hn : z[j]'hjz ≠ l := fun e => by have := HU.out j hjz e; omega
                rw [decide_eq_false hn] at SJ
                have SJ := Lib.hid SJ
                clear hn hE
                generalize z[j]'hjz = zj at *
                go_wp2_with fail
                ((with_reducible refine SJ.out.mono ?_))
                rintro e wn ⟨rfl, hbn⟩
                have BN := Lib.hid (below_trans hb.out hbn)
                clear hbn
                go_wp2_with fail
                go_roundw
                case rel => exact ⟨j + 1, by go_num, by omega, BN.out⟩
                case measure => simp [intOf]; omega
              · have ej : j = rk := by omega
                subst ej
                rw [decide_eq_true hz] at SJ
                have SJ := Lib.hid SJ
                clear hE hz HU
                generalize z[j]'hjz = zj at *
                go_wp2_with fail
                ((with_reducible refine SJ.out.mono ?_))
                rintro e wy ⟨rfl, hbn⟩
                have BY := Lib.hid (below_trans BW.out hbn)
                have GY := Lib.hid (GW.out.below hbn)
                have Y4 := Lib.hid (below_trans Y5.out hbn)
                clear hbn k0 k1 k2 k3
                obtain ⟨k0, k1, k2, k3⟩ := GY.out.facts
                go_wp2_with fail
                ((with_reducible refine (N1.out wy BY.out).mono ?_))
                rintro e w6 ⟨A6, c6, rfl, ho6, hb6⟩
                have B6 := Lib.hid (below_trans BY.out hb6)
                have G6 := Lib.hid (GY.out.below hb6)
                have Y6 := Lib.hid (below_trans Y4.out hb6)
                have O6 := Lib.hid ho6
                clear hb6 ho6 k0 k1 k2 k3
                go_wp2_with fail
                ((with_reducible refine (EE.out w6 B6.out).mono ?_))
                rintro e w7 ⟨rfl, hb7⟩
                have B7 := Lib.hid (below_trans B6.out hb7)
                have G7 := Lib.hid (G6.out.below hb7)
                have Y7 := Lib.hid (below_trans Y6.out hb7)
                have O7 := Lib.hid (O6.out.below hb7)
                clear hb7
                go_wp2_with fail
                ((with_reducible refine (WS.out w7 Y7.out A6 c6 O7.out.at_).mono ?_))
                rintro e w8 ⟨rfl, hb8⟩
                have B8 := Lib.hid (below_trans B7.out hb8)
                have G8 := Lib.hid (G7.out.below hb8)
                clear hb8
                obtain ⟨k0, k1, k2, k3⟩ := G8.out.facts
                go_wp2_with fail
                ((with_reducible refine (K1.out w8 B8.out).mono ?_))
                rintro e w9 ⟨rfl, hb9⟩
                have B9 := Lib.hid (below_trans B8.out hb9)
                clear hb9 k0 k1 k2 k3
                go_wp2_with fail
                ((with_reducible refine (EE2.out w9 B9.out).mono ?_))
                rintro e wa ⟨rfl, hba⟩
                have BA := Lib.hid (below_trans B9.out hba)
                clear hba
                go_wp2_with fail
                all_goals (go_ret; exact ⟨rfl, BA.out⟩)
          · have g5 : (re == 0) = false := beq_eq_false_iff_ne.2 hh
            obtain rfl := f5 hh
            clear f5 f6 hh
            have wyE : w5 = w5 := rfl
            generalize w5 = wy at *
            go_wp2_with fail
            ((with_reducible refine (N1.out wy BY.out).mono ?_))
            rintro e w6 ⟨A6, c6, rfl, ho6, hb6⟩
            have B6 := Lib.hid (below_trans BY.out hb6)
            have G6 := Lib.hid (GY.out.below hb6)
            have Y6 := Lib.hid (below_trans Y4.out hb6)
            have O6 := Lib.hid ho6
            clear hb6 ho6 k0 k1 k2 k3
            go_wp2_with fail
            ((with_reducible refine (EE.out w6 B6.out).mono ?_))
            rintro e w7 ⟨rfl, hb7⟩
            have B7 := Lib.hid (below_trans B6.out hb7)
            have G7 := Lib.hid (G6.out.below hb7)
            have Y7 := Lib.hid (below_trans Y6.out hb7)
            have O7 := Lib.hid (O6.out.below hb7)
            clear hb7
            go_wp2_with fail
            ((with_reducible refine (WS.out w7 Y7.out A6 c6 O7.out.at_).mono ?_))
            rintro e w8 ⟨rfl, hb8⟩
            have B8 := Lib.hid (below_trans B7.out hb8)
            have G8 := Lib.hid (G7.out.below hb8)
            clear hb8
            obtain ⟨k0, k1, k2, k3⟩ := G8.out.facts
            go_wp2_with fail
            ((with_reducible refine (K1.out w8 B8.out).mono ?_))
            rintro e w9 ⟨rfl, hb9⟩
            have B9 := Lib.hid (below_trans B8.out hb9)
            clear hb9 k0 k1 k2 k3
            go_wp2_with fail
            ((with_reducible refine (EE2.out w9 B9.out).mono ?_))
            rintro e wa ⟨rfl, hba⟩
            have BA := Lib.hid (below_trans B9.out hba)
            clear hba
            go_wp2_with fail
            all_goals (go_ret; exact ⟨rfl, BA.out⟩)
  · rw [if_neg h0] at CE
    have g1 : (genV t == 0) = false := beq_eq_false_iff_ne.2 h0
    have hne : ¬ countE t = 0 := by rw [CE.out]; exact h0
    have NB := Lib.hid (fun (W : World) (hb : Below w.heap.size w W) => show Calls Tryd.prog 26 #[gv t A c, .int .i64 i] W fun e w' => ∃ (A' : Option Addr) (c' : Nat), e = .returned (.tuple #[.slice A' 0 c', errOf (genV t)]) ∧ Own w' W.heap.size A' c' [] ∧ Below W.heap.size W w' by
      have := N1.out W hb
      rw [(bad_facts (i := i) (l := l) hne).1, (bad_facts (i := i) (l := l) hne).2.1, CE.out] at this
      exact this)
    have KB := Lib.hid (fun (W : World) (hb : Below w.heap.size w W) => show Calls Tryd.prog 27 #[gv t A c, .slice L l.length lc] W fun e w' => e = .returned (.tuple #[.int .i64 0, errOf (genV t)]) ∧ Below W.heap.size W w' by
      have := K1.out W hb
      rw [(bad_facts (i := i) (l := l) hne).2.2.1, (bad_facts (i := i) (l := l) hne).2.2.2, CE.out] at this
      exact this)
    have EE := Lib.hid (ET.out (genV t))
    have BX := Lib.hid B2.out
    have GX := Lib.hid G2.out
    clear hne N1 K1 ET CE CD TP RD h0 B1 G1 B2 G2
    generalize w2 = wx at *
    generalize genV t = q at *

    go_wp2_with fail
    ((with_reducible refine (NB.out wx BX.out).mono ?_))
    rintro e w4 ⟨A4, c4, rfl, ho4, hb4⟩
    have B4 := Lib.hid (below_trans BX.out hb4)
    have G4' := Lib.hid (GX.out.below hb4)
    have O4 := Lib.hid ho4
    clear hb4 ho4 k0 k1 k2 k3
    go_wp2_with fail
    ((with_reducible refine (EE.out w4 B4.out).mono ?_))
    rintro e w5 ⟨rfl, hb5⟩
    have B5 := Lib.hid (below_trans B4.out hb5)
    have G5 := Lib.hid (G4'.out.below hb5)
    clear hb5
    go_wp2_with fail
    ((with_reducible refine (nil_nil A4 none c4 0 w5).mono ?_))
    rintro e w6 ⟨rfl, hb6⟩
    have B6 := Lib.hid (below_trans B5.out hb6)
    have G6 := Lib.hid (G5.out.below hb6)
    clear hb6
    obtain ⟨k0, k1, k2, k3⟩ := G6.out.facts
    go_wp2_with fail
    ((with_reducible refine (KB.out w6 B6.out).mono ?_))
    rintro e w7 ⟨rfl, hb7⟩
    have B7 := Lib.hid (below_trans B6.out hb7)
    clear hb7 k0 k1 k2 k3
    go_wp2_with fail
    ((with_reducible refine (EE.out w7 B7.out).mono ?_))
    rintro e w8 ⟨rfl, hb8⟩
    have B8 := Lib.hid (below_trans B7.out hb8)
    clear hb8
    go_wp2_with fail
    all_goals (go_ret; exact ⟨rfl, B8.out⟩)

end Go.Proofs.YtffkppjmdelajaaDoor.RankTellsLaw

namespace Go.Proofs.YtffkppjmdelajaaDoor.RankTellsLaw
open Go.ChangeShapes Go.WideShapes Go.ChangeAt Go.RowKit Lists Ints Vals Gens Rng
set_option linter.unusedVariables false
theorem own : ownKnob Tryd.prog.godebug = none := by kernel_rfl
theorem laidOut : laidOutB Tryd.prog = true := by kernel_rfl
noncomputable def laidWorld (os : Os) : World :=
  let w0 := World.holding Tryd.prog os ⟨#[], #[], []⟩
  { w0 with heap := (w0.heap.modify 1 fun | .cells _ t frozen => .cells #[.iface 140 (.agg #[.pointer (some ⟨2, 34, none⟩)])] t frozen | o => o) }
set_option maxRecDepth 100000 in
theorem laidWorld_met (os : Os) : laidMetH Tryd.prog Rows.rankTellsUptoRow.laid ((laidWorld os).forCall (fun _ _ => 0) ⟨#[], #[.agg #[.int .i64 0, .int .i64 0, .int .i64 0, .slice none 0 0], .int .i64 0, .slice none 0 0], []⟩).memory :=
  laidMetH_of_parts (laidMet_of_run3 8 (by kernel_rfl) (by kernel_rfl) (by kernel_rfl)) (by kernel_rfl)
theorem reads (os : Os) {H : Type} (enc : TypeId × Value → H) : ∃ places, DataW.whole enc Tryd.prog ((laidWorld os).forCall (fun _ _ => 0) ⟨#[], #[.agg #[.int .i64 0, .int .i64 0, .int .i64 0, .slice none 0 0], .int .i64 0, .slice none 0 0], []⟩).memory Tryd.f4.params.toList Rows.rankTellsSpec.vars false #[.agg #[.int .i64 0, .int .i64 0, .int .i64 0, .slice none 0 0], .int .i64 0, .slice none 0 0].toList 8 = some ([.agg [.lit (.int .i64 0), .lit (.int .i64 0), .lit (.int .i64 0), .nil], .lit (.int .i64 0), .nil], [], places) :=
  ⟨[], by kernel_rfl⟩
theorem data_of {W : World} (h : laidMetH Tryd.prog Rows.rankTellsUptoRow.laid W) : laidMet Tryd.prog [] W := by
  have h' : laidMet Tryd.prog [] W ∧ handlesMet Tryd.prog [("errors.errorType", Rows.laid_errors_errorType)] W := h
  exact h'.1
theorem handle_of {W : World} (h : laidMetH Tryd.prog Rows.rankTellsUptoRow.laid W) : Told.Handle W := by
  have h' : laidMet Tryd.prog [] W ∧ handlesMet Tryd.prog [("errors.errorType", Rows.laid_errors_errorType)] W := h
  exact Told.handle_of_met h'.2

set_option maxRecDepth 100000 in
theorem lifted (os : Os) (started : os.Started) (H : Type) (enc : TypeId × Value → H) (F : Stop.Interp) :
    ReturnsInHanded {} Tryd.checked os 4 .any ((Rows.OpenSpec.upto Rows.rankTellsSpec).preRow enc Tryd.prog Tryd.f4 Rows.rankTellsUptoRow.domain false Rows.rankTellsUptoRow.laid) (((Rows.OpenSpec.upto Rows.rankTellsSpec).at F).post enc Tryd.prog Tryd.f4 false true false false) := by
  obtain ⟨places, hx⟩ := reads os enc
  refine returnsInHanded_of_row (C := Tryd.checked) (s := Rows.OpenSpec.upto Rows.rankTellsSpec) own started (by kernel_rfl) Tryd.func4
    (witness_row_at (enc := enc) (C := Tryd.checked) false (laidWorld os) #[.agg #[.int .i64 0, .int .i64 0, .int .i64 0, .slice none 0 0], .int .i64 0, .slice none 0 0] rfl (by kernel_rfl) (by kernel_rfl) (by kernel_rfl)
      (OpenSpec.preRow_of_cond 8 hx (by kernel_rfl) (fun k hk => by cases hk; kernel_rfl) (by kernel_rfl) (laidWorld_met os))) ?_
  intro W base args ds gs before hval0 hW _ hcond _ hL hShaped _
  have hk : Rows.uptoSmall H (ds ++ gs) = true := hcond _ rfl
  have hval : ∀ (j : Nat) t v, Tryd.f4.params[j]? = some t → args[j]? = some v → Value.okWide Tryd.prog W .any base t v := hval0
  have hW' := hW
  obtain ⟨p, q, hA0, hV, rfl, hfz, hnd⟩ := hW
  have hA : DataW.TrodAll enc Tryd.prog W 0 (fun _ => true) true Tryd.f4.params.toList args.toList ds p := hA0
  rw [Tryd.params4] at hA hval
  have hHandle := handle_of hL
  obtain ⟨v0, vs0, d0, ds0, p0, q0, hargs, rfl, rfl, h0, r0⟩ := trodAll_cons hA
  obtain ⟨v1, vs1, d1, ds1, p1, q1, rfl, rfl, rfl, h1, r1⟩ := trodAll_cons r0
  obtain ⟨v2, vs2, d2, ds2, p2, q2, rfl, rfl, rfl, h2, r2⟩ := trodAll_cons r1
  obtain ⟨rfl, rfl, rfl⟩ := trodAll_nil r2
  obtain rfl : args = #[v0, v1, v2] := by cases args; simp_all
  have k0 := h0
  have lt0 : ∀ x ∈ p0, x.block < W.heap.size := by obtain ⟨m, hm⟩ := k0; exact DataW.trod_lt m _ _ _ hm
  obtain ⟨t0, n0, at0, b0⟩ := open_gen (hval 0 24 v0 rfl rfl) h0
  obtain ⟨m0, A0, c0, _, _, rfl, _⟩ := at0.open_
  obtain ⟨a1, rfl, rfl, rfl, w1⟩ := open_int Tryd.underlying3 (hval 1 3 v1 rfl rfl) h1
  have k2 := h2
  have lt2 : ∀ x ∈ p2, x.block < W.heap.size := by obtain ⟨m, hm⟩ := k2; exact DataW.trod_lt m _ _ _ hm
  obtain ⟨A2, l2, c2, rfl, at2, n2, wf2, cp2⟩ := open_list (hval 2 25 v2 rfl rfl) h2
  obtain ⟨rfl, rfl⟩ := trodVars_none hV
  have hk2 := hk
  clear hA0 hval0
  have hk3 : Rows.uptoBulkAll [_, _, _] ≤ 1048576 := of_decide_eq_true hk2
  simp only [Rows.uptoBulkAll] at hk3
  refine (walk t0 A0 c0 n0 a1 l2 A2 c2 (by clear hk hk2; omega) W at0 w1 at2 cp2  hHandle).mono fun e W' ⟨he, bel⟩ => ?_
  subst he
  exact ⟨_, rfl, _, _, _, [], _, [], hW', trodAll_mk1 (shut_bool Tryd.underlying4 _), (trodAll_cons_mk (Below.trod laidOut (by kernel_rfl) (of_decide_eq_true (by kernel_rfl)) k0 bel lt0) (trodAll_cons_mk (shut_int Tryd.underlying3 w1) (trodAll_cons_mk (Below.trod laidOut (by kernel_rfl) (of_decide_eq_true (by kernel_rfl)) k2 bel lt2) trodAll_mk0))), rfl, bel.frame _, fun h => by cases h⟩

theorem row_holds : Rows.RankTellsUptoSaid :=
  OpenClaim.holds_of_cond 4 Tryd.f4 rfl rfl rfl rfl rfl rfl rfl ⟨rfl, rfl, rfl, rfl, rfl⟩ rfl rfl rfl rfl rfl (by kernel_rfl) Tryd.func4 (by kernel_rfl)
    (of_decide_eq_true (by kernel_rfl)) (by unfold Func.isWrapper; first | (rw [if_pos (by decide +kernel)]; kernel_rfl) | (rw [if_neg (by decide +kernel)]; exact ⟨rfl, rfl⟩))
    (fun os started H enc _ F => by rw [OpenClaim.pre_eq_preRow]; exact lifted os started H enc F)

theorem plain (f : FuncId) (fn : Func) (hf : Tryd.pinned.checked.prog.funcNamed "assayer/assayerlaw1.RankTells" = some f) (hfn : Tryd.pinned.checked.prog.funcs[f]? = some fn) :
    true = Tryd.pinned.checked.prog.looks [] ∧ ∀ (j : Nat) t, fn.params[j]? = some t → Tryd.pinned.checked.prog.wantsStandIn t = false := by
  obtain rfl : f = 4 := Option.some.inj ((show Tryd.prog.funcNamed "assayer/assayerlaw1.RankTells" = some 4 by kernel_rfl).symm.trans hf) |>.symm
  obtain rfl : fn = Tryd.f4 := (Option.some.inj (Tryd.func4.symm.trans hfn)).symm
  refine ⟨by kernel_rfl, fun j t ht => ?_⟩
  rw [Tryd.params4] at ht
  have hm := Array.mem_of_getElem? ht
  have h3 : t = 24 ∨ t = 3 ∨ t = 25 := by first | (simpa using hm) | (simp at hm; rcases hm with h | h | h <;> simp [h])
  rcases h3 with rfl | rfl | rfl
  · exact (show Tryd.prog.wantsStandIn 24 = false by kernel_rfl)
  · exact (show Tryd.prog.wantsStandIn 3 = false by kernel_rfl)
  · exact (show Tryd.prog.wantsStandIn 25 = false by kernel_rfl)

/-- The statement: the card of the second form. -/
theorem proved : Rows.RankTellsUptoCardSaid :=
  Claim7.holds_tied_plain_at .later [] _ _ _ _ row_holds (fun _ h => by cases h) (by kernel_rfl) (fun _ h => by cases h) rankTellsUpto_row_tie rfl ⟨rfl, rfl⟩ (by kernel_rfl) rfl plain (by kernel_rfl)
#print axioms proved
end Go.Proofs.YtffkppjmdelajaaDoor.RankTellsLaw
