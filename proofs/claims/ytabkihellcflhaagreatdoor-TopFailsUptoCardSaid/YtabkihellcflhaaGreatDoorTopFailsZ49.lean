/- TopFails, part 49 of the proof: What Nth tells: the mathematics. · The program's Rank. Conditions: the sizes. · A generator without parts, in memory. -/
import Derived.Test.YtabkihellcflhaaGreatDoorTopFailsZ47
import Derived.Test.YtabkihellcflhaaGreatDoorTopFailsZ48
import Derived.Test.YtabkihellcflhaaGreatDoorTopFailsZ31
import Derived.Test.YtabkihellcflhaaGreatDoorTopFailsZ2
/- What Nth tells: the mathematics. -/
namespace Go.Proofs.YtabkihellcflhaaGreatDoor.Gens
open Go.RowKit Lists Ints Vals
set_option linter.unusedVariables false

/-- what Nth tells -/
def nthE (t : Gn) (i : Int) : Int := if countE t = 0 then (if i < 0 ∨ ((enG t).cnt : Int) ≤ i then 1 else 0) else countE t
def nthV (t : Gn) (i : Int) : List Int := if nthE t i = 0 then (enG t).nth i.toNat else []
theorem count_fine {t : Gn} (h : countE t = 0) : Fine t ∧ (enG t).cnt ≤ 1048576 ∧ countN t = (enG t).cnt := by
  unfold countE at h
  by_cases hz : genV t = 0
  · rw [if_pos hz] at h
    have hf := fine_of hz
    have hc := count_cap t hf.1
    by_cases hq : 1048576 < countG t
    · rw [if_pos hq] at h; cases h
    · refine ⟨hf, by omega, ?_⟩
      unfold countN
      rw [if_pos hz, if_neg hq]; omega
  · rw [if_neg hz] at h; exact absurd h hz
theorem nthE_zero {t : Gn} {i : Int} (h : nthE t i = 0) : Fine t ∧ (enG t).cnt ≤ 1048576 ∧ 0 ≤ i ∧ i.toNat < (enG t).cnt ∧ nthV t i = (enG t).nth i.toNat := by
  have hv : nthV t i = (enG t).nth i.toNat := by unfold nthV; rw [if_pos h]
  unfold nthE at h
  by_cases hc : countE t = 0
  · rw [if_pos hc] at h
    obtain ⟨hf, hb, _⟩ := count_fine hc
    by_cases hi : i < 0 ∨ ((enG t).cnt : Int) ≤ i
    · rw [if_pos hi] at h; cases h
    · exact ⟨hf, hb, by omega, by omega, hv⟩
  · rw [if_neg hc] at h; exact absurd h hc
theorem nthV_len (t : Gn) (i : Int) : (nthV t i).length ≤ 1399680 := by
  by_cases h : nthE t i = 0
  · obtain ⟨hf, _, _, hi, hv⟩ := nthE_zero h
    rw [hv]; exact nth_len hf hi
  · unfold nthV; rw [if_neg h]; simp

end Go.Proofs.YtabkihellcflhaaGreatDoor.Gens

/- The program's Rank. Conditions: the sizes. -/
namespace Go.Proofs.YtabkihellcflhaaGreatDoor.Gens
open Go.RowKit Lists Ints Vals
set_option linter.unusedVariables false

/-- what Rank tells -/
def rankE (t : Gn) (l : List Int) : Int := if countE t = 0 then errI (repV t l) else countE t
def rankV (t : Gn) (l : List Int) : Nat := if rankE t l = 0 then ((enG t).rank l).1 else 0
theorem rep_tape {t : Gn} {l : List Int} (h : errI (repV t l) = 0) : genV t = 0 ∧ TG t l := by
  unfold repV at h
  by_cases hz : genV t = 0
  · rw [if_pos hz] at h
    refine ⟨hz, ?_⟩
    unfold repG at h
    cases hp : play readC t l with
    | error e =>
      rw [hp] at h
      have h : e = 0 := h
      rcases play_err t l e hp with h' | h' <;> omega
    | ok p =>
      obtain ⟨c, v, r⟩ := p
      rw [hp] at h
      have h : errI (if r = [] then Except.ok v else Except.error 3) = 0 := h
      by_cases hr : r = []
      · subst hr
        have := play_took t l c v [] hp
        rw [List.append_nil] at this
        subst this
        exact ⟨v, hp⟩
      · rw [if_neg hr] at h
        have h : (3 : Int) = 0 := h
        omega
  · rw [if_neg hz] at h; exact absurd h hz
theorem rankE_zero {t : Gn} {l : List Int} (h : rankE t l = 0) : countE t = 0 ∧ Fine t ∧ (enG t).cnt ≤ 1048576 ∧ rankV t l < (enG t).cnt ∧ (enG t).nth (rankV t l) = l := by
  have hv : rankV t l = ((enG t).rank l).1 := by unfold rankV; rw [if_pos h]
  unfold rankE at h
  by_cases hc : countE t = 0
  · rw [if_pos hc] at h
    obtain ⟨hf, hb, _⟩ := count_fine hc
    have hg := good_gen t hf.1
    obtain ⟨i, hi, rfl⟩ := hg.all l (rep_tape h).2
    have hr := hg.back i hi []
    rw [List.append_nil] at hr
    rw [hv, hr]
    exact ⟨hc, hf, hb, hi, rfl⟩
  · rw [if_neg hc] at h; exact absurd h hc

set_option maxHeartbeats 2000000 in
set_option maxRecDepth 100000 in
theorem rank_prog {n : Nat} {t : Gn} {v : Value} {L : Option Addr} {l : List Int} {lc : Nat} (w : World) (h : GAt w (GBel w.heap.size) n v t) (hat : At w w.heap.size L l) (hcap : l.length ≤ lc) (hl : l.length ≤ 4294967296) (hsz : t.size ≤ 4294967296) :
    Calls Tryz.prog 17 #[v, .slice L l.length lc] w fun e w' => e = .returned (.tuple #[.int .i64 (rankV t l : Nat), errOf (rankE t l)]) ∧ Below w.heap.size w w' := by
  obtain ⟨m, A, c, e, hw, rfl, _⟩ := h.open_
  have b1 := bel1 w (gc t A c)
  have g1 : G4 w.heap.size (.int .i64 t.kind) (.int .i64 t.a) (.int .i64 t.b) (.slice A t.subs.length c) (w.alloc (gc t A c)) := new_obj w _
  have C1 := gcount (w.alloc (gc t A c)) (h.below b1) (by simp) hsz
  have R1 := Lib.hid (fun (W : World) (hb : Below w.heap.size w W) => replay_prog (L := L) (l := l) (lc := lc) W ((h.below hb).more hb.size) ((hat.below hb).more hb.size) hcap hl hsz)
  have NA := Lib.hid (fun (W : World) (hb : Below w.heap.size w W) (hf : Fine t) (hc : (enG t).cnt ≤ 1048576) (j : Nat) (hj : j < (enG t).cnt) (hlj : l = (enG t).nth j ++ []) => rank_any n t _ w.heap.size j l [] L lc W (h.below hb) hb.size hf hc hj hlj hcap hl ((hat.below hb).more hb.size))
  have B1 := Lib.hid b1
  have G1 := Lib.hid g1
  clear h hsz e hw b1 g1 hat hcap hl
  by_cases hz : countE t = 0
  · have EN := Lib.hid (show rankE t l = errI (repV t l) by unfold rankE; rw [if_pos hz])
    rw [hz, errOf_ok] at C1
    have C1 := Lib.hid C1
    have HR := Lib.hid (fun (h : rankE t l = 0) => rankE_zero h)
    have EV := Lib.hid (show rankV t l = if rankE t l = 0 then ((enG t).rank l).1 else 0 from rfl)
    clear hz
    generalize countN t = cN at *
    go_enter Tryz.func17, Tryz.ntmps17
    go_wp2_with fail
    generalize w.alloc (gc t A c) = W1 at *
    ((with_reducible refine C1.out.mono ?_))
    rintro e w2 ⟨rfl, hb2⟩
    have B2 := Lib.hid (below_trans B1.out hb2)
    have G2 := Lib.hid (G1.out.below hb2)
    obtain ⟨k0, k1, k2, k3⟩ := G2.out.facts
    clear hb2 C1
    go_wp2_with fail
    ((with_reducible refine (R1.out w2 B2.out).mono ?_))
    rintro e w3 ⟨A3, c3, rfl, ht3, hn3, hb3⟩
    have B3 := Lib.hid (below_trans B2.out hb3)
    have n4 := bel1 w3 (.cells #[.bool (trOf (repV t l)).list, .int .i64 (trOf (repV t l)).num, .slice A3 (trOf (repV t l)).items.length c3] 47)
    have B4 := Lib.hid (below_trans B3.out n4)
    have G4' := Lib.hid ((G2.out.below hb3).below n4)
    clear ht3 hn3 hb3 n4 R1 k0 k1 k2 k3
    obtain ⟨k0, k1, k2, k3⟩ := G4'.out.facts
    by_cases he : errI (repV t l) = 0
    · obtain ⟨_, hf, hc, hi, hn⟩ := HR.out (EN.out.trans he)
      have NB := Lib.hid (fun (W : World) (hb : Below w.heap.size w W) => NA.out W hb hf hc (rankV t l) hi (by rw [List.append_nil, hn]))
      have E0 := Lib.hid (EN.out.trans he)
      rw [he, errOf_ok]
      clear he HR NA EV hf hc hi hn EN
      generalize trOf (repV t l) = tv at *
      generalize hj : rankV t l = j at *
      have HJ := Lib.hid hj
      clear hj
      go_wp2_with fail
      generalize w3.alloc (.cells #[.bool tv.list, .int .i64 tv.num, .slice A3 tv.items.length c3] 47) = w4 at *
      have NC := Lib.hid (NB.out w4 B4.out)
      ((with_reducible refine NC.out.mono ?_))
      rintro e w5 ⟨L5, lc5, rfl, _, _, hb5⟩
      have B5 := Lib.hid (below_trans B4.out hb5)
      clear hb5
      go_wp2_with fail
      go_ret2
      exact ⟨by rw [E0.out, errOf_ok, HJ.out]; rfl, B5.out⟩
    · have EV2 := Lib.hid (EV.out.trans (if_neg (by rw [EN.out]; exact he)))
      have RE := Lib.hid (errOf_no he)
      rw [errOf_no he]
      clear EV HR NA he
      generalize trOf (repV t l) = tv at *
      generalize errI (repV t l) = q at *
      go_wp2_with fail
      go_ret2
      exact ⟨by rw [EN.out, EV2.out, RE.out]; rfl, B4.out⟩
  · have RE := Lib.hid (errOf_no hz)
    have EN := Lib.hid (show rankE t l = countE t by unfold rankE; rw [if_neg hz])
    have EV := Lib.hid (show rankV t l = 0 by unfold rankV; rw [if_neg (by rw [EN.out]; exact hz)])
    rw [errOf_no hz] at C1
    have C1 := Lib.hid C1
    clear hz NA R1
    generalize countE t = q at *
    generalize countN t = cN at *
    go_enter Tryz.func17, Tryz.ntmps17
    go_wp2_with fail
    generalize w.alloc (gc t A c) = W1 at *
    ((with_reducible refine C1.out.mono ?_))
    rintro e w2 ⟨rfl, hb2⟩
    have B2 := Lib.hid (below_trans B1.out hb2)
    clear hb2 C1
    go_wp2_with fail
    go_ret2
    exact ⟨by rw [EN.out, EV.out, RE.out]; rfl, B2.out⟩
end Go.Proofs.YtabkihellcflhaaGreatDoor.Gens

/- A generator without parts, in memory. -/
namespace Go.Proofs.YtabkihellcflhaaGreatDoor.Gens
open Go.RowKit
set_option linter.unusedVariables false
theorem gat_leaf {w : World} {B : Nat} {k a b : Int} (hk : Wf k) (ha : Wf a) (hb : Wf b) : GAt w (GBel B) 1 (.agg #[.int .i64 k, .int .i64 a, .int .i64 b, .slice none 0 0]) (.node k a b []) :=
  ⟨⟨hk, ha, hb⟩, none, 0, rfl, Nat.le_refl _, fun hp => by simp [Gn.subs] at hp⟩
end Go.Proofs.YtabkihellcflhaaGreatDoor.Gens
