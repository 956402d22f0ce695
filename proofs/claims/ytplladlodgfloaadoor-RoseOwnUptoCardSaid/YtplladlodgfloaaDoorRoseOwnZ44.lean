/- RoseOwn, part 44 of the proof: The program's Less (package rose). Conditions: the sizes. -/
import Derived.Test.YtplladlodgfloaaDoorRoseOwnZ41
import Derived.Test.YtplladlodgfloaaDoorRoseOwnZ43
/- The program's Less (package rose). Conditions: the sizes. -/
namespace Go.Proofs.YtplladlodgfloaaDoor.Gens
open Go.RowKit Lists Ints Vals
set_option linter.unusedVariables false

/-- what Less tells -/
def roseE (t : Gn) (l : List Int) : Int := errI (repV t l)
def roseV (t : Gn) (l : List Int) : List (List Int) := if roseE t l = 0 then roseL t l else []
def RoPost (t : Gn) (l : List Int) (w : World) (e : Ending) (w' : World) : Prop :=
  ∃ (A : Option Addr) (c : Nat), e = .returned (.tuple #[.slice A (roseV t l).length c, errOf (roseE t l)]) ∧ OwnRowsD w' w.heap.size A c (roseV t l) ∧ Below w.heap.size w w'
theorem rep_facts {t : Gn} {l : List Int} (h : roseE t l = 0) : genV t = 0 ∧ l.length ≤ 1399680 ∧ ∀ x ∈ l, 0 ≤ x ∧ x ≤ 1000 := by
  obtain ⟨h0, h1⟩ := rep_own h
  obtain ⟨v, r, h2, h3⟩ := mend_run (t := t) l h0
  have h4 := mend_within (gen_right h0).1 (small30 h0) h2
  rw [h1] at h3 h4
  exact ⟨h0, h3, h4⟩

set_option maxHeartbeats 4000000 in
set_option maxRecDepth 100000 in
theorem rose_prog {n : Nat} {t : Gn} {v : Value} {L : Option Addr} {l : List Int} {lc : Nat} (w : World) (h : GAt w (GBel w.heap.size) n v t) (hat : At w w.heap.size L l) (hcap : l.length ≤ lc) (hl : l.length ≤ 4294967296) (hsz : t.size ≤ 4294967296) :
    Calls Tryd.prog 9 #[v, .slice L l.length lc] w (RoPost t l w) := by
  obtain ⟨m, A, c, e, hw, rfl, _⟩ := h.open_
  have b0 := bel1 w (gc t A c)
  have g0 : G4 w.heap.size (.int .i64 t.kind) (.int .i64 t.a) (.int .i64 t.b) (.slice A t.subs.length c) (w.alloc (gc t A c)) := new_obj w _
  have RP := Lib.hid (fun (W : World) (hb : Below w.heap.size w W) => replay_prog W ((h.below hb).more hb.size) ((hat.below hb).more hb.size) hcap hl hsz)
  have CD := Lib.hid (fun (hz : roseE t l = 0) (W : World) (hb : Below w.heap.size w W) => cand_ok W ((h.below hb).more hb.size) (rep_facts hz).1 ((hat.below hb).more hb.size) hcap (rep_facts hz).2.1 (rep_facts hz).2.2)
  have B0 := Lib.hid b0
  have G0 := Lib.hid g0
  clear h hat hcap hl hsz e hw b0 g0
  go_enter Tryd.func9, Tryd.ntmps9
  obtain ⟨k0, k1, k2, k3⟩ := G0.out.facts
  go_wp2_with fail
  generalize w.alloc (gc t A c) = W0 at *
  ((with_reducible refine (RP.out W0 B0.out).mono ?_))
  rintro e w1 ⟨A1, c1, rfl, _, _, hb1⟩
  have B1 := Lib.hid (below_trans B0.out hb1)
  have G1 := Lib.hid (G0.out.below hb1)
  clear hb1 k0 k1 k2 k3
  generalize trOf (repV t l) = v at *
  have n4 := bel1 w1 (.cells #[.bool v.list, .int .i64 v.num, .slice A1 v.items.length c1] 32)
  have B4 := Lib.hid (below_trans B1.out n4)
  obtain ⟨k0, k1, k2, k3⟩ := (G1.out.below n4).facts
  clear n4
  by_cases hz : roseE t l = 0
  · have E0 := Lib.hid (show errI (repV t l) = 0 from hz)
    have HZ := Lib.hid hz
    have HV := Lib.hid (show roseV t l = roseL t l by unfold roseV; rw [if_pos hz])
    have KD := Lib.hid (fun W hb => CD.out hz W hb)
    rw [E0.out, errOf_ok]
    clear hz CD RP
    go_wp2_with fail
    generalize w1.alloc (.cells #[.bool v.list, .int .i64 v.num, .slice A1 v.items.length c1] 32) = W4 at *
    ((with_reducible refine (KD.out W4 B4.out).mono ?_))
    rintro e w5 ⟨A5, c5, rfl, own5, hb5⟩
    have B5 := Lib.hid (below_trans B4.out hb5)
    have O5 := Lib.hid (own5.less B4.out.size)
    clear own5 hb5 KD
    go_wp2_with fail
    go_ret2
    exact ⟨A5, c5, (by rw [HV.out, HZ.out, errOf_ok]; rfl), (by rw [HV.out]; exact O5.out), B5.out⟩
  · have HV := Lib.hid (show roseV t l = [] by unfold roseV; rw [if_neg hz])
    have RE := Lib.hid (errOf_no hz)
    have EE := Lib.hid (show errOf (errI (repV t l)) = errOf (roseE t l) from rfl)
    rw [EE.out, errOf_no hz]
    clear hz CD RP
    generalize hq : roseE t l = q at *
    have QH := Lib.hid hq
    clear hq
    go_wp2_with fail
    go_ret2
    exact ⟨none, 0, by rw [HV.out, QH.out, RE.out]; rfl, by rw [HV.out]; exact OwnRowsD.zero, B4.out⟩
end Go.Proofs.YtplladlodgfloaaDoor.Gens
