/- TopFails, part 48 of the proof: The program's rank, rankOfAll: the number of a tape. Conditions: there is one. -/
import Derived.Test.YtabkihellcflhaaGreatDoorTopFailsZ47
/- The program's rank, rankOfAll: the number of a tape. Conditions: there is one. -/
namespace Go.Proofs.YtabkihellcflhaaGreatDoor.Gens
open Go.RowKit Lists Ints Vals
set_option linter.unusedVariables false

theorem at_drop {w : World} {B b off : Nat} {l : List Int} (h : At w B (some ⟨b, off, none⟩) l) (k : Nat) : At w B (some ⟨b, off + k, none⟩) (l.drop k) := fun hp => by
  have hk : k < l.length := by simp at hp; omega
  obtain ⟨b', off', e, hb, hc⟩ := h (by omega)
  obtain ⟨rfl, rfl⟩ : b = b' ∧ off = off' := by simpa using e
  refine ⟨b, off + k, rfl, hb, fun j hj => ?_⟩
  have := hc (k + j) (by simp at hj; omega)
  rw [show off + (k + j) = off + k + j by omega] at this
  rw [this, List.getD_eq_getElem?_getD, List.getD_eq_getElem?_getD, List.getElem?_drop]
/-- the number, and what stands behind -/
def RPost (w : World) (i : Nat) (r : List Int) (e : Ending) (w' : World) : Prop := ∃ (L : Option Addr) (lc : Nat), e = .returned (.tuple #[.int .i64 (i : Int), .slice L r.length lc]) ∧ r.length ≤ lc ∧ At w' w'.heap.size L r ∧ Below w.heap.size w w'
def RankOK (n : Nat) : Prop := ∀ (t : Gn) (v : Value) (B i : Nat) (l r : List Int) (L : Option Addr) (lc : Nat) (w : World), GAt w (GBel B) n v t → B ≤ w.heap.size → Fine t → (enG t).cnt ≤ 1048576 → i < (enG t).cnt → l = (enG t).nth i ++ r → l.length ≤ lc → l.length ≤ 4294967296 → At w w.heap.size L l → Calls Tryz.prog 42 #[v, .slice L l.length lc] w (RPost w i r)

set_option maxHeartbeats 4000000 in
set_option maxRecDepth 100000 in
theorem rank_all (n : Nat) (ih : RankOK n) {ps : List Gn} {A : Option Addr} {c B : Nat} (w : World) (h : GsAt w B n A ps) (hB : B ≤ w.heap.size) (hl : ps.length ≤ 30) (hf : ∀ x ∈ ps, Fine x) (hc : cn ps ≤ 1048576) (i : Nat) (hi : i < cn ps) (l r : List Int) (L : Option Addr) (lc : Nat) (hlr : l = (allE (ps.map enG)).nth i ++ r) (hlc : l.length ≤ lc) (hln : l.length ≤ 4294967296) (hat : At w w.heap.size L l) :
    Calls Tryz.prog 76 #[.slice A ps.length c, .slice L l.length lc] w (RPost w i r) := by
  have HIT := Lib.hid h
  have HB := Lib.hid hB
  have HF := Lib.hid hf
  have HC := Lib.hid hc
  have HI := Lib.hid hi
  have IH := Lib.hid ih
  have HL := Lib.hid (And.intro hlr (And.intro hlc (And.intro hln hat)))
  have hi2 : i ≤ 1048576 := by omega
  clear h hB hf hc hi ih hlr hlc hln hat
  go_enter Tryz.func76, Tryz.ntmps76
  go_wp2_with fail
  go_loopw [1, 6, 12] (fun x y u wr => ∃ (k i' o : Nat) (m : List Int) (L' : Option Addr) (lc' : Nat), k ≤ ps.length ∧ u = .int .i64 k ∧ x = .slice L' m.length lc' ∧ y = .int .i64 o ∧ Hid (i' < cn (ps.drop k)) ∧ Hid (i = o * cn (ps.drop k) + i') ∧ Hid (m = (allE ((ps.drop k).map enG)).nth i' ++ r) ∧ Hid (m.length ≤ lc' ∧ m.length ≤ 4294967296 ∧ At wr wr.heap.size L' m) ∧ Hid (Below w.heap.size w wr)) (fun _ _ u _ => ps.length - (intOf u).toNat)
  case atStart => exact ⟨0, i, 0, l, L, lc, Nat.zero_le _, rfl, rfl, rfl, HI.out, (show i = 0 * cn (ps.drop 0) + i by omega), (show l = (allE ((ps.drop 0).map enG)).nth i ++ r from HL.out.1), HL.out.2, Below.refl _ _⟩
  case round =>
    obtain ⟨k, i', o, m, L', lc', hk, rfl, rfl, rfl, HI', HO, HM, HA, HWW⟩ := hrel
    by_cases hlt : k < ps.length
    · obtain ⟨ib, off, D, d, rfl, c0, c1, c2, c3, hti⟩ := sub_as HIT.out (HWW.out.mono HB.out) k hlt
      have hfi : Fine (ps[k]'hlt) := HF.out _ (List.getElem_mem hlt)
      have hfd : ∀ x ∈ ps.drop (k + 1), Fine x := fun x hx => HF.out x (List.mem_of_mem_drop hx)
      have hci := cn_mem HF.out k hlt
      have hcp := cn_pos hfd
      have hcs := cn_drop ps k hlt
      have ba := bel1 wr (gc (ps[k]'hlt) D d)
      have bsz : B ≤ wr.heap.size := Nat.le_trans HB.out HWW.out.size
      have hq : i' / cn (ps.drop (k + 1)) < (enG (ps[k]'hlt)).cnt := (Nat.div_lt_iff_lt_mul (by omega)).2 (by have := HI'.out; rw [hcs] at this; exact this)
      have hmd : i' % cn (ps.drop (k + 1)) < cn (ps.drop (k + 1)) := Nat.mod_lt _ (by omega)
      have hm2 : m = (enG (ps[k]'hlt)).nth (i' / cn (ps.drop (k + 1))) ++ ((allE ((ps.drop (k + 1)).map enG)).nth (i' % cn (ps.drop (k + 1))) ++ r) := by
        rw [HM.out, List.drop_eq_getElem_cons hlt, all_nth, List.append_assoc]
      have ho2 : i = (o * (enG (ps[k]'hlt)).cnt + i' / cn (ps.drop (k + 1))) * cn (ps.drop (k + 1)) + i' % cn (ps.drop (k + 1)) := by
        rw [Nat.add_mul, Nat.mul_assoc, ← hcs, Nat.add_assoc, Nat.div_add_mod']; exact HO.out
      have hob : o * (enG (ps[k]'hlt)).cnt + i' / cn (ps.drop (k + 1)) ≤ 1048576 := by
        have : (o * (enG (ps[k]'hlt)).cnt + i' / cn (ps.drop (k + 1))) ≤ (o * (enG (ps[k]'hlt)).cnt + i' / cn (ps.drop (k + 1))) * cn (ps.drop (k + 1)) := Nat.le_mul_of_pos_right _ hcp
        omega
      have RK := IH.out (ps[k]'hlt) _ B (i' / cn (ps.drop (k + 1))) m ((allE ((ps.drop (k + 1)).map enG)).nth (i' % cn (ps.drop (k + 1))) ++ r) L' lc' (wr.alloc (gc (ps[k]'hlt) D d)) (hti.below (ba.mono bsz)) (by simp; omega) hfi (by have := HC.out; omega) hq hm2 HA.out.1 HA.out.2.1 ((HA.out.2.2.below ba).more (by simp))
      have RC := Lib.hid (fun (W : World) (hb : Below wr.heap.size wr W) => rcount W (hti.below (hb.mono bsz)) (Nat.le_trans bsz hb.size) hfi (by have := HC.out; omega))
      have RK := Lib.hid RK
      have HMD := Lib.hid (And.intro hmd ho2)
      have HML := Lib.hid (show ((allE ((ps.drop (k + 1)).map enG)).nth (i' % cn (ps.drop (k + 1))) ++ r).length ≤ 4294967296 by
        have h1 := HA.out.2.1
        rw [hm2, List.length_append] at h1
        omega)
      have HM3 := Lib.hid (fun z (h : z = (allE ((ps.drop (k + 1)).map enG)).nth (i' % cn (ps.drop (k + 1))) ++ r) => h)
      have BA := Lib.hid (And.intro ba (HWW.out.trans (ba.mono HWW.out.size)))
      have GB := Lib.hid (fun (W : World) (hb : Below (wr.alloc (gc (ps[k]'hlt) D d)).heap.size (wr.alloc (gc (ps[k]'hlt) D d)) W) => gbox wr W _ _ _ _ hb)
      clear hti hfi hfd hci hcs ba bsz hq hmd hm2 ho2 HM HO HI' HA
      generalize hz : (allE ((ps.drop (k + 1)).map enG)).nth (i' % cn (ps.drop (k + 1))) ++ r = z at RK HML
      have HM3 := Lib.hid (HM3.out z hz.symm)
      clear hz
      generalize hnn : i' / cn (ps.drop (k + 1)) = nn at *
      clear hnn
      generalize (enG (ps[k]'hlt)).cnt = q at *
      generalize ps[k]'hlt = y at RK RC BA GB c0 c1 c2 c3
      have hoq : (o : Int) * (q : Int) = ((o * q : Nat) : Int) := (Int.natCast_mul _ _).symm
      have ho3 : (0 : Int) ≤ (o : Int) * (q : Int) := by rw [hoq]; omega
      have ho4 : (o : Int) * (q : Int) ≤ 1048576 := by rw [hoq]; omega
      have hnb : nn ≤ 1048576 := by omega
      have OQ := Lib.hid (show (o : Int) * (q : Int) + (nn : Int) = ((o * q + nn : Nat) : Int) by rw [hoq]; omega)
      have ho5 : (o : Int) * (q : Int) + (nn : Int) ≤ 1048576 := by rw [OQ.out]; omega
      clear hoq hob hcp
      go_wp2_with fail
      ((with_reducible refine RK.out.mono ?_))
      rintro e w2 ⟨L2, lc2, rfl, hl2, hat2, hb2⟩
      have A2 := Lib.hid (And.intro hl2 hat2)
      obtain ⟨k0, k1, k2, k3⟩ := GB.out w2 hb2
      have B2 := Lib.hid (BA.out.1.trans (hb2.mono BA.out.1.size))
      have W2 := Lib.hid (BA.out.2.trans (hb2.mono BA.out.2.size))
      have RC2 := Lib.hid (RC.out w2 B2.out)
      clear hl2 hat2 hb2 RK RC
      go_wp2_with fail
      ((with_reducible refine RC2.out.mono ?_))
      rintro e w3 ⟨rfl, hb3⟩
      have A3 := Lib.hid (And.intro A2.out.1 (And.intro HML.out ((A2.out.2.below hb3).more hb3.size)))
      have W3 := Lib.hid (W2.out.trans (hb3.mono W2.out.size))
      clear hb3 RC2
      go_wp2_with fail
      go_roundw
      case rel => exact ⟨k + 1, i' % cn (ps.drop (k + 1)), o * q + nn, z, L2, lc2, hlt, by go_num, rfl, by rw [OQ.out], HMD.out.1, HMD.out.2, HM3.out, A3.out, W3.out⟩
      case measure => simp [intOf]; omega
    · have hd : ps.drop k = [] := List.drop_eq_nil_of_le (by omega)
      have hr := Lib.hid (show i = o ∧ m = r by
        have h1 := HI'.out; have h2 := HO.out; have h3 := HM.out
        rw [hd] at h1 h2 h3
        rw [cn_nil] at h1 h2
        exact ⟨by omega, h3⟩)
      clear hd
      go_wp2_with fail
      go_ret2
      exact ⟨L', lc', by rw [hr.out.1, ← hr.out.2]; rfl, by rw [← hr.out.2]; exact HA.out.1, by rw [← hr.out.2]; exact HA.out.2.2, HWW.out⟩

set_option maxHeartbeats 8000000 in
set_option maxRecDepth 100000 in
theorem rank_any : ∀ n, RankOK n := by
  intro n
  induction n with
  | zero => intro t v B i l r L lc w h; exact h.elim
  | succ n ih =>
    intro t v B i l r L lc w h hB hf hc hi hlr hlc hln hat
    obtain ⟨m, A, c, e, hw, rfl, hit⟩ := h.open_
    obtain rfl : n = m := by omega
    have b1 := bel1 w (gc t A c)
    have hgl : t.subs.length ≤ 30 := by have := glen_sizes t.subs; have h3 := gsize_subs t; have := hf.size; omega
    have hi2 : i ≤ 1048576 := by omega
    have H := Lib.hid h
    have HB := Lib.hid hB
    have HF := Lib.hid hf
    have HC := Lib.hid hc
    have HI := Lib.hid hi
    have IH := Lib.hid ih
    have B1 := Lib.hid b1
    have HIT := Lib.hid (show GsAt w B n A t.subs from hit)
    have HL := Lib.hid (And.intro hlr (And.intro hlc (And.intro hln hat)))
    have hm := right_max (k := t.kind) (a := t.a) (b := t.b) (subs := t.subs) (by cases t; exact hf.1)
    clear h hB hf hc hi ih b1 hit e hw hlr hlc hln hat
    cases t with | node k a b subs =>
    simp only [Gn.kind, Gn.a, Gn.b, Gn.subs] at *
    change Calls Tryz.prog 42 #[.agg #[.int .i64 k, .int .i64 a, .int .i64 b, .slice A subs.length c], .slice L l.length lc] w _
    rcases (show k = 1 ∨ k = 2 ∨ k = 3 ∨ k = 4 ∨ k = 5 by omega) with rfl | rfl | rfl | h45
    · have EV := Lib.hid (show i = 0 ∧ l = r by
        have h1 := HI.out; have h2 := HL.out.1
        rw [enG_just] at h1 h2
        have h1 : i < 1 := h1
        exact ⟨by omega, h2⟩)
      go_enter Tryz.func42, Tryz.ntmps42
      go_wp2_with fail
      go_ret2
      exact ⟨L, lc, by rw [EV.out.1, ← EV.out.2]; rfl, by rw [← EV.out.2]; exact HL.out.2.1, by rw [← EV.out.2]; exact (HL.out.2.2.2.below B1.out).more B1.out.size, B1.out⟩
    · have EV := Lib.hid (show l = (i : Int) :: r by rw [HL.out.1, enG_int]; rfl)
      have hl1 : l.length = r.length + 1 := by rw [EV.out]; rfl
      obtain ⟨ib, off, rfl, _, hcells⟩ := HL.out.2.2.2 (by omega)
      have c0 := ((hcells 0 (by omega)))
      rw [show l.getD 0 0 = (i : Int) by rw [EV.out]; rfl] at c0
      have c0 : (w.alloc (.cells #[.int .i64 2, .int .i64 a, .int .i64 b, .slice A subs.length c] 24)).cell? ⟨ib, off, none⟩ = some (.int .i64 (i : Int)) := (B1.out.cell (p := ⟨ib, _, none⟩) ‹ib < w.heap.size›).trans c0
      have hp : 0 < l.length := by omega
      have DA := Lib.hid (show At w w.heap.size (some ⟨ib, off + 1, none⟩) r by
        have := at_drop HL.out.2.2.2 1
        rw [EV.out] at this; exact this)
      have HL1 := Lib.hid (show r.length = l.length - 1 by omega)
      have hlc := HL.out.2.1
      have hln := HL.out.2.2.1
      clear hcells hl1
      by_cases h1 : lc = 1
      · have hr0 : r.length = 0 := by have := HL1.out; omega
        have HR := Lib.hid (And.intro (List.eq_nil_of_length_eq_zero hr0) hr0)
        clear hr0
        subst h1
        have hl1 : l.length - 1 = 0 := by omega
        go_enter Tryz.func42, Tryz.ntmps42
        go_wp2_with fail
        go_region
        go_wp2_with fail
        go_ret2
        exact ⟨_, 0, by rw [HR.out.2]; rfl, by rw [HR.out.2]; exact Nat.le_refl _, by rw [HR.out.1]; exact At.nil, B1.out.drew⟩
      · go_enter Tryz.func42, Tryz.ntmps42
        go_wp2_with fail
        go_region
        go_wp2_with fail
        go_ret2
        exact ⟨_, lc - 1, by rw [HL1.out]; rfl, by rw [HL1.out]; omega, ((DA.out.below B1.out).more B1.out.size), B1.out.drew⟩
    · have EV := Lib.hid (enG_both a b subs)
      have hcn : (enG (.node 3 a b subs)).cnt = cn subs := by rw [EV.out]; rfl
      have RA := rank_all (c := c) n IH.out (w.alloc (.cells #[.int .i64 3, .int .i64 a, .int .i64 b, .slice A subs.length c] 24)) (HIT.out.below (B1.out.mono HB.out)) (by have := HB.out; simp; omega) hgl (HF.out.subs) (by rw [← hcn]; exact HC.out) i (by rw [← hcn]; exact HI.out) l r L lc (by rw [← EV.out]; exact HL.out.1) HL.out.2.1 HL.out.2.2.1 ((HL.out.2.2.2.below B1.out).more B1.out.size)
      have RA := Lib.hid RA
      clear hcn
      go_enter Tryz.func42, Tryz.ntmps42
      go_wp2_with fail
      ((with_reducible refine RA.out.mono ?_))
      rintro e w2 ⟨L2, lc2, rfl, hl2, hat2, hb2⟩
      have A2 := Lib.hid (And.intro hl2 hat2)
      have W2 := Lib.hid (B1.out.trans (hb2.mono B1.out.size))
      clear hl2 hat2 hb2
      go_wp2_with fail
      go_ret2
      exact ⟨L2, lc2, rfl, A2.out.1, A2.out.2, W2.out⟩
    · have hk5 : (Gn.node k a b subs).kind = 4 ∨ (Gn.node k a b subs).kind = 5 := h45
      have FO := Lib.hid (fun (W : World) (hb : Below w.heap.size w W) (j : Nat) (hj : j < (branches (.node k a b subs)).length) => show Calls Tryz.prog 78 #[.agg #[.int .i64 k, .int .i64 a, .int .i64 b, .slice A subs.length c], .int .i64 j] W (FPost W n (follow (.node k a b subs) j)) from following_ok (k := k) (a := a) (b := b) (subs := subs) (j := j) W (H.out.below (hb.mono HB.out)) (Nat.le_trans HB.out hb.size) HF.out h45 hj)
      have CT := show chooseC (branches (.node k a b subs)) ≤ 1048576 ∧ i < chooseC (branches (.node k a b subs)) by
        have h1 := HC.out; have h2 := HI.out; rw [enG_choose _ hk5] at h1 h2; exact ⟨h1, h2⟩
      obtain ⟨j, hj, i', hi', hii⟩ := choose_ex _ i CT.2
      have hnth : (enG (.node k a b subs)).nth i = ((j : Nat) : Int) :: ((branches (.node k a b subs))[j]'hj).nth i' := by
        rw [enG_choose _ hk5, hii]
        show chooseN 0 _ _ = _
        rw [choose_at _ 0 j hj i' hi', Nat.zero_add]
      have BC := Lib.hid (fun j hj => (branch_cnt HF.out hk5 j hj).1)
      obtain ⟨bc1, bc2⟩ := branch_cnt HF.out hk5 j hj
      rw [bc2] at hnth
      rw [bc1] at hi'
      have FF := Lib.hid (fun j => follow_fine HF.out hk5 j)
      have FL := Lib.hid (fun j hj => follow_len HF.out hk5 j hj)
      have G1 := Lib.hid (new_obj w (.cells #[.int .i64 k, .int .i64 a, .int .i64 b, .slice A subs.length c] 24))
      have hlv : l = ((j : Nat) : Int) :: ((allE ((follow (.node k a b subs) j).map enG)).nth i' ++ r) := by rw [HL.out.1, hnth]; rfl
      have FFj := FF.out j
      obtain ⟨flj, j2⟩ := FL.out j hj
      have hqj : cn (follow (.node k a b subs) j) ≤ 1048576 := by
        have h1 := chooseC_step _ j hj
        have h2 := chooseC_take (branches (.node k a b subs)) (j + 1)
        omega
      have hkd : (k == 1) = false ∧ (k == 2) = false ∧ (k == 3) = false := by refine ⟨?_, ?_, ?_⟩ <;> simp <;> omega
      obtain ⟨kd1, kd2, kd3⟩ := hkd
      have HI2 := Lib.hid (And.intro hi' (And.intro hii CT.1))
      have HJ := Lib.hid hj
      have RAL := Lib.hid (fun (W : World) (A2 : Option Addr) (c2 : Nat) (L1 : Option Addr) (lc1 : Nat) (hg : GsAt W W.heap.size n A2 (follow (.node k a b subs) j)) (h2 : ((allE ((follow (.node k a b subs) j).map enG)).nth i' ++ r).length ≤ lc1) (h3 : ((allE ((follow (.node k a b subs) j).map enG)).nth i' ++ r).length ≤ 4294967296) (h4 : At W W.heap.size L1 ((allE ((follow (.node k a b subs) j).map enG)).nth i' ++ r)) => rank_all (c := c2) n IH.out W hg (Nat.le_refl _) flj FFj hqj i' hi' _ r L1 lc1 rfl h2 h3 h4)
      have FOJ := Lib.hid (fun (W : World) (hb : Below w.heap.size w W) => FO.out W hb j hj)
      obtain ⟨ib, off, rfl, hib, hcells⟩ := HL.out.2.2.2 (by rw [hlv]; simp)
      have c0 : w.cell? ⟨ib, off, none⟩ = some (.int .i64 (j : Int)) := by
        have := hcells 0 (by rw [hlv]; simp)
        rw [show l.getD 0 0 = ((j : Nat) : Int) by rw [hlv]; rfl] at this
        exact this
      have C0 := Lib.hid (fun (W : World) (hb : Below w.heap.size w W) => (hb.cell (p := ⟨ib, off, none⟩) hib).trans c0)
      have hp : 0 < l.length := by rw [hlv]; simp
      have HZL := Lib.hid (show ((allE ((follow (.node k a b subs) j).map enG)).nth i' ++ r).length = l.length - 1 by rw [hlv]; simp)
      have DA := Lib.hid (show At w w.heap.size (some ⟨ib, off + 1, none⟩) ((allE ((follow (.node k a b subs) j).map enG)).nth i' ++ r) by
        have := at_drop HL.out.2.2.2 1
        rw [show l.drop 1 = (allE ((follow (.node k a b subs) j).map enG)).nth i' ++ r by rw [hlv]; rfl] at this; exact this)
      have hlc := HL.out.2.1
      have hln := HL.out.2.2.1
      clear hcells hlv bc1 bc2 hnth hi' hii CT FFj flj hqj hj c0 H HIT IH HC HI hm HL hk5
      have K45 := Lib.hid h45
      clear h45
      generalize (allE ((follow (.node k a b subs) j).map enG)).nth i' ++ r = zr at *
      go_enter Tryz.func42, Tryz.ntmps42
      have c0 : (w.alloc (.cells #[.int .i64 k, .int .i64 a, .int .i64 b, .slice A subs.length c] 24)).cell? ⟨ib, off, none⟩ = some (.int .i64 (j : Int)) := C0.out _ B1.out
      go_wp2_with fail
      clear c0
      go_loopw [6, 33] (fun x u wr => ∃ (ch : Nat), u = .int .i64 ch ∧ x = .int .i64 ((chooseC ((branches (.node k a b subs)).take ch) : Nat) : Int) ∧ ch ≤ j ∧ Hid (G4 w.heap.size (.int .i64 k) (.int .i64 a) (.int .i64 b) (.slice A subs.length c) wr) ∧ Hid (Below w.heap.size w wr)) (fun _ u _ => j - (intOf u).toNat)
      case atStart => exact ⟨0, rfl, rfl, Nat.zero_le _, G1.out, B1.out⟩
      case round =>
        obtain ⟨ch, rfl, rfl, hch, HG, HWW⟩ := hrel
        by_cases hlt : ch < j
        · have hcj : ch < (branches (.node k a b subs)).length := by have := HJ.out; omega
          have FO1 := Lib.hid (FO.out wr HWW.out ch hcj)
          obtain ⟨fl1, ch2⟩ := FL.out ch hcj
          have hst := chooseC_step _ ch hcj
          have hle := chooseC_take (branches (.node k a b subs)) (ch + 1)
          rw [BC.out ch hcj] at hst
          have hb1 : chooseC ((branches (.node k a b subs)).take (ch + 1)) ≤ 1048576 := by have := HI2.out.2.2; omega
          have ff1 := FF.out ch
          have HST := Lib.hid hst
          have hb2 : chooseC ((branches (.node k a b subs)).take ch) ≤ 1048576 := by omega
          have hb3 : cn (follow (.node k a b subs) ch) ≤ 1048576 := by omega
          have FL1 := Lib.hid (And.intro fl1 ff1)
          clear hst hle fl1 ff1
          generalize follow (.node k a b subs) ch = l2 at *
          generalize hs1 : chooseC ((branches (.node k a b subs)).take (ch + 1)) = s1 at *
          have HS1 := Lib.hid hs1
          clear hs1
          generalize chooseC ((branches (.node k a b subs)).take ch) = s0 at *
          obtain ⟨k0, k1, k2, k3⟩ := HG.out.facts
          go_wp2_with fail
          ((with_reducible refine FO1.out.mono ?_))
          rintro e w2 ⟨A2, c2, rfl, hlc2, hgs, hb2⟩
          have B2 := Lib.hid (HWW.out.trans (hb2.mono HWW.out.size))
          have HG2 := Lib.hid (HG.out.below hb2)
          have RC := Lib.hid (rcount_all (c := c2) w2 hgs (Nat.le_refl _) (by have := FL1.out.1; omega) FL1.out.2 hb3)
          clear hlc2 hgs hb2 FO1 k0 k1 k2 k3
          generalize cn l2 = q at *
          go_wp2_with fail
          ((with_reducible refine RC.out.mono ?_))
          rintro e w3 ⟨rfl, hb3⟩
          have B3 := Lib.hid (B2.out.trans (hb3.mono B2.out.size))
          have HG3 := Lib.hid (HG2.out.below hb3)
          clear hb3 RC
          go_wp2_with fail
          go_roundw
          case rel => exact ⟨ch + 1, by go_num, by rw [HS1.out, HST.out]; go_num, hlt, HG3.out, B3.out⟩
          case measure => simp [intOf]; omega
        · have hcj : ch = j := by omega
          subst hcj
          have FJ := Lib.hid (FOJ.out wr.drew HWW.out.drew)
          have c0 := C0.out wr HWW.out
          obtain ⟨k0, k1, k2, k3⟩ := HG.out.facts
          have RX := Lib.hid (fun (W : World) (A2 : Option Addr) (c2 : Nat) (hb : Below w.heap.size w W) (hg : GsAt W W.heap.size n A2 (follow (.node k a b subs) ch)) => RAL.out W A2 c2 (some ⟨ib, off + 1, none⟩) (lc - 1) hg (by rw [HZL.out]; omega) (by rw [HZL.out]; omega) ((DA.out.below hb).more hb.size))
          have RY := Lib.hid (fun (W : World) (A2 : Option Addr) (c2 : Nat) (hb : Below w.heap.size w W) (hg : GsAt W W.heap.size n A2 (follow (.node k a b subs) ch)) (h1 : l.length - 1 = 0) => RAL.out W A2 c2 (some ⟨ib, off, none⟩) 0 hg (by rw [HZL.out]; omega) (by rw [HZL.out]; omega) (fun hp => by rw [HZL.out] at hp; omega))
          rw [HZL.out] at RX RY
          have EQ := Lib.hid HI2.out.2.1
          have hqi : i' ≤ 1048576 := by have := EQ.out; omega
          have hsi : chooseC ((branches (.node k a b subs)).take ch) ≤ 1048576 := by have := EQ.out; omega
          clear FO FOJ RAL HZL C0 HI2
          generalize follow (.node k a b subs) ch = l2 at *
          generalize chooseC ((branches (.node k a b subs)).take ch) = s0 at *
          have hlt' : ¬ ((ch : Int) < (ch : Int)) := by omega
          have hll : (1 : Int) ≤ (l.length : Int) := by omega
          by_cases hl1 : lc = 1
          · subst hl1
            have hl0 : l.length - 1 = 0 := by omega
            have RY := Lib.hid (fun W A2 c2 hb hg => RY.out W A2 c2 hb hg hl0)
            rw [hl0] at RY
            clear RX
            go_wp2_with fail
            go_region_law (first
              | (go_simp
                 with_reducible refine FJ.out.mono ?_
                 rintro e w2 ⟨A2, c2, rfl, hlc2, hgs, hb2⟩
                 have B2 := Lib.hid (HWW.out.trans ((Below.drew (Below.refl _ _)).trans hb2 |>.mono HWW.out.size))
                 have RZ := Lib.hid (RY.out w2 A2 c2 B2.out hgs)
                 clear hlc2 hgs hb2)
              | (go_simp
                 with_reducible refine RZ.out.mono ?_
                 rintro e w3 ⟨L3, lc3, rfl, hl3, hat3, hb3⟩
                 have A3 := Lib.hid (And.intro hl3 hat3)
                 have B3 := Lib.hid (B2.out.trans (hb3.mono B2.out.size))
                 clear hl3 hat3 hb3))
            all_goals (
              go_wp2_with fail
              go_ret2
              exact ⟨L3, lc3, by rw [EQ.out, Int.natCast_add]; rfl, A3.out.1, A3.out.2, B3.out⟩)
          · clear RY
            go_wp2_with fail
            go_region_law (first
              | (go_simp
                 with_reducible refine FJ.out.mono ?_
                 rintro e w2 ⟨A2, c2, rfl, hlc2, hgs, hb2⟩
                 have B2 := Lib.hid (HWW.out.trans ((Below.drew (Below.refl _ _)).trans hb2 |>.mono HWW.out.size))
                 have RZ := Lib.hid (RX.out w2 A2 c2 B2.out hgs)
                 clear hlc2 hgs hb2)
              | (go_simp
                 with_reducible refine RZ.out.mono ?_
                 rintro e w3 ⟨L3, lc3, rfl, hl3, hat3, hb3⟩
                 have A3 := Lib.hid (And.intro hl3 hat3)
                 have B3 := Lib.hid (B2.out.trans (hb3.mono B2.out.size))
                 clear hl3 hat3 hb3))
            all_goals (
              go_wp2_with fail
              go_ret2
              exact ⟨L3, lc3, by rw [EQ.out, Int.natCast_add]; rfl, A3.out.1, A3.out.2, B3.out⟩)
end Go.Proofs.YtabkihellcflhaaGreatDoor.Gens
