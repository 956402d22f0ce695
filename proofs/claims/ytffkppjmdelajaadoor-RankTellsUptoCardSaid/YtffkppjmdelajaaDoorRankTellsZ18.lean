/- RankTells, part 18 of the proof: The program's rank, rankOfAll: the number of a tape. Conditions: there is one. · The program's Nth. Conditions: the size. · The program's Rank. Conditions: the sizes. -/
import Derived.Test.YtffkppjmdelajaaDoorRankTellsZ17
import Derived.Test.YtffkppjmdelajaaDoorRankTellsZ14
/- The program's rank, rankOfAll: the number of a tape. Conditions: there is one. -/
namespace Go.Proofs.YtffkppjmdelajaaDoor.Gens
open Go.RowKit Lists Ints Vals
set_option linter.unusedVariables false

theorem at_drop {w : World} {B b off : Nat} {l : List Int} (h : At w B (some ⟨b, off, none⟩) l) (k : Nat) : At w B (some ⟨b, off + k, none⟩) (l.drop k) := fun hp => by
  have hk : k < l.length := by simp at hp; omega
  obtain ⟨b', off', e, hb, hc⟩ := h (by omega)
  obtain ⟨rfl, rfl⟩ : b = b' ∧ off = off' := by simpa using e
  refine ⟨b, off + k, rfl, hb, fun j hj => ?_⟩
  have := hc (k + j) (by simp at hj; omega)
  rw [show off + (k + j) = off + k + j by omega] at this
  rw [this, List.getD_eq_getElem?_getD, List.getD_eq_getElem?_getD, List.getElem?_drop]
/-- the number, and what stands behind -/
def RPost (w : World) (i : Nat) (r : List Int) (e : Ending) (w' : World) : Prop := ∃ (L : Option Addr) (lc : Nat), e = .returned (.tuple #[.int .i64 (i : Int), .slice L r.length lc]) ∧ r.length ≤ lc ∧ At w' w'.heap.size L r ∧ Below w.heap.size w w'
def RankOK (n : Nat) : Prop := ∀ (t : Gn) (v : Value) (B i : Nat) (l r : List Int) (L : Option Addr) (lc : Nat) (w : World), GAt w (GBel B) n v t → B ≤ w.heap.size → Fine t → (enG t).cnt ≤ 1048576 → i < (enG t).cnt → l = (enG t).nth i ++ r → l.length ≤ lc → l.length ≤ 4294967296 → At w w.heap.size L l → Calls Tryd.prog 59 #[v, .slice L l.length lc] w (RPost w i r)

set_option maxHeartbeats 4000000 in
set_option maxRecDepth 100000 in
theorem rank_all (n : Nat) (ih : RankOK n) {ps : List Gn} {A : Option Addr} {c B : Nat} (w : World) (h : GsAt w B n A ps) (hB : B ≤ w.heap.size) (hl : ps.length ≤ 30) (hf : ∀ x ∈ ps, Fine x) (hc : cn ps ≤ 1048576) (i : Nat) (hi : i < cn ps) (l r : List Int) (L : Option Addr) (lc : Nat) (hlr : l = (allE (ps.map enG)).nth i ++ r) (hlc : l.length ≤ lc) (hln : l.length ≤ 4294967296) (hat : At w w.heap.size L l) :
    Calls Tryd.prog 82 #[.slice A ps.length c, .slice L l.length lc] w (RPost w i r) := by
  have HIT := Lib.hid h
  have HB := Lib.hid hB
  have HF := Lib.hid hf
  have HC := Lib.hid hc
  have HI := Lib.hid hi
  have IH := Lib.hid ih
  have HL := Lib.hid (And.intro hlr (And.intro hlc (And.intro hln hat)))
  have hi2 : i ≤ 1048576 := by omega
  clear h hB hf hc hi ih hlr hlc hln hat
  go_enter Tryd.func82, Tryd.ntmps82
  go_wp2_with fail
  go_loopw [1, 6, 12] (fun x y u wr => ∃ (k i' o : Nat) (m : List Int) (L' : Option Addr) (lc' : Nat), k ≤ ps.length ∧ u = .int .i64 k ∧ x = .slice L' m.length lc' ∧ y = .int .i64 o ∧ Hid (i' < cn (ps.drop k)) ∧ Hid (i = o * cn (ps.drop k) + i') ∧ Hid (m = (allE ((ps.drop k).map enG)).nth i' ++ r) ∧ Hid (m.length ≤ lc' ∧ m.length ≤ 4294967296 ∧ At wr wr.heap.size L' m) ∧ Hid (Below w.heap.size w wr)) (fun _ _ u _ => ps.length - (intOf u).toNat)
  case atStart => exact ⟨0, i, 0, l, L, lc, Nat.zero_le _, rfl, rfl, rfl, HI.out, (show i = 0 * cn (ps.drop 0) + i by omega), (show l = (allE ((ps.drop 0).map enG)).nth i ++ r from HL.out.1), HL.out.2, Below.refl _ _⟩
  case round =>
    obtain ⟨k, i', o, m, L', lc', hk, rfl, rfl, rfl, HI', HO, HM, HA, HWW⟩ := hrel
    by_cases hlt : k < ps.length
    · obtain ⟨ib, off, D, d, rfl, c0, c1, c2, c3, hti⟩ := sub_as HIT.out (HWW.out.mono HB.out) k hlt
      have hfi : Fine (ps[k]'hlt) := HF.out _ (List.getElem_mem hlt)
      have hfd : ∀ x ∈ ps.drop (k + 1), Fine x := fun x hx => HF.out x (List.mem_of_mem_drop hx)
      have hci := cn_mem HF.out k hlt
      have hcp := cn_pos hfd
      have hcs := cn_drop ps k hlt
      have ba := bel1 wr (gc (ps[k]'hlt) D d)
      have bsz : B ≤ wr.heap.size := Nat.le_trans HB.out HWW.out.size
      have hq : i' / cn (ps.drop (k + 1)) < (enG (ps[k]'hlt)).cnt := (Nat.div_lt_iff_lt_mul (by omega)).2 (by have := HI'.out; rw [hcs] at this; exact this)
      have hmd : i' % cn (ps.drop (k + 1)) < cn (ps.drop (k + 1)) := Nat.mod_lt _ (by omega)
      have hm2 : m = (enG (ps[k]'hlt)).nth (i' / cn (ps.drop (k + 1))) ++ ((allE ((ps.drop (k + 1)).map enG)).nth (i' % cn (ps.drop (k + 1))) ++ r) := by
        rw [HM.out, List.drop_eq_getElem_cons hlt, all_nth, List.append_assoc]
      have ho2 : i = (o * (enG (ps[k]'hlt)).cnt + i' / cn (ps.drop (k + 1))) * cn (ps.drop (k + 1)) + i' % cn (ps.drop (k + 1)) := by
        rw [Nat.add_mul, Nat.mul_assoc, ← hcs, Nat.add_assoc, Nat.div_add_mod']; exact HO.out
      have hob : o * (enG (ps[k]'hlt)).cnt + i' / cn (ps.drop (k + 1)) ≤ 1048576 := by
        have : (o * (enG (ps[k]'hlt)).cnt + i' / cn (ps.drop (k + 1))) ≤ (o * (enG (ps[k]'hlt)).cnt + i' / cn (ps.drop (k + 1))) * cn (ps.drop (k + 1)) := Nat.le_mul_of_pos_right _ hcp
        omega
      have RK := IH.out (ps[k]'hlt) _ B (i' / cn (ps.drop (k + 1))) m ((allE ((ps.drop (k + 1)).map enG)).nth (i' % cn (ps.drop (k + 1))) ++ r) L' lc' (wr.alloc (gc (ps[k]'hlt) D d)) (hti.below (ba.mono bsz)) (by simp; omega) hfi (by have := HC.out; omega) hq hm2 HA.out.1 HA.out.2.1 ((HA.out.2.2.below ba).more (by simp))
      have RC := Lib.hid (fun (W : World) (hb : Below wr.heap.size wr W) => rcount W (hti.below (hb.mono bsz)) (Nat.le_trans bsz hb.size) hfi (by have := HC.out; omega))
      have RK := Lib.hid RK
      have HMD := Lib.hid (And.intro hmd ho2)
      have HML := Lib.hid (show ((allE ((ps.drop (k + 1)).map enG)).nth (i' % cn (ps.drop (k + 1))) ++ r).length ≤ 4294967296 by
        have h1 := HA.out.2.1
        rw [hm2, List.length_append] at h1
        omega)
      have HM3 := Lib.hid (fun z (h : z = (allE ((ps.drop (k + 1)).map enG)).nth (i' % cn (ps.drop (k + 1))) ++ r) => h)
      have BA := Lib.hid (And.intro ba (HWW.out.trans (ba.mono HWW.out.size)))
      have GB := Lib.hid (fun (W : World) (hb : Below (wr.alloc (gc (ps[k]'hlt) D d)).heap.size (wr.alloc (gc (ps[k]'hlt) D d)) W) => gbox wr W _ _ _ _ hb)
      clear hti hfi hfd hci hcs ba bsz hq hmd hm2 ho2 HM HO HI' HA
      generalize hz : (allE ((ps.drop (k + 1)).map enG)).nth (i' % cn (ps.drop (k + 1))) ++ r = z at RK HML
      have HM3 := Lib.hid (HM3.out z hz.symm)
      clear hz
      generalize hnn : i' / cn (ps.drop (k + 1)) = nn at *
      clear hnn
      generalize (enG (ps[k]'hlt)).cnt = q at *
      generalize ps[k]'hlt = y at RK RC BA GB c0 c1 c2 c3
      have hoq : (o : Int) * (q : Int) = ((o * q : Nat) : Int) := (Int.natCast_mul _ _).symm
      have ho3 : (0 : Int) ≤ (o : Int) * (q : Int) := by rw [hoq]; omega
      have ho4 : (o : Int) * (q : Int) ≤ 1048576 := by rw [hoq]; omega
      have hnb : nn ≤ 1048576 := by omega
      have OQ := Lib.hid (show (o : Int) * (q : Int) + (nn : Int) = ((o * q + nn : Nat) : Int) by rw [hoq]; omega)
      have ho5 : (o : Int) * (q : Int) + (nn : Int) ≤ 1048576 := by rw [OQ.out]; omega
      clear hoq hob hcp
      go_wp2_with fail
      ((with_reducible refine RK.out.mono ?_))
      rintro e w2 ⟨L2, lc2, rfl, hl2, hat2, hb2⟩
      have A2 := Lib.hid (And.intro hl2 hat2)
      obtain ⟨k0, k1, k2, k3⟩ := GB.out w2 hb2
      have B2 := Lib.hid (BA.out.1.trans (hb2.mono BA.out.1.size))
      have W2 := Lib.hid (BA.out.2.trans (hb2.mono BA.out.2.size))
      have RC2 := Lib.hid (RC.out w2 B2.out)
      clear hl2 hat2 hb2 RK RC
      go_wp2_with fail
      ((with_reducible refine RC2.out.mono ?_))
      rintro e w3 ⟨rfl, hb3⟩
      have A3 := Lib.hid (And.intro A2.out.1 (And.intro HML.out ((A2.out.2.below hb3).more hb3.size)))
      have W3 := Lib.hid (W2.out.trans (hb3.mono W2.out.size))
      clear hb3 RC2
      go_wp2_with fail
      go_roundw
      case rel => exact ⟨k + 1, i' % cn (ps.drop (k + 1)), o * q + nn, z, L2, lc2, hlt, by go_num, rfl, by rw [OQ.out], HMD.out.1, HMD.out.2, HM3.out, A3.out, W3.out⟩
      case measure => simp [intOf]; omega
    · have hd : ps.drop k = [] := List.drop_eq_nil_of_le (by omega)
      have hr := Lib.hid (show i = o ∧ m = r by
        have h1 := HI'.out; have h2 := HO.out; have h3 := HM.out
        rw [hd] at h1 h2 h3
        rw [cn_nil] at h1 h2
        exact ⟨by omega, h3⟩)
      clear hd
      go_wp2_with fail
      go_ret2
      exact ⟨L', lc', by rw [hr.out.1, ← hr.out.2]; rfl, by rw [← hr.out.2]; exact HA.out.1, by rw [← hr.out.2]; exact HA.out.2.2, HWW.out⟩

set_option maxHeartbeats 8000000 in
set_option maxRecDepth 100000 in
theorem rank_any : ∀ n, RankOK n := by
  intro n
  induction n with
  | zero => intro t v B i l r L lc w h; exact h.elim
  | succ n ih =>
    intro t v B i l r L lc w h hB hf hc hi hlr hlc hln hat
    obtain ⟨m, A, c, e, hw, rfl, hit⟩ := h.open_
    obtain rfl : n = m := by omega
    have b1 := bel1 w (gc t A c)
    have hgl : t.subs.length ≤ 30 := by have := glen_sizes t.subs; have h3 := gsize_subs t; have := hf.size; omega
    have hi2 : i ≤ 1048576 := by omega
    have H := Lib.hid h
    have HB := Lib.hid hB
    have HF := Lib.hid hf
    have HC := Lib.hid hc
    have HI := Lib.hid hi
    have IH := Lib.hid ih
    have B1 := Lib.hid b1
    have HIT := Lib.hid (show GsAt w B n A t.subs from hit)
    have HL := Lib.hid (And.intro hlr (And.intro hlc (And.intro hln hat)))
    have hm := right_max (k := t.kind) (a := t.a) (b := t.b) (subs := t.subs) (by cases t; exact hf.1)
    clear h hB hf hc hi ih b1 hit e hw hlr hlc hln hat
    cases t with | node k a b subs =>
    simp only [Gn.kind, Gn.a, Gn.b, Gn.subs] at *
    change Calls Tryd.prog 59 #[.agg #[.int .i64 k, .int .i64 a, .int .i64 b, .slice A subs.length c], .slice L l.length lc] w _
    rcases (show k = 1 ∨ k = 2 ∨ k = 3 ∨ k = 4 ∨ k = 5 by omega) with rfl | rfl | rfl | h45
    · have EV := Lib.hid (show i = 0 ∧ l = r by
        have h1 := HI.out; have h2 := HL.out.1
        rw [enG_just] at h1 h2
        have h1 : i < 1 := h1
        exact ⟨by omega, h2⟩)
      go_enter Tryd.func59, Tryd.ntmps59
      go_wp2_with fail
      go_ret2
      exact ⟨L, lc, by rw [EV.out.1, ← EV.out.2]; rfl, by rw [← EV.out.2]; exact HL.out.2.1, by rw [← EV.out.2]; exact (HL.out.2.2.2.below B1.out).more B1.out.size, B1.out⟩
    · have EV := Lib.hid (show l = (i : Int) :: r by rw [HL.out.1, enG_int]; rfl)
      have hl1 : l.length = r.length + 1 := by rw [EV.out]; rfl
      obtain ⟨ib, off, rfl, _, hcells⟩ := HL.out.2.2.2 (by omega)
      have c0 := ((hcells 0 (by omega)))
      rw [show l.getD 0 0 = (i : Int) by rw [EV.out]; rfl] at c0
      have c0 : (w.alloc (.cells #[.int .i64 2, .int .i64 a, .int .i64 b, .slice A subs.length c] 24)).cell? ⟨ib, off, none⟩ = some (.int .i64 (i : Int)) := (B1.out.cell (p := ⟨ib, _, none⟩) ‹ib < w.heap.size›).trans c0
      have hp : 0 < l.length := by omega
      have DA := Lib.hid (show At w w.heap.size (some ⟨ib, off + 1, none⟩) r by
        have := at_drop HL.out.2.2.2 1
        rw [EV.out] at this; exact this)
      have HL1 := Lib.hid (show r.length = l.length - 1 by omega)
      have hlc := HL.out.2.1
      have hln := HL.out.2.2.1
      clear hcells hl1
      by_cases h1 : lc = 1
      · have hr0 : r.length = 0 := by have := HL1.out; omega
        have HR := Lib.hid (And.intro (List.eq_nil_of_length_eq_zero hr0) hr0)
        clear hr0
        subst h1
        have hl1 : l.length - 1 = 0 := by omega
        go_enter Tryd.func59, Tryd.ntmps59
        go_wp2_with fail
        go_region
        go_wp2_with fail
        go_ret2
        exact ⟨_, 0, by rw [HR.out.2]; rfl, by rw [HR.out.2]; exact Nat.le_refl _, by rw [HR.out.1]; exact At.nil, B1.out.drew⟩
      · go_enter Tryd.func59, Tryd.ntmps59
        go_wp2_with fail
        go_region
        go_wp2_with fail
        go_ret2
        exact ⟨_, lc - 1, by rw [HL1.out]; rfl, by rw [HL1.out]; omega, ((DA.out.below B1.out).more B1.out.size), B1.out.drew⟩
    · have EV := Lib.hid (enG_both a b subs)
      have hcn : (enG (.node 3 a b subs)).cnt = cn subs := by rw [EV.out]; rfl
      have RA := rank_all (c := c) n IH.out (w.alloc (.cells #[.int .i64 3, .int .i64 a, .int .i64 b, .slice A subs.length c] 24)) (HIT.out.below (B1.out.mono HB.out)) (by have := HB.out; simp; omega) hgl (HF.out.subs) (by rw [← hcn]; exact HC.out) i (by rw [← hcn]; exact HI.out) l r L lc (by rw [← EV.out]; exact HL.out.1) HL.out.2.1 HL.out.2.2.1 ((HL.out.2.2.2.below B1.out).more B1.out.size)
      have RA := Lib.hid RA
      clear hcn
      go_enter Tryd.func59, Tryd.ntmps59
      go_wp2_with fail
      ((with_reducible refine RA.out.mono ?_))
      rintro e w2 ⟨L2, lc2, rfl, hl2, hat2, hb2⟩
      have A2 := Lib.hid (And.intro hl2 hat2)
      have W2 := Lib.hid (B1.out.trans (hb2.mono B1.out.size))
      clear hl2 hat2 hb2
      go_wp2_with fail
      go_ret2
      exact ⟨L2, lc2, rfl, A2.out.1, A2.out.2, W2.out⟩
    · have hk5 : (Gn.node k a b subs).kind = 4 ∨ (Gn.node k a b subs).kind = 5 := h45
      have FO := Lib.hid (fun (W : World) (hb : Below w.heap.size w W) (j : Nat) (hj : j < (branches (.node k a b subs)).length) => show Calls Tryd.prog 80 #[.agg #[.int .i64 k, .int .i64 a, .int .i64 b, .slice A subs.length c], .int .i64 j] W (FPost W n (follow (.node k a b subs) j)) from following_ok (k := k) (a := a) (b := b) (subs := subs) (j := j) W (H.out.below (hb.mono HB.out)) (Nat.le_trans HB.out hb.size) HF.out h45 hj)
      have CT := show chooseC (branches (.node k a b subs)) ≤ 1048576 ∧ i < chooseC (branches (.node k a b subs)) by
        have h1 := HC.out; have h2 := HI.out; rw [enG_choose _ hk5] at h1 h2; exact ⟨h1, h2⟩
      obtain ⟨j, hj, i', hi', hii⟩ := choose_ex _ i CT.2
      have hnth : (enG (.node k a b subs)).nth i = ((j : Nat) : Int) :: ((branches (.node k a b subs))[j]'hj).nth i' := by
        rw [enG_choose _ hk5, hii]
        show chooseN 0 _ _ = _
        rw [choose_at _ 0 j hj i' hi', Nat.zero_add]
      have BC := Lib.hid (fun j hj => (branch_cnt HF.out hk5 j hj).1)
      obtain ⟨bc1, bc2⟩ := branch_cnt HF.out hk5 j hj
      rw [bc2] at hnth
      rw [bc1] at hi'
      have FF := Lib.hid (fun j => follow_fine HF.out hk5 j)
      have FL := Lib.hid (fun j hj => follow_len HF.out hk5 j hj)
      have G1 := Lib.hid (new_obj w (.cells #[.int .i64 k, .int .i64 a, .int .i64 b, .slice A subs.length c] 24))
      have hlv : l = ((j : Nat) : Int) :: ((allE ((follow (.node k a b subs) j).map enG)).nth i' ++ r) := by rw [HL.out.1, hnth]; rfl
      have FFj := FF.out j
      obtain ⟨flj, j2⟩ := FL.out j hj
      have hqj : cn (follow (.node k a b subs) j) ≤ 1048576 := by
        have h1 := chooseC_step _ j hj
        have h2 := chooseC_take (branches (.node k a b subs)) (j + 1)
        omega
      have hkd : (k == 1) = false ∧ (k == 2) = false ∧ (k == 3) = false := by refine ⟨?_, ?_, ?_⟩ <;> simp <;> omega
      obtain ⟨kd1, kd2, kd3⟩ := hkd
      have HI2 := Lib.hid (And.intro hi' (And.intro hii CT.1))
      have HJ := Lib.hid hj
      have RAL := Lib.hid (fun (W : World) (A2 : Option Addr) (c2 : Nat) (L1 : Option Addr) (lc1 : Nat) (hg : GsAt W W.heap.size n A2 (follow (.node k a b subs) j)) (h2 : ((allE ((follow (.node k a b subs) j).map enG)).nth i' ++ r).length ≤ lc1) (h3 : ((allE ((follow (.node k a b subs) j).map enG)).nth i' ++ r).length ≤ 4294967296) (h4 : At W W.heap.size L1 ((allE ((follow (.node k a b subs) j).map enG)).nth i' ++ r)) => rank_all (c := c2) n IH.out W hg (Nat.le_refl _) flj FFj hqj i' hi' _ r L1 lc1 rfl h2 h3 h4)
      have FOJ := Lib.hid (fun (W : World) (hb : Below w.heap.size w W) => FO.out W hb j hj)
      obtain ⟨ib, off, rfl, hib, hcells⟩ := HL.out.2.2.2 (by rw [hlv]; simp)
      have c0 : w.cell? ⟨ib, off, none⟩ = some (.int .i64 (j : Int)) := by
        have := hcells 0 (by rw [hlv]; simp)
        rw [show l.getD 0 0 = ((j : Nat) : Int) by rw [hlv]; rfl] at this
        exact this
      have C0 := Lib.hid (fun (W : World) (hb : Below w.heap.size w W) => (hb.cell (p := ⟨ib, off, none⟩) hib).trans c0)
      have hp : 0 < l.length := by rw [hlv]; simp
      have HZL := Lib.hid (show ((allE ((follow (.node k a b subs) j).map enG)).nth i' ++ r).length = l.length - 1 by rw [hlv]; simp)
      have DA := Lib.hid (show At w w.heap.size (some ⟨ib, off + 1, none⟩) ((allE ((follow (.node k a b subs) j).map enG)).nth i' ++ r) by
        have := at_drop HL.out.2.2.2 1
        rw [show l.drop 1 = (allE ((follow (.node k a b subs) j).map enG)).nth i' ++ r by rw [hlv]; rfl] at this; exact this)
      have hlc := HL.out.2.1
      have hln := HL.out.2.2.1
      clear hcells hlv bc1 bc2 hnth hi' hii CT FFj flj hqj hj c0 H HIT IH HC HI hm HL hk5
      have K45 := Lib.hid h45
      clear h45
      generalize (allE ((follow (.node k a b subs) j).map enG)).nth i' ++ r = zr at *
      go_enter Tryd.func59, Tryd.ntmps59
      have c0 : (w.alloc (.cells #[.int .i64 k, .int .i64 a, .int .i64 b, .slice A subs.length c] 24)).cell? ⟨ib, off, none⟩ = some (.int .i64 (j : Int)) := C0.out _ B1.out
      go_wp2_with fail
      clear c0
      go_loopw [6, 33] (fun x u wr => ∃ (ch : Nat), u = .int .i64 ch ∧ x = .int .i64 ((chooseC ((branches (.node k a b subs)).take ch) : Nat) : Int) ∧ ch ≤ j ∧ Hid (G4 w.heap.size (.int .i64 k) (.int .i64 a) (.int .i64 b) (.slice A subs.length c) wr) ∧ Hid (Below w.heap.size w wr)) (fun _ u _ => j - (intOf u).toNat)
      case atStart => exact ⟨0, rfl, rfl, Nat.zero_le _, G1.out, B1.out⟩
      case round =>
        obtain ⟨ch, rfl, rfl, hch, HG, HWW⟩ := hrel
        by_cases hlt : ch < j
        · have hcj : ch < (branches (.node k a b subs)).length := by have := HJ.out; omega
          have FO1 := Lib.hid (FO.out wr HWW.out ch hcj)
          obtain ⟨fl1, ch2⟩ := FL.out ch hcj
          have hst := chooseC_step _ ch hcj
          have hle := chooseC_take (branches (.node k a b subs)) (ch + 1)
          rw [BC.out ch hcj] at hst
          have hb1 : chooseC ((branches (.node k a b subs)).take (ch + 1)) ≤ 1048576 := by have := HI2.out.2.2; omega
          have ff1 := FF.out ch
          have HST := Lib.hid hst
          have hb2 : chooseC ((branches (.node k a b subs)).take ch) ≤ 1048576 := by omega
          have hb3 : cn (follow (.node k a b subs) ch) ≤ 1048576 := by omega
          have FL1 := Lib.hid (And.intro fl1 ff1)
          clear hst hle fl1 ff1
          generalize follow (.node k a b subs) ch = l2 at *
          generalize hs1 : chooseC ((branches (.node k a b subs)).take (ch + 1)) = s1 at *
          have HS1 := Lib.hid hs1
          clear hs1
          generalize chooseC ((branches (.node k a b subs)).take ch) = s0 at *
          obtain ⟨k0, k1, k2, k3⟩ := HG.out.facts
          go_wp2_with fail
          ((with_reducible refine FO1.out.mono ?_))
          rintro e w2 ⟨A2, c2, rfl, hlc2, hgs, hb2⟩
          have B2 := Lib.hid (HWW.out.trans (hb2.mono HWW.out.size))
          have HG2 := Lib.hid (HG.out.below hb2)
          have RC := Lib.hid (rcount_all (c := c2) w2 hgs (Nat.le_refl _) (by have := FL1.out.1; omega) FL1.out.2 hb3)
          clear hlc2 hgs hb2 FO1 k0 k1 k2 k3
          generalize cn l2 = q at *
          go_wp2_with fail
          ((with_reducible refine RC.out.mono ?_))
          rintro e w3 ⟨rfl, hb3⟩
          have B3 := Lib.hid (B2.out.trans (hb3.mono B2.out.size))
          have HG3 := Lib.hid (HG2.out.below hb3)
          clear hb3 RC
          go_wp2_with fail
          go_roundw
          case rel => exact ⟨ch + 1, by go_num, by rw [HS1.out, HST.out]; go_num, hlt, HG3.out, B3.out⟩
          case measure => simp [intOf]; omega
        · have hcj : ch = j := by omega
          subst hcj
          have FJ := Lib.hid (FOJ.out wr.drew HWW.out.drew)
          have c0 := C0.out wr HWW.out
          obtain ⟨k0, k1, k2, k3⟩ := HG.out.facts
          have RX := Lib.hid (fun (W : World) (A2 : Option Addr) (c2 : Nat) (hb : Below w.heap.size w W) (hg : GsAt W W.heap.size n A2 (follow (.node k a b subs) ch)) => RAL.out W A2 c2 (some ⟨ib, off + 1, none⟩) (lc - 1) hg (by rw [HZL.out]; omega) (by rw [HZL.out]; omega) ((DA.out.below hb).more hb.size))
          have RY := Lib.hid (fun (W : World) (A2 : Option Addr) (c2 : Nat) (hb : Below w.heap.size w W) (hg : GsAt W W.heap.size n A2 (follow (.node k a b subs) ch)) (h1 : l.length - 1 = 0) => RAL.out W A2 c2 (some ⟨ib, off, none⟩) 0 hg (by rw [HZL.out]; omega) (by rw [HZL.out]; omega) (fun hp => by rw [HZL.out] at hp; omega))
          rw [HZL.out] at RX RY
          have EQ := Lib.hid HI2.out.2.1
          have hqi : i' ≤ 1048576 := by have := EQ.out; omega
          have hsi : chooseC ((branches (.node k a b subs)).take ch) ≤ 1048576 := by have := EQ.out; omega
          clear FO FOJ RAL HZL C0 HI2
          generalize follow (.node k a b subs) ch = l2 at *
          generalize chooseC ((branches (.node k a b subs)).take ch) = s0 at *
          have hlt' : ¬ ((ch : Int) < (ch : Int)) := by omega
          have hll : (1 : Int) ≤ (l.length : Int) := by omega
          by_cases hl1 : lc = 1
          · subst hl1
            have hl0 : l.length - 1 = 0 := by omega
            have RY := Lib.hid (fun W A2 c2 hb hg => RY.out W A2 c2 hb hg hl0)
            rw [hl0] at RY
            clear RX
            go_wp2_with fail
            go_region_law (first
              | (go_simp
                 with_reducible refine FJ.out.mono ?_
                 rintro e w2 ⟨A2, c2, rfl, hlc2, hgs, hb2⟩
                 have B2 := Lib.hid (HWW.out.trans ((Below.drew (Below.refl _ _)).trans hb2 |>.mono HWW.out.size))
                 have RZ := Lib.hid (RY.out w2 A2 c2 B2.out hgs)
                 clear hlc2 hgs hb2)
              | (go_simp
                 with_reducible refine RZ.out.mono ?_
                 rintro e w3 ⟨L3, lc3, rfl, hl3, hat3, hb3⟩
                 have A3 := Lib.hid (And.intro hl3 hat3)
                 have B3 := Lib.hid (B2.out.trans (hb3.mono B2.out.size))
                 clear hl3 hat3 hb3))
            all_goals (
              go_wp2_with fail
              go_ret2
              exact ⟨L3, lc3, by rw [EQ.out, Int.natCast_add]; rfl, A3.out.1, A3.out.2, B3.out⟩)
          · clear RY
            go_wp2_with fail
            go_region_law (first
              | (go_simp
                 with_reducible refine FJ.out.mono ?_
                 rintro e w2 ⟨A2, c2, rfl, hlc2, hgs, hb2⟩
                 have B2 := Lib.hid (HWW.out.trans ((Below.drew (Below.refl _ _)).trans hb2 |>.mono HWW.out.size))
                 have RZ := Lib.hid (RX.out w2 A2 c2 B2.out hgs)
                 clear hlc2 hgs hb2)
              | (go_simp
                 with_reducible refine RZ.out.mono ?_
                 rintro e w3 ⟨L3, lc3, rfl, hl3, hat3, hb3⟩
                 have A3 := Lib.hid (And.intro hl3 hat3)
                 have B3 := Lib.hid (B2.out.trans (hb3.mono B2.out.size))
                 clear hl3 hat3 hb3))
            all_goals (
              go_wp2_with fail
              go_ret2
              exact ⟨L3, lc3, by rw [EQ.out, Int.natCast_add]; rfl, A3.out.1, A3.out.2, B3.out⟩)
end Go.Proofs.YtffkppjmdelajaaDoor.Gens

/- The program's Nth. Conditions: the size. -/
namespace Go.Proofs.YtffkppjmdelajaaDoor.Gens
open Go.RowKit Lists Ints Vals
set_option linter.unusedVariables false

/-- what Nth tells -/
def nthE (t : Gn) (i : Int) : Int := if countE t = 0 then (if i < 0 ∨ ((enG t).cnt : Int) ≤ i then 1 else 0) else countE t
def nthV (t : Gn) (i : Int) : List Int := if nthE t i = 0 then (enG t).nth i.toNat else []
theorem count_fine {t : Gn} (h : countE t = 0) : Fine t ∧ (enG t).cnt ≤ 1048576 ∧ countN t = (enG t).cnt := by
  unfold countE at h
  by_cases hz : genV t = 0
  · rw [if_pos hz] at h
    have hf := fine_of hz
    have hc := count_cap t hf.1
    by_cases hq : 1048576 < countG t
    · rw [if_pos hq] at h; cases h
    · refine ⟨hf, by omega, ?_⟩
      unfold countN
      rw [if_pos hz, if_neg hq]; omega
  · rw [if_neg hz] at h; exact absurd h hz
theorem nthE_zero {t : Gn} {i : Int} (h : nthE t i = 0) : Fine t ∧ (enG t).cnt ≤ 1048576 ∧ 0 ≤ i ∧ i.toNat < (enG t).cnt ∧ nthV t i = (enG t).nth i.toNat := by
  have hv : nthV t i = (enG t).nth i.toNat := by unfold nthV; rw [if_pos h]
  unfold nthE at h
  by_cases hc : countE t = 0
  · rw [if_pos hc] at h
    obtain ⟨hf, hb, _⟩ := count_fine hc
    by_cases hi : i < 0 ∨ ((enG t).cnt : Int) ≤ i
    · rw [if_pos hi] at h; cases h
    · exact ⟨hf, hb, by omega, by omega, hv⟩
  · rw [if_neg hc] at h; exact absurd h hc
theorem nthV_len (t : Gn) (i : Int) : (nthV t i).length ≤ 1399680 := by
  by_cases h : nthE t i = 0
  · obtain ⟨hf, _, _, hi, hv⟩ := nthE_zero h
    rw [hv]; exact nth_len hf hi
  · unfold nthV; rw [if_neg h]; simp

set_option maxHeartbeats 2000000 in
set_option maxRecDepth 100000 in
theorem nth_prog {n : Nat} {t : Gn} {v : Value} {B : Nat} (w : World) (h : GAt w (GBel B) n v t) (hB : B ≤ w.heap.size) (hsz : t.size ≤ 4294967296) (i : Int) (hi : I64 i) :
    Calls Tryd.prog 26 #[v, .int .i64 i] w fun e w' => ∃ (A' : Option Addr) (c' : Nat), e = .returned (.tuple #[.slice A' (nthV t i).length c', errOf (nthE t i)]) ∧ Own w' w.heap.size A' c' (nthV t i) ∧ Below w.heap.size w w' := by
  obtain ⟨m, A, c, e, hw, rfl, _⟩ := h.open_
  have b1 := bel1 w (gc t A c)
  have g1 : G4 w.heap.size (.int .i64 t.kind) (.int .i64 t.a) (.int .i64 t.b) (.slice A t.subs.length c) (w.alloc (gc t A c)) := new_obj w _
  have C1 := gcount (w.alloc (gc t A c)) (h.below (b1.mono hB)) (by simp; omega) hsz
  have NA := Lib.hid (fun (W : World) (hb : Below w.heap.size w W) (hf : Fine t) (hc : (enG t).cnt ≤ 1048576) (j : Nat) (hj : j < (enG t).cnt) => nth_any n t _ B j W (h.below (hb.mono hB)) (Nat.le_trans hB hb.size) hf hc hj)
  have B1 := Lib.hid b1
  have G1 := Lib.hid g1
  clear h hB hsz e hw b1 g1
  by_cases hz : countE t = 0
  · obtain ⟨hf, hc, hn⟩ := count_fine hz
    rw [hz, errOf_ok, hn] at C1
    have C1 := Lib.hid C1
    have NA := Lib.hid (NA.out (hf := hf) (hc := hc))
    have EN := Lib.hid (show nthE t i = if i < 0 ∨ ((enG t).cnt : Int) ≤ i then 1 else 0 by unfold nthE; rw [if_pos hz])
    have EV := Lib.hid (show nthV t i = if nthE t i = 0 then (enG t).nth i.toNat else [] from rfl)
    clear hz hf hn
    obtain ⟨i1, i2⟩ := hi
    go_enter Tryd.func26, Tryd.ntmps26
    go_wp2_with fail
    generalize w.alloc (gc t A c) = W1 at *
    ((with_reducible refine C1.out.mono ?_))
    rintro e w2 ⟨rfl, hb2⟩
    have B2 := Lib.hid (below_trans B1.out hb2)
    obtain ⟨k0, k1, k2, k3⟩ := (G1.out.below hb2).facts
    clear hb2 C1
    by_cases hin : i < 0 ∨ ((enG t).cnt : Int) ≤ i
    · have EN2 := Lib.hid (EN.out.trans (if_pos hin))
      have EV2 := Lib.hid (EV.out.trans (if_neg (by rw [EN2.out]; decide)))
      clear NA EN EV
      generalize (enG t).cnt = q at *
      by_cases h0 : i < 0
      · clear hin
        go_wp2_with fail
        go_ret2
        exact ⟨none, 0, by rw [EN2.out, EV2.out]; rfl, by rw [EV2.out]; exact Own.none, B2.out⟩
      · have hq : (q : Int) ≤ i := by omega
        clear hin
        go_wp2_with fail
        go_ret2
        exact ⟨none, 0, by rw [EN2.out, EV2.out]; rfl, by rw [EV2.out]; exact Own.none, B2.out⟩
    · have EN2 := Lib.hid (EN.out.trans (if_neg hin))
      have EV2 := Lib.hid (EV.out.trans (if_pos EN2.out))
      obtain ⟨j, rfl⟩ : ∃ j : Nat, i = (j : Int) := ⟨i.toNat, by omega⟩
      have NB := Lib.hid (NA.out w2 B2.out j (by omega))
      rw [Int.toNat_natCast] at EV2
      have h0 : ¬ ((j : Int) < 0) := by omega
      have hq : j < (enG t).cnt := by omega
      clear hin NA EN EV
      generalize (enG t).cnt = q at *
      generalize (enG t).nth j = z at *
      go_wp2_with fail
      ((with_reducible refine NB.out.mono ?_))
      rintro e w3 ⟨A3, c3, rfl, own3, hb3⟩
      have O3 := Lib.hid (own_base own3 B2.out.size)
      have B3 := Lib.hid (below_trans B2.out hb3)
      clear own3 hb3 NB
      go_wp2_with fail
      go_ret2
      exact ⟨A3, c3, by rw [EN2.out, EV2.out, errOf_ok]; rfl, by rw [EV2.out]; exact O3.out, B3.out⟩
  · have RE := Lib.hid (errOf_no hz)
    have EN := Lib.hid (show nthE t i = countE t by unfold nthE; rw [if_neg hz])
    have EV := Lib.hid (show nthV t i = [] by unfold nthV; rw [if_neg (by rw [EN.out]; exact hz)])
    have hn0 : countN t = 0 := by
      have hz := hz
      unfold countE at hz
      unfold countN
      by_cases hg : genV t = 0
      · rw [if_pos hg] at hz ⊢
        by_cases hq : 1048576 < countG t
        · rw [if_pos hq]
        · rw [if_neg hq] at hz; exact absurd rfl hz
      · rw [if_neg hg]
    rw [hn0, errOf_no hz] at C1
    have C1 := Lib.hid C1
    clear hz NA hn0
    generalize countE t = q at *
    go_enter Tryd.func26, Tryd.ntmps26
    go_wp2_with fail
    generalize w.alloc (gc t A c) = W1 at *
    ((with_reducible refine C1.out.mono ?_))
    rintro e w2 ⟨rfl, hb2⟩
    have B2 := Lib.hid (below_trans B1.out hb2)
    clear hb2 C1
    go_wp2_with fail
    go_ret2
    exact ⟨none, 0, by rw [EN.out, EV.out, RE.out]; rfl, by rw [EV.out]; exact Own.none, B2.out⟩
end Go.Proofs.YtffkppjmdelajaaDoor.Gens

/- The program's Rank. Conditions: the sizes. -/
namespace Go.Proofs.YtffkppjmdelajaaDoor.Gens
open Go.RowKit Lists Ints Vals
set_option linter.unusedVariables false

/-- what Rank tells -/
def rankE (t : Gn) (l : List Int) : Int := if countE t = 0 then errI (repV t l) else countE t
def rankV (t : Gn) (l : List Int) : Nat := if rankE t l = 0 then ((enG t).rank l).1 else 0
theorem rep_tape {t : Gn} {l : List Int} (h : errI (repV t l) = 0) : genV t = 0 ∧ TG t l := by
  unfold repV at h
  by_cases hz : genV t = 0
  · rw [if_pos hz] at h
    refine ⟨hz, ?_⟩
    unfold repG at h
    cases hp : play readC t l with
    | error e =>
      rw [hp] at h
      have h : e = 0 := h
      rcases play_err t l e hp with h' | h' <;> omega
    | ok p =>
      obtain ⟨c, v, r⟩ := p
      rw [hp] at h
      have h : errI (if r = [] then Except.ok v else Except.error 3) = 0 := h
      by_cases hr : r = []
      · subst hr
        have := play_took t l c v [] hp
        rw [List.append_nil] at this
        subst this
        exact ⟨v, hp⟩
      · rw [if_neg hr] at h
        have h : (3 : Int) = 0 := h
        omega
  · rw [if_neg hz] at h; exact absurd h hz
theorem rankE_zero {t : Gn} {l : List Int} (h : rankE t l = 0) : countE t = 0 ∧ Fine t ∧ (enG t).cnt ≤ 1048576 ∧ rankV t l < (enG t).cnt ∧ (enG t).nth (rankV t l) = l := by
  have hv : rankV t l = ((enG t).rank l).1 := by unfold rankV; rw [if_pos h]
  unfold rankE at h
  by_cases hc : countE t = 0
  · rw [if_pos hc] at h
    obtain ⟨hf, hb, _⟩ := count_fine hc
    have hg := good_gen t hf.1
    obtain ⟨i, hi, rfl⟩ := hg.all l (rep_tape h).2
    have hr := hg.back i hi []
    rw [List.append_nil] at hr
    rw [hv, hr]
    exact ⟨hc, hf, hb, hi, rfl⟩
  · rw [if_neg hc] at h; exact absurd h hc

set_option maxHeartbeats 2000000 in
set_option maxRecDepth 100000 in
theorem rank_prog {n : Nat} {t : Gn} {v : Value} {L : Option Addr} {l : List Int} {lc : Nat} (w : World) (h : GAt w (GBel w.heap.size) n v t) (hat : At w w.heap.size L l) (hcap : l.length ≤ lc) (hl : l.length ≤ 4294967296) (hsz : t.size ≤ 4294967296) :
    Calls Tryd.prog 27 #[v, .slice L l.length lc] w fun e w' => e = .returned (.tuple #[.int .i64 (rankV t l : Nat), errOf (rankE t l)]) ∧ Below w.heap.size w w' := by
  obtain ⟨m, A, c, e, hw, rfl, _⟩ := h.open_
  have b1 := bel1 w (gc t A c)
  have g1 : G4 w.heap.size (.int .i64 t.kind) (.int .i64 t.a) (.int .i64 t.b) (.slice A t.subs.length c) (w.alloc (gc t A c)) := new_obj w _
  have C1 := gcount (w.alloc (gc t A c)) (h.below b1) (by simp) hsz
  have R1 := Lib.hid (fun (W : World) (hb : Below w.heap.size w W) => replay_prog (L := L) (l := l) (lc := lc) W ((h.below hb).more hb.size) ((hat.below hb).more hb.size) hcap hl hsz)
  have NA := Lib.hid (fun (W : World) (hb : Below w.heap.size w W) (hf : Fine t) (hc : (enG t).cnt ≤ 1048576) (j : Nat) (hj : j < (enG t).cnt) (hlj : l = (enG t).nth j ++ []) => rank_any n t _ w.heap.size j l [] L lc W (h.below hb) hb.size hf hc hj hlj hcap hl ((hat.below hb).more hb.size))
  have B1 := Lib.hid b1
  have G1 := Lib.hid g1
  clear h hsz e hw b1 g1 hat hcap hl
  by_cases hz : countE t = 0
  · have EN := Lib.hid (show rankE t l = errI (repV t l) by unfold rankE; rw [if_pos hz])
    rw [hz, errOf_ok] at C1
    have C1 := Lib.hid C1
    have HR := Lib.hid (fun (h : rankE t l = 0) => rankE_zero h)
    have EV := Lib.hid (show rankV t l = if rankE t l = 0 then ((enG t).rank l).1 else 0 from rfl)
    clear hz
    generalize countN t = cN at *
    go_enter Tryd.func27, Tryd.ntmps27
    go_wp2_with fail
    generalize w.alloc (gc t A c) = W1 at *
    ((with_reducible refine C1.out.mono ?_))
    rintro e w2 ⟨rfl, hb2⟩
    have B2 := Lib.hid (below_trans B1.out hb2)
    have G2 := Lib.hid (G1.out.below hb2)
    obtain ⟨k0, k1, k2, k3⟩ := G2.out.facts
    clear hb2 C1
    go_wp2_with fail
    ((with_reducible refine (R1.out w2 B2.out).mono ?_))
    rintro e w3 ⟨A3, c3, rfl, ht3, hn3, hb3⟩
    have B3 := Lib.hid (below_trans B2.out hb3)
    have n4 := bel1 w3 (.cells #[.bool (trOf (repV t l)).list, .int .i64 (trOf (repV t l)).num, .slice A3 (trOf (repV t l)).items.length c3] 38)
    have B4 := Lib.hid (below_trans B3.out n4)
    have G4' := Lib.hid ((G2.out.below hb3).below n4)
    clear ht3 hn3 hb3 n4 R1 k0 k1 k2 k3
    obtain ⟨k0, k1, k2, k3⟩ := G4'.out.facts
    by_cases he : errI (repV t l) = 0
    · obtain ⟨_, hf, hc, hi, hn⟩ := HR.out (EN.out.trans he)
      have NB := Lib.hid (fun (W : World) (hb : Below w.heap.size w W) => NA.out W hb hf hc (rankV t l) hi (by rw [List.append_nil, hn]))
      have E0 := Lib.hid (EN.out.trans he)
      rw [he, errOf_ok]
      clear he HR NA EV hf hc hi hn EN
      generalize trOf (repV t l) = tv at *
      generalize hj : rankV t l = j at *
      have HJ := Lib.hid hj
      clear hj
      go_wp2_with fail
      generalize w3.alloc (.cells #[.bool tv.list, .int .i64 tv.num, .slice A3 tv.items.length c3] 38) = w4 at *
      have NC := Lib.hid (NB.out w4 B4.out)
      ((with_reducible refine NC.out.mono ?_))
      rintro e w5 ⟨L5, lc5, rfl, _, _, hb5⟩
      have B5 := Lib.hid (below_trans B4.out hb5)
      clear hb5
      go_wp2_with fail
      go_ret2
      exact ⟨by rw [E0.out, errOf_ok, HJ.out]; rfl, B5.out⟩
    · have EV2 := Lib.hid (EV.out.trans (if_neg (by rw [EN.out]; exact he)))
      have RE := Lib.hid (errOf_no he)
      rw [errOf_no he]
      clear EV HR NA he
      generalize trOf (repV t l) = tv at *
      generalize errI (repV t l) = q at *
      go_wp2_with fail
      go_ret2
      exact ⟨by rw [EN.out, EV2.out, RE.out]; rfl, B4.out⟩
  · have RE := Lib.hid (errOf_no hz)
    have EN := Lib.hid (show rankE t l = countE t by unfold rankE; rw [if_neg hz])
    have EV := Lib.hid (show rankV t l = 0 by unfold rankV; rw [if_neg (by rw [EN.out]; exact hz)])
    rw [errOf_no hz] at C1
    have C1 := Lib.hid C1
    clear hz NA R1
    generalize countE t = q at *
    generalize countN t = cN at *
    go_enter Tryd.func27, Tryd.ntmps27
    go_wp2_with fail
    generalize w.alloc (gc t A c) = W1 at *
    ((with_reducible refine C1.out.mono ?_))
    rintro e w2 ⟨rfl, hb2⟩
    have B2 := Lib.hid (below_trans B1.out hb2)
    clear hb2 C1
    go_wp2_with fail
    go_ret2
    exact ⟨by rw [EN.out, EV.out, RE.out]; rfl, B2.out⟩
end Go.Proofs.YtffkppjmdelajaaDoor.Gens
