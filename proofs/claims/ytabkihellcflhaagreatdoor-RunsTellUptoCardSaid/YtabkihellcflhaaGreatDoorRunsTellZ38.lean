/- RunsTell, part 38 of the proof: The document's own Played, of a Many. Condition: the sizes. -/
import Derived.Test.YtabkihellcflhaaGreatDoorRunsTellZ37
/- The document's own Played, of a Many. Condition: the sizes. -/
namespace Go.Proofs.YtabkihellcflhaaGreatDoor.Gens
open Go.RowKit Lists Ints Vals Go.ChangeShapes
set_option linter.unusedVariables false

set_option maxHeartbeats 16000000 in
set_option maxRecDepth 100000 in
theorem played_many (n : Nat) (ih : PlayedOK n) (a b : Int) (y : Gn) (A : Option Addr) (c : Nat) (lb : Bool) (nm : Int) (VA : Option Addr) (vl vc : Nat) (t : List Int) (TA : Option Addr) (tc k : Nat) (l : List Int) (L : Option Addr) (lc : Nat) (mend : Bool) (B : Nat) (w : World)
    (hit : GsS w (GBel B) n A [y]) (hr : Right (.node 4 a b [y])) (hsz : (Gn.node 4 a b [y]).size ≤ 4294967296) (ht : At w B TA t) (hl : At w B L l) (hB : B ≤ w.heap.size) (htl : t.length + longG (.node 4 a b [y]) ≤ 4294967296) (hll : l.length ≤ 4294967296) (hkl : k + longG (.node 4 a b [y]) ≤ 4294967296) (htc : t.length ≤ tc) :
    Calls Tryz.prog 85 #[.agg #[.int .i64 4, .int .i64 a, .int .i64 b, .slice A 1 c], pv lb nm VA vl vc TA t.length tc k 0, .slice L l.length lc, .bool mend] w (PlP (n + 1) w t TA k (play (chC mend) (.node 4 a b [y]) (l.drop k))) := by
  have HB := Lib.hid (three_play w (.node 4 a b [y]) A c (.bool lb) (.int .i64 nm) (.slice VA vl vc) (.slice TA t.length tc) (.int .i64 k) (.int .i64 0) (.bool false) (.int .i64 0) (.slice none 0 0) (.slice none 0 0) (.int .i64 0) (.int .i64 0))
  rw [show gc (.node 4 a b [y]) A c = .cells #[.int .i64 4, .int .i64 a, .int .i64 b, .slice A 1 c] 24 from rfl] at HB
  simp only [Gn.kind, Gn.a, Gn.b, Gn.subs, List.length_singleton] at HB
  have hlg : longG (.node 4 a b [y]) = 1 + 5 * longG y := by simp [longG, longs]
  obtain ⟨hm0, hm5, _⟩ := (right_max hr).2.2.1 rfl
  have IH := Lib.hid ih
  have hry : Right y := hr.subs y (by simp [Gn.subs])
  have hzs : 1 + (y.size + 0) ≤ 4294967296 := by simpa [Gn.size, gsizes] using hsz
  have HRY := Lib.hid (And.intro hry (show y.size ≤ 4294967296 by omega))
  have HK := Lib.hid (And.intro htl (And.intro hll hkl))
  have HLGY := Lib.hid (show t.length + 1 + 5 * longG y ≤ 4294967296 ∧ k + 1 + 5 * longG y ≤ 4294967296 by omega)
  have HLL := Lib.hid (fun (W : World) (hb : Below w.heap.size w W) => show At W W.heap.size L l from (hl.below (hb.mono hB)).more (Nat.le_trans hB hb.size))
  have HT := Lib.hid (And.intro ht hl)
  have HBB := Lib.hid hB
  have HIT := Lib.hid hit
  have klo : k ≤ 4294967296 := by omega
  have tlo : t.length ≤ 4294967296 := by omega
  clear ih hr hsz hzs htl hll hkl hl hlg ht hB hit hry
  go_enter Tryz.func85, Tryz.ntmps85
  go_upto_region 1 with fail
  generalize ((w.alloc (.cells #[.int .i64 4, .int .i64 a, .int .i64 b, .slice A 1 c] 24)).alloc (.cells #[.bool lb, .int .i64 nm, .slice VA vl vc, .slice TA t.length tc, .int .i64 k, .int .i64 0] 130)).alloc (.cells #[.bool false, .int .i64 0, .slice none 0 0, .slice none 0 0, .int .i64 0, .int .i64 0] 130) = W at HB ⊢
  obtain ⟨k0, k1, k2, k3⟩ := HB.out.1.facts
  obtain ⟨p0, p1, p2, p3, p4, p5⟩ := HB.out.2.1.facts
  have e0 := HB.out.2.1.free 0
  have e1 := HB.out.2.1.free 1
  have e2 := HB.out.2.1.free 2
  have e3 := HB.out.2.1.free 3
  have e4 := HB.out.2.1.free 4
  have e5 := HB.out.2.1.free 5
  have BW := Lib.hid HB.out.2.2.2.1
  have HWS := Lib.hid HB.out.2.2.2.2
  have C := choice_any lb nm VA vl vc t TA tc k l L lc mend (a) B W (HT.out.1.below (BW.out.mono HBB.out)) (HT.out.2.below (BW.out.mono HBB.out)) (Nat.le_trans HBB.out BW.out.size) tlo HK.out.2.1 klo (hm0)
  have C := Lib.hid C
  have P0 := Lib.hid HB.out.2.1
  have R0 := Lib.hid HB.out.2.2.1
  have K0 := Lib.hid HB.out.1
  clear HB
  go_wp2_with fail
  ((with_reducible refine C.out.mono ?_))
  rintro en w3 ⟨hb3, hm3⟩
  have P3 := Lib.hid (P0.out.below hb3)
  have R3 := Lib.hid (R0.out.below hb3)
  have K3 := Lib.hid (K0.out.below hb3)
  have B3 := Lib.hid (BW.out.trans (hb3.mono BW.out.size))
  have HB3 := Lib.hid hb3
  clear hb3 C k0 k1 k2 k3 p0 p1 p2 p3 p4 p5 e0 e1 e2 e3 e4 e5
  obtain ⟨k0, k1, k2, k3⟩ := K3.out.facts
  cases hch : chC mend (l.drop k) a with
  | error er =>
    rw [hch] at hm3
    obtain ⟨hne, rfl⟩ := hm3
    have EV := Lib.hid (show play (chC mend) (.node 4 a b [y]) (l.drop k) = .error er by simp [play, hch])
    clear hch
    obtain ⟨p0, p1, p2, p3, p4, p5⟩ := P3.out.facts
    have e0 := P3.out.free 0
    have e1 := P3.out.free 1
    have e2 := P3.out.free 2
    have e3 := P3.out.free 3
    have e4 := P3.out.free 4
    have e5 := P3.out.free 5
    have P4 := Lib.hid (P3.out.put6 (.bool lb) (.int .i64 nm) (.slice VA vl vc) (.slice TA t.length tc) (.int .i64 k) (.int .i64 er))
    have GR4 := Lib.hid (put6_gr w3 (w.heap.size + 1) (.bool lb) (.int .i64 nm) (.slice VA vl vc) (.slice TA t.length tc) (.int .i64 k) (.int .i64 er))
    have R4 := Lib.hid (R3.out.same (GR4.out.block (w.heap.size + 1 + 1) R3.out.lt (fun e => by have e := Option.some.inj e; omega)))
    have B4 := Lib.hid (B3.out.grown GR4.out B3.out.size (fun g hg => by have hg := Option.some.inj hg; omega))
    go_upto_region 18 with fail
    generalize (((((w3.setCell ⟨w.heap.size + 1, 0, none⟩ (.bool lb)).setCell ⟨w.heap.size + 1, 1, none⟩ (.int .i64 nm)).setCell ⟨w.heap.size + 1, 2, none⟩ (.slice VA vl vc)).setCell ⟨w.heap.size + 1, 3, none⟩ (.slice TA t.length tc)).setCell ⟨w.heap.size + 1, 4, none⟩ (.int .i64 k)).setCell ⟨w.heap.size + 1, 5, none⟩ (.int .i64 er) = W4 at P4 GR4 R4 B4 ⊢
    clear p0 p1 p2 p3 p4 p5 e0 e1 e2 e3 e4 e5
    clear k0 k1 k2 k3
    go_wp2_with fail
    go_loopw [10, 11] (fun s i wr => s = .slice none 0 0 ∧ i = .int .i64 0 ∧ wr = W4) (fun _ _ _ => 0)
    case atStart => exact ⟨rfl, rfl, rfl⟩
    case round =>
      obtain ⟨rfl, rfl, rfl⟩ := hrel
      go_upto_region 23 with fail
      have n1 := bel1 wr (.cells #[.bool true, .int .i64 0, .slice none 0 0] 47)
      have V1 := Lib.hid (show V3 wr.heap.size (.bool true) (.int .i64 0) (.slice none 0 0) (wr.alloc (.cells #[.bool true, .int .i64 0, .slice none 0 0] 47)) from new_obj wr _)
      have P6' := Lib.hid (P4.out.below n1)
      have R6' := Lib.hid (R4.out.below n1)
      have B6' := Lib.hid (B4.out.trans (n1.mono B4.out.size))
      clear n1
      generalize wr.alloc (.cells #[.bool true, .int .i64 0, .slice none 0 0] 47) = W1 at V1 P6' R6' B6' ⊢
      generalize wr.heap.size = vb at *
      go_wp2_with fail
      go_loopw [13] (fun i wr2 => i = .int .i64 0 ∧ wr2 = W1) (fun _ _ => 0)
      case atStart => exact ⟨rfl, rfl⟩
      case round =>
        obtain ⟨rfl, hw⟩ := hrel
        replace hw := hw.symm
        subst hw
        obtain ⟨v0, v1, v2, _, _, _⟩ := V1.out.facts
        obtain ⟨p0, p1, p2, p3, p4, p5⟩ := P6'.out.facts
        have e0 := P6'.out.free 0
        have e1 := P6'.out.free 1
        have e2 := P6'.out.free 2
        have e3 := P6'.out.free 3
        have e4 := P6'.out.free 4
        have e5 := P6'.out.free 5
        have P5 := Lib.hid (P6'.out.put3 (.bool true) (.int .i64 0) (.slice none 0 0))
        have GR5 := Lib.hid (put3_gr W1 (w.heap.size + 1) (.bool true) (.int .i64 0) (.slice none 0 0))
        have R5 := Lib.hid (R6'.out.same (GR5.out.block (w.heap.size + 1 + 1) R6'.out.lt (fun e => by have e := Option.some.inj e; omega)))
        have B5 := Lib.hid (B6'.out.grown GR5.out B6'.out.size (fun g hg => by have hg := Option.some.inj hg; omega))
        go_upto_region 29 with fail
        generalize ((W1.setCell ⟨w.heap.size + 1, 0, none⟩ (.bool true)).setCell ⟨w.heap.size + 1, 1, none⟩ (.int .i64 0)).setCell ⟨w.heap.size + 1, 2, none⟩ (.slice none 0 0) = W5 at P5 GR5 R5 B5 ⊢
        clear p0 p1 p2 p3 p4 p5 e0 e1 e2 e3 e4 e5
        obtain ⟨p0, p1, p2, p3, p4, p5⟩ := P5.out.facts
        obtain ⟨r0, r1, r2, r3, r4, r5⟩ := R5.out.facts
        have f0 := R5.out.free 0
        have f1 := R5.out.free 1
        have f2 := R5.out.free 2
        have f3 := R5.out.free 3
        have f4 := R5.out.free 4
        have f5 := R5.out.free 5
        have Q := Lib.hid (And.intro (R5.out.put6 (.bool true) (.int .i64 0) (.slice none 0 0) (.slice TA t.length tc) (.int .i64 k) (.int .i64 er)).facts (And.intro (B5.out.grown (put6_gr W5 (w.heap.size + 1 + 1) (.bool true) (.int .i64 0) (.slice none 0 0) (.slice TA t.length tc) (.int .i64 k) (.int .i64 er)) B5.out.size (fun g hg => by have hg := Option.some.inj hg; omega)) (put6_gr W5 (w.heap.size + 1 + 1) (.bool true) (.int .i64 0) (.slice none 0 0) (.slice TA t.length tc) (.int .i64 k) (.int .i64 er))))
        go_wp2_with fail
        generalize (((((W5.setCell ⟨w.heap.size + 1 + 1, 0, none⟩ (.bool true)).setCell ⟨w.heap.size + 1 + 1, 1, none⟩ (.int .i64 0)).setCell ⟨w.heap.size + 1 + 1, 2, none⟩ (.slice none 0 0)).setCell ⟨w.heap.size + 1 + 1, 3, none⟩ (.slice TA t.length tc)).setCell ⟨w.heap.size + 1 + 1, 4, none⟩ (.int .i64 k)).setCell ⟨w.heap.size + 1 + 1, 5, none⟩ (.int .i64 er) = W9 at Q ⊢
        obtain ⟨q0, q1, q2, q3, q4, q5⟩ := Q.out.1
        refine bodyPost_ret (v := .agg #[.bool true, .int .i64 0, .slice none 0 0, .slice TA t.length tc, .int .i64 k, .int .i64 er]) (by simp [results, Tryz.results85, go_sem, q0, q1, q2, q3, q4, q5]) rfl ?_
        rw [EV.out]
        exact ⟨Q.out.2.1, hne, true, 0, none, 0, 0, TA, t.length, tc, k, rfl⟩
  | ok p =>
    obtain ⟨x, s1⟩ := p
    rw [hch] at hm3
    obtain ⟨TA1, tc1, rfl, htp, hcp⟩ := hm3
    have HCP := Lib.hid hcp
    clear hcp
    obtain ⟨hx0, hx1⟩ := chC_bounded mend _ _ _ _ hm0 hch
    obtain ⟨xn, rfl⟩ : ∃ xn : Nat, x = (xn : Int) := ⟨x.toNat, by omega⟩
    have hx5 : xn ≤ 5 := by omega
    have hs1 : s1 = l.drop (k + 1) := by have := chC_tails mend _ _ _ _ hch; rw [this, List.drop_drop]
    obtain ⟨ps, hps⟩ : ∃ ps, ps = List.replicate xn y := ⟨_, rfl⟩
    obtain ⟨r, hrr⟩ : ∃ r, r = play (chC mend) (.node 4 a b [y]) (l.drop k) := ⟨_, rfl⟩
    rw [← hrr]
    have HBAD := Lib.hid (fun er (h : playAll (chC mend) ps (l.drop (k + 1)) = .error er) => show r = .error er by rw [hps] at h; rw [hrr]; simp [play, hch, hs1, rep_all', h])
    have HGOOD := Lib.hid (fun cj acc s (h : playAll (chC mend) ps (l.drop (k + 1)) = .ok (cj, acc, s)) => show r = .ok ([(xn : Int)] ++ cj, .node true 0 acc, s) by rw [hps] at h; rw [hrr]; simp [play, hch, hs1, rep_all', h])
    have HPS := Lib.hid (And.intro hps (show ps.length = xn by rw [hps, List.length_replicate]))
    have HLG := Lib.hid (show (t ++ [(xn : Int)]).length + longs ps ≤ 4294967296 ∧ (k + 1) + longs ps ≤ 4294967296 by
      have h1 : ∀ m, longs (List.replicate m y) = m * longG y := by
        intro m
        induction m with
        | zero => simp [longs]
        | succ m ih => rw [List.replicate_succ, longs, ih, Nat.succ_mul]; omega
      have h2 := HLGY.out
      have h3 : xn * longG y ≤ 5 * longG y := Nat.mul_le_mul_right _ hx5
      rw [hps, h1, List.length_append, List.length_singleton]
      omega)
    have HR := Lib.hid (show ∀ z ∈ ps, Right z from fun z hz => by rw [hps] at hz; rw [List.eq_of_mem_replicate hz]; exact HRY.out.1)
    have HZ := Lib.hid (show ∀ z ∈ ps, z.size ≤ 4294967296 from fun z hz => by rw [hps] at hz; rw [List.eq_of_mem_replicate hz]; exact HRY.out.2)
    have HTP := Lib.hid htp
    have HTB := Lib.hid (show ∀ g, blockOf TA1 = some g → w.heap.size ≤ g by
      intro g hg
      obtain ⟨b', off', e', hb', _⟩ := htp (by simp)
      subst e'
      have hg : b' = g := by simpa [blockOf] using hg
      have h1 := hb'.1
      have h2 := HWS.out
      omega)
    have HRR := Lib.hid hrr
    clear hch htp hs1 hrr hps
    obtain ⟨p0, p1, p2, p3, p4, p5⟩ := P3.out.facts
    have e0 := P3.out.free 0
    have e1 := P3.out.free 1
    have e2 := P3.out.free 2
    have e3 := P3.out.free 3
    have e4 := P3.out.free 4
    have e5 := P3.out.free 5
    have P4 := Lib.hid (P3.out.put6 (.bool lb) (.int .i64 nm) (.slice VA vl vc) (.slice TA1 (t.length + 1) tc1) (.int .i64 (k + 1)) (.int .i64 0))
    have GR4 := Lib.hid (put6_gr w3 (w.heap.size + 1) (.bool lb) (.int .i64 nm) (.slice VA vl vc) (.slice TA1 (t.length + 1) tc1) (.int .i64 (k + 1)) (.int .i64 0))
    have R4 := Lib.hid (R3.out.same (GR4.out.block (w.heap.size + 1 + 1) R3.out.lt (fun e => by have e := Option.some.inj e; omega)))
    have B4 := Lib.hid (B3.out.grown GR4.out B3.out.size (fun g hg => by have hg := Option.some.inj hg; omega))
    go_upto_region 18 with fail
    generalize (((((w3.setCell ⟨w.heap.size + 1, 0, none⟩ (.bool lb)).setCell ⟨w.heap.size + 1, 1, none⟩ (.int .i64 nm)).setCell ⟨w.heap.size + 1, 2, none⟩ (.slice VA vl vc)).setCell ⟨w.heap.size + 1, 3, none⟩ (.slice TA1 (t.length + 1) tc1)).setCell ⟨w.heap.size + 1, 4, none⟩ (.int .i64 (k + 1))).setCell ⟨w.heap.size + 1, 5, none⟩ (.int .i64 0) = W4 at P4 GR4 R4 B4 ⊢
    clear p0 p1 p2 p3 p4 p5 e0 e1 e2 e3 e4 e5
    have K4 := Lib.hid (show G4 w.heap.size _ _ _ _ _ from (GR4.out.block w.heap.size K3.out.lt (fun e => by have e := Option.some.inj e; omega)).trans K3.out)
    clear k0 k1 k2 k3
    obtain ⟨k0, k1, k2, k3⟩ := K4.out.facts
    have BA4 := Lib.hid (fun (W' : World) (hb : Below W4.heap.size W4 W') => (K4.out.below hb).facts)
    have SB4 := Lib.hid (fun (W' : World) (hb : Below W4.heap.size W4 W') => sub_as HIT.out ((B4.out.trans (hb.mono B4.out.size)).mono HBB.out) 0 (by simp))
    obtain ⟨ib, off, D, d, rfl, y0, y1, y2, y3, hti⟩ := SB4.out W4 (Below.refl _ _)
    have HTI := Lib.hid hti
    have HY := Lib.hid (fun (W' : World) (hb : Below W4.heap.size W4 W') => show W'.cell? ⟨ib, off, none⟩ = some (.int .i64 y.kind) ∧ W'.cell? ⟨ib, off + 1, none⟩ = some (.int .i64 y.a) ∧ W'.cell? ⟨ib, off + 2, none⟩ = some (.int .i64 y.b) ∧ W'.cell? ⟨ib, off + 3, none⟩ = some (.slice D y.subs.length d) from
      ⟨(hb.cell (p := ⟨ib, off, none⟩) (World.block_lt_of_cell? _ _ y0)).trans y0, (hb.cell (p := ⟨ib, off + 1, none⟩) (World.block_lt_of_cell? _ _ y1)).trans y1, (hb.cell (p := ⟨ib, off + 2, none⟩) (World.block_lt_of_cell? _ _ y2)).trans y2, (hb.cell (p := ⟨ib, off + 3, none⟩) (World.block_lt_of_cell? _ _ y3)).trans y3⟩)
    clear hti y0 y1 y2 y3 SB4 k0 k1 k2 k3
    go_wp2_with fail
    go_loopw [10, 11] (fun s i wr => ∃ (m : Nat) (SA : Option Addr) (sc : Nat), m ≤ xn ∧ i = .int .i64 m ∧ s = .slice SA m sc ∧ Hid (OwnQ wr W4.heap.size SA sc [.int .i64 y.kind, .int .i64 y.a, .int .i64 y.b, .slice D y.subs.length d] m) ∧ Hid (Below W4.heap.size W4 wr)) (fun _ i _ => xn - (intOf i).toNat)
    case atStart => exact ⟨0, none, 0, Nat.zero_le _, rfl, rfl, OwnQ.none_, Below.refl _ _⟩
    case round =>
      obtain ⟨m, SA, sc, hmx, rfl, rfl, HQ, HW⟩ := hrel
      obtain ⟨k0, k1, k2, k3⟩ := BA4.out wr HW.out
      obtain ⟨y0, y1, y2, y3⟩ := HY.out wr HW.out
      by_cases hlt : m < xn
      · have hli : (m : Int) < (xn : Int) := by omega
        go_wp2_with (
          at_builtin
          refine wpList_append_q rfl (.tmp 90) (.tmp 95) rfl W4.heap.size sc m SA (.int .i64 y.kind) (.int .i64 y.a) (.int .i64 y.b) (.slice D y.subs.length d) (HQ.out.below (bel1 _ _)) wr.heap.size 1 (G4.facts (new_obj wr _)).1 (G4.facts (new_obj wr _)).2.1 (G4.facts (new_obj wr _)).2.2.1 (G4.facts (new_obj wr _)).2.2.2 ⟨rfl, rfl, rfl, rfl⟩ rfl rfl (by omega) (by have := HW.out.size; simp; omega) ?_
          intro A6 c6 w6 own6 g6
          have O6 := Lib.hid own6
          have W6 := Lib.hid (Below.grown (Below.alloc HW.out HW.out.size (gc y D d)) g6 (by have := HW.out.size; simp; omega) (fun g hg => (HQ.out.ge g hg).1))
          clear own6 g6)
        go_roundw
        case rel => exact ⟨m + 1, A6, c6, hlt, by go_num, rfl, O6.out, W6.out⟩
        case measure => simp [intOf]; omega
      · have hmp : m = ps.length := by have := HPS.out.2; omega
        have hni : ¬ ((m : Int) < (xn : Int)) := by omega
        have HLN := Lib.hid (show ps.length ≤ 4294967296 by have := HPS.out.2; omega)
        go_upto_region 23 with fail
        have n1 := bel1 wr (.cells #[.bool true, .int .i64 0, .slice none 0 0] 47)
        have V1 := Lib.hid (show V3 wr.heap.size (.bool true) (.int .i64 0) (.slice none 0 0) (wr.alloc (.cells #[.bool true, .int .i64 0, .slice none 0 0] 47)) from new_obj wr _)
        have Z1 := Lib.hid (show (wr.alloc (.cells #[.bool true, .int .i64 0, .slice none 0 0] 47)).heap.size = wr.heap.size + 1 by simp)
        have Q1 := Lib.hid (HQ.out.below n1)
        have N4 := Lib.hid (HW.out.trans (n1.mono HW.out.size))
        clear n1 k0 k1 k2 k3 y0 y1 y2 y3
        generalize wr.alloc (.cells #[.bool true, .int .i64 0, .slice none 0 0] 47) = W1 at *
        subst hmp
        obtain ⟨vb, hvb⟩ : ∃ vb, vb = wr.heap.size := ⟨_, rfl⟩
        obtain ⟨base, hbase⟩ : ∃ base, base = W1.heap.size := ⟨_, rfl⟩
        rw [← hvb] at V1 ⊢
        obtain ⟨S, hSS⟩ : ∃ S : Nat → Prop, S = fun g => g < B ∨ blockOf SA = some g := ⟨_, rfl⟩
        have HX := Lib.hid (show (∀ b, S b → b ≠ w.heap.size + 1 ∧ b ≠ w.heap.size + 1 + 1 ∧ b ≠ vb ∧ b < base) ∧ (w.heap.size ≤ w.heap.size + 1 ∧ w.heap.size + 1 < base) ∧ (w.heap.size ≤ w.heap.size + 1 + 1 ∧ w.heap.size + 1 + 1 < base) ∧ (w.heap.size ≤ vb ∧ vb < base) ∧ w.heap.size + 1 ≠ w.heap.size + 1 + 1 ∧ w.heap.size + 1 ≠ vb ∧ w.heap.size + 1 + 1 ≠ vb by
          have h1 := R4.out.lt
          have h2 := Z1.out
          have h3 := HBB.out
          have h4 := HW.out.size
          refine ⟨fun b hb => ?_, by omega, by omega, by omega, by omega, by omega, by omega⟩
          rw [hSS] at hb
          have hb : b < B ∨ blockOf SA = some b := hb
          rcases hb with hb | hb
          · omega
          · have h5 := HQ.out.ge b hb
            omega)
        obtain ⟨TT, hTT⟩ : ∃ TT, TT = TA1 := ⟨_, rfl⟩
        have HTT := Lib.hid (show ∀ g, blockOf TT = some g → w.heap.size ≤ g from by rw [hTT]; exact HTB.out)
        have HM := Lib.hid (PM.start (ch := chC mend) (ps := ps) (r := r) (l := l) (t1 := t ++ [(xn : Int)]) (k1 := k + 1) (n := n) (S := S) (SA := SA) (base := base) (w := w) (TA1 := TT) (P4.out.below N4.out) V1.out (R4.out.below N4.out)
          (by
            have h := OwnQ.gs (n := n) (S := S) Q1.out (fun g hg => by rw [hSS]; exact .inr hg) (HTI.out.keep fun b hb => ⟨by rw [hSS]; exact .inl hb, fun o => N4.out.cell (p := ⟨b, o, none⟩) (by have hb : b < B := hb; have h1 := HBB.out; have h2 := B4.out.size; show b < W4.heap.size; omega)⟩)
            have e : List.replicate ps.length y = ps := by rw [HPS.out.2]; exact HPS.out.1.symm
            rw [e] at h
            exact h)
          (B4.out.trans (N4.out.mono B4.out.size)) (by omega)
          (.inl ⟨rfl, by simp, by push_cast; rfl, hTT.symm, (at_put1 HTP.out GR4.out (by have := HWS.out; omega)).keep fun b hb hlt => ⟨⟨by have h1 := HWS.out; have h2 := HW.out.size; have hb : W.heap.size ≤ b := hb; refine ⟨?_, ?_, ?_⟩ <;> omega, Nat.lt_of_lt_of_le hlt N4.out.size⟩, fun o => N4.out.cell (p := ⟨b, o, none⟩) hlt⟩, HCP.out⟩))
        have HVB := Lib.hid (And.intro hvb hbase)
        clear hTT hvb hbase hSS V1 Z1 Q1 N4 HQ HW HTI
        go_wp2_with fail
        go_loopw [13] (fun i wr => ∃ (j : Nat) (xs : List (Value × Value × Value)) (A1 : Option Addr) (cA1 : Nat) (lb1 : Bool) (nm1 : Int) (VA1 : Option Addr) (vl1 vc1 : Nat) (TA1 : Option Addr) (tl1 tc1 : Nat) (a1 er1 : Int), i = .int .i64 j ∧ Hid (PM (chC mend) (ps) r l (t ++ [(xn : Int)]) (k + 1) n S (SA) (w.heap.size + 1) (w.heap.size + 1 + 1) vb base w (TT) j xs A1 cA1 lb1 nm1 VA1 vl1 vc1 TA1 tl1 tc1 a1 er1 wr)) (fun i _ => (ps).length - (intOf i).toNat)
        case atStart => exact ⟨0, [], none, 0, _, _, _, _, _, _, _, _, _, _, rfl, HM.out⟩
        case round =>
          obtain ⟨j, xs, A1, cA1, lb1, nm1, VA1, vl1, vc1, TA1, tl1, tc1, a1, er1, rfl, HJ⟩ := hrel
          obtain ⟨hS, hpb, hrb, hvb, hpr, hpv, hrv⟩ := HX.out
          by_cases hlt : j < (ps).length
          · obtain ⟨ib, off, D, d, rfl, y0, y1, y2, y3, hg⟩ := HJ.out.gs.sub j hlt
            obtain ⟨p0, p1, p2, p3, p4, p5⟩ := HJ.out.box.facts
            have CALL := Lib.hid (HJ.out.call (lc := lc) IH.out hlt HR.out HZ.out hS hpb hrb hvb (HLL.out wr HJ.out.bel) HK.out.2.1 HLG.out HBAD.out (Below.refl wr.heap.size wr).drew hg)
            have LEN := Lib.hid HJ.out.len
            have hjl : j ≤ 4294967296 := by have := HLN.out; omega
            have hji : (j : Int) < ((ps).length : Int) := by omega
            have NX := Lib.hid (fun lb' nm' VA' vl' vc' TA' tl' tc' a' e' w3 w4 w5 w6 w7 hb3 hn h4 h5 A' c' zl hz hown g6 r6 h7 => HJ.out.next hlt hS hpb hrb hvb hpr hpv hrv (lb' := lb') (nm' := nm') (VA' := VA') (vl' := vl') (vc' := vc') (TA' := TA') (tl' := tl') (tc' := tc') (a' := a') (e' := e') (w3 := w3) (w4 := w4) (w5 := w5) (w6 := w6) (w7 := w7) hb3 hn h4 h5 (A' := A') (c' := c') (zl := zl) hz hown g6 r6 h7)
            clear hg
            generalize (ps)[j]'hlt = y at *
            go_wp2_with fail
            go_region_law (first
              | (go_simp
                 with_reducible refine CALL.out.mono ?_
                 rintro en w3 ⟨lb2, nm2, VA2, vl2, vc2, TA2, tl2, tc2, a2, er2, rfl, hb3, hn⟩
                 have HN := Lib.hid (And.intro hb3 hn)
                 have P3 := Lib.hid (HJ.out.box.below hb3)
                 clear hb3 hn
                 obtain ⟨p0, p1, p2, p3, p4, p5⟩ := P3.out.facts
                 have e0 := P3.out.free 0
                 have e1 := P3.out.free 1
                 have e2 := P3.out.free 2
                 have e3 := P3.out.free 3
                 have e4 := P3.out.free 4
                 have e5 := P3.out.free 5))
            all_goals (
              go_upto_region 27 with fail
              have GR4 := Lib.hid (put6_gr w3 (w.heap.size + 1) (.bool lb2) (.int .i64 nm2) (.slice VA2 vl2 vc2) (.slice TA2 tl2 tc2) (.int .i64 a2) (.int .i64 er2))
              have P4 := Lib.hid (P3.out.put6 (.bool lb2) (.int .i64 nm2) (.slice VA2 vl2 vc2) (.slice TA2 tl2 tc2) (.int .i64 a2) (.int .i64 er2))
              have V4 := Lib.hid (show V3 vb _ _ _ _ from (GR4.out.block vb (HJ.out.vbox.below HN.out.1).lt (fun e => hpv (Option.some.inj e).symm)).trans (HJ.out.vbox.below HN.out.1))
              have ROW := Lib.hid (fun w5 (b5 : Below _ _ w5) => HJ.out.row_at hpb.2 HN.out.1 GR4.out b5)
              generalize hw4 : (((((w3.setCell ⟨w.heap.size + 1, 0, none⟩ (.bool lb2)).setCell ⟨w.heap.size + 1, 1, none⟩ (.int .i64 nm2)).setCell ⟨w.heap.size + 1, 2, none⟩ (.slice VA2 vl2 vc2)).setCell ⟨w.heap.size + 1, 3, none⟩ (.slice TA2 tl2 tc2)).setCell ⟨w.heap.size + 1, 4, none⟩ (.int .i64 a2)).setCell ⟨w.heap.size + 1, 5, none⟩ (.int .i64 er2) = w4 at GR4 P4 V4 ROW ⊢
              have HW4 := Lib.hid hw4
              clear hw4 p0 p1 p2 p3 p4 p5 e0 e1 e2 e3 e4 e5
              obtain ⟨p0, p1, p2, p3, p4, p5⟩ := P4.out.facts
              obtain ⟨v0, v1, v2, _, _, _⟩ := V4.out.facts
              have hvA : ∀ g, blockOf A1 = some g → base ≤ g := fun g hg => (HJ.out.row.ge g hg).1
              have HVA := Lib.hid hvA
              have hxl : xs.length + 1 ≤ 1099511627776 := by have := LEN.out; omega
              have HBS := Lib.hid (show base ≤ w4.heap.size from Nat.le_trans HJ.out.size (Nat.le_trans HN.out.1.size GR4.out.size))
              clear hvA
              go_wp2_with (
                at_builtin
                refine wpList_append_v rfl (.tmp 113) (.tmp 116) rfl base cA1 A1 xs (ROW.out _ (bel1 _ _)) w4.heap.size (.bool lb2) (.int .i64 nm2) (.slice VA2 vl2 vc2) 1 (V3.facts (new_obj w4 _)).1 (V3.facts (new_obj w4 _)).2.1 (V3.facts (new_obj w4 _)).2.2.1 ⟨rfl, rfl, rfl⟩ rfl rfl hxl (by have := HBS.out; simp; omega) ?_
                intro A6 c6 w6 z6 hz6 own6 g6 r6
                have V6 := Lib.hid (show V3 vb (.bool true) (.int .i64 0) (.slice A1 xs.length cA1) w6 from (g6.block vb (by have := V4.out.lt; simp; omega) (fun e => by have := HVA.out vb e.symm; omega)).trans (V4.out.below (bel1 _ _)))
                obtain ⟨u0, u1, u2, u3, u4, u5⟩ := V6.out.facts
                have PX := Lib.hid (fun w7 h7 => NX.out lb2 nm2 VA2 vl2 vc2 TA2 tl2 tc2 a2 er2 w3 w4 _ w6 w7 HN.out.1 HN.out.2 HW4.out.symm rfl A6 c6 z6 hz6.out own6 g6 r6 h7)
                clear own6 g6 r6)
              go_roundw
              case rel => exact ⟨j + 1, z6, A6, c6, lb2, nm2, VA2, vl2, vc2, TA2, tl2, tc2, a2, er2, by go_num, PX.out _ rfl⟩
              case measure => simp [intOf]; omega)
          · have hjn : ¬ ((j : Int) < ((ps).length : Int)) := by omega
            have HJE := Lib.hid (show j = (ps).length by have := HJ.out.le; omega)
            obtain ⟨v0, v1, v2, _, _, _⟩ := HJ.out.vbox.facts
            obtain ⟨p0, p1, p2, p3, p4, p5⟩ := HJ.out.box.facts
            have e0 := HJ.out.box.free 0
            have e1 := HJ.out.box.free 1
            have e2 := HJ.out.box.free 2
            have e3 := HJ.out.box.free 3
            have e4 := HJ.out.box.free 4
            have e5 := HJ.out.box.free 5
            have P5 := Lib.hid (HJ.out.box.put3 (.bool true) (.int .i64 0) (.slice A1 xs.length cA1))
            have GR5 := Lib.hid (put3_gr wr (w.heap.size + 1) (.bool true) (.int .i64 0) (.slice A1 xs.length cA1))
            have R5 := Lib.hid (HJ.out.rbox.same (GR5.out.block (w.heap.size + 1 + 1) HJ.out.rbox.lt (fun e => by have e := Option.some.inj e; omega)))
            have B5 := Lib.hid (HJ.out.bel.grown GR5.out HJ.out.bel.size (fun g hg => by have hg := Option.some.inj hg; omega))
            go_upto_region 29 with fail
            generalize ((wr.setCell ⟨w.heap.size + 1, 0, none⟩ (.bool true)).setCell ⟨w.heap.size + 1, 1, none⟩ (.int .i64 0)).setCell ⟨w.heap.size + 1, 2, none⟩ (.slice A1 xs.length cA1) = W5 at P5 GR5 R5 B5 ⊢
            clear p0 p1 p2 p3 p4 p5 e0 e1 e2 e3 e4 e5
            obtain ⟨p0, p1, p2, p3, p4, p5⟩ := P5.out.facts
            obtain ⟨r0, r1, r2, r3, r4, r5⟩ := R5.out.facts
            have f0 := R5.out.free 0
            have f1 := R5.out.free 1
            have f2 := R5.out.free 2
            have f3 := R5.out.free 3
            have f4 := R5.out.free 4
            have f5 := R5.out.free 5
            have Q := Lib.hid (And.intro (R5.out.put6 (.bool true) (.int .i64 0) (.slice A1 xs.length cA1) (.slice TA1 tl1 tc1) (.int .i64 a1) (.int .i64 er1)).facts (And.intro (B5.out.grown (put6_gr W5 (w.heap.size + 1 + 1) (.bool true) (.int .i64 0) (.slice A1 xs.length cA1) (.slice TA1 tl1 tc1) (.int .i64 a1) (.int .i64 er1)) B5.out.size (fun g hg => by have hg := Option.some.inj hg; omega)) (put6_gr W5 (w.heap.size + 1 + 1) (.bool true) (.int .i64 0) (.slice A1 xs.length cA1) (.slice TA1 tl1 tc1) (.int .i64 a1) (.int .i64 er1))))
            go_wp2_with fail
            generalize (((((W5.setCell ⟨w.heap.size + 1 + 1, 0, none⟩ (.bool true)).setCell ⟨w.heap.size + 1 + 1, 1, none⟩ (.int .i64 0)).setCell ⟨w.heap.size + 1 + 1, 2, none⟩ (.slice A1 xs.length cA1)).setCell ⟨w.heap.size + 1 + 1, 3, none⟩ (.slice TA1 tl1 tc1)).setCell ⟨w.heap.size + 1 + 1, 4, none⟩ (.int .i64 a1)).setCell ⟨w.heap.size + 1 + 1, 5, none⟩ (.int .i64 er1) = W9 at Q ⊢
            obtain ⟨q0, q1, q2, q3, q4, q5⟩ := Q.out.1
            refine bodyPost_ret (v := .agg #[.bool true, .int .i64 0, .slice A1 xs.length cA1, .slice TA1 tl1 tc1, .int .i64 a1, .int .i64 er1]) (by simp [results, Tryz.results85, go_sem, q0, q1, q2, q3, q4, q5]) rfl ?_
            first | rw [← HRR.out] | skip
            exact HJ.out.done HJE.out hpb hrb (t := t) (c0 := [(xn : Int)]) (TA := TA) (k := k) rfl rfl (.inr HTT.out) HGOOD.out GR5.out Q.out.2.2
end Go.Proofs.YtabkihellcflhaaGreatDoor.Gens
