/- RunsTell, part 39 of the proof: The document's own Played, of every generator. Condition: the sizes. -/
import Derived.Test.YtabkihellcflhaaGreatDoorRunsTellZ37
import Derived.Test.YtabkihellcflhaaGreatDoorRunsTellZ38
/- The document's own Played, of every generator. Condition: the sizes. -/
namespace Go.Proofs.YtabkihellcflhaaGreatDoor.Gens
open Go.RowKit Lists Ints Vals Go.ChangeShapes
set_option linter.unusedVariables false

set_option maxHeartbeats 8000000 in
set_option maxRecDepth 100000 in
theorem played_any : ∀ n, PlayedOK n := by
  intro n
  induction n with
  | zero => intro g v lb nm VA vl vc t TA tc k l L lc mend B w h; exact h.elim
  | succ n ih =>
    intro g v lb nm VA vl vc t TA tc k l L lc mend B w h hr hsz ht hl hB htl hll hkl htc
    obtain ⟨m, A, c, e, hw, rfl, hit⟩ := h.open_
    obtain rfl : n = m := by omega
    by_cases h34 : g.kind = 3 ∨ g.kind = 4
    · cases g with | node kk a b subs =>
      rcases h34 with h3 | h3
      · obtain rfl : kk = 3 := h3
        exact played_both n ih a b subs A c lb nm VA vl vc t TA tc k l L lc mend B w hit hr hsz ht hl hB htl hll hkl htc
      · obtain rfl : kk = 4 := h3
        obtain ⟨y, rfl⟩ : ∃ y, subs = [y] := List.length_eq_one_iff.1 ((right_max hr).2.2.1 rfl).2.2
        exact played_many n ih a b y A c lb nm VA vl vc t TA tc k l L lc mend B w hit hr hsz ht hl hB htl hll hkl htc
    have HTC := Lib.hid htc
    clear htc
    have HB := Lib.hid (three_play w g A c (.bool lb) (.int .i64 nm) (.slice VA vl vc) (.slice TA t.length tc) (.int .i64 k) (.int .i64 0) (.bool false) (.int .i64 0) (.slice none 0 0) (.slice none 0 0) (.int .i64 0) (.int .i64 0))
    have hm := right_max (k := g.kind) (a := g.a) (b := g.b) (subs := g.subs) (by cases g; exact hr)
    have hln : g.subs.length ≤ 4294967296 := by have := glen_sizes g.subs; have h3 := gsize_subs g; omega
    have IH := Lib.hid ih
    have HIT := Lib.hid hit
    have HR := Lib.hid (show ∀ x ∈ g.subs, Right x from hr.subs)
    have HZ := Lib.hid (show ∀ x ∈ g.subs, x.size ≤ 4294967296 from fun x hx => by have := gsize_mem g.subs x hx; have := gsize_subs g; omega)
    have HT := Lib.hid (And.intro ht hl)
    have HBB := Lib.hid hB
    have HK := Lib.hid (And.intro htl (And.intro hll hkl))
    have HA := Lib.hid (right_num (k := g.kind) (a := g.a) (b := g.b) (subs := g.subs) (by cases g; exact hr))
    obtain ⟨wf1, wf2, wf3⟩ := hw
    have IA := Lib.hid (i64_wf wf2)
    have IB := Lib.hid (i64_wf wf3)
    have WFA := Lib.hid wf2
    have klo : k ≤ 4294967296 := by omega
    have tlo : t.length ≤ 4294967296 := by omega
    clear h hr hsz ht hl hB htl hll hkl e hit ih wf1 wf2 wf3
    cases g with | node kk a b subs =>
    simp only [Gn.kind, Gn.a, Gn.b, Gn.subs] at *
    obtain ⟨a1, a2⟩ := IA.out
    obtain ⟨b1, b2⟩ := IB.out
    go_enter Tryz.func85, Tryz.ntmps85
    go_upto_region 1 with fail
    generalize ((w.alloc (gc (.node kk a b subs) A c)).alloc (.cells #[.bool lb, .int .i64 nm, .slice VA vl vc, .slice TA t.length tc, .int .i64 k, .int .i64 0] 130)).alloc (.cells #[.bool false, .int .i64 0, .slice none 0 0, .slice none 0 0, .int .i64 0, .int .i64 0] 130) = W at HB ⊢
    obtain ⟨k0, k1, k2, k3⟩ := HB.out.1.facts
    obtain ⟨p0, p1, p2, p3, p4, p5⟩ := HB.out.2.1.facts
    have e0 := HB.out.2.1.free 0
    have e1 := HB.out.2.1.free 1
    have e2 := HB.out.2.1.free 2
    have e3 := HB.out.2.1.free 3
    have e4 := HB.out.2.1.free 4
    have e5 := HB.out.2.1.free 5
    have BW := Lib.hid HB.out.2.2.2.1
    have hws : w.heap.size + 3 = W.heap.size := HB.out.2.2.2.2.symm
    have HWS := Lib.hid hws
    clear hws
    rcases (show kk = 1 ∨ kk = 2 ∨ kk = 3 ∨ kk = 4 ∨ kk = 5 by omega) with rfl | rfl | rfl | rfl | rfl
    · have P3 := Lib.hid (HB.out.2.1.put3 (.bool false) (.int .i64 a) (.slice none 0 0))
      have R3 := Lib.hid (HB.out.2.2.1.same ((put3_gr W (w.heap.size + 1) (.bool false) (.int .i64 a) (.slice none 0 0)).block (w.heap.size + 1 + 1) HB.out.2.2.1.lt (fun e => by have e := Option.some.inj e; omega)))
      have B3 := Lib.hid (BW.out.grown (put3_gr W (w.heap.size + 1) (.bool false) (.int .i64 a) (.slice none 0 0)) BW.out.size (fun g hg => by have hg := Option.some.inj hg; omega))
      have EV := Lib.hid (show play (chC mend) (.node 1 a b subs) (l.drop k) = .ok ([], .node false a [], l.drop k) by simp [play])
      go_upto_region 6 with fail
      generalize ((W.setCell ⟨w.heap.size + 1, 0, none⟩ (.bool false)).setCell ⟨w.heap.size + 1, 1, none⟩ (.int .i64 a)).setCell ⟨w.heap.size + 1, 2, none⟩ (.slice none 0 0) = W3 at P3 R3 B3 ⊢
      clear k0 k1 k2 k3 p0 p1 p2 p3 p4 p5 e0 e1 e2 e3 e4 e5
      obtain ⟨p0, p1, p2, p3, p4, p5⟩ := P3.out.facts
      obtain ⟨r0, r1, r2, r3, r4, r5⟩ := R3.out.facts
      have f0 := R3.out.free 0
      have f1 := R3.out.free 1
      have f2 := R3.out.free 2
      have f3 := R3.out.free 3
      have f4 := R3.out.free 4
      have f5 := R3.out.free 5
      have Q := Lib.hid (And.intro (R3.out.put6 (.bool false) (.int .i64 a) (.slice none 0 0) (.slice TA t.length tc) (.int .i64 k) (.int .i64 0)).facts (And.intro (B3.out.grown (put6_gr W3 (w.heap.size + 1 + 1) (.bool false) (.int .i64 a) (.slice none 0 0) (.slice TA t.length tc) (.int .i64 k) (.int .i64 0)) B3.out.size (fun g hg => by have hg := Option.some.inj hg; omega)) (put6_gr W3 (w.heap.size + 1 + 1) (.bool false) (.int .i64 a) (.slice none 0 0) (.slice TA t.length tc) (.int .i64 k) (.int .i64 0))))
      go_wp2_with fail
      generalize (((((W3.setCell ⟨w.heap.size + 1 + 1, 0, none⟩ (.bool false)).setCell ⟨w.heap.size + 1 + 1, 1, none⟩ (.int .i64 a)).setCell ⟨w.heap.size + 1 + 1, 2, none⟩ (.slice none 0 0)).setCell ⟨w.heap.size + 1 + 1, 3, none⟩ (.slice TA t.length tc)).setCell ⟨w.heap.size + 1 + 1, 4, none⟩ (.int .i64 k)).setCell ⟨w.heap.size + 1 + 1, 5, none⟩ (.int .i64 0) = W9 at Q ⊢
      obtain ⟨q0, q1, q2, q3, q4, q5⟩ := Q.out.1
      refine bodyPost_ret (v := .agg #[.bool false, .int .i64 a, .slice none 0 0, .slice TA t.length tc, .int .i64 k, .int .i64 0]) (by simp [results, Tryz.results85, go_sem, q0, q1, q2, q3, q4, q5]) rfl ?_
      rw [EV.out]
      refine ⟨Q.out.2.1, none, TA, 0, tc, by simp [Tr.list, Tr.num, Tr.items], ⟨WFA.out, none, 0, rfl, fun hp => by simp [Tr.items] at hp⟩, .inl ⟨rfl, rfl⟩, by simpa using HTC.out⟩
    · obtain ⟨hm0, hm1⟩ := hm.1 rfl
      have HNUM := HA.out.2 rfl
      have HNUM := Lib.hid HNUM
      clear HA
      have C := choice_any lb nm VA vl vc t TA tc k l L lc mend (b - a) B W (HT.out.1.below (BW.out.mono HBB.out)) (HT.out.2.below (BW.out.mono HBB.out)) (Nat.le_trans HBB.out BW.out.size) tlo HK.out.2.1 klo (hm0)
      have C := Lib.hid C
      have P0 := Lib.hid HB.out.2.1
      have R0 := Lib.hid HB.out.2.2.1
      have K0 := Lib.hid HB.out.1
      clear HB
      go_wp2_with fail
      ((with_reducible refine C.out.mono ?_))
      rintro en w3 ⟨hb3, hm3⟩
      have P3 := Lib.hid (P0.out.below hb3)
      have R3 := Lib.hid (R0.out.below hb3)
      have K3 := Lib.hid (K0.out.below hb3)
      have B3 := Lib.hid (BW.out.trans (hb3.mono BW.out.size))
      have HB3 := Lib.hid hb3
      clear hb3 C k0 k1 k2 k3 p0 p1 p2 p3 p4 p5 e0 e1 e2 e3 e4 e5
      obtain ⟨k0, k1, k2, k3⟩ := K3.out.facts
      cases hch : chC mend (l.drop k) (b - a) with
      | error er =>
        rw [hch] at hm3
        obtain ⟨hne, rfl⟩ := hm3
        have EV := Lib.hid (show play (chC mend) (.node 2 a b subs) (l.drop k) = .error er by simp [play, hch])
        clear hch
        obtain ⟨p0, p1, p2, p3, p4, p5⟩ := P3.out.facts
        have e0 := P3.out.free 0
        have e1 := P3.out.free 1
        have e2 := P3.out.free 2
        have e3 := P3.out.free 3
        have e4 := P3.out.free 4
        have e5 := P3.out.free 5
        have P4 := Lib.hid (P3.out.put6 (.bool lb) (.int .i64 nm) (.slice VA vl vc) (.slice TA t.length tc) (.int .i64 k) (.int .i64 er))
        have GR4 := Lib.hid (put6_gr w3 (w.heap.size + 1) (.bool lb) (.int .i64 nm) (.slice VA vl vc) (.slice TA t.length tc) (.int .i64 k) (.int .i64 er))
        have R4 := Lib.hid (R3.out.same (GR4.out.block (w.heap.size + 1 + 1) R3.out.lt (fun e => by have e := Option.some.inj e; omega)))
        have B4 := Lib.hid (B3.out.grown GR4.out B3.out.size (fun g hg => by have hg := Option.some.inj hg; omega))
        go_upto_region 9 with fail
        generalize (((((w3.setCell ⟨w.heap.size + 1, 0, none⟩ (.bool lb)).setCell ⟨w.heap.size + 1, 1, none⟩ (.int .i64 nm)).setCell ⟨w.heap.size + 1, 2, none⟩ (.slice VA vl vc)).setCell ⟨w.heap.size + 1, 3, none⟩ (.slice TA t.length tc)).setCell ⟨w.heap.size + 1, 4, none⟩ (.int .i64 k)).setCell ⟨w.heap.size + 1, 5, none⟩ (.int .i64 er) = W4 at P4 GR4 R4 B4 ⊢
        clear p0 p1 p2 p3 p4 p5 e0 e1 e2 e3 e4 e5
        have K4 := Lib.hid (show G4 w.heap.size _ _ _ _ _ from (GR4.out.block w.heap.size K3.out.lt (fun e => by have e := Option.some.inj e; omega)).trans K3.out)
        clear k0 k1 k2 k3
        obtain ⟨k0, k1, k2, k3⟩ := K4.out.facts
        obtain ⟨p0, p1, p2, p3, p4, p5⟩ := P4.out.facts
        have e0 := P4.out.free 0
        have e1 := P4.out.free 1
        have e2 := P4.out.free 2
        have e3 := P4.out.free 3
        have e4 := P4.out.free 4
        have e5 := P4.out.free 5
        have P5 := Lib.hid (P4.out.put3 (.bool false) (.int .i64 a) (.slice none 0 0))
        have GR5 := Lib.hid (put3_gr W4 (w.heap.size + 1) (.bool false) (.int .i64 a) (.slice none 0 0))
        have R5 := Lib.hid (R4.out.same (GR5.out.block (w.heap.size + 1 + 1) R4.out.lt (fun e => by have e := Option.some.inj e; omega)))
        have B5 := Lib.hid (B4.out.grown GR5.out B4.out.size (fun g hg => by have hg := Option.some.inj hg; omega))
        go_upto_region 10 with fail
        generalize ((W4.setCell ⟨w.heap.size + 1, 0, none⟩ (.bool false)).setCell ⟨w.heap.size + 1, 1, none⟩ (.int .i64 a)).setCell ⟨w.heap.size + 1, 2, none⟩ (.slice none 0 0) = W5 at P5 GR5 R5 B5 ⊢
        clear p0 p1 p2 p3 p4 p5 e0 e1 e2 e3 e4 e5
        clear k0 k1 k2 k3
        obtain ⟨p0, p1, p2, p3, p4, p5⟩ := P5.out.facts
        obtain ⟨r0, r1, r2, r3, r4, r5⟩ := R5.out.facts
        have f0 := R5.out.free 0
        have f1 := R5.out.free 1
        have f2 := R5.out.free 2
        have f3 := R5.out.free 3
        have f4 := R5.out.free 4
        have f5 := R5.out.free 5
        have Q := Lib.hid (And.intro (R5.out.put6 (.bool false) (.int .i64 a) (.slice none 0 0) (.slice TA t.length tc) (.int .i64 k) (.int .i64 er)).facts (And.intro (B5.out.grown (put6_gr W5 (w.heap.size + 1 + 1) (.bool false) (.int .i64 a) (.slice none 0 0) (.slice TA t.length tc) (.int .i64 k) (.int .i64 er)) B5.out.size (fun g hg => by have hg := Option.some.inj hg; omega)) (put6_gr W5 (w.heap.size + 1 + 1) (.bool false) (.int .i64 a) (.slice none 0 0) (.slice TA t.length tc) (.int .i64 k) (.int .i64 er))))
        go_wp2_with fail
        generalize (((((W5.setCell ⟨w.heap.size + 1 + 1, 0, none⟩ (.bool false)).setCell ⟨w.heap.size + 1 + 1, 1, none⟩ (.int .i64 a)).setCell ⟨w.heap.size + 1 + 1, 2, none⟩ (.slice none 0 0)).setCell ⟨w.heap.size + 1 + 1, 3, none⟩ (.slice TA t.length tc)).setCell ⟨w.heap.size + 1 + 1, 4, none⟩ (.int .i64 k)).setCell ⟨w.heap.size + 1 + 1, 5, none⟩ (.int .i64 er) = W9 at Q ⊢
        obtain ⟨q0, q1, q2, q3, q4, q5⟩ := Q.out.1
        refine bodyPost_ret (v := .agg #[.bool false, .int .i64 a, .slice none 0 0, .slice TA t.length tc, .int .i64 k, .int .i64 er]) (by simp [results, Tryz.results85, go_sem, q0, q1, q2, q3, q4, q5]) rfl ?_
        rw [EV.out]
        exact ⟨Q.out.2.1, hne, false, a, none, 0, 0, TA, t.length, tc, k, rfl⟩
      | ok p =>
        obtain ⟨x, s1⟩ := p
        rw [hch] at hm3
        obtain ⟨TA1, tc1, rfl, htp, hcp⟩ := hm3
        have HCP := Lib.hid hcp
        clear hcp
        obtain ⟨hx0, hx1⟩ := chC_bounded mend _ _ _ _ hm0 hch
        have EV := Lib.hid (show play (chC mend) (.node 2 a b subs) (l.drop k) = .ok ([x], .node false (a + x) [], s1) by simp [play, hch])
        have HTP := Lib.hid htp
        clear hch htp
        obtain ⟨p0, p1, p2, p3, p4, p5⟩ := P3.out.facts
        have e0 := P3.out.free 0
        have e1 := P3.out.free 1
        have e2 := P3.out.free 2
        have e3 := P3.out.free 3
        have e4 := P3.out.free 4
        have e5 := P3.out.free 5
        have P4 := Lib.hid (P3.out.put6 (.bool lb) (.int .i64 nm) (.slice VA vl vc) (.slice TA1 (t.length + 1) tc1) (.int .i64 (k + 1)) (.int .i64 0))
        have GR4 := Lib.hid (put6_gr w3 (w.heap.size + 1) (.bool lb) (.int .i64 nm) (.slice VA vl vc) (.slice TA1 (t.length + 1) tc1) (.int .i64 (k + 1)) (.int .i64 0))
        have R4 := Lib.hid (R3.out.same (GR4.out.block (w.heap.size + 1 + 1) R3.out.lt (fun e => by have e := Option.some.inj e; omega)))
        have B4 := Lib.hid (B3.out.grown GR4.out B3.out.size (fun g hg => by have hg := Option.some.inj hg; omega))
        go_upto_region 9 with fail
        generalize (((((w3.setCell ⟨w.heap.size + 1, 0, none⟩ (.bool lb)).setCell ⟨w.heap.size + 1, 1, none⟩ (.int .i64 nm)).setCell ⟨w.heap.size + 1, 2, none⟩ (.slice VA vl vc)).setCell ⟨w.heap.size + 1, 3, none⟩ (.slice TA1 (t.length + 1) tc1)).setCell ⟨w.heap.size + 1, 4, none⟩ (.int .i64 (k + 1))).setCell ⟨w.heap.size + 1, 5, none⟩ (.int .i64 0) = W4 at P4 GR4 R4 B4 ⊢
        clear p0 p1 p2 p3 p4 p5 e0 e1 e2 e3 e4 e5
        have K4 := Lib.hid (show G4 w.heap.size _ _ _ _ _ from (GR4.out.block w.heap.size K3.out.lt (fun e => by have e := Option.some.inj e; omega)).trans K3.out)
        clear k0 k1 k2 k3
        obtain ⟨k0, k1, k2, k3⟩ := K4.out.facts
        obtain ⟨p0, p1, p2, p3, p4, p5⟩ := P4.out.facts
        have e0 := P4.out.free 0
        have e1 := P4.out.free 1
        have e2 := P4.out.free 2
        have e3 := P4.out.free 3
        have e4 := P4.out.free 4
        have e5 := P4.out.free 5
        have P5 := Lib.hid (P4.out.put3 (.bool false) (.int .i64 (a + x)) (.slice none 0 0))
        have GR5 := Lib.hid (put3_gr W4 (w.heap.size + 1) (.bool false) (.int .i64 (a + x)) (.slice none 0 0))
        have R5 := Lib.hid (R4.out.same (GR5.out.block (w.heap.size + 1 + 1) R4.out.lt (fun e => by have e := Option.some.inj e; omega)))
        have B5 := Lib.hid (B4.out.grown GR5.out B4.out.size (fun g hg => by have hg := Option.some.inj hg; omega))
        go_upto_region 10 with fail
        generalize ((W4.setCell ⟨w.heap.size + 1, 0, none⟩ (.bool false)).setCell ⟨w.heap.size + 1, 1, none⟩ (.int .i64 (a + x))).setCell ⟨w.heap.size + 1, 2, none⟩ (.slice none 0 0) = W5 at P5 GR5 R5 B5 ⊢
        clear p0 p1 p2 p3 p4 p5 e0 e1 e2 e3 e4 e5
        clear k0 k1 k2 k3
        obtain ⟨p0, p1, p2, p3, p4, p5⟩ := P5.out.facts
        obtain ⟨r0, r1, r2, r3, r4, r5⟩ := R5.out.facts
        have f0 := R5.out.free 0
        have f1 := R5.out.free 1
        have f2 := R5.out.free 2
        have f3 := R5.out.free 3
        have f4 := R5.out.free 4
        have f5 := R5.out.free 5
        have Q := Lib.hid (And.intro (R5.out.put6 (.bool false) (.int .i64 (a + x)) (.slice none 0 0) (.slice TA1 (t.length + 1) tc1) (.int .i64 (k + 1)) (.int .i64 0)).facts (And.intro (B5.out.grown (put6_gr W5 (w.heap.size + 1 + 1) (.bool false) (.int .i64 (a + x)) (.slice none 0 0) (.slice TA1 (t.length + 1) tc1) (.int .i64 (k + 1)) (.int .i64 0)) B5.out.size (fun g hg => by have hg := Option.some.inj hg; omega)) (put6_gr W5 (w.heap.size + 1 + 1) (.bool false) (.int .i64 (a + x)) (.slice none 0 0) (.slice TA1 (t.length + 1) tc1) (.int .i64 (k + 1)) (.int .i64 0))))
        go_wp2_with fail
        generalize (((((W5.setCell ⟨w.heap.size + 1 + 1, 0, none⟩ (.bool false)).setCell ⟨w.heap.size + 1 + 1, 1, none⟩ (.int .i64 (a + x))).setCell ⟨w.heap.size + 1 + 1, 2, none⟩ (.slice none 0 0)).setCell ⟨w.heap.size + 1 + 1, 3, none⟩ (.slice TA1 (t.length + 1) tc1)).setCell ⟨w.heap.size + 1 + 1, 4, none⟩ (.int .i64 (k + 1))).setCell ⟨w.heap.size + 1 + 1, 5, none⟩ (.int .i64 0) = W9 at Q ⊢
        obtain ⟨q0, q1, q2, q3, q4, q5⟩ := Q.out.1
        refine bodyPost_ret (v := .agg #[.bool false, .int .i64 (a + x), .slice none 0 0, .slice TA1 (t.length + 1) tc1, .int .i64 (k + 1), .int .i64 0]) (by simp [results, Tryz.results85, go_sem, q0, q1, q2, q3, q4, q5]) rfl ?_
        rw [EV.out]
        have hws := HWS.out
        exact ⟨Q.out.2.1, none, TA1, 0, tc1, by simp [Tr.list, Tr.num, Tr.items, pv], ⟨(show Wf (a + x) from wf_small (by have := HNUM.out; omega) (by have := HNUM.out; omega)), none, 0, rfl, fun hp => by simp [Tr.items] at hp⟩, .inr (at_puts HTP.out GR4.out GR5.out Q.out.2.2 (by omega) (by omega) (by omega)), by simpa using HCP.out⟩
    · exact absurd (Or.inl rfl) h34
    · exact absurd (Or.inr rfl) h34
    · have hm0 := hm.2.1 rfl
      have hp0 : 0 < subs.length := by omega
      have HLG := Lib.hid (show longG (.node 5 a b subs) = 1 + longs subs by simp [longG])
      have C := choice_any lb nm VA vl vc t TA tc k l L lc mend ((subs.length : Int) - 1) B W (HT.out.1.below (BW.out.mono HBB.out)) (HT.out.2.below (BW.out.mono HBB.out)) (Nat.le_trans HBB.out BW.out.size) tlo HK.out.2.1 klo (hm0)
      have C := Lib.hid C
      have P0 := Lib.hid HB.out.2.1
      have R0 := Lib.hid HB.out.2.2.1
      have K0 := Lib.hid HB.out.1
      clear HB
      go_wp2_with fail
      ((with_reducible refine C.out.mono ?_))
      rintro en w3 ⟨hb3, hm3⟩
      have P3 := Lib.hid (P0.out.below hb3)
      have R3 := Lib.hid (R0.out.below hb3)
      have K3 := Lib.hid (K0.out.below hb3)
      have B3 := Lib.hid (BW.out.trans (hb3.mono BW.out.size))
      have HB3 := Lib.hid hb3
      clear hb3 C k0 k1 k2 k3 p0 p1 p2 p3 p4 p5 e0 e1 e2 e3 e4 e5
      obtain ⟨k0, k1, k2, k3⟩ := K3.out.facts
      cases hch : chC mend (l.drop k) ((subs.length : Int) - 1) with
      | error er =>
        rw [hch] at hm3
        obtain ⟨hne, rfl⟩ := hm3
        have EV := Lib.hid (show play (chC mend) (.node 5 a b subs) (l.drop k) = .error er by simp [play, hch])
        clear hch
        obtain ⟨p0, p1, p2, p3, p4, p5⟩ := P3.out.facts
        have e0 := P3.out.free 0
        have e1 := P3.out.free 1
        have e2 := P3.out.free 2
        have e3 := P3.out.free 3
        have e4 := P3.out.free 4
        have e5 := P3.out.free 5
        have P4 := Lib.hid (P3.out.put6 (.bool lb) (.int .i64 nm) (.slice VA vl vc) (.slice TA t.length tc) (.int .i64 k) (.int .i64 er))
        have GR4 := Lib.hid (put6_gr w3 (w.heap.size + 1) (.bool lb) (.int .i64 nm) (.slice VA vl vc) (.slice TA t.length tc) (.int .i64 k) (.int .i64 er))
        have R4 := Lib.hid (R3.out.same (GR4.out.block (w.heap.size + 1 + 1) R3.out.lt (fun e => by have e := Option.some.inj e; omega)))
        have B4 := Lib.hid (B3.out.grown GR4.out B3.out.size (fun g hg => by have hg := Option.some.inj hg; omega))
        go_upto_region 13 with fail
        generalize (((((w3.setCell ⟨w.heap.size + 1, 0, none⟩ (.bool lb)).setCell ⟨w.heap.size + 1, 1, none⟩ (.int .i64 nm)).setCell ⟨w.heap.size + 1, 2, none⟩ (.slice VA vl vc)).setCell ⟨w.heap.size + 1, 3, none⟩ (.slice TA t.length tc)).setCell ⟨w.heap.size + 1, 4, none⟩ (.int .i64 k)).setCell ⟨w.heap.size + 1, 5, none⟩ (.int .i64 er) = W4 at P4 GR4 R4 B4 ⊢
        clear p0 p1 p2 p3 p4 p5 e0 e1 e2 e3 e4 e5
        have K4 := Lib.hid (show G4 w.heap.size _ _ _ _ _ from (GR4.out.block w.heap.size K3.out.lt (fun e => by have e := Option.some.inj e; omega)).trans K3.out)
        clear k0 k1 k2 k3
        obtain ⟨k0, k1, k2, k3⟩ := K4.out.facts
        obtain ⟨ib, off, D, d, rfl, y0, y1, y2, y3, hti⟩ := sub_as HIT.out (B4.out.mono HBB.out) 0 hp0
        have CALL := Lib.hid (played_bad lb nm VA vl vc TA t.length tc k er hne L l.length lc mend W4.drew (hti.below (Below.refl B W4).drew))
        simp only [Nat.zero_mul, Nat.add_zero] at y0 y1 y2 y3
        clear hti
        generalize subs[0]'hp0 = y at *
        obtain ⟨p0, p1, p2, p3, p4, p5⟩ := P4.out.facts
        go_region_law (first
          | (go_simp
             with_reducible refine CALL.out.mono ?_
             rintro en w5 ⟨rfl, hb5⟩
             have R5 := Lib.hid (R4.out.below (Below.trans (Below.refl _ _).drew (hb5.mono (Nat.le_refl _))))
             have B5 := Lib.hid (B4.out.trans (Below.trans (Below.refl _ _).drew (hb5.mono (Nat.le_refl _)) |>.mono B4.out.size))
             obtain ⟨r0, r1, r2, r3, r4, r5⟩ := R5.out.facts
             have f0 := R5.out.free 0
             have f1 := R5.out.free 1
             have f2 := R5.out.free 2
             have f3 := R5.out.free 3
             have f4 := R5.out.free 4
             have f5 := R5.out.free 5
             have Q := Lib.hid (And.intro (R5.out.put6 (.bool lb) (.int .i64 nm) (.slice VA vl vc) (.slice TA t.length tc) (.int .i64 k) (.int .i64 er)).facts (And.intro (B5.out.grown (put6_gr w5 (w.heap.size + 1 + 1) (.bool lb) (.int .i64 nm) (.slice VA vl vc) (.slice TA t.length tc) (.int .i64 k) (.int .i64 er)) B5.out.size (fun g hg => by have hg := Option.some.inj hg; omega)) (put6_gr w5 (w.heap.size + 1 + 1) (.bool lb) (.int .i64 nm) (.slice VA vl vc) (.slice TA t.length tc) (.int .i64 k) (.int .i64 er))))))
        all_goals (
          go_wp2_with fail
          generalize (((((w5.setCell ⟨w.heap.size + 1 + 1, 0, none⟩ (.bool lb)).setCell ⟨w.heap.size + 1 + 1, 1, none⟩ (.int .i64 nm)).setCell ⟨w.heap.size + 1 + 1, 2, none⟩ (.slice VA vl vc)).setCell ⟨w.heap.size + 1 + 1, 3, none⟩ (.slice TA t.length tc)).setCell ⟨w.heap.size + 1 + 1, 4, none⟩ (.int .i64 k)).setCell ⟨w.heap.size + 1 + 1, 5, none⟩ (.int .i64 er) = W9 at Q ⊢
          obtain ⟨q0, q1, q2, q3, q4, q5⟩ := Q.out.1
          refine bodyPost_ret (v := .agg #[.bool lb, .int .i64 nm, .slice VA vl vc, .slice TA t.length tc, .int .i64 k, .int .i64 er]) (by simp [results, Tryz.results85, go_sem, q0, q1, q2, q3, q4, q5]) rfl ?_
          rw [EV.out]
          exact ⟨Q.out.2.1, hne, lb, nm, VA, vl, vc, TA, t.length, tc, k, rfl⟩)
      | ok p =>
        obtain ⟨x, s1⟩ := p
        rw [hch] at hm3
        obtain ⟨TA1, tc1, rfl, htp, hcp⟩ := hm3
        have HCP := Lib.hid hcp
        clear hcp
        obtain ⟨hx0, hx1⟩ := chC_bounded mend _ _ _ _ hm0 hch
        obtain ⟨xn, rfl⟩ : ∃ xn : Nat, x = (xn : Int) := ⟨x.toNat, by omega⟩
        have hxn : xn < subs.length := by omega
        have hs1 : s1 = l.drop (k + 1) := by have := chC_tails mend _ _ _ _ hch; rw [this, List.drop_drop]
        have EV := Lib.hid (show play (chC mend) (.node 5 a b subs) (l.drop k) = match play (chC mend) (subs[xn]'hxn) (l.drop (k + 1)) with | .error e => .error e | .ok (c, v, s2) => .ok ((xn : Int) :: c, v, s2) by
          simp only [play, show ¬ (5 : Int) = 1 by omega, show ¬ (5 : Int) = 2 by omega, if_false, if_true, hch, Int.toNat_natCast, at_get _ _ _ hxn, hs1]
          generalize play (chC mend) (subs[xn]'hxn) (l.drop (k + 1)) = q
          cases q <;> rfl)
        have HTP := Lib.hid htp
        clear hch htp hs1
        obtain ⟨p0, p1, p2, p3, p4, p5⟩ := P3.out.facts
        have e0 := P3.out.free 0
        have e1 := P3.out.free 1
        have e2 := P3.out.free 2
        have e3 := P3.out.free 3
        have e4 := P3.out.free 4
        have e5 := P3.out.free 5
        have P4 := Lib.hid (P3.out.put6 (.bool lb) (.int .i64 nm) (.slice VA vl vc) (.slice TA1 (t.length + 1) tc1) (.int .i64 (k + 1)) (.int .i64 0))
        have GR4 := Lib.hid (put6_gr w3 (w.heap.size + 1) (.bool lb) (.int .i64 nm) (.slice VA vl vc) (.slice TA1 (t.length + 1) tc1) (.int .i64 (k + 1)) (.int .i64 0))
        have R4 := Lib.hid (R3.out.same (GR4.out.block (w.heap.size + 1 + 1) R3.out.lt (fun e => by have e := Option.some.inj e; omega)))
        have B4 := Lib.hid (B3.out.grown GR4.out B3.out.size (fun g hg => by have hg := Option.some.inj hg; omega))
        go_upto_region 13 with fail
        generalize (((((w3.setCell ⟨w.heap.size + 1, 0, none⟩ (.bool lb)).setCell ⟨w.heap.size + 1, 1, none⟩ (.int .i64 nm)).setCell ⟨w.heap.size + 1, 2, none⟩ (.slice VA vl vc)).setCell ⟨w.heap.size + 1, 3, none⟩ (.slice TA1 (t.length + 1) tc1)).setCell ⟨w.heap.size + 1, 4, none⟩ (.int .i64 (k + 1))).setCell ⟨w.heap.size + 1, 5, none⟩ (.int .i64 0) = W4 at P4 GR4 R4 B4 ⊢
        clear p0 p1 p2 p3 p4 p5 e0 e1 e2 e3 e4 e5
        have K4 := Lib.hid (show G4 w.heap.size _ _ _ _ _ from (GR4.out.block w.heap.size K3.out.lt (fun e => by have e := Option.some.inj e; omega)).trans K3.out)
        clear k0 k1 k2 k3
        obtain ⟨k0, k1, k2, k3⟩ := K4.out.facts
        obtain ⟨ib, off, D, d, rfl, y0, y1, y2, y3, hti⟩ := sub_as HIT.out (B4.out.mono HBB.out) xn hxn
        have hws := HWS.out
        have HTQ := Lib.hid (at_put1 HTP.out GR4.out (by omega))
        have hB4 : B ≤ W4.heap.size := Nat.le_trans HBB.out B4.out.size
        have CALL := IH.out (subs[xn]'hxn) (gv (subs[xn]'hxn) D d) lb nm VA vl vc (t ++ [(xn : Int)]) TA1 tc1 (k + 1) l L lc mend W4.heap.size W4.drew ((hti.more hB4).below (Below.refl W4.heap.size W4).drew) (HR.out _ (List.getElem_mem hxn)) (HZ.out _ (List.getElem_mem hxn)) HTQ.out.at_.drew ((HT.out.2.below (B4.out.mono HBB.out)).more hB4).drew (Nat.le_refl _)
          (by have h1 := longs_mem subs _ (List.getElem_mem hxn); have h2 := HK.out.1; rw [HLG.out] at h2; simp; omega) HK.out.2.1 (by have h1 := longs_mem subs _ (List.getElem_mem hxn); have h2 := HK.out.2.2; rw [HLG.out] at h2; omega) (by simpa using HCP.out)
        rw [List.length_append, List.length_singleton, show ((k + 1 : Nat) : Int) = (k : Int) + 1 by omega] at CALL
        clear hti hB4
        have hxi : (xn : Int) < (subs.length : Int) := by omega
        have wk : ((k + 1 : Nat) : Int) = (k : Int) + 1 := by omega
        cases hp2 : play (chC mend) (subs[xn]'hxn) (l.drop (k + 1)) with
        | error er =>
          rw [hp2] at CALL EV
          have CALL := Lib.hid CALL
          have EV := Lib.hid (show play (chC mend) (.node 5 a b subs) (l.drop k) = .error er from EV.out)
          clear hp2
          generalize subs[xn]'hxn = y at *
          obtain ⟨p0, p1, p2, p3, p4, p5⟩ := P4.out.facts
          go_region_law (first
            | (go_simp
               with_reducible refine CALL.out.mono ?_
               rintro en w5 ⟨hb5, hne, lb2, nm2, VA2, vl2, vc2, TA2, tl2, tc2, k2, rfl⟩
               have R5 := Lib.hid (R4.out.below (Below.trans (Below.refl _ _).drew (hb5.mono (Nat.le_refl _))))
               have B5 := Lib.hid (B4.out.trans (Below.trans (Below.refl _ _).drew (hb5.mono (Nat.le_refl _)) |>.mono B4.out.size))
               obtain ⟨r0, r1, r2, r3, r4, r5⟩ := R5.out.facts
               have f0 := R5.out.free 0
               have f1 := R5.out.free 1
               have f2 := R5.out.free 2
               have f3 := R5.out.free 3
               have f4 := R5.out.free 4
               have f5 := R5.out.free 5
               have Q := Lib.hid (And.intro (R5.out.put6 (.bool lb2) (.int .i64 nm2) (.slice VA2 vl2 vc2) (.slice TA2 tl2 tc2) (.int .i64 k2) (.int .i64 er)).facts (And.intro (B5.out.grown (put6_gr w5 (w.heap.size + 1 + 1) (.bool lb2) (.int .i64 nm2) (.slice VA2 vl2 vc2) (.slice TA2 tl2 tc2) (.int .i64 k2) (.int .i64 er)) B5.out.size (fun g hg => by have hg := Option.some.inj hg; omega)) (put6_gr w5 (w.heap.size + 1 + 1) (.bool lb2) (.int .i64 nm2) (.slice VA2 vl2 vc2) (.slice TA2 tl2 tc2) (.int .i64 k2) (.int .i64 er))))))
          all_goals (
            go_wp2_with fail
            generalize (((((w5.setCell ⟨w.heap.size + 1 + 1, 0, none⟩ (.bool lb2)).setCell ⟨w.heap.size + 1 + 1, 1, none⟩ (.int .i64 nm2)).setCell ⟨w.heap.size + 1 + 1, 2, none⟩ (.slice VA2 vl2 vc2)).setCell ⟨w.heap.size + 1 + 1, 3, none⟩ (.slice TA2 tl2 tc2)).setCell ⟨w.heap.size + 1 + 1, 4, none⟩ (.int .i64 k2)).setCell ⟨w.heap.size + 1 + 1, 5, none⟩ (.int .i64 er) = W9 at Q ⊢
            obtain ⟨q0, q1, q2, q3, q4, q5⟩ := Q.out.1
            refine bodyPost_ret (v := .agg #[.bool lb2, .int .i64 nm2, .slice VA2 vl2 vc2, .slice TA2 tl2 tc2, .int .i64 k2, .int .i64 er]) (by simp [results, Tryz.results85, go_sem, q0, q1, q2, q3, q4, q5]) rfl ?_
            rw [EV.out]
            exact ⟨Q.out.2.1, hne, lb2, nm2, VA2, vl2, vc2, TA2, tl2, tc2, k2, rfl⟩)
        | ok q =>
          obtain ⟨c2, v2, s2⟩ := q
          rw [hp2] at CALL EV
          have CALL := Lib.hid CALL
          have EV := Lib.hid (show play (chC mend) (.node 5 a b subs) (l.drop k) = .ok ((xn : Int) :: c2, v2, s2) from EV.out)
          clear hp2
          generalize subs[xn]'hxn = y at *
          have CALL := Lib.hid (show Calls _ _ _ _ (fun en w5 => Below W4.drew.heap.size W4.drew w5 ∧ ∃ (VA' TA' : Option Addr) (vc tc : Nat) (tl2 : Nat) (k2 : Int), Hid (tl2 = (t ++ (xn : Int) :: c2).length ∧ k2 = ((k + ((xn : Int) :: c2).length : Nat) : Int)) ∧ en = .returned (pv v2.list v2.num VA' v2.items.length vc TA' tl2 tc k2 0) ∧ TAt w5 (fun b => W4.drew.heap.size ≤ b ∧ b < w5.heap.size) n (.agg #[.bool v2.list, .int .i64 v2.num, .slice VA' v2.items.length vc]) v2 ∧ ((c2 = [] ∧ TA' = TA1) ∨ AtS w5 (fun b => W4.drew.heap.size ≤ b) TA' (t ++ [(xn : Int)] ++ c2)) ∧ (t ++ [(xn : Int)] ++ c2).length ≤ tc) from CALL.out.mono (by
            rintro en w5 ⟨h1, VA', TA', vc, tc, rfl, h3, h4, h5⟩
            exact ⟨h1, VA', TA', vc, tc, _, _, ⟨by simp, by rw [List.length_cons]; congr 1; omega⟩, rfl, h3, h4, h5⟩))
          obtain ⟨p0, p1, p2, p3, p4, p5⟩ := P4.out.facts
          go_region_law (first
            | (go_simp
               with_reducible refine CALL.out.mono ?_
               rintro en w5 ⟨hb5, VA2, TA2, vc2, tc2, tl2, k2, hlk, rfl, htv, htp2, hcp2⟩
               have HTV := Lib.hid (And.intro htv htp2)
               have HC2 := Lib.hid hcp2
               clear hcp2
               have NB5 := Lib.hid (show Below W4.heap.size W4 w5 from Below.trans (Below.refl _ _).drew (hb5.mono (Nat.le_refl _)))
               clear htv htp2
               have R5 := Lib.hid (R4.out.below (Below.trans (Below.refl _ _).drew (hb5.mono (Nat.le_refl _))))
               have B5 := Lib.hid (B4.out.trans (Below.trans (Below.refl _ _).drew (hb5.mono (Nat.le_refl _)) |>.mono B4.out.size))
               obtain ⟨r0, r1, r2, r3, r4, r5⟩ := R5.out.facts
               have f0 := R5.out.free 0
               have f1 := R5.out.free 1
               have f2 := R5.out.free 2
               have f3 := R5.out.free 3
               have f4 := R5.out.free 4
               have f5 := R5.out.free 5
               have Q := Lib.hid (And.intro (R5.out.put6 (.bool v2.list) (.int .i64 v2.num) (.slice VA2 v2.items.length vc2) (.slice TA2 tl2 tc2) (.int .i64 k2) (.int .i64 0)).facts (And.intro (B5.out.grown (put6_gr w5 (w.heap.size + 1 + 1) (.bool v2.list) (.int .i64 v2.num) (.slice VA2 v2.items.length vc2) (.slice TA2 tl2 tc2) (.int .i64 k2) (.int .i64 0)) B5.out.size (fun g hg => by have hg := Option.some.inj hg; omega)) (put6_gr w5 (w.heap.size + 1 + 1) (.bool v2.list) (.int .i64 v2.num) (.slice VA2 v2.items.length vc2) (.slice TA2 tl2 tc2) (.int .i64 k2) (.int .i64 0))))))
          all_goals (
            go_wp2_with fail
            generalize (((((w5.setCell ⟨w.heap.size + 1 + 1, 0, none⟩ (.bool v2.list)).setCell ⟨w.heap.size + 1 + 1, 1, none⟩ (.int .i64 v2.num)).setCell ⟨w.heap.size + 1 + 1, 2, none⟩ (.slice VA2 v2.items.length vc2)).setCell ⟨w.heap.size + 1 + 1, 3, none⟩ (.slice TA2 tl2 tc2)).setCell ⟨w.heap.size + 1 + 1, 4, none⟩ (.int .i64 k2)).setCell ⟨w.heap.size + 1 + 1, 5, none⟩ (.int .i64 0) = W9 at Q ⊢
            obtain ⟨q0, q1, q2, q3, q4, q5⟩ := Q.out.1
            refine bodyPost_ret (v := .agg #[.bool v2.list, .int .i64 v2.num, .slice VA2 v2.items.length vc2, .slice TA2 tl2 tc2, .int .i64 k2, .int .i64 0]) (by simp [results, Tryz.results85, go_sem, q0, q1, q2, q3, q4, q5]) rfl ?_
            rw [EV.out]
            refine ⟨Q.out.2.1, VA2, TA2, vc2, tc2, by rw [hlk.out.1, hlk.out.2], TAt.up (Nat.le_succ n) (tree_put HTV.out.1 Q.out.2.2 (by show _ < W4.heap.size; have := B4.out.size; have := GR4.out.size; have := HB3.out.size; omega) (Nat.le_refl _) B4.out.size), .inr ?_, by have := HC2.out; simp at this ⊢; omega⟩
            rcases HTV.out.2 with ⟨rfl, rfl⟩ | h
            · exact at_put2 (at_later HTQ.out NB5.out (fun _ h => h)) Q.out.2.2 (by omega) BW.out.size
            · rw [List.append_assoc] at h
              exact at_put2 h Q.out.2.2 (by show _ < W4.heap.size; have := GR4.out.size; have := HB3.out.size; omega) B4.out.size)
end Go.Proofs.YtabkihellcflhaaGreatDoor.Gens
