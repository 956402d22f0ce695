/- ShrinkTells, part 45 of the proof: The document's own BadTape. Conditions: the sizes. · The document's own With. Conditions: the sizes. · Contract of the document's own MendOf: what it tells lies in new memory. Condition: the sizes. -/
import Derived.Test.YtfpbegagblekiaaGreatDoorShrinkTellsZ42
import Derived.Test.YtfpbegagblekiaaGreatDoorShrinkTellsZ44
import Derived.Test.YtfpbegagblekiaaGreatDoorShrinkTellsZ18
import Derived.Test.YtfpbegagblekiaaGreatDoorShrinkTellsZ28
import Derived.Test.YtfpbegagblekiaaGreatDoorShrinkTellsZ27
/- The document's own BadTape. Conditions: the sizes. -/
namespace Go.Proofs.YtfpbegagblekiaaGreatDoor.Gens
open Go.RowKit Lists Ints Vals Exprs
set_option linter.unusedVariables false

theorem badT_eq {t x : Gn} {l : List Int} (h0 : genV t = 0) : badT t x l = match replayG t l with | .ok v => badN (numE v x) | .error _ => false := by
  unfold badT repV
  rw [if_pos h0]
  rfl
theorem replay_size {t : Gn} (h0 : genV t = 0) {l : List Int} {v : Tr} (h : replayG t l = .ok v) : v.size ≤ 1399680 := by
  unfold replayG at h
  cases hp : play readC t l with
  | error e => rw [hp] at h; cases h
  | ok p =>
    obtain ⟨c, v', r⟩ := p
    rw [hp] at h
    simp only at h
    split at h
    · injection h with h
      subst h
      exact (small_val read_bounded (gen_right h0).1 (gen_right h0).2 hp).2
    · cases h

set_option maxHeartbeats 4000000 in
set_option maxRecDepth 100000 in
theorem badtape_any {t x : Gn} {GA XA L : Option Addr} {gcap xcap lc n nx B : Nat} {l : List Int} (w : World) (hg : GAt w (GBel B) n (gv t GA gcap) t) (hx : EAt w (EBel B) nx (ev x XA xcap) x) (h0 : genV t = 0) (hf : formE x = true) (hl : At w B L l) (hB : B ≤ w.heap.size) (hll : l.length ≤ 4294967296) :
    Calls Tryz.prog 9 #[gv t GA gcap, ev x XA xcap, .slice L l.length lc] w fun e w' => e = .returned (.bool (badT t x l)) ∧ Below w.heap.size w w' := by
  have BX := gx_boxes w t x GA XA gcap xcap
  have RD := Lib.hid (fun (W : World) (hb : Below w.heap.size w W) => replayof_any n t GA gcap l L lc B W (hg.below (hb.mono hB)) (gen_right h0).1 (by have := small30 h0; omega) (hl.below (hb.mono hB)) (Nat.le_trans hB hb.size) (by have := small_long (gen_right h0).2; omega) hll)
  have BA := Lib.hid (fun (v : Tr) (A : Option Addr) (c m : Nat) (hs : v.size ≤ 1399680) (W : World) (hb : Below w.heap.size w W) (hv : TAt W (Bel W.heap.size) m (vv v A c) v) => bad_any W ((hx.below (hb.mono hB)).more (Nat.le_trans hB hb.size)) hv (Nat.le_refl _) hf (by omega))
  have EQ := Lib.hid (badT_eq (x := x) (l := l) h0)
  have SZ := Lib.hid (fun v (h : replayG t l = .ok v) => replay_size h0 h)
  have HB := Lib.hid BX
  clear hg hx h0 hf hl hB hll BX
  go_enter Tryz.func9, Tryz.ntmps9
  obtain ⟨k0, k1, k2, k3⟩ := HB.out.1.facts
  go_wp2_with fail
  generalize (w.alloc (gc t GA gcap)).alloc (ec x XA xcap) = W0 at *
  ((with_reducible refine (RD.out W0 HB.out.2.2.1).mono ?_))
  clear k0 k1 k2 k3
  cases hr : replayG t l with
  | error er =>
    have EV := Lib.hid (show badT t x l = false by rw [EQ.out, hr])
    clear hr
    rintro e w1 ⟨hb1, hne, rfl⟩
    have B1 := Lib.hid (HB.out.2.2.1.trans (hb1.mono HB.out.2.2.1.size))
    have re : (er == 0) = false := by rw [beq_eq_false_iff_ne]; exact hne
    have N1 := Lib.hid (bel1 w1 (.cells #[.bool false, .int .i64 0, .slice none 0 0] 35))
    clear hb1 hne
    go_wp2_with fail
    go_ret
    exact ⟨ret_b EV.out.symm, below_trans B1.out N1.out⟩
  | ok v =>
    have EV := Lib.hid (show badT t x l = badN (numE v x) by rw [EQ.out, hr])
    have VS := Lib.hid (SZ.out v hr)
    clear hr
    rintro e w1 ⟨hb1, VA, vc', m, rfl, htv⟩
    have B1 := Lib.hid (HB.out.2.2.1.trans (hb1.mono HB.out.2.2.1.size))
    have X1 := Lib.hid (HB.out.2.1.below hb1)
    have T1 := Lib.hid htv
    have N1 := Lib.hid (bel1 w1 (.cells #[.bool v.list, .int .i64 v.num, .slice VA v.items.length vc'] 35))
    have NV := Lib.hid (show V3 w1.heap.size (.bool v.list) (.int .i64 v.num) (.slice VA v.items.length vc') (w1.alloc (.cells #[.bool v.list, .int .i64 v.num, .slice VA v.items.length vc'] 35)) from new_obj w1 _)
    have CB := Lib.hid (BA.out v VA vc' m VS.out (w1.alloc (.cells #[.bool v.list, .int .i64 v.num, .slice VA v.items.length vc'] 35)) (below_trans B1.out N1.out) (T1.out.keep fun b hb => ⟨Nat.lt_of_lt_of_le hb.2 N1.out.size, fun o => N1.out.cell (p := ⟨b, o, none⟩) hb.2⟩))
    obtain ⟨x0, x1, x2⟩ := (X1.out.below N1.out).facts
    obtain ⟨v0, v1, v2, _⟩ := NV.out.facts
    clear hb1 htv
    generalize badN (numE v x) = q at *
    go_wp2_with fail
    ((with_reducible refine CB.out.mono ?_))
    rintro e w2 ⟨rfl, hb2⟩
    have B2 := Lib.hid (below_trans (below_trans B1.out N1.out) hb2)
    clear hb2
    go_wp2_with fail
    go_ret
    exact ⟨ret_b EV.out.symm, B2.out⟩
end Go.Proofs.YtfpbegagblekiaaGreatDoor.Gens

/- The document's own With. Conditions: the sizes. -/
namespace Go.Proofs.YtfpbegagblekiaaGreatDoor.Gens
open Go.RowKit Lists Ints Vals
set_option linter.unusedVariables false

set_option maxHeartbeats 2000000 in
set_option maxRecDepth 100000 in
theorem refwith_ok {L : Option Addr} {l : List Int} {lc N : Nat} (w : World) (hat : At w N L l) (hN : N ≤ w.heap.size) (hln : l.length ≤ 4294967296) (i : Nat) (hi : i < l.length) (x : Int) :
    Calls Tryz.prog 37 #[.slice L l.length lc, .int .i64 i, .int .i64 x] w (NewL (l.set i x) w) := by
  have HL := Lib.hid (show (l.set i x).length = l.length by simp)
  have HA := Lib.hid hat
  have HN := Lib.hid hN
  have HB := Lib.hid ((Below.refl w.heap.size w).alloc (Nat.le_refl _) (.cells #[] 3))
  have HE := Lib.hid (heap_new2 w (.cells #[] 3))
  have HS := Lib.hid (show ([] : List Int).length + l.length ≤ 17592186044416 by simp; omega)
  clear hat hN
  go_enter Tryz.func37, Tryz.ntmps37
  go_wp2_with (at_builtin; refine wpList_append_ints rfl (.tmp 8) (.tmp 9) rfl w.heap.size 0 (some ⟨w.heap.size, 0, none⟩) [] (Own.empty HE.out) N L lc l (HA.out.below (HB.out.mono HN.out)) rfl rfl HS.out HB.out.size ?_; intro A5 c5 w5 z5 hz5 own5 g5 r5; obtain rfl : z5 = l := hz5.out; obtain ⟨g, rfl, hg, hlt, k0, k1, own6, g6⟩ := own_stored own5 i hi x; have O6 := Lib.hid own6; have B6 := Lib.hid ((HB.out.grown g5 HB.out.size (by intro k hk; simp [rowOf] at hk; omega)).grown g6 (by have := g5.size; have := HB.out.size; omega) (by intro k hk; cases hk; exact hg)); clear own5 own6 g5 g6 r5)
  go_ret
  exact ⟨some ⟨g, 0, none⟩, c5, (by rw [HL.out]; rfl), O6.out, B6.out⟩
end Go.Proofs.YtfpbegagblekiaaGreatDoor.Gens

/- Contract of the document's own MendOf: what it tells lies in new memory. Condition: the sizes. -/
namespace Go.Proofs.YtfpbegagblekiaaGreatDoor.Gens
open Go.RowKit Lists Ints Vals
set_option linter.unusedVariables false

/-- a list in new memory -/
def MnPost (m : List Int) (w : World) (e : Ending) (w' : World) : Prop := Below w.heap.size w w' ∧ ∃ (TA : Option Addr) (tc : Nat), e = .returned (.slice TA m.length tc) ∧ AtP w' (fun b => w.heap.size ≤ b ∧ b < w'.heap.size) TA m ∧ m.length ≤ tc
set_option maxRecDepth 100000 in
theorem mendof_new (n : Nat) (g : Gn) (A : Option Addr) (c : Nat) (l : List Int) (L : Option Addr) (lc B : Nat) (w : World) (hg : GAt w (GBel B) n (gv g A c) g) (hr : Right g) (hs : g.size ≤ 4294967296) (hl : At w B L l) (hB : B ≤ w.heap.size)
    (hq : longG g ≤ 4294967296) (hll : l.length ≤ 4294967296) {m r : List Int} {x : Tr} (hm : play mendC g l = .ok (m, x, r)) :
    Calls Tryz.prog 38 #[gv g A c, .slice L l.length lc] w (MnPost m w) := by
  have P := fun w1 (b1 : Below w.heap.size w w1) => played_any n g (gv g A c) false 0 none 0 0 [] none 0 0 l L lc true B w1 (hg.below (b1.mono hB)) hr hs At.nil (hl.below (b1.mono hB)) (Nat.le_trans hB b1.size) (by simpa using hq) hll (by simpa using hq) (by simp)
  simp only [List.drop_zero, chC, hm, List.length_nil] at P
  have P := Lib.hid P
  have hfT := fieldTape
  clear hg hr hs hl hB hq hll hm
  go_enter Tryz.func38, Tryz.ntmps38
  go_wp2_with fail
  have H0 : Below w.heap.size w (w.alloc (gc g A c)) := (Below.refl _ _).alloc (Nat.le_refl _) _
  refine (P.out _ H0).mono ?_
  rintro e w1 ⟨b1, VA, TA, vc, tc, rfl, _, ha, hcp⟩
  have B1 := Lib.hid (on H0 b1)
  have HA := Lib.hid (show AtP w1 (fun b => w.heap.size ≤ b ∧ b < w1.heap.size) TA m from by
    rcases ha with ⟨rfl, _⟩ | ha
    · exact fun h => by simp at h
    · rw [List.nil_append] at ha
      intro hp
      obtain ⟨b, off, e, hb, hc⟩ := ha hp
      exact ⟨b, off, e, ⟨Nat.le_trans H0.size hb.1, hb.2⟩, hc⟩)
  have HCP := Lib.hid hcp
  clear b1 ha H0 hcp
  simp only [List.nil_append] at *
  go_wp2_with fail
  go_ret
  exact ⟨B1.out, TA, tc, rfl, HA.out, HCP.out⟩
end Go.Proofs.YtfpbegagblekiaaGreatDoor.Gens
