/- RunsTell, part 46 of the proof: The document's own WalkOf. Conditions: the sizes. · Contract of the document's own MostOf, of what Played does. Condition: the sizes. · What comes next in a draw: the greatest choice there. Without a program. -/
import Derived.Test.YtabkihellcflhaaGreatDoorRunsTellZ43
import Derived.Test.YtabkihellcflhaaGreatDoorRunsTellZ29
import Derived.Test.YtabkihellcflhaaGreatDoorRunsTellZ45
import Derived.Test.YtabkihellcflhaaGreatDoorRunsTellZ35
import Derived.Test.YtabkihellcflhaaGreatDoorRunsTellZ14
/- The document's own WalkOf. Conditions: the sizes. -/
namespace Go.Proofs.YtabkihellcflhaaGreatDoor.Gens
open Go.RowKit Lists Ints Vals Exprs
set_option linter.unusedVariables false

theorem find_at {p : List Int → Bool} : ∀ {zs : List (List Int)} {k : Nat} (hk : k < zs.length), (∀ j (h : j < k), p (zs[j]'(Nat.lt_trans h hk)) = false) → p (zs[k]'hk) = true → zs.find? p = some (zs[k]'hk)
  | [], k, hk, _, _ => by simp at hk
  | z :: zs, 0, hk, _, h => by
    have h : p z = true := h
    rw [List.find?_cons_of_pos h]; rfl
  | z :: zs, k + 1, hk, hb, h => by
    have h0 : p z = false := hb 0 (by omega)
    rw [List.find?_cons_of_neg (by rw [h0]; simp)]
    exact find_at (by simpa using hk) (fun j hj => hb (j + 1) (by omega)) h
theorem find_no {p : List Int → Bool} {zs : List (List Int)} (hb : ∀ j (h : j < zs.length), p (zs[j]'h) = false) : zs.find? p = none := by
  rw [List.find?_eq_none]
  intro y hy
  obtain ⟨j, hj, rfl⟩ := List.getElem_of_mem hy
  rw [hb j hj]; simp
/-- the same; and where it lies: in S (where what was handed in lies), or in new memory -/
def WkIn (S : Nat → Prop) (r : List Int × Nat) (w : World) (e : Ending) (w' : World) : Prop := ∃ (A : Option Addr) (c : Nat), e = .returned (.tuple #[.slice A r.1.length c, .int .i64 r.2]) ∧ AtP w' (fun b => S b ∨ (w.heap.size ≤ b ∧ b < w'.heap.size)) A r.1 ∧ r.1.length ≤ c ∧ Below w.heap.size w w'
def WkPost (r : List Int × Nat) (w : World) (e : Ending) (w' : World) : Prop := ∃ (A : Option Addr) (c : Nat), e = .returned (.tuple #[.slice A r.1.length c, .int .i64 r.2]) ∧ At w' w'.heap.size A r.1 ∧ r.1.length ≤ c ∧ Below w.heap.size w w'

set_option maxHeartbeats 16000000 in
set_option maxRecDepth 100000 in
theorem walkof_in {S : Nat → Prop} {t x : Gn} {GA XA L : Option Addr} {gcap xcap lc n nx : Nat} {l : List Int} (w : World) (hS : ∀ b, S b → b < w.heap.size) (hg : GAt w (GBel w.heap.size) n (gv t GA gcap) t) (hx : EAt w (EBel w.heap.size) nx (ev x XA xcap) x) (hf : formE x = true) (hl : AtP w S L l) (hcap : l.length ≤ lc) (hz : roseE t l = 0) :
    Calls Tryz.prog 28 #[gv t GA gcap, ev x XA xcap, .slice L l.length lc] w (WkIn S (walkT t x l) w) := by
  have h0 := (rep_facts hz).1
  have LT := Lib.hid (fun (y : List Int) (Y : Option Addr) (yc : Nat) (hy : roseE t y = 0) (W : World) (hb : Below w.heap.size w W) (ha : At W W.heap.size Y y) (hc : y.length ≤ yc) => lesstapes_own W ((hg.below hb).more hb.size) h0 ha hc (rep_facts hy).2.1 (rep_facts hy).2.2)
  have BT := Lib.hid (fun (y : List Int) (Y : Option Addr) (yc : Nat) (W : World) (hb : Below w.heap.size w W) (ha : At W W.heap.size Y y) (hl : y.length ≤ 4294967296) => badtape_any (lc := yc) W ((hg.below hb).more hb.size) ((hx.below hb).more hb.size) h0 hf ha (Nat.le_refl _) hl)
  have RF := Lib.hid (fun (y : List Int) => rose_facts h0 y)
  have HB := Lib.hid (gx_boxes w t x GA XA gcap xcap)
  have A0 := Lib.hid (along_start (x := x) hz)
  have MB := Lib.hid (meas_bound hz)
  have LB := Lib.hid (fun y (hy : roseE t y = 0) => (rep_facts hy).2.1)
  have HL := Lib.hid hl
  have HS := Lib.hid hS
  have HC := Lib.hid hcap
  clear hg hx hf hl hcap hz h0 hS
  go_enter Tryz.func28, Tryz.ntmps28
  go_wp2_with fail
  generalize (w.alloc (gc t GA gcap)).alloc (ec x XA xcap) = W0 at *
  go_loopg [2, 8] (measL l) (fun g v s wr => ∃ (y : List Int) (Y : Option Addr) (yc st : Nat), g = measL y ∧ v = .slice Y y.length yc ∧ s = .int .i64 st ∧ Hid (Along t x l y st) ∧ Hid (AtP wr (fun b => S b ∨ (w.heap.size ≤ b ∧ b < wr.heap.size)) Y y ∧ y.length ≤ yc) ∧ Hid (Below W0.heap.size W0 wr))
  case atStart => exact ⟨l, L, lc, 0, rfl, rfl, rfl, A0.out, ⟨HL.out.keep fun b hb => ⟨.inl hb, fun o => HB.out.2.2.1.cell (p := ⟨b, o, none⟩) (HS.out b hb)⟩, HC.out⟩, Below.refl _ _⟩
  case round =>
    obtain ⟨y, Y, yc, st, rfl, rfl, rfl, hal, hya, hbb⟩ := hrel
    have B1 := Lib.hid (show Below w.heap.size w wr from HB.out.2.2.1.trans (hbb.out.mono HB.out.2.2.1.size))
    have G1 := Lib.hid (HB.out.1.below hbb.out)
    have X1 := Lib.hid (HB.out.2.1.below hbb.out)
    have KY := Lib.hid (fun b (hb : S b ∨ (w.heap.size ≤ b ∧ b < wr.heap.size)) => show b < wr.heap.size from by
      rcases hb with h | h
      · exact Nat.lt_of_lt_of_le (HS.out b h) B1.out.size
      · exact h.2)
    have YA := Lib.hid (show At wr wr.heap.size Y y from hya.out.1.keep fun b hb => ⟨KY.out b hb, fun _ => rfl⟩)
    have CL := Lib.hid (LT.out y Y yc hal.out.1 wr B1.out YA.out hya.out.2)
    have ZF := Lib.hid (RF.out y)
    have YL := Lib.hid (LB.out y hal.out.1)
    have ST := Lib.hid (show stepT t x y = (roseL t y).find? (badT t x) from rfl)
    have SB := Lib.hid (show st + measL y ≤ 1401079680 from Nat.le_trans hal.out.2.2 MB.out)
    obtain ⟨k0, k1, k2, k3⟩ := G1.out.facts
    go_wp2_with fail
    ((with_reducible refine CL.out.mono ?_))
    rintro e w1 ⟨A1, c1, rfl, hr1, hb1⟩
    generalize roseL t y = z at *
    have B2 := Lib.hid (below_trans B1.out hb1)
    have G2 := Lib.hid (G1.out.below hb1)
    have X2 := Lib.hid (X1.out.below hb1)
    have R2 := Lib.hid hr1.at_
    have RN := Lib.hid hr1.rows
    have N2 := Lib.hid hb1
    have Y2 := Lib.hid (show AtP w1 (fun b => S b ∨ (w.heap.size ≤ b ∧ b < w1.heap.size)) Y y from hya.out.1.keep fun b hb => ⟨hb.imp id (fun h => ⟨h.1, Nat.lt_of_lt_of_le h.2 hb1.size⟩), fun o => hb1.cell (p := ⟨b, o, none⟩) (KY.out b hb)⟩)
    have K2 := Lib.hid (fun b (hb : S b ∨ (w.heap.size ≤ b ∧ b < w1.heap.size)) => show b < w1.heap.size from by
      rcases hb with h | h
      · exact Nat.lt_of_lt_of_le (HS.out b h) B2.out.size
      · exact h.2)
    have WS := Lib.hid B1.out.size
    clear hr1 hb1 k0 k1 k2 k3
    obtain ⟨wo, rfl⟩ : ∃ wo : World, wo = wr := ⟨_, rfl⟩
    have ZL : z.length ≤ 5598720 := by have := ZF.out.1; have := YL.out; omega
    go_wp2_with fail
    go_loopw [10] (fun i wr => ∃ k : Nat, k ≤ z.length ∧ i = .int .i64 k ∧ Hid (∀ j (h : j < k) (h' : j < z.length), badT t x (z[j]'h') = false) ∧ Hid (Below w1.heap.size w1 wr)) (fun i _ => z.length - (intOf i).toNat)
    case atStart => exact ⟨0, Nat.zero_le _, rfl, fun j h => absurd h (by omega), Below.refl _ _⟩
    case round =>
      obtain ⟨k, hk, rfl, hno, hb2⟩ := hrel
      have B3 := Lib.hid (below_trans B2.out hb2.out)
      have G3 := Lib.hid (G2.out.below hb2.out)
      have X3 := Lib.hid (X2.out.below hb2.out)
      by_cases hlt : k < z.length
      · obtain ⟨rb, ro, rfl, hrb, hrc⟩ := RN.out (by omega)
        obtain ⟨D, d, q0, qc, q1⟩ := hrc k hlt
        have q0 := (hb2.out.cell (p := ⟨rb, ro + k, none⟩) hrb.2.1).trans q0
        have QA := Lib.hid (show At wr wr.heap.size D (z[k]'hlt) from (q1.keep fun b hb => ⟨Nat.lt_of_lt_of_le hb.2.1 hb2.out.size, fun o => hb2.out.cell (p := ⟨b, o, none⟩) hb.2.1⟩))
        have QN := Lib.hid (show AtP wr (fun b => w.heap.size ≤ b ∧ b < wr.heap.size) D (z[k]'hlt) from (q1.keep fun b hb => ⟨⟨Nat.le_trans WS.out hb.1, Nat.lt_of_lt_of_le hb.2.1 hb2.out.size⟩, fun o => hb2.out.cell (p := ⟨b, o, none⟩) hb.2.1⟩))
        have QC := Lib.hid qc
        have FS := Lib.hid (fun (h : badT t x (z[k]'hlt) = true) => find_at hlt (fun j hj => hno.out j hj (Nat.lt_trans hj hlt)) h)
        have XL := Lib.hid ((ZF.out.2 _ (List.getElem_mem hlt)).2.2)
        have NX := Lib.hid (fun (h : badT t x (z[k]'hlt) = false) => show ∀ j (h : j < k + 1) (h' : j < z.length), badT t x (z[j]'h') = false from fun j hj hj' => by
          by_cases e : j = k
          · subst e; exact h
          · exact hno.out j (by omega) hj')
        clear hrc qc q1
        generalize z[k]'hlt = u at *
        have CB := Lib.hid (BT.out u D d wr.drew B3.out.drew QA.out.drew (by have := XL.out; omega))
        have hd : decide ((k : Int) < (z.length : Int)) = true := by rw [decide_eq_true_eq]; omega
        have g1 : rb < wr.heap.size := World.block_lt_of_cell? _ _ q0
        generalize badT t x u = q at *
        obtain ⟨k0, k1, k2, k3⟩ := G3.out.facts
        obtain ⟨x0, x1, x2⟩ := X3.out.facts
        go_wp2_with fail
        go_region_held3 (fun w' => w'.cell? ⟨w.heap.size, 0, none⟩ = some (.int .i64 t.kind) ∧ w'.cell? ⟨w.heap.size, 1, none⟩ = some (.int .i64 t.a) ∧ w'.cell? ⟨w.heap.size, 2, none⟩ = some (.int .i64 t.b) ∧ w'.cell? ⟨w.heap.size, 3, none⟩ = some (.slice GA t.subs.length gcap) ∧ w'.cell? ⟨w.heap.size + 1, 0, none⟩ = some (.int .i64 x.kind) ∧ w'.cell? ⟨w.heap.size + 1, 1, none⟩ = some (.int .i64 x.a) ∧ w'.cell? ⟨w.heap.size + 1, 2, none⟩ = some (.slice XA x.subs.length xcap) ∧ w'.cell? ⟨rb, ro + k, none⟩ = some (.slice D u.length d)) (first | exact ⟨k0, k1, k2, k3, x0, x1, x2, q0⟩ | exact ⟨j0, j1, j2, j3, j4, j5, j6, j7⟩)
          (((with_reducible refine CB.out.mono ?_); rintro e w2 ⟨rfl, hb3⟩; have B4 := Lib.hid (show Below wr.heap.size wr w2 from ⟨hb3.os, hb3.tape, hb3.output, hb3.size, hb3.block⟩); obtain ⟨j0, j1, j2, j3⟩ := (G3.out.below B4.out).facts; obtain ⟨j4, j5, j6⟩ := (X3.out.below B4.out).facts; have j7 := (B4.out.cell (p := ⟨rb, ro + k, none⟩) g1).trans q0; clear hb3))
        clear k0 k1 k2 k3 x0 x1 x2 q0 CB
        cases q
        · have NO := Lib.hid (NX.out rfl)
          have B5 := Lib.hid (below_trans hb2.out B4.out)
          clear j0 j1 j2 j3 j4 j5 j6 j7
          go_wp2_with fail
          go_roundw
          case rel => exact ⟨k + 1, by omega, by go_num, NO.out, B5.out⟩
          case measure => simp [intOf]; omega
        · have FD := Lib.hid (show stepT t x y = some u by rw [ST.out]; exact FS.out rfl)
          have AN := Lib.hid (along_step hal.out FD.out)
          have QB := Lib.hid (show AtP w2 (fun b => S b ∨ (w.heap.size ≤ b ∧ b < w2.heap.size)) D u ∧ u.length ≤ d from ⟨QN.out.keep fun b hb => ⟨.inr ⟨hb.1, Nat.lt_of_lt_of_le hb.2 B4.out.size⟩, fun o => B4.out.cell (p := ⟨b, o, none⟩) hb.2⟩, QC.out⟩)
          have B5 := Lib.hid (show Below W0.heap.size W0 w2 from below_trans (below_trans (below_trans hbb.out N2.out) hb2.out) B4.out)
          have sb := SB.out
          have hne : ((k : Int) == (z.length : Int)) = false := by rw [beq_eq_false_iff_ne]; omega
          clear j0 j1 j2 j3 j4 j5 j6
          go_wp2_with fail
          go_roundg (measL u)
          case measure => exact AN.out.2
          case rel => exact ⟨u, D, d, st + 1, rfl, rfl, by go_num, AN.out.1, QB.out, B5.out⟩
      · have hd : decide ((k : Int) < (z.length : Int)) = false := by rw [decide_eq_false_iff_not]; omega
        have FD := Lib.hid (show stepT t x y = none by rw [ST.out]; exact find_no (fun j hj => hno.out j (by omega) hj))
        have EQ := Lib.hid (along_end hal.out FD.out)
        have YE := Lib.hid (show AtP wr (fun b => S b ∨ (w.heap.size ≤ b ∧ b < wr.heap.size)) Y y from Y2.out.keep fun b hb => ⟨hb.imp id (fun h => ⟨h.1, Nat.lt_of_lt_of_le h.2 hb2.out.size⟩), fun o => hb2.out.cell (p := ⟨b, o, none⟩) (K2.out b hb)⟩)
        have he : ((k : Int) == (z.length : Int)) = true := by rw [beq_iff_eq]; omega
        obtain ⟨k0, k1, k2, k3⟩ := G3.out.facts
        obtain ⟨x0, x1, x2⟩ := X3.out.facts
        go_wp2_with fail
        go_quiet (fail)
        go_wp2_with fail
        go_ret2
        refine ⟨Y, yc, ?_, ?_, ?_, ?_⟩
        · rw [EQ.out]; rfl
        · rw [EQ.out]; exact YE.out
        · rw [EQ.out]; exact hya.out.2
        · first | exact Below.refl _ _ | exact B3.out | exact below_drewN B3.out _ | exact B3.out.drewN _ | exact below_trans B3.out (below_drewN _ _)
theorem walkof_any {t x : Gn} {GA XA L : Option Addr} {gcap xcap lc n nx : Nat} {l : List Int} (w : World) (hg : GAt w (GBel w.heap.size) n (gv t GA gcap) t) (hx : EAt w (EBel w.heap.size) nx (ev x XA xcap) x) (hf : formE x = true) (hl : At w w.heap.size L l) (hcap : l.length ≤ lc) (hz : roseE t l = 0) :
    Calls Tryz.prog 28 #[gv t GA gcap, ev x XA xcap, .slice L l.length lc] w (WkPost (walkT t x l) w) := by
  refine (walkof_in (S := (· < w.heap.size)) w (fun b h => h) hg hx hf hl hcap hz).mono ?_
  rintro e w' ⟨A, c, he, ho, hc, hb⟩
  exact ⟨A, c, he, ho.keep fun b h => ⟨by rcases h with h | h; exact Nat.lt_of_lt_of_le h hb.size; exact h.2, fun _ => rfl⟩, hc, hb⟩
end Go.Proofs.YtabkihellcflhaaGreatDoor.Gens

/- Contract of the document's own MostOf, of what Played does. Condition: the sizes. -/
namespace Go.Proofs.YtabkihellcflhaaGreatDoor.Gens
open Go.RowKit Lists Ints Vals
set_option linter.unusedVariables false

/-- the choice that comes at a place; -1: there is none -/
def mostG (g : Gn) (l : List Int) (k : Nat) : Int := match play mendC g (l.take k ++ [1001]) with
  | .ok (m, _, _) => if m.length ≤ k then -1 else m.getD k 0
  | .error _ => 0
theorem at_take {w : World} {B : Nat} {A : Option Addr} {l : List Int} (h : At w B A l) (k : Nat) : At w B A (l.take k) := fun hp => by
  have hl : 0 < l.length := by rw [List.length_take] at hp; omega
  obtain ⟨b, off, e, hb, hc⟩ := h hl
  refine ⟨b, off, e, hb, fun j hj => ?_⟩
  rw [List.length_take] at hj
  rw [hc j (by omega)]
  rw [List.getD, List.getD, List.getElem?_take, if_pos (by omega)]

theorem new12 (w : World) (o q : Obj) : ((w.alloc o).alloc q).heap[w.heap.size]? = some o := by
  have h := heap_alloc_new w o
  exact (((Below.refl (w.heap.size + 1) (w.alloc o)).alloc (by simp) q).block _ (by omega)).trans h
theorem bel2 (w : World) (o q : Obj) {N : Nat} (hN : N ≤ w.heap.size) : Below N w ((w.alloc o).alloc q) :=
  ((Below.refl _ _).alloc hN _).alloc (by simp; omega) _

set_option maxHeartbeats 2000000 in
set_option maxRecDepth 100000 in
theorem mostof_any (HP : Plays) (n : Nat) (g : Gn) (A : Option Addr) (c : Nat) (l : List Int) (L : Option Addr) (lc k B : Nat) (w : World) (hg : GAt w (GBel B) n (gv g A c) g) (hr : Right g) (hs : g.size ≤ 4294967296) (hl : At w B L l) (hB : B ≤ w.heap.size)
    (hq : longG g ≤ 4294967296) (hll : l.length ≤ 4294967295) (hk : k ≤ l.length) (hc : l.length ≤ lc) :
    Calls Tryz.prog 50 #[gv g A c, .slice L l.length lc, .int .i64 k] w fun e w' => e = .returned (.int .i64 (mostG g l k)) ∧ Below w.heap.size w w' := by
  obtain ⟨m, v, r, hm⟩ := mend_ex hr (l.take k ++ [1001])
  have R := Lib.hid (show mostG g l k = if m.length ≤ k then -1 else m.getD k 0 by unfold mostG; rw [hm])
  have ML := (play_long mend_bounded g hr _ _ _ _ hm)
  have P := Lib.hid (fun (w1 : World) (b1 : Below w.heap.size w w1) (z : List Int) (A2 : Option Addr) (c2 : Nat) (hz : z = l.take k ++ [1001]) (ha : At w1 w1.heap.size A2 z) =>
    mendof_any HP n g A c z A2 c2 w1.heap.size w1 ((hg.below (b1.mono hB)).more (Nat.le_trans hB b1.size)) hr hs ha (Nat.le_refl _) hq (by rw [hz]; simp; omega) (m := m) (x := v) (r := r) (by rw [hz]; exact hm))
  have HT := Lib.hid (at_take hl k)
  have HB := Lib.hid hB
  have LT : (l.take k).length = k := by rw [List.length_take]; omega
  have LT := Lib.hid LT
  clear hm hg hr hs hl hB HP
  go_enter Tryz.func50, Tryz.ntmps50
  go_wp2_with (first
    | (at_builtin
       refine wpList_append_ints rfl (.tmp 9) (.tmp 12) rfl (w.heap.size + 1) 0 (some ⟨w.heap.size + 1, 0, none⟩) [] (Own.empty (new22 _ _ _)) B L lc (l.take k) (HT.out.below (bel2 _ _ _ HB.out)) rfl (by rw [LT.out]; rfl) (by rw [LT.out]; simp; omega) (by simp) ?_
       intro A3 c3 w3 z3 hz3 own3 g3 r3
       have P3 := (Below.refl (w.heap.size + 1) _).grown g3 (by simp) (by intro k hk; simp [rowOf] at hk; omega)
       have Z3 : w.heap.size + 1 ≤ w3.heap.size := by have := P3.size; simp at this; omega
       have L3 := Lib.hid (show z3.length = k by rw [hz3.out]; simp [LT.out]))
    | (at_builtin
       refine wpList_append_ints rfl (.tmp 13) (.tmp 14) rfl (w.heap.size + 1) c3 A3 z3 (Own.below own3 ((Below.refl _ _).alloc (Nat.le_refl _) _)) (w3.heap.size + 1) (some ⟨w3.heap.size, 0, none⟩) 1 [1001]
         (lone_at w3.heap.size _ _ (by simp)) rfl rfl (by have := L3.out; simp; omega) (by simp; omega) ?_
       intro A4 c4 w4 z4 hz4 own4 g4 r4
       have P4 := (P3.alloc Z3 (.cells #[.int .i64 1001] 3)).grown g4 (by simp; omega) own3.ge
       have B4 := Lib.hid ((bel2 w _ _ (Nat.le_refl _)).trans (P4.mono (Nat.le_succ _)))
       have C1 := Lib.hid (P.out w4 B4.out z4 A4 c4 (by rw [hz4.out, hz3.out]; simp) own4.at_)
       have E0 := (P4.block w.heap.size (by omega)).trans (new12 _ _ _)
       have C00 : w4.cell? ⟨w.heap.size, 0, none⟩ = some (.int .i64 g.kind) := by rw [Lib.cell_of_heap E0]; rfl
       have C01 : w4.cell? ⟨w.heap.size, 1, none⟩ = some (.int .i64 g.a) := by rw [Lib.cell_of_heap E0]; rfl
       have C02 : w4.cell? ⟨w.heap.size, 2, none⟩ = some (.int .i64 g.b) := by rw [Lib.cell_of_heap E0]; rfl
       have C03 : w4.cell? ⟨w.heap.size, 3, none⟩ = some (.slice A g.subs.length c) := by rw [Lib.cell_of_heap E0]; rfl
       clear P3 P4 Z3 E0 own3 own4 g3 g4 r3 r4)
    | fail)
  refine C1.out.mono ?_
  rintro e w5 ⟨b5, TA, tc, rfl, ha⟩
  have B5 := Lib.hid (on B4.out b5)
  clear C00 C01 C02 C03 b5
  by_cases hmk : m.length ≤ k
  · have R2 := Lib.hid (show mostG g l k = -1 by rw [R.out, if_pos hmk])
    have g1 : decide ((m.length : Int) ≤ k) = true := by rw [decide_eq_true_eq]; omega
    clear ha
    go_wp2_with fail
    go_ret
    exact ⟨ret_int R2.out.symm, B5.out⟩
  · have R2 := Lib.hid (show mostG g l k = m.getD k 0 by rw [R.out, if_neg hmk])
    have g1 : decide ((m.length : Int) ≤ k) = false := by rw [decide_eq_false_iff_not]; omega
    have g2 : k < m.length := by omega
    obtain ⟨b, off, rfl, _, hcell⟩ := ha (by omega)
    have c1 := hcell k g2
    clear hcell
    generalize m.getD k 0 = y at c1 R2
    go_wp2_with fail
    go_ret
    exact ⟨ret_int R2.out.symm, B5.out⟩
end Go.Proofs.YtabkihellcflhaaGreatDoor.Gens

/- What comes next in a draw: the greatest choice there. Without a program. -/
namespace Go.Proofs.YtabkihellcflhaaGreatDoor.Gens
open Go.RowKit Lists Ints Vals Rng
set_option linter.unusedVariables false

/-- the seed after so many choices -/
def adv : Nat → Int × Int → Int × Int
  | 0, s => s
  | n + 1, s => adv n (plus s.1 s.2, s.2)
theorem adv_add : ∀ (m n : Nat) (s : Int × Int), adv (m + n) s = adv n (adv m s)
  | 0, n, s => by rw [Nat.zero_add]; rfl
  | m + 1, n, s => by rw [Nat.succ_add]; exact adv_add m n _
theorem mend_top {m : Int} (h0 : 0 ≤ m) (h1 : m ≤ 1000) (r : List Int) : mendC (1001 :: r) m = .ok (m, r) := by
  unfold mendC mendX
  have e : max 0 (min 1001 m) = m := by omega
  rw [List.tail_cons]
  exact congrArg (fun z => Except.ok (z, r)) e
theorem draw_eq {s s1 : Int × Int} {m x : Int} (h1 : m ≤ 1000) (h : drawC s m = .ok (x, s1)) : x = belowK s.1 s.2 (m + 1) ∧ s1 = adv 1 s := by
  unfold drawC at h
  rw [if_pos h1] at h
  simp only [Except.ok.injEq, Prod.mk.injEq] at h
  exact ⟨h.1.symm, h.2.symm⟩
/-- of each place: the choice is of the greatest that a mended tape has there -/
def NxC {α : Type} (f : List Int → Except Int (List Int × α × List Int)) (s : Int × Int) (c : List Int) : Prop :=
  ∀ i, i < c.length → ∀ r, ∃ m c' v' r', 0 ≤ m ∧ m ≤ 1000 ∧ c.getD i 0 = belowK (adv i s).1 (adv i s).2 (m + 1) ∧ f (c.take i ++ 1001 :: r) = .ok (c.take i ++ m :: c', v', r')
theorem NxC.nil {α : Type} {f : List Int → Except Int (List Int × α × List Int)} {s : Int × Int} : NxC f s [] := fun i h => by simp at h
theorem NxC.cons {α β : Type} {f : List Int → Except Int (List Int × α × List Int)} {F : List Int → Except Int (List Int × β × List Int)} {s : Int × Int} {x m : Int} {c : List Int}
    (hm0 : 0 ≤ m) (hm1 : m ≤ 1000) (hx : x = belowK s.1 s.2 (m + 1)) (h0 : ∀ r, ∃ c' v' r', f (1001 :: r) = .ok (m :: c', v', r'))
    (h1 : ∀ z c' v' r', F z = .ok (c', v', r') → ∃ v2, f (x :: z) = .ok (x :: c', v2, r')) (hF : NxC F (adv 1 s) c) : NxC f s (x :: c) := by
  intro i hi r
  cases i with
  | zero =>
    obtain ⟨c', v', r', h⟩ := h0 r
    exact ⟨m, c', v', r', hm0, hm1, hx, h⟩
  | succ i =>
    obtain ⟨m2, c', v', r', q0, q1, q2, q3⟩ := hF i (by simpa using hi) r
    obtain ⟨v2, h⟩ := h1 _ _ _ _ q3
    exact ⟨m2, c', v2, r', q0, q1, q2, h⟩
def NxM (g : Gn) (s : Int × Int) (c : List Int) (v : Tr) (s' : Int × Int) : Prop :=
  g.size ≤ 30 → Right g ∧ s' = adv c.length s ∧ (∀ r, play mendC g (c ++ r) = .ok (c, v, r)) ∧ NxC (play mendC g) s c
def NxL (l : List Gn) (s : Int × Int) (c : List Int) (vs : List Tr) (s' : Int × Int) : Prop :=
  (∀ g ∈ l, g.size ≤ 30) → (∀ g ∈ l, Right g) ∧ s' = adv c.length s ∧ (∀ r, playAll mendC l (c ++ r) = .ok (c, vs, r)) ∧ NxC (playAll mendC l) s c
theorem nx_cons (g : Gn) (l : List Gn) (s : Int × Int) (c : List Int) (v : Tr) (s1 : Int × Int) (c2 : List Int) (vs : List Tr) (s2 : Int × Int) (h1 : NxM g s c v s1) (h2 : NxL l s1 c2 vs s2) : NxL (g :: l) s (c ++ c2) (v :: vs) s2 := by
  intro hz
  obtain ⟨a1, a2, a3, a4⟩ := h1 (hz g (by simp))
  obtain ⟨b1, b2, b3, b4⟩ := h2 (fun x hx => hz x (by simp [hx]))
  refine ⟨fun x hx => ?_, ?_, fun r => ?_, fun i hi r => ?_⟩
  · rcases List.mem_cons.1 hx with rfl | hx
    · exact a1
    · exact b1 x hx
  · rw [List.length_append, adv_add, ← a2]; exact b2
  · rw [List.append_assoc, playAll, a3]
    simp only [b3]
  · by_cases hlt : i < c.length
    · obtain ⟨m, c', v', r', q0, q1, q2, q3⟩ := a4 i hlt r
      obtain ⟨c3, vs3, r3, h3⟩ := all_total mend_total l b1 r'
      refine ⟨m, c' ++ c3, v' :: vs3, r3, q0, q1, ?_, ?_⟩
      · rw [← q2, List.getD, List.getD, List.getElem?_append_left hlt]
      · rw [List.take_append_of_le_length (by omega), playAll, q3]
        simp only [h3, List.append_assoc, List.cons_append]
    · obtain ⟨m, c', v', r', q0, q1, q2, q3⟩ := b4 (i - c.length) (by rw [List.length_append] at hi; omega) r
      refine ⟨m, c', v :: v', r', q0, q1, ?_, ?_⟩
      · have e : adv i s = adv (i - c.length) s1 := by rw [a2, ← adv_add]; congr 1; omega
        rw [e, ← q2, List.getD, List.getD, List.getElem?_append_right (by omega)]
      · have e : (c ++ c2).take i = c ++ c2.take (i - c.length) := by rw [List.take_append, List.take_of_length_le (by omega)]
        rw [e, List.append_assoc, playAll, a3]
        simp only [q3, List.append_assoc]
theorem draw_ind : Ind drawC NxM NxL where
  just := fun a b subs s hr hz => ⟨hr, rfl, fun r => by simp [play], NxC.nil⟩
  int := fun a b subs s x s1 hr hx0 hx1 h hz => by
    obtain ⟨m0, m1⟩ := (right_max hr).1 rfl
    obtain ⟨e1, e2⟩ := draw_eq m1 h
    refine ⟨hr, e2, fun r => ?_, NxC.cons (F := fun z => .ok ([], (), z)) m0 m1 e1 (fun r => ⟨[], _, r, by simp [play, mend_top m0 m1]; rfl⟩) (fun z c' v' r' hz => ?_) NxC.nil⟩
    · simp [play, mend_reads x _ r hx0 hx1]
    · simp only [Except.ok.injEq, Prod.mk.injEq] at hz
      obtain ⟨rfl, _, rfl⟩ := hz
      exact ⟨_, by simp [play, mend_reads x _ z hx0 hx1]; rfl⟩
  any := fun a b subs s x s1 c v s2 hlt hr hx0 h hM hz => by
    have m0 := (right_max hr).2.1 rfl
    have hsz : 1 + gsizes subs ≤ 30 := hz
    have m1 : (subs.length : Int) - 1 ≤ 1000 := by have := glen_sizes subs; omega
    obtain ⟨e1, e2⟩ := draw_eq m1 h
    have hmem := List.getElem_mem hlt
    obtain ⟨a1, a2, a3, a4⟩ := hM (by have := gsize_mem subs _ hmem; omega)
    have hx1 : x ≤ (subs.length : Int) - 1 := by omega
    refine ⟨hr, ?_, fun r => ?_, NxC.cons (F := play mendC (subs[x.toNat]'hlt)) m0 m1 e1 (fun r => ?_) (fun z c' v' r' hz => ?_) (by rw [← e2]; exact a4)⟩
    · rw [a2, e2]; rfl
    · simp [play, mend_reads x _ (c ++ r) hx0 hx1, at_get subs _ _ hlt, a3]
    · have hl2 : subs.length - 1 < subs.length := by omega
      have el : ((subs.length : Int) - 1).toNat = subs.length - 1 := by omega
      obtain ⟨c', v', r', h4⟩ := play_total mend_total (subs[subs.length - 1]'hl2) (hr.subs _ (List.getElem_mem hl2)) r
      exact ⟨c', v', r', by simp [play, mend_top m0 m1, el, at_get subs _ _ hl2, h4]⟩
    · exact ⟨v', by simp [play, mend_reads x _ z hx0 hx1, at_get subs _ _ hlt, hz]⟩
  both := fun a b subs s c vs s1 hr hL hz => by
    have hsz : 1 + gsizes subs ≤ 30 := hz
    obtain ⟨a1, a2, a3, a4⟩ := hL (fun x hx => by have := gsize_mem subs x hx; omega)
    refine ⟨hr, a2, fun r => by simp [play, a3], fun i hi r => ?_⟩
    obtain ⟨m, c', v', r', q0, q1, q2, q3⟩ := a4 i hi r
    exact ⟨m, c', .node true 0 v', r', q0, q1, q2, by simp [play, q3]⟩
  many := fun a b g s x s1 c vs s2 hr hx0 hx1 ha5 h hL hz => by
    obtain ⟨m0, _, _⟩ := (right_max hr).2.2.1 rfl
    have m1 : a ≤ 1000 := by omega
    have hsz : 1 + (g.size + 0) ≤ 30 := by simpa [Gn.size, gsizes] using hz
    obtain ⟨e1, e2⟩ := draw_eq m1 h
    have hrg : Right g := hr.subs g (by simp [Gn.subs])
    obtain ⟨a1, a2, a3, a4⟩ := hL (fun x hx => by rw [List.eq_of_mem_replicate hx]; omega)
    refine ⟨hr, ?_, fun r => ?_, NxC.cons (F := playAll mendC (List.replicate x.toNat g)) m0 m1 e1 (fun r => ?_) (fun z c' v' r' hz => ?_) (by rw [← e2]; exact a4)⟩
    · rw [a2, e2]; rfl
    · simp [play, mend_reads x _ (c ++ r) hx0 hx1, rep_all', a3]
    · obtain ⟨c', v', r', h4⟩ := all_total mend_total (List.replicate a.toNat g) (fun y hy => by rw [List.eq_of_mem_replicate hy]; exact hrg) r
      exact ⟨c', .node true 0 v', r', by simp [play, mend_top m0 m1, rep_all', h4]⟩
    · exact ⟨.node true 0 v', by simp [play, mend_reads x _ z hx0 hx1, rep_all', hz]⟩
  nil := fun s hz => ⟨fun g hg => by simp at hg, rfl, fun r => by simp [playAll], NxC.nil⟩
  cons := fun g r s c v s1 c2 vs s2 h1 h2 => nx_cons g r s c v s1 c2 vs s2 h1 h2
/-- what a draw has, place by place -/
theorem draw_next {g : Gn} (hr : Right g) (hz : g.size ≤ 30) {s s' : Int × Int} {c : List Int} {v : Tr} (h : play drawC g s = .ok (c, v, s')) :
    s' = adv c.length s ∧ (∀ r, play mendC g (c ++ r) = .ok (c, v, r)) ∧ NxC (play mendC g) s c :=
  (play_ind draw_bounded draw_ind g hr s c v s' h hz).2
end Go.Proofs.YtabkihellcflhaaGreatDoor.Gens
