/- Contracts of the document's own ValueAt and ValueOf. Condition: the size. -/
import Derived.Test.YtgeljcfokeiaeaaDoorReadL
import Derived.Test.YtgeljcfokeiaeaaDoorParseV
import Derived.Test.YtgeljcfokeiaeaaDoorAtP
import Derived.Test.YtgeljcfokeiaeaaDoorNumOf
namespace Go.Proofs.YtgeljcfokeiaeaaDoor.Vals
open Go.RowKit Go.ChangeShapes Lists Ints Build Ref
open Go.Lib (itoa)
set_option linter.unusedVariables false

/-- what ValueAt answers -/
def AtEnds (k : Nat) (s : ByteArray) (p : Nat) (w : World) (e : Ending) (w' : World) : Prop :=
  (∃ (t : Tr) (q : Nat) (A : Option Addr) (c : Nat), Good k t ∧ q ≤ s.size ∧ s.data.toList.drop p = textV t ++ s.data.toList.drop q ∧ Fits t (s.data.toList.drop q) ∧
    e = .returned (.tuple #[.agg #[.bool t.list, .int .i64 t.num, .slice A t.items.length c], .int .i64 q]) ∧ TAt w' (New w w') k (.agg #[.bool t.list, .int .i64 t.num, .slice A t.items.length c]) t ∧ Below w.heap.size w w') ∨
  ((∀ (t : Tr) (r : List UInt8), Good k t → Fits t r → s.data.toList.drop p ≠ textV t ++ r) ∧ e = .returned (.tuple #[zeroV, .int .i64 (-1)]) ∧ Below w.heap.size w w')
def AtOK (k : Nat) : Prop := ∀ (s : ByteArray) (p : Nat) (x y : Int) (w : World), x = k → y = p → k ≤ 6 → s.size ≤ 1073741824 → p ≤ s.size →
  Calls Tryd.prog 22 #[.string s, .int .i64 y, .int .i64 x] w (AtEnds k s p w)

theorem itoa_nonnil (n : Int) (r : List UInt8) : itoa n ++ r ≠ [] := by
  obtain ⟨c, q, e, _⟩ := itoa_head n
  rw [e]; simp
theorem textV_nonnil (t : Tr) (r : List UInt8) : textV t ++ r ≠ [] := by
  obtain ⟨c, q, e, _⟩ := textV_head t
  rw [e]; simp

set_option maxHeartbeats 1000000 in
set_option maxRecDepth 100000 in
theorem at_zero : AtOK 0 := by
  intro s p x y w hx hy hk hs hp
  obtain rfl : x = 0 := by omega
  subst hy
  clear hx
  go_enter Tryd.func22, Tryd.ntmps22
  go_wp2_with fail
  refine bodyPost_ret (v := .tuple #[zeroV, .int .i64 (-1)]) (by simp [results, Tryd.results22, go_sem]) rfl ?_
  exact .inr ⟨fun t r hg _ => (good_zero hg).elim, rfl, (Below.refl _ _).alloc (Nat.le_refl _) _⟩

theorem ext_sub (s : ByteArray) (p m : Nat) : (s.extract p (p + m)).data.toList = (s.data.toList.drop p).take m := by
  rw [ByteArray.data_extract, Array.toList_extract, List.extract_eq_take_drop, Nat.add_sub_cancel_left]
set_option maxHeartbeats 4000000 in
set_option maxRecDepth 100000 in
theorem at_num (k : Nat) (s : ByteArray) (p : Nat) (x : Int) (w : World) (hx : x = (k + 1 : Nat)) (hk : k + 1 ≤ 6) (hs : s.size ≤ 1073741824) (hp : p < s.size) (hc : s[p]'hp ≠ 40) :
    Calls Tryd.prog 22 #[.string s, .int .i64 (p : Int), .int .i64 x] w (AtEnds (k + 1) s p w) := by
  have x1 : 1 ≤ x := by omega
  have x6 : x ≤ 6 := by omega
  have x0 : decide (x < 1) = false := by rw [decide_eq_false_iff_not]; omega
  have g1 : decide ((s.size : Int) ≤ (p : Int)) = false := by rw [decide_eq_false_iff_not]; omega
  have g2 : decide (s.size ≤ p) = false := by rw [decide_eq_false_iff_not]; omega
  have n40 : (((s[p]'hp).toNat : Int) != 40) = true := by rw [bne_iff_ne]; intro e; exact hc (UInt8.toNat_inj.1 (by show _ = 40; omega))
  obtain ⟨q, hq⟩ : ∃ q, q = p + (wordE (s.data.toList.drop p)).length := ⟨_, rfl⟩
  have WR := wordE_rest (s.data.toList.drop p)
  have hwl : q ≤ s.size := by
    have h1 := congrArg List.length WR.1
    have h2 : (s.data.toList.drop p).length = s.size - p := by rw [List.length_drop, ← size_toList]
    rw [List.length_append, h2] at h1
    omega
  have hpq : p ≤ q := by omega
  have step := Lib.hid (show ∀ i, p ≤ i → i < q → ∀ h : i < s.size, s[i]'h ≠ 32 ∧ s[i]'h ≠ 41 by
    intro i h1 h2 h
    have h3 := WR.2.2 (i - p) (by omega) (by rw [List.length_drop, ← size_toList]; omega)
    have e : (s.data.toList.drop p)[i - p]'(by rw [List.length_drop, ← size_toList]; omega) = s[i]'h := by
      rw [List.getElem_drop]
      have : p + (i - p) = i := by omega
      simp only [this]
      exact Ref.byte_at s i h
    rw [e] at h3
    exact h3)
  have DQ := Lib.hid (show s.data.toList.drop p = wordE (s.data.toList.drop p) ++ s.data.toList.drop q ∧ Stops (s.data.toList.drop q) by
    rw [hq, ← List.drop_drop]
    exact ⟨WR.1.symm, WR.2.1⟩)
  have XE := Lib.hid (show (s.extract p q).data.toList = wordE (s.data.toList.drop p) by
    rw [hq, ext_sub]
    have h1 := congrArg (List.take (wordE (s.data.toList.drop p)).length) WR.1
    rw [List.take_left' rfl] at h1
    exact h1.symm)
  have HC := Lib.hid hc
  have hA : Below w.heap.size w (w.alloc (.cells #[.bool false, .int .i64 0, .slice none 0 0] 24)) := (Below.refl _ _).alloc (Nat.le_refl _) _
  have NO := Lib.hid (number_any (s.extract p q) (w.alloc (.cells #[.bool false, .int .i64 0, .slice none 0 0] 24)) (by rw [size_toList, XE.out]; have h1 := congrArg List.length WR.1; rw [List.length_append, List.length_drop, List.length_drop, ← size_toList] at h1; omega))
  have HX := Lib.hid (B3.new w (.bool false) (.int .i64 0) (.slice none 0 0))
  have HA := Lib.hid hA
  clear WR hq hc hx hA
  go_enter Tryd.func22, Tryd.ntmps22
  go_wp2_with fail
  go_loopw [8] (fun v wr => ∃ i : Nat, p ≤ i ∧ i ≤ q ∧ v = .int .i64 i ∧ wr = w.alloc (.cells #[.bool false, .int .i64 0, .slice none 0 0] 24)) (fun v _ => s.size - (intOf v).toNat)
  case atStart => exact ⟨p, Nat.le_refl _, hpq, rfl, rfl⟩
  case round =>
    obtain ⟨i, hi1, hi2, rfl, rfl⟩ := hrel
    by_cases hlt : i < q
    · have hsz : i < s.size := by omega
      obtain ⟨a1, a2⟩ := step.out i hi1 hlt hsz
      have b1 : (((s[i]'hsz).toNat : Int) != 32) = true := by rw [bne_iff_ne]; intro e; exact a1 (UInt8.toNat_inj.1 (by show _ = 32; omega))
      have b2 : (((s[i]'hsz).toNat : Int) != 41) = true := by rw [bne_iff_ne]; intro e; exact a2 (UInt8.toNat_inj.1 (by show _ = 41; omega))
      have b3 : decide ((i : Int) < (s.size : Int)) = true := by rw [decide_eq_true_eq]; omega
      have b4 : decide (i < s.size) = true := by rw [decide_eq_true_eq]; omega
      clear a1 a2
      go_wp2_with fail
      go_roundw
      case rel => exact ⟨i + 1, by omega, by omega, by go_num, by first | rfl | trivial⟩
      case measure => simp [intOf]; omega
    · obtain rfl : i = q := by omega
      clear hlt hi2
      have hcase : i = s.size ∨ ∃ h : i < s.size, s[i]'h = 32 ∨ s[i]'h = 41 := by
        rcases Nat.lt_or_ge i s.size with h | h
        · refine .inr ⟨h, ?_⟩
          have h1 := DQ.out.2
          rw [drop_at s i h] at h1
          rcases h1 with h1 | ⟨c, r, h1, h2⟩
          · cases h1
          · injection h1 with h1 _
            rw [h1]; exact h2
        · exact .inl (by omega)
      have fin : ∀ (P : Prop), (i = s.size → P) → (∀ h : i < s.size, s[i]'h = 32 → P) → (∀ h : i < s.size, s[i]'h = 41 → P) → P := by
        intro P a b c
        rcases hcase with h | ⟨h, h1 | h1⟩
        · exact a h
        · exact b h h1
        · exact c h h1
      clear hcase
      refine fin _ (fun he => ?_) (fun he h32 => ?_) (fun he h41 => ?_)
      · have b3 : decide ((i : Int) < (s.size : Int)) = false := by rw [decide_eq_false_iff_not]; omega
        have b4 : decide (i < s.size) = false := by rw [decide_eq_false_iff_not]; omega
        clear he fin
        go_wp2_with fail
        refine NO.out.mono ?_
        rintro e w2 ⟨n, b, rfl, hni, hb2⟩
        have B2 := Lib.hid (on HA.out hb2)
        have x2 := HX.out.below hb2
        have NI := Lib.hid hni
        clear hni hb2
        obtain ⟨z0, z1, z2, y0, y1, y2⟩ := x2.facts
        cases b with
        | true =>
          go_wp2_with fail
          refine bodyPost_ret (v := .tuple #[.agg #[.bool false, .int .i64 n, .slice none 0 0], .int .i64 i]) (by simp [results, Tryd.results22, go_sem, z0, z1, z2]) rfl ?_
          exact .inl ⟨.node false n [], i, none, 0, good_num NI.out.1, hwl, by rw [textV_num _ rfl]; show _ = itoa n ++ _; rw [NI.out.2.1 rfl, XE.out]; exact DQ.out.1, fun _ => DQ.out.2, rfl, ⟨wf_of_i64 NI.out.1, none, 0, rfl, fun hp => by simp [Tr.items] at hp⟩, below_set (below_set (below_set B2.out (Nat.le_refl _) _ _) (Nat.le_refl _) _ _) (Nat.le_refl _) _ _⟩
        | false =>
          go_wp2_with fail
          refine bodyPost_ret (v := .tuple #[zeroV, .int .i64 (-1)]) (by simp [results, Tryd.results22, go_sem, z0, z1, z2]) rfl ?_
          refine .inr ⟨fun t r hg hf e => ?_, rfl, below_set (below_set (below_set B2.out (Nat.le_refl _) _ _) (Nat.le_refl _) _ _) (Nat.le_refl _) _ _⟩
          cases hl : t.list with
          | true =>
            rw [textV_list t hl, drop_at s p hp] at e
            simp only [List.cons_append, List.cons.injEq] at e
            exact HC.out e.1
          | false =>
            rw [textV_num t hl] at e
            have h1 := (NI.out.2.2 t.num (Tr.i64_num hg.2) ((wordE_itoa e (hf hl)).trans XE.out.symm)).2
            cases h1
      · have b3 : decide ((i : Int) < (s.size : Int)) = true := by rw [decide_eq_true_eq]; omega
        have b4 : decide (i < s.size) = true := by rw [decide_eq_true_eq]; omega
        have b1 : (((s[i]'he).toNat : Int) != 32) = false := by rw [bne_eq_false_iff_eq, h32]; rfl
        clear h32 fin
        go_wp2_with fail
        refine NO.out.mono ?_
        rintro e w2 ⟨n, b, rfl, hni, hb2⟩
        have B2 := Lib.hid (on HA.out hb2)
        have x2 := HX.out.below hb2
        have NI := Lib.hid hni
        clear hni hb2
        obtain ⟨z0, z1, z2, y0, y1, y2⟩ := x2.facts
        cases b with
        | true =>
          go_wp2_with fail
          refine bodyPost_ret (v := .tuple #[.agg #[.bool false, .int .i64 n, .slice none 0 0], .int .i64 i]) (by simp [results, Tryd.results22, go_sem, z0, z1, z2]) rfl ?_
          exact .inl ⟨.node false n [], i, none, 0, good_num NI.out.1, hwl, by rw [textV_num _ rfl]; show _ = itoa n ++ _; rw [NI.out.2.1 rfl, XE.out]; exact DQ.out.1, fun _ => DQ.out.2, rfl, ⟨wf_of_i64 NI.out.1, none, 0, rfl, fun hp => by simp [Tr.items] at hp⟩, below_set (below_set (below_set B2.out (Nat.le_refl _) _ _) (Nat.le_refl _) _ _) (Nat.le_refl _) _ _⟩
        | false =>
          go_wp2_with fail
          refine bodyPost_ret (v := .tuple #[zeroV, .int .i64 (-1)]) (by simp [results, Tryd.results22, go_sem, z0, z1, z2]) rfl ?_
          refine .inr ⟨fun t r hg hf e => ?_, rfl, below_set (below_set (below_set B2.out (Nat.le_refl _) _ _) (Nat.le_refl _) _ _) (Nat.le_refl _) _ _⟩
          cases hl : t.list with
          | true =>
            rw [textV_list t hl, drop_at s p hp] at e
            simp only [List.cons_append, List.cons.injEq] at e
            exact HC.out e.1
          | false =>
            rw [textV_num t hl] at e
            have h1 := (NI.out.2.2 t.num (Tr.i64_num hg.2) ((wordE_itoa e (hf hl)).trans XE.out.symm)).2
            cases h1
      · have b3 : decide ((i : Int) < (s.size : Int)) = true := by rw [decide_eq_true_eq]; omega
        have b4 : decide (i < s.size) = true := by rw [decide_eq_true_eq]; omega
        have b1 : (((s[i]'he).toNat : Int) != 32) = true := by rw [bne_iff_ne, h41]; decide
        have b2 : (((s[i]'he).toNat : Int) != 41) = false := by rw [bne_eq_false_iff_eq, h41]; rfl
        clear h41 fin
        go_wp2_with fail
        refine NO.out.mono ?_
        rintro e w2 ⟨n, b, rfl, hni, hb2⟩
        have B2 := Lib.hid (on HA.out hb2)
        have x2 := HX.out.below hb2
        have NI := Lib.hid hni
        clear hni hb2
        obtain ⟨z0, z1, z2, y0, y1, y2⟩ := x2.facts
        cases b with
        | true =>
          go_wp2_with fail
          refine bodyPost_ret (v := .tuple #[.agg #[.bool false, .int .i64 n, .slice none 0 0], .int .i64 i]) (by simp [results, Tryd.results22, go_sem, z0, z1, z2]) rfl ?_
          exact .inl ⟨.node false n [], i, none, 0, good_num NI.out.1, hwl, by rw [textV_num _ rfl]; show _ = itoa n ++ _; rw [NI.out.2.1 rfl, XE.out]; exact DQ.out.1, fun _ => DQ.out.2, rfl, ⟨wf_of_i64 NI.out.1, none, 0, rfl, fun hp => by simp [Tr.items] at hp⟩, below_set (below_set (below_set B2.out (Nat.le_refl _) _ _) (Nat.le_refl _) _ _) (Nat.le_refl _) _ _⟩
        | false =>
          go_wp2_with fail
          refine bodyPost_ret (v := .tuple #[zeroV, .int .i64 (-1)]) (by simp [results, Tryd.results22, go_sem, z0, z1, z2]) rfl ?_
          refine .inr ⟨fun t r hg hf e => ?_, rfl, below_set (below_set (below_set B2.out (Nat.le_refl _) _ _) (Nat.le_refl _) _ _) (Nat.le_refl _) _ _⟩
          cases hl : t.list with
          | true =>
            rw [textV_list t hl, drop_at s p hp] at e
            simp only [List.cons_append, List.cons.injEq] at e
            exact HC.out e.1
          | false =>
            rw [textV_num t hl] at e
            have h1 := (NI.out.2.2 t.num (Tr.i64_num hg.2) ((wordE_itoa e (hf hl)).trans XE.out.symm)).2
            cases h1

/-- what stands while ValueAt reads a list -/
structure Sv (k : Nat) (w : World) (A : Option Addr) (c : Nat) (acc : List Tr) (wr : World) : Prop where
  cell : B3 w.heap.size (.bool false) (.int .i64 0) (.slice none 0 0) wr
  var : B3 (w.heap.size + 1) (.bool true) (.int .i64 0) (.slice A acc.length c) wr
  own : OwnT wr (w.heap.size + 2) A c acc k
  bel : Below w.heap.size w wr
section
variable {k c : Nat} {w wr w2 : World} {A : Option Addr} {acc : List Tr}
theorem Sv.call (h : Sv k w A c acc wr) (hb : Below wr.heap.size wr w2) : Sv k w A c acc w2 :=
  ⟨h.cell.below hb, h.var.below hb, h.own.below hb, h.bel.trans (hb.mono h.bel.size)⟩
theorem sv_start : Sv k w none 0 [] ((w.alloc (.cells #[.bool false, .int .i64 0, .slice none 0 0] 24)).alloc (.cells #[.bool true, .int .i64 0, .slice none 0 0] 24)) := by
  refine ⟨(B3.new w _ _ _).below ((Below.refl _ _).alloc (Nat.le_refl _) _), ?_, OwnT.none_, ((Below.refl _ _).alloc (Nat.le_refl _) _).alloc (by simp) _⟩
  have := B3.new (w.alloc (.cells #[.bool false, .int .i64 0, .slice none 0 0] 24)) (.bool true) (.int .i64 0) (.slice none 0 0)
  simpa using this
theorem item_new2 {n : Nat} {v : Value} {t : Tr} {o : Obj} (h : Sv k w A c acc wr) (hs : wr.heap.size ≤ w2.heap.size) (ht : TAt w2 (New wr w2) n v t) : TAt ((w2.alloc o).alloc o) (Mine ((w2.alloc o).alloc o) (w.heap.size + 2) A) n v t := by
  have b2 := below_two w2 o
  refine ht.keep fun b hb => ⟨⟨?_, Nat.lt_of_lt_of_le hb.2 b2.size, fun e => ?_⟩, fun o => World.cell?_of_block (b2.block b hb.2)⟩
  · have := h.var.lt; have := hb.1; omega
  · have := (h.own.ge b e).2; have := hb.1; omega
theorem Sv.append {c3 : Nat} {A3 : Option Addr} {z3 : List Tr} {w3 wm : World} (h : Sv k w A c acc w2) (hm : Below w2.heap.size w2 wm) (own : OwnT w3 (w.heap.size + 2) A3 c3 z3 k) (g : wm.grownBy w3 (blockOf A)) :
    Sv k w A3 c3 z3 (w3.setCell ⟨w.heap.size + 1, 2, none⟩ (.slice A3 z3.length c3)) ∧ (∃ u, w3.cell? ⟨w.heap.size + 1, 2, none⟩ = some u) ∧ w3.frozen? ⟨w.heap.size + 1, 2, none⟩ = false := by
  have keep : ∀ b, b < w.heap.size + 2 → w3.heap[b]? = w2.heap[b]? := by
    intro b hb3
    have h1 := h.var.lt
    rw [g.block b (by have := hm.size; omega) (fun e => by have := (h.own.ge b e.symm).1; omega), hm.block b (by omega)]
  have kc : B3 w.heap.size (.bool false) (.int .i64 0) (.slice none 0 0) w3 := (keep _ (by omega)).trans h.cell
  have kv : B3 (w.heap.size + 1) (.bool true) (.int .i64 0) (.slice A acc.length c) w3 := (keep _ (by omega)).trans h.var
  have hgm : Below w.heap.size w wm := h.bel.trans (hm.mono h.bel.size)
  have kg : Below w.heap.size w w3 := ⟨g.os.trans hgm.os, g.tape.trans hgm.tape, g.output.trans hgm.output, Nat.le_trans hgm.size g.size, fun i hi => (keep i (by omega)).trans (h.bel.block i hi)⟩
  have set2 : B3 (w.heap.size + 1) (.bool true) (.int .i64 0) (.slice A3 z3.length c3) (w3.setCell ⟨w.heap.size + 1, 2, none⟩ (.slice A3 z3.length c3)) := by
    unfold B3 at kv ⊢
    simp [World.setCell, Array.getElem?_modify, kv]
  exact ⟨⟨kc.other (by omega) _ _, set2, own.gr (rb := w.heap.size + 1) (gr_set (gr_refl _ _) _ _) (by omega), below_set kg (by omega) _ _⟩, ⟨_, kv.facts.2.2.1⟩, kv.facts.2.2.2.2.2⟩
theorem Sv.tree (h : Sv k w A c acc wr) (y0 y1 y2 : Value) :
    TAt (((wr.setCell ⟨w.heap.size, 0, none⟩ y0).setCell ⟨w.heap.size, 1, none⟩ y1).setCell ⟨w.heap.size, 2, none⟩ y2) (New w (((wr.setCell ⟨w.heap.size, 0, none⟩ y0).setCell ⟨w.heap.size, 1, none⟩ y1).setCell ⟨w.heap.size, 2, none⟩ y2)) (k + 1) (.agg #[.bool true, .int .i64 0, .slice A acc.length c]) (.node true 0 acc) := by
  refine (h.own.at_ (l := true) (n := 0) (by decide)).keep fun b hm => ⟨⟨by have := hm.1; omega, by have := hm.2; simpa [World.setCell] using this⟩, fun o => World.cell?_of_block ?_⟩
  have hm1 := hm.1
  exact (Below.heap_setCell _ _ _ _ (by show b ≠ w.heap.size; omega)).trans ((Below.heap_setCell _ _ _ _ (by show b ≠ w.heap.size; omega)).trans (Below.heap_setCell _ _ _ _ (by show b ≠ w.heap.size; omega)))
end
/-- the loop's relation -/
def RelV (k : Nat) (s : ByteArray) (p : Nat) (w : World) (v : Value) (wr : World) : Prop :=
  ∃ (acc : List Tr) (q : Nat) (A : Option Addr) (c : Nat), v = .int .i64 q ∧ Sv k w A c acc wr ∧ q ≤ s.size ∧ acc.length ≤ q ∧ Hid (Read k (s.data.toList.drop (p + 1)) acc (s.data.toList.drop q))
end Go.Proofs.YtgeljcfokeiaeaaDoor.Vals
