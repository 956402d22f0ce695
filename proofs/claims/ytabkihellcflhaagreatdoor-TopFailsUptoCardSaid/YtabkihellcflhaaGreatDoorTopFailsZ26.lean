/- TopFails, part 26 of the proof: The program's eachNumber, with a function value that sees each number; sum and top. Conditions: the size. -/
import Derived.Test.YtabkihellcflhaaGreatDoorTopFailsZ21
import Derived.Test.YtabkihellcflhaaGreatDoorTopFailsZ24
import Derived.Test.YtabkihellcflhaaGreatDoorTopFailsZ25
/- The program's eachNumber, with a function value that sees each number; sum and top. Conditions: the size. -/
namespace Go.Proofs.YtabkihellcflhaaGreatDoor.Exprs
open Go.RowKit Lists Gens Rng Vals
set_option linter.unusedVariables false

/-- a function value of the program's that sees numbers: what it has seen so far is told by P, in blocks from B on -/
structure See (k : Nat) (cap : Array Value) (B : Nat) (P : List Int → World → Prop) : Prop where
  ent : ∀ args w, (callFunc k args).run Tryz.prog w = .ok (.enter k args) w
  keep : ∀ l w w', P l w → Below w.heap.size w w' → P l w'
  call : ∀ l n w, P l w → B ≤ w.heap.size → Calls Tryz.prog k (#[.int .i64 n] ++ cap) w fun e w' => e = .returned (.tuple #[]) ∧ P (l ++ [n]) w' ∧ Below B w w'
abbrev efv (k : Nat) (cap : Array Value) : Value := .func (.func k) #[] cap
abbrev vc (t : Tr) (A : Option Addr) (c : Nat) : Obj := .cells #[.bool t.list, .int .i64 t.num, .slice A t.items.length c] 47
abbrev vv (t : Tr) (A : Option Addr) (c : Nat) : Value := .agg #[.bool t.list, .int .i64 t.num, .slice A t.items.length c]

set_option maxHeartbeats 2000000 in
set_option maxRecDepth 100000 in
theorem each_any {k : Nat} {cap : Array Value} {B : Nat} {P : List Int → World → Prop} (S : See k cap B P) : ∀ (n : Nat) (t : Tr) (v : Value) (l : List Int) (w : World), TAt w (Bel B) n v t → B ≤ w.heap.size → t.size ≤ 4294967296 → P l w →
    Calls Tryz.prog 119 #[v, efv k cap] w fun e w' => e = .returned (.tuple #[]) ∧ P (l ++ leavesT t) w' ∧ Below B w w' := by
  intro n
  induction n with
  | zero => intro t v l w h; exact h.elim
  | succ n ih =>
    intro t v l w h hB hsz hP
    obtain ⟨m, A, c, e, hw, rfl, hit⟩ := h.open_
    obtain rfl : n = m := by omega
    have IH := Lib.hid ih
    have HIT := Lib.hid hit
    have HB := Lib.hid hB
    have HS := Lib.hid hsz
    have hln : t.items.length ≤ 4294967296 := by have := len_sizes t.items; have := size_items t; omega
    have SB := Lib.hid (size_items t)
    have LE := Lib.hid (leavesT_eq t)
    have b0 : Below w.heap.size w (w.alloc (vc t A c)) := (Below.refl _ _).alloc (Nat.le_refl _) _
    have HP := Lib.hid (S.keep l _ _ hP b0)
    have H0 := Lib.hid b0
    have hent := S.ent
    have SC := Lib.hid S.call
    have SK := Lib.hid S.keep
    clear ih hit h hB hsz e hw hP b0 S
    cases t with | node tl x its =>
    simp only [Tr.list, Tr.num, Tr.items] at *
    cases tl with
    | false =>
      have LE := Lib.hid (show leavesT (.node false x its) = [x] from LE.out)
      have C1 := Lib.hid (SC.out l x _ HP.out (Nat.le_trans HB.out H0.out.size))
      go_enter Tryz.func119, Tryz.ntmps119
      go_wp2_with fail
      refine C1.out.mono ?_
      rintro e w1 ⟨rfl, p1, b1⟩
      have P1 := Lib.hid (And.intro p1 ((H0.out.mono HB.out).trans b1))
      clear p1 b1
      go_wp2_with fail
      refine bodyPost_ret (v := .tuple #[]) (by simp [results, Tryz.results119, go_sem]) rfl ?_
      exact ⟨rfl, by rw [LE.out]; exact P1.out.1, P1.out.2⟩
    | true =>
      have LE := Lib.hid (show leavesT (.node true x its) = leavesTs its from LE.out)
      go_enter Tryz.func119, Tryz.ntmps119
      go_wp2_with fail
      go_loopw [16] (fun i wr => ∃ j : Nat, j ≤ its.length ∧ i = .int .i64 j ∧ Below B w wr ∧ Hid (P (l ++ leavesTs (its.take j)) wr)) (fun i _ => its.length - (intOf i).toNat)
      case atStart => exact ⟨0, Nat.zero_le _, rfl, H0.out.mono HB.out, by show P (l ++ []) _; rw [List.append_nil]; exact HP.out⟩
      case round =>
        obtain ⟨j, hj, rfl, hw, hz⟩ := hrel
        have hs2 : w.heap.size ≤ wr.heap.size := hw.size
        by_cases hlt : j < its.length
        · obtain ⟨b, off, D, d, rfl, c0, c1, c2, hti⟩ := item_as HIT.out hw j hlt
          have ha : Below wr.heap.size wr (wr.alloc (vc (its[j]'hlt) D d)) := (Below.refl _ _).alloc (Nat.le_refl _) _
          have C1 := Lib.hid (IH.out (its[j]'hlt) _ _ _ (hti.below (ha.mono (Nat.le_trans HB.out hs2))) (by have := HB.out; simp; omega) (by have := size_mem its _ (List.getElem_mem hlt); have h3 := HS.out; have := SB.out; omega) (SK.out _ _ _ hz.out ha))
          have TK := Lib.hid (leaves_take its j hlt)
          have HA := Lib.hid (hw.trans (ha.mono (Nat.le_trans HB.out hs2)))
          clear hti ha
          generalize its[j]'hlt = y at C1 TK c0 c1 c2 HA
          go_wp2_with fail
          refine C1.out.mono ?_
          rintro e w2 ⟨rfl, p2, hb2⟩
          have P2 := Lib.hid (And.intro p2 (HA.out.trans hb2))
          clear p2 hb2
          go_wp2_with fail
          go_roundw
          case rel => exact ⟨j + 1, hlt, by go_num, P2.out.2, by rw [TK.out, ← List.append_assoc]; exact P2.out.1⟩
          case measure => simp [intOf]; omega
        · have HZ := Lib.hid (show P (l ++ leavesT (.node true x its)) wr by rw [LE.out, ← List.take_of_length_le (show its.length ≤ j by omega)]; exact hz.out)
          have HW := Lib.hid hw
          clear hw hs2 hz
          go_wp2_with fail
          go_end0
          exact ⟨rfl, HZ.out, HW.out⟩

/-! the sum -/
set_option maxHeartbeats 1000000 in
set_option maxRecDepth 100000 in
theorem see_sum (B p : Nat) (hp : B ≤ p) : See 120 #[.pointer (some ⟨p, 0, none⟩)] B (fun l w => EPB p (sumL l 0) w) := by
  refine ⟨fun _ _ => rfl, fun l w w' h hb => h.below hb, fun l n w h hB => ?_⟩
  have PT := Lib.hid (h.put (wrap64 (sumL l 0 + n)))
  have HE := Lib.hid (show sumL (l ++ [n]) 0 = wrap64 (sumL l 0 + n) by rw [sumL_app]; rfl)
  have f0 := h.cell
  have f1 := h.free
  clear h
  generalize sumL l 0 = s at *
  show Calls Tryz.prog 120 #[.int .i64 n, .pointer (some ⟨p, 0, none⟩)] w _
  go_enter Tryz.func120, Tryz.ntmps120
  go_wp2_with fail
  go_end0
  exact ⟨rfl, by rw [HE.out]; exact PT.out, Below.setCell (p := ⟨p, 0, none⟩) (Below.refl _ _) hp _⟩

set_option maxRecDepth 100000 in
theorem sum_any (n : Nat) (t : Tr) (A : Option Addr) (c B : Nat) (w : World) (h : TAt w (Bel B) n (vv t A c) t) (hB : B ≤ w.heap.size) (hs : t.size ≤ 4294967296) :
    Calls Tryz.prog 105 #[vv t A c] w fun e w' => e = .returned (.int .i64 (sumT t)) ∧ Below w.heap.size w w' := by
  have b0 : Below w.heap.size w (w.alloc (vc t A c)) := (Below.refl _ _).alloc (Nat.le_refl _) _
  have b1 : Below w.heap.size w ((w.alloc (vc t A c)).alloc (.cells #[.int .i64 0] 3)) := b0.alloc (by simp) _
  have q0 : EPB (w.heap.size + 1) 0 ((w.alloc (vc t A c)).alloc (.cells #[.int .i64 0] 3)) := by
    have := eheap_new (w.alloc (vc t A c)) (.cells #[.int .i64 0] 3)
    simpa [EPB] using this
  have E1 := Lib.hid (each_any (see_sum w.heap.size (w.heap.size + 1) (by omega)) n t (vv t A c) [] _ ((h.below (b1.mono hB)).more hB) b1.size hs q0)
  have H1 := Lib.hid b1
  have SE := Lib.hid (show sumT t = sumL ([] ++ leavesT t) 0 from rfl)
  clear h hB hs b0 b1 q0
  have hmf : ∀ (fn : Fn) (first cap : Array Value) (w : World), (Instr.makeFunc fn first cap).run Tryz.prog w = .ok (.func fn first cap) w := fun _ _ _ _ => rfl
  go_enter Tryz.func105, Tryz.ntmps105
  go_wp2_with fail
  refine E1.out.mono ?_
  rintro e w2 ⟨rfl, p2, hb2⟩
  have c0 := p2.cell
  have B2 := Lib.hid (H1.out.trans hb2)
  rw [← SE.out] at c0
  clear p2 hb2 SE
  go_wp2_with fail
  go_ret
  exact ⟨rfl, B2.out⟩

/-! the greatest -/
/-- a box of one cell -/
def BX1 (b : Nat) (v : Value) (T : Nat) (w : World) : Prop := w.heap[b]? = some (.cells #[v] T (0, 0))
theorem BX1.cell {b T : Nat} {v : Value} {w : World} (h : BX1 b v T w) : w.cell? ⟨b, 0, none⟩ = some v := by rw [Lib.cell_of_heap h]; rfl
theorem BX1.free {b T : Nat} {v : Value} {w : World} (h : BX1 b v T w) : w.frozen? ⟨b, 0, none⟩ = false := Lib.frozen_of_heap h 0
theorem BX1.lt {b T : Nat} {v : Value} {w : World} (h : BX1 b v T w) : b < w.heap.size := (Array.getElem?_eq_some_iff.1 h).1
theorem BX1.below {b T : Nat} {v : Value} {w w' : World} (h : BX1 b v T w) (hb : Below w.heap.size w w') : BX1 b v T w' := (hb.block b h.lt).trans h
theorem BX1.put {b T : Nat} {v : Value} {w : World} (h : BX1 b v T w) (u : Value) : BX1 b u T (w.setCell ⟨b, 0, none⟩ u) := by
  unfold BX1 at h ⊢
  simp [World.setCell, Array.getElem?_modify, h]
theorem BX1.other {b T : Nat} {v : Value} {w : World} (h : BX1 b v T w) {c : Nat} (hn : b ≠ c) (o : Nat) (u : Value) : BX1 b v T (w.setCell ⟨c, o, none⟩ u) := (Below.heap_setCell w ⟨c, o, none⟩ u b hn).trans h
theorem topS_snoc (l : List Int) (n : Int) : topS (l ++ [n]) none = some (match topS l none with | none => n | some m => if m < n then n else m) := by
  rw [topS_app]
  cases topS l none <;> rfl
set_option maxHeartbeats 1000000 in
set_option maxRecDepth 100000 in
theorem see_top (B p q : Nat) (hp : B ≤ p) (hq : B ≤ q) (hne : p ≠ q) : See 121 #[.pointer (some ⟨q, 0, none⟩), .pointer (some ⟨p, 0, none⟩)] B
    (fun l w => BX1 p (.int .i64 ((topS l none).getD 0)) 3 w ∧ BX1 q (.bool (topS l none).isSome) 4 w) := by
  refine ⟨fun _ _ => rfl, fun l w w' h hb => ⟨h.1.below hb, h.2.below hb⟩, fun l n w h hB => ?_⟩
  show Calls Tryz.prog 121 #[.int .i64 n, .pointer (some ⟨q, 0, none⟩), .pointer (some ⟨p, 0, none⟩)] w _
  have TS0 := topS_snoc l n
  have PT := Lib.hid (And.intro ((h.1.put (.int .i64 n)).other hne 0 (.bool true)) ((h.2.other hne.symm 0 (.int .i64 n)).put (.bool true)))
  have BT := Lib.hid (show Below B w ((w.setCell ⟨p, 0, none⟩ (.int .i64 n)).setCell ⟨q, 0, none⟩ (.bool true)) from Below.setCell (p := ⟨q, 0, none⟩) (Below.setCell (p := ⟨p, 0, none⟩) (Below.refl _ _) hp _) hq _)
  have HH := Lib.hid h
  have f0 := h.1.cell
  have f1 := h.1.free
  have f2 := h.2.cell
  have f3 := h.2.free
  have hne2 : q ≠ p := hne.symm
  clear h
  cases ht : topS l none with
  | none =>
    rw [ht] at f0 f2 TS0
    have TS := Lib.hid (show topS (l ++ [n]) none = some n from TS0)
    simp only [Option.getD_none, Option.isSome_none] at f0 f2
    clear ht HH TS0
    go_enter Tryz.func121, Tryz.ntmps121
    go_wp2_with fail
    go_end0
    exact ⟨rfl, by rw [TS.out]; exact PT.out, BT.out⟩
  | some m =>
    rw [ht] at f0 f2 TS0 HH
    simp only [Option.getD_some, Option.isSome_some] at f0 f2
    by_cases hm : m < n
    · have TS := Lib.hid (show topS (l ++ [n]) none = some n by rw [TS0]; simp [hm])
      have g : decide (m < n) = true := by rw [decide_eq_true_eq]; exact hm
      clear ht hm HH TS0
      go_enter Tryz.func121, Tryz.ntmps121
      go_wp2_with fail
      go_end0
      exact ⟨rfl, by rw [TS.out]; exact PT.out, BT.out⟩
    · have TS := Lib.hid (show topS (l ++ [n]) none = some m by rw [TS0]; simp [hm])
      have g : decide (m < n) = false := by rw [decide_eq_false_iff_not]; exact hm
      clear ht hm TS0
      go_enter Tryz.func121, Tryz.ntmps121
      go_wp2_with fail
      go_end0
      exact ⟨rfl, by rw [TS.out]; exact HH.out, Below.refl _ _⟩
set_option maxRecDepth 100000 in
theorem top_any (n : Nat) (t : Tr) (A : Option Addr) (c B : Nat) (w : World) (h : TAt w (Bel B) n (vv t A c) t) (hB : B ≤ w.heap.size) (hs : t.size ≤ 4294967296) :
    Calls Tryz.prog 106 #[vv t A c] w fun e w' => e = .returned (.int .i64 (topT t)) ∧ Below w.heap.size w w' := by
  have b0 : Below w.heap.size w (w.alloc (vc t A c)) := (Below.refl _ _).alloc (Nat.le_refl _) _
  have b1 : Below w.heap.size w ((w.alloc (vc t A c)).alloc (.cells #[.int .i64 0] 3)) := b0.alloc (by simp) _
  have b2 : Below w.heap.size w (((w.alloc (vc t A c)).alloc (.cells #[.int .i64 0] 3)).alloc (.cells #[.bool false] 4)) := b1.alloc (by simp; omega) _
  have q1 : BX1 (w.heap.size + 1) (.int .i64 0) 3 ((w.alloc (vc t A c)).alloc (.cells #[.int .i64 0] 3)) := by
    have := eheap_new (w.alloc (vc t A c)) (.cells #[.int .i64 0] 3)
    simpa [BX1] using this
  have q2 : BX1 (w.heap.size + 2) (.bool false) 4 (((w.alloc (vc t A c)).alloc (.cells #[.int .i64 0] 3)).alloc (.cells #[.bool false] 4)) := by
    have := eheap_new ((w.alloc (vc t A c)).alloc (.cells #[.int .i64 0] 3)) (.cells #[.bool false] 4)
    simpa [BX1] using this
  have q3 := q1.below ((Below.refl _ _).alloc (Nat.le_refl _) (.cells #[.bool false] 4))
  have E1 := Lib.hid (each_any (see_top w.heap.size (w.heap.size + 1) (w.heap.size + 1 + 1) (by omega) (by omega) (by omega)) n t (vv t A c) [] _ ((h.below (b2.mono hB)).more hB) b2.size hs ⟨q3, q2⟩)
  have H1 := Lib.hid b2
  have SE := Lib.hid (show topT t = (topS ([] ++ leavesT t) none).getD 0 from rfl)
  clear h hB hs b0 b1 b2 q1 q2 q3
  have hmf : ∀ (fn : Fn) (first cap : Array Value) (w : World), (Instr.makeFunc fn first cap).run Tryz.prog w = .ok (.func fn first cap) w := fun _ _ _ _ => rfl
  go_enter Tryz.func106, Tryz.ntmps106
  go_wp2_with fail
  refine E1.out.mono ?_
  rintro e w2 ⟨rfl, p2, hb2⟩
  have c0 := p2.1.cell
  have B2 := Lib.hid (H1.out.trans hb2)
  rw [← SE.out] at c0
  clear p2 hb2 SE
  go_wp2_with fail
  go_ret
  exact ⟨rfl, B2.out⟩
end Go.Proofs.YtabkihellcflhaaGreatDoor.Exprs
