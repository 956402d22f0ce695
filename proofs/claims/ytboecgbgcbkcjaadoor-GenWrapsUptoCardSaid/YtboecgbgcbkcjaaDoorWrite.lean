/- Contracts of val.writeText and val.Text. Conditions: the size; the library's table of powers of ten. -/
import Derived.Test.YtboecgbgcbkcjaaDoorCopy
import Derived.Test.YtboecgbgcbkcjaaDoorItoa
import Derived.Test.YtboecgbgcbkcjaaDoorVal
import Derived.Test.YtboecgbgcbkcjaaDoorValL
import Derived.Test.YtboecgbgcbkcjaaDoorItem
namespace Go.Proofs.YtboecgbgcbkcjaaDoor.Vals
open Go.RowKit Lists Ints Build
open Go.Lib (itoa)
set_option linter.unusedVariables false

theorem tab_belowB {B : Nat} {w w' : World} (h : Tab w) (hg : 1 < B) (hb : Below B w w') : Tab w' := by
  unfold Tab Lib.TabIs World.var? at h ⊢
  rw [gTab] at h ⊢
  simp only [Option.bind_some] at h ⊢
  rw [hb.block _ hg]
  exact h
theorem heap_new (w : World) (o : Obj) : (w.alloc o).heap[w.heap.size]? = some o := by
  show (w.heap.push o)[w.heap.size]? = _
  simp
theorem sizes_take_get : ∀ (l : List Tr) (k : Nat) (h : k < l.length), sizes (l.take k) + (l[k]'h).size ≤ sizes l
  | [], k, h => by simp at h
  | t :: r, 0, h => by simp [sizes]
  | t :: r, k + 1, h => by
    have := sizes_take_get r k (by simpa using h)
    simp only [List.take_succ_cons, sizes, List.getElem_cons_succ]
    omega
theorem isB_lt {B b : Nat} {l : List UInt8} {w : World} (h : IsB B b l w) : b < w.heap.size := h.elim (fun x => x.lt) (fun x => x.lt)
theorem Tab.lt {w : World} (h : Tab w) : 1 < w.heap.size := var_block gTab h

set_option maxHeartbeats 1000000 in
set_option maxRecDepth 100000 in
theorem write_tree : ∀ (n : Nat) (t : Tr) (v : Value) (B b : Nat) (l : List UInt8) (w : World), TAt w (Bel B) n v t → B ≤ w.heap.size → IsB B b l w → l.length + 24 * t.size ≤ 103079215104 → Tab w → 1 < B →
    Calls Tryd.prog 49 #[.pointer (some ⟨b, 0, none⟩), v] w fun e w' => e = .returned (.tuple #[]) ∧ IsB B b (l ++ textV t) w' ∧ Below B w w' := by
  intro n
  induction n with
  | zero => intro t v B b l w h; exact h.elim
  | succ n ih =>
    intro t v B b l w h hB hI hsz hT hg
    have hi64 := h.i64
    obtain ⟨m, A, c, e, hw, rfl, hit⟩ := h.open_
    obtain rfl : n = m := by omega
    have IH := Lib.hid ih
    have HIT := Lib.hid hit
    have HB := Lib.hid hB
    have HI := Lib.hid hI
    have HS := Lib.hid hsz
    have HT := Lib.hid hT
    have HG := Lib.hid hg
    have hln : t.items.length ≤ 4294967296 := by have := len_sizes t.items; have := size_items t; omega
    clear ih hit h hB hsz e hw hI hT hg
    cases t with | node lf x its =>
    simp only [Tr.list, Tr.num, Tr.items] at *
    have I6 := Lib.hid hi64
    clear hi64
    cases lf with
    | false =>
      have hv := Lib.hid (textV_num (.node false x its) rfl)
      have hxn := Tr.i64_num I6.out
      have IT := Lib.hid (fun w ht => itoa_any x hxn w ht)
      clear hxn
      go_enter Tryd.func49, Tryd.ntmps49
      go_wp2_with fail
      refine (IT.out _ (HT.out.below ((Below.refl _ _).alloc (Nat.le_refl _) _))).mono ?_
      rintro e w1 ⟨rfl, hb1⟩
      have I1 := (HI.out.below ((Below.refl _ _).alloc (Nat.le_refl _) (.cells #[.bool false, .int .i64 x, .slice A its.length c] 38))).below hb1
      have B1 : Below B w w1 := ((Below.refl _ _).alloc HB.out _).trans (hb1.mono (by have := HB.out; simp; omega))
      have s1 : B ≤ w1.heap.size := Nat.le_trans HB.out B1.size
      clear hb1
      have WR := Lib.hid (write_any B b l ⟨(itoa x).toArray⟩ w1 I1 (by rw [size_of_list]; have := Lib.itoa_length_le x (Tr.i64_num I6.out).1 (Tr.i64_num I6.out).2; have := HS.out; omega) s1)
      go_wp2_with fail
      refine WR.out.mono ?_
      rintro e w2 ⟨rfl, hI2, hb2⟩
      have HI2 := Lib.hid hI2
      have HB2 := Lib.hid (B1.trans hb2)
      clear hI2 hb2 WR
      go_wp2_with fail
      first
        | go_end0
        | refine bodyPost_ret (results_none rfl _ _ _) rfl ?_
      exact ⟨rfl, by rw [hv.out]; simpa [Tr.num] using HI2.out, HB2.out⟩
    | true =>
      have hv := Lib.hid (textV_list (.node true x its) rfl)
      have I0 := HI.out.below ((Below.refl _ _).alloc (Nat.le_refl _) (.cells #[.bool true, .int .i64 x, .slice A its.length c] 38))
      have BY := Lib.hid (byte_any B b l 40 40 rfl _ I0 (by have := HS.out; omega) (by have := HB.out; simp; omega))
      clear I0
      go_enter Tryd.func49, Tryd.ntmps49
      go_wp2_with fail
      refine BY.out.mono ?_
      rintro e w1 ⟨rfl, hI1, hb1, hk1⟩
      have c1 : w1.cell? ⟨w.heap.size, 2, none⟩ = some (.slice A its.length c) := by
        rw [Lib.cell_of_heap (hk1 w.heap.size (.cells #[.bool true, .int .i64 x, .slice A its.length c] 38 (0, 0)) (heap_new _ _) (by have := isB_lt HI.out; simp; omega) (by intro c fz h; cases h))]
        rfl
      have B1 : Below B w w1 := ((Below.refl _ _).alloc HB.out _).trans hb1
      have HI1 := Lib.hid hI1
      clear hI1 hb1 hk1 BY
      go_wp2_with fail
      clear c1
      go_loopw [19] (fun i wr => ∃ k : Nat, k ≤ its.length ∧ i = .int .i64 k ∧ IsB B b (l ++ 40 :: textVs (its.take k)) wr ∧ Below B w wr) (fun i _ => its.length - (intOf i).toNat)
      case atStart => exact ⟨0, Nat.zero_le _, rfl, (by simpa [textVs] using HI1.out), B1⟩
      case round =>
        obtain ⟨k, hk, rfl, hI, hb⟩ := hrel
        have hz : B ≤ wr.heap.size := Nat.le_trans HB.out hb.size
        have husz : (textVs (its.take k)).length ≤ 24 * sizes its := Nat.le_trans (textVs_le (its.take k) ((i64s_iff _).2 (fun y hy => Tr.i64_items I6.out y (List.mem_of_mem_take hy)))) (by have := sizes_take its k; omega)
        have hsz2 : l.length + 24 * (1 + sizes its) ≤ 103079215104 := by have := HS.out; simpa [Tr.size] using this
        by_cases hlt : k < its.length
        · obtain ⟨ib, off, D, d, rfl, c0, c1, c2, hti⟩ := item_as HIT.out hb k hlt
          have TK := Lib.hid (textVs_take its k hlt)
          have hs2 : (textVs (its.take k)).length + 24 * (its[k]'hlt).size + 2 ≤ 24 * (1 + sizes its) := by
            have h1 := textVs_le (its.take k) ((i64s_iff _).2 (fun y hy => Tr.i64_items I6.out y (List.mem_of_mem_take hy)))
            have h2 := sizes_take_get its k hlt
            omega
          have HTI := Lib.hid hti
          clear hti
          generalize its[k]'hlt = y at TK HTI hs2 c0 c1 c2
          have I1 := Lib.hid (hI.below ((Below.refl _ _).alloc (Nat.le_refl _) (.cells #[.bool y.list, .int .i64 y.num, .slice D y.items.length d] 38)))
          have LB := Lib.hid (isB_lt hI)
          have Z := Lib.hid hz
          have HBR := Lib.hid hb
          clear hI hb hz
          rcases (show k = 0 ∨ 0 < k by omega) with h0 | h0
          · have TK := Lib.hid (show textVs (its.take (k + 1)) = textVs (its.take k) ++ textV y by rw [TK.out, if_pos h0]; simp)
            have h0' : decide (0 < (k : Int)) = false := by rw [decide_eq_false_iff_not]; omega
            have h0'' : decide (0 < k) = false := by rw [decide_eq_false_iff_not]; omega
            have H0 := Lib.hid h0
            clear h0
            have RC := Lib.hid (IH.out y (.agg #[.bool y.list, .int .i64 y.num, .slice D y.items.length d]) B b (l ++ 40 :: textVs (its.take k)) (wr.alloc (.cells #[.bool y.list, .int .i64 y.num, .slice D y.items.length d] 38)) (HTI.out.keep (fun q hq => ⟨hq, fun o => World.cell?_alloc_lt _ _ ⟨q, o, none⟩ (Nat.lt_of_lt_of_le hq Z.out)⟩))
              (by have := Z.out; simp; omega) I1.out (by simp; omega) (tab_belowB HT.out HG.out (HBR.out.alloc Z.out _)) HG.out)
            go_wp2_with fail
            refine RC.out.mono ?_
            rintro e w2 ⟨rfl, hI2, hb2⟩
            have HI2 := Lib.hid hI2
            have HB2 := Lib.hid ((HBR.out.alloc Z.out _).trans hb2)
            clear hI2 hb2 RC
            go_wp2_with fail
            go_roundw
            case rel => exact ⟨k + 1, hlt, by go_num, by have h9 := HI2.out; rw [TK.out]; simpa using h9, HB2.out⟩
            case measure => simp [intOf]; omega
          · have TK := Lib.hid (show textVs (its.take (k + 1)) = textVs (its.take k) ++ [32] ++ textV y by rw [TK.out, if_neg (by omega)])
            have h0' : decide (0 < (k : Int)) = true := by rw [decide_eq_true_eq]; omega
            have h0'' : decide (0 < k) = true := by rw [decide_eq_true_eq]; omega
            have BY := Lib.hid (byte_any B b (l ++ 40 :: textVs (its.take k)) 32 32 rfl _ I1.out (by simp; omega) (by have := Z.out; simp; omega))
            have NB := Lib.hid (show b ≠ wr.heap.size by have := LB.out; omega)
            go_wp2_with fail
            refine BY.out.mono ?_
            rintro e w1 ⟨rfl, hI1, hb1, hk1⟩
            have hn := hk1 wr.heap.size (.cells #[.bool y.list, .int .i64 y.num, .slice D y.items.length d] 38 (0, 0)) (heap_new _ _) (by have := NB.out; simp; omega) (by intro c fz h; cases h)
            have d0 : w1.cell? ⟨wr.heap.size, 0, none⟩ = some (.bool y.list) := by rw [Lib.cell_of_heap hn]; rfl
            have d1 : w1.cell? ⟨wr.heap.size, 1, none⟩ = some (.int .i64 y.num) := by rw [Lib.cell_of_heap hn]; rfl
            have d2 : w1.cell? ⟨wr.heap.size, 2, none⟩ = some (.slice D y.items.length d) := by rw [Lib.cell_of_heap hn]; rfl
            have B1 := (HBR.out.alloc Z.out (.cells #[.bool y.list, .int .i64 y.num, .slice D y.items.length d] 38)).trans hb1
            have RC := Lib.hid (IH.out y (.agg #[.bool y.list, .int .i64 y.num, .slice D y.items.length d]) B b (l ++ 40 :: textVs (its.take k) ++ [32]) w1 (HTI.out.keep (fun q hq => ⟨hq, fun o => (hb1.cell (p := ⟨q, o, none⟩) hq).trans (World.cell?_alloc_lt _ _ ⟨q, o, none⟩ (Nat.lt_of_lt_of_le hq Z.out))⟩))
              (Nat.le_trans HB.out B1.size) hI1 (by simp; omega) (tab_belowB HT.out HG.out B1) HG.out)
            have B1' := Lib.hid B1
            clear hn hI1 hb1 hk1 B1 BY
            go_wp2_with fail
            refine RC.out.mono ?_
            rintro e w2 ⟨rfl, hI2, hb2⟩
            have HI2 := Lib.hid hI2
            have HB2 := Lib.hid (B1'.out.trans hb2)
            clear hI2 hb2 RC
            go_wp2_with fail
            go_roundw
            case rel => exact ⟨k + 1, hlt, by go_num, by have h9 := HI2.out; rw [TK.out]; simpa using h9, HB2.out⟩
            case measure => simp [intOf]; omega
        · have hr := Lib.hid (show l ++ 40 :: textVs (its.take k) ++ [41] = l ++ textV (.node true x its) by rw [hv.out, List.take_of_length_le (by omega)]; simp [Tr.items])
          have BY := Lib.hid (byte_any B b (l ++ 40 :: textVs (its.take k)) 41 41 rfl wr hI (by simp; omega) hz)
          have HBR := Lib.hid hb
          clear hI hb
          go_wp2_with fail
          refine BY.out.mono ?_
          rintro e w2 ⟨rfl, hI2, hb2, _⟩
          have HI2 := Lib.hid hI2
          have HB2 := Lib.hid (HBR.out.trans hb2)
          clear hI2 hb2 BY
          go_wp2_with fail
          first
            | go_end0
            | refine bodyPost_ret (results_none rfl _ _ _) rfl ?_
          exact ⟨rfl, by rw [← hr.out]; exact HI2.out, HB2.out⟩

set_option maxRecDepth 100000 in
/-- val.Text -/
theorem text_prog {n : Nat} {t : Tr} {v : Value} {B : Nat} (w : World) (h : TAt w (Bel B) n v t) (hB : B ≤ w.heap.size) (hsz : t.size ≤ 4294967296) (ht : Tab w) :
    Calls Tryd.prog 26 #[v] w fun e w' => e = .returned (.string ⟨(textV t).toArray⟩) ∧ Below w.heap.size w w' := by
  obtain ⟨m, A, c, e, hw, rfl, _⟩ := h.open_
  have WT := write_tree n t (.agg #[.bool t.list, .int .i64 t.num, .slice A t.items.length c]) (w.heap.size + 1) (w.heap.size + 1) []
    ((w.alloc (.cells #[.bool t.list, .int .i64 t.num, .slice A t.items.length c] 38)).alloc (.cells #[.pointer none, .slice none 0 0] 89))
    (h.keep fun q hq => ⟨Nat.lt_of_lt_of_le hq (by omega), fun o => by
      have hq' : q < w.heap.size := Nat.lt_of_lt_of_le hq hB
      rw [World.cell?_alloc_lt _ _ ⟨q, o, none⟩ (by simp; omega), World.cell?_alloc_lt _ _ ⟨q, o, none⟩ hq']⟩) (by simp)
    (by have := IsB.fresh (w.alloc (.cells #[.bool t.list, .int .i64 t.num, .slice A t.items.length c] 38)); simpa using this) (by simp; omega)
    (ht.below (((Below.refl _ _).alloc (Nat.le_refl _) _).alloc (by simp) _)) (by have := Tab.lt ht; omega)
  have HW := Lib.hid WT
  clear WT h hB hsz ht e hw
  go_enter Tryd.func26, Tryd.ntmps26
  go_wp2_with fail
  refine HW.out.mono ?_
  rintro e w1 ⟨rfl, hI, hb⟩
  have hb' : Below w.heap.size w w1 := ((((Below.refl _ _).alloc (Nat.le_refl _) _).alloc (by simp) _)).trans (hb.mono (by omega))
  have ST := Lib.hid (string_any (w.heap.size + 1) (w.heap.size + 1) _ w1 hI (by have := hb.size; simp at this; omega))
  clear hI hb HW
  go_wp2_with fail
  refine ST.out.mono ?_
  rintro e w2 ⟨rfl, hb2⟩
  have hb3 := hb'.trans (hb2.mono (by omega))
  clear ST hb2 hb'
  go_wp2_with fail
  go_ret
  exact ⟨by simp, hb3⟩
end Go.Proofs.YtboecgbgcbkcjaaDoor.Vals
