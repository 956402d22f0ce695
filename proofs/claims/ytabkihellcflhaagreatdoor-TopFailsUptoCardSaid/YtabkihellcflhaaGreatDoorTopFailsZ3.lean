/- TopFails, part 3 of the proof: Plain laws on a tape's text. No program. · A generator's box; small laws. No program but the types. · The program's fits: a contract. Conditions: the size. · An error of the program's, of its number. -/
import Derived.Test.YtabkihellcflhaaGreatDoorTopFailsZ2
import Derived.Lib.ItoaNum
import Derived.Lib.ItoaLen
import Derived.Test.YtabkihellcflhaaGreatDoorTopFailsZ1
import Derived.Lib.Bytealg
import Derived.Lib.Walk
import Derived.Lib.BufferWrite
import Derived.Maps.AppendAt
/- Plain laws on a tape's text. No program. -/
namespace Go.Proofs.YtabkihellcflhaaGreatDoor.Lists
open Go.Lib (itoa decDigits nDigits)

def textL : List Int → List UInt8
  | [] => []
  | [n] => itoa n
  | n :: m :: r => itoa n ++ 46 :: textL (m :: r)
def I64 (n : Int) : Prop := -9223372036854775808 ≤ n ∧ n ≤ 9223372036854775807

theorem textL_cons (n : Int) (l : List Int) : textL (n :: l) = itoa n ++ (if l = [] then [] else 46 :: textL l) := by
  cases l with
  | nil => simp [textL]
  | cons m r => simp [textL]
theorem textL_snoc : ∀ (l : List Int) (n : Int), textL (l ++ [n]) = (if l = [] then [] else textL l ++ [46]) ++ itoa n
  | [], n => by simp [textL]
  | [a], n => by simp [textL]
  | a :: b :: r, n => by
    have ih := textL_snoc (b :: r) n
    rw [List.cons_append, textL_cons, if_neg (by simp), ih, textL_cons a (b :: r), if_neg (by simp), if_neg (by simp), if_neg (by simp)]
    simp
theorem decDigits_pos (u : Nat) : 1 ≤ (decDigits u).length := by rw [Lib.decDigits_length]; exact Lib.nDigits_pos u
theorem itoa_pos (n : Int) : 1 ≤ (itoa n).length := by
  unfold itoa
  split
  · simp
  · exact decDigits_pos _
theorem textL_le : ∀ (l : List Int), (∀ n ∈ l, I64 n) → (textL l).length ≤ 22 * l.length
  | [], _ => by simp [textL]
  | [n], h => by
    have := Lib.itoa_length_le n (h n (by simp)).1 (h n (by simp)).2
    simp [textL]; omega
  | n :: m :: r, h => by
    have h1 := Lib.itoa_length_le n (h n (by simp)).1 (h n (by simp)).2
    have h2 := textL_le (m :: r) (fun x hx => h x (by simp at hx ⊢; right; exact hx))
    simp only [textL, List.length_append, List.length_cons] at h2 ⊢
    omega
theorem textL_one (l : List Int) (n : Int) : (textL l).length + 1 ≤ (textL (l ++ [n])).length := by
  rw [textL_snoc]
  have := itoa_pos n
  split
  · rename_i h; subst h; simp [textL]; omega
  · simp only [List.length_append, List.length_cons, List.length_nil]; omega
theorem textL_grow : ∀ (m l : List Int), (textL l).length + m.length ≤ (textL (l ++ m)).length
  | [], l => by simp
  | n :: m, l => by
    have h1 := textL_grow m (l ++ [n])
    have h2 := textL_one l n
    rw [List.append_assoc] at h1
    simp only [List.cons_append, List.nil_append, List.length_cons] at h1 ⊢
    omega
theorem textL_take (l : List Int) (k : Nat) (h : k < l.length) : textL (l.take (k + 1)) = (if k = 0 then [] else textL (l.take k) ++ [46]) ++ itoa (l.getD k 0) := by
  rw [take_getD l k h, textL_snoc]
  by_cases hk : k = 0
  · subst hk; simp
  · rw [if_neg hk, if_neg]
    intro e
    have h2 : (l.take k).length = 0 := by rw [e]; rfl
    rw [List.length_take] at h2
    omega
end Go.Proofs.YtabkihellcflhaaGreatDoor.Lists

/- A generator's box; small laws. No program but the types. -/
namespace Go.Proofs.YtabkihellcflhaaGreatDoor.Gens
open Go.RowKit Lists Ints
set_option linter.unusedVariables false

abbrev gc (t : Gn) (A : Option Addr) (c : Nat) : Obj := .cells #[.int .i64 t.kind, .int .i64 t.a, .int .i64 t.b, .slice A t.subs.length c] 24
theorem gheap_new (w : World) (o : Obj) : (w.alloc o).heap[w.heap.size]? = some o := by
  show (w.heap.push o)[w.heap.size]? = _
  simp
/-- a box of a generator -/
theorem gbox (w w' : World) (x0 x1 x2 x3 : Value) (h : Below (w.alloc (.cells #[x0, x1, x2, x3] 24)).heap.size (w.alloc (.cells #[x0, x1, x2, x3] 24)) w') :
    w'.cell? ⟨w.heap.size, 0, none⟩ = some x0 ∧ w'.cell? ⟨w.heap.size, 1, none⟩ = some x1 ∧ w'.cell? ⟨w.heap.size, 2, none⟩ = some x2 ∧ w'.cell? ⟨w.heap.size, 3, none⟩ = some x3 := by
  have hb := h.block w.heap.size (by simp)
  rw [gheap_new] at hb
  exact ⟨by rw [Lib.cell_of_heap hb]; rfl, by rw [Lib.cell_of_heap hb]; rfl, by rw [Lib.cell_of_heap hb]; rfl, by rw [Lib.cell_of_heap hb]; rfl⟩
theorem i64_wf {x : Int} (h : Wf x) : I64 x := by
  simp only [Wf, Lit.wf, IntKind.min, IntKind.max, IntKind.signed, IntKind.bits, Bool.and_eq_true] at h
  unfold I64
  simp at h
  omega
theorem ret_p {a b c d : Value} (h : a = c) (h' : b = d) : Ending.returned (.tuple #[a, b]) = .returned (.tuple #[c, d]) := by rw [h, h']
end Go.Proofs.YtabkihellcflhaaGreatDoor.Gens

/- The program's fits: a contract. Conditions: the size. -/
namespace Go.Proofs.YtabkihellcflhaaGreatDoor.Gens
open Go.RowKit Lists Ints
set_option linter.unusedVariables false

/-- a box of a number -/
def PB (b : Nat) (k : Int) (w : World) : Prop := w.heap[b]? = some (.cells #[.int .i64 k] 3 (0, 0))
theorem PB.cell {b : Nat} {k : Int} {w : World} (h : PB b k w) : w.cell? ⟨b, 0, none⟩ = some (.int .i64 k) := by rw [Lib.cell_of_heap h]; rfl
theorem PB.free {b : Nat} {k : Int} {w : World} (h : PB b k w) : w.frozen? ⟨b, 0, none⟩ = false := Lib.frozen_of_heap h 0
theorem PB.lt {b : Nat} {k : Int} {w : World} (h : PB b k w) : b < w.heap.size := (Array.getElem?_eq_some_iff.1 h).1
theorem PB.below {b : Nat} {k : Int} {w w' : World} (h : PB b k w) (hb : Below w.heap.size w w') : PB b k w' := (hb.block b h.lt).trans h
theorem PB.put {b : Nat} {k : Int} {w : World} (h : PB b k w) (j : Int) : PB b j (w.setCell ⟨b, 0, none⟩ (.int .i64 j)) := by
  unfold PB at h ⊢
  simp [World.setCell, Array.getElem?_modify, h]
/-- All but block rb is as it was. -/
abbrev Gr (rb : Nat) (w w' : World) : Prop := w.grownBy w' (some rb)
theorem gr_refl (rb : Nat) (w : World) : Gr rb w w := ⟨rfl, rfl, rfl, Nat.le_refl _, fun _ _ _ => rfl⟩
theorem gr_below {rb : Nat} {w w' : World} (h : Below w.heap.size w w') : Gr rb w w' := ⟨h.os, h.tape, h.output, h.size, fun i hi _ => h.block i hi⟩
theorem gr_set {rb : Nat} {w w' : World} (h : Gr rb w w') (o : Nat) (v : Value) : Gr rb w (w'.setCell ⟨rb, o, none⟩ v) :=
  h.trans ⟨rfl, rfl, rfl, by simp [World.setCell], fun i hi hne => Below.heap_setCell _ _ _ _ (fun e => hne (by rw [e]))⟩
theorem gr_alloc {rb : Nat} {w w' : World} (h : Gr rb w w') (o : Obj) : Gr rb w (w'.alloc o) := h.trans (World.grownBy_alloc _ _ _)
theorem gr_to {rb B : Nat} {w w' : World} (h : Gr rb w w') (hB : B ≤ rb) (hr : rb < w.heap.size) : Below B w w' :=
  ⟨h.os, h.tape, h.output, h.size, fun k hk => h.block k (by omega) (by simp; omega)⟩

set_option maxHeartbeats 4000000 in
set_option maxRecDepth 100000 in
theorem fits_any : ∀ (n : Nat) (t : Gn) (v : Value) (B pb dn kn : Nat) (deep k : Int) (w : World), GAt w (GBel B) n v t → B ≤ pb → PB pb k w → t.size ≤ 4294967296 → deep = dn → dn ≤ 6 → k = kn → kn ≤ 30 →
    Calls Tryz.prog 63 #[v, .int .i64 deep, .pointer (some ⟨pb, 0, none⟩)] w fun e w' => e = .returned (.bool (fitsG t dn kn).1) ∧ PB pb ((fitsG t dn kn).2 : Nat) w' ∧ Gr pb w w' := by
  intro n
  induction n with
  | zero => intro t v B pb dn kn deep k w h; exact h.elim
  | succ n ih =>
    intro t v B pb dn kn deep k w h hB hp hsz hd hdn hk hkn
    obtain ⟨m, A, c, e, hw, rfl, hit⟩ := h.open_
    obtain rfl : n = m := by omega
    have IH := Lib.hid ih
    have HIT := Lib.hid hit
    have HB := Lib.hid hB
    have HS := Lib.hid hsz
    have hln : t.subs.length ≤ 4294967296 := by have := glen_sizes t.subs; have := gsize_subs t; omega
    have EQ := Lib.hid (fitsG_eq t dn kn)
    have SB := Lib.hid (gsize_subs t)
    have b0 : Below w.heap.size w (w.alloc (gc t A c)) := (Below.refl _ _).alloc (Nat.le_refl _) _
    have P0 := Lib.hid (hp.below b0)
    have B0 := Lib.hid b0
    have PL := Lib.hid hp.lt
    have hne : pb ≠ w.heap.size := by have := hp.lt; omega
    have hne2 : w.heap.size ≠ pb := hne.symm
    have dlo : 0 ≤ deep := by omega
    have dhi : deep ≤ 6 := by omega
    have klo : 0 ≤ k := by omega
    have khi : k ≤ 30 := by omega
    have HD := Lib.hid (And.intro hd hk)
    obtain ⟨p0, q0⟩ := And.intro P0.out.cell P0.out.free
    have P1 := Lib.hid (show PB pb (k + 1) ((w.alloc (gc t A c)).setCell ⟨pb, 0, none⟩ (.int .i64 (k + 1))) from P0.out.put _)
    have G1 := Lib.hid (show Gr pb w ((w.alloc (gc t A c)).setCell ⟨pb, 0, none⟩ (.int .i64 (k + 1))) from gr_set (gr_below b0) 0 _)
    clear ih hit h hB hsz e hw hp b0 hd hk
    by_cases h1 : 30 < kn + 1
    · have EQ := Lib.hid (show fitsG t dn kn = (false, kn + 1) by rw [EQ.out, if_pos (.inl h1)])
      have g1 : decide ((30 : Int) < k + 1) = true := by have := HD.out; rw [decide_eq_true_eq]; omega
      go_enter Tryz.func63, Tryz.ntmps63
      go_wp2_with fail
      go_ret
      exact ⟨by rw [EQ.out]; rfl, by rw [EQ.out]; have := HD.out; rw [show ((kn + 1 : Nat) : Int) = k + 1 by omega]; exact P1.out, G1.out⟩
    · have g1 : decide ((30 : Int) < k + 1) = false := by have := HD.out; rw [decide_eq_false_iff_not]; omega
      by_cases h6 : 6 ≤ dn
      · have EQ := Lib.hid (show fitsG t dn kn = (false, kn + 1) by rw [EQ.out, if_pos (.inr h6)])
        have g2 : decide ((6 : Int) ≤ deep) = true := by have := HD.out; rw [decide_eq_true_eq]; omega
        go_enter Tryz.func63, Tryz.ntmps63
        go_wp2_with fail
        go_ret
        exact ⟨by rw [EQ.out]; rfl, by rw [EQ.out]; have := HD.out; rw [show ((kn + 1 : Nat) : Int) = k + 1 by omega]; exact P1.out, G1.out⟩
      · have EQ := Lib.hid (show fitsG t dn kn = fitsGs t.subs (dn + 1) (kn + 1) by rw [EQ.out, if_neg (by omega)])
        have g2 : decide ((6 : Int) ≤ deep) = false := by have := HD.out; rw [decide_eq_false_iff_not]; omega
        go_enter Tryz.func63, Tryz.ntmps63
        go_wp2_with fail
        have K1 := Lib.hid (show PB pb ((kn + 1 : Nat) : Int) ((w.alloc (gc t A c)).setCell ⟨pb, 0, none⟩ (.int .i64 (k + 1))) by have := HD.out; rw [show ((kn + 1 : Nat) : Int) = k + 1 by omega]; exact P1.out)
        clear P0 P1 B0 p0 q0 g1 g2
        generalize (w.alloc (gc t A c)).setCell ⟨pb, 0, none⟩ (.int .i64 (k + 1)) = W1 at *
        go_loopw [25] (fun i wr => ∃ (j o : Nat), j ≤ t.subs.length ∧ i = .int .i64 j ∧ o ≤ 30 ∧ Hid (PB pb o wr) ∧ Hid (Gr pb w wr) ∧ Hid (fitsG t dn kn = fitsGs (t.subs.drop j) (dn + 1) o)) (fun i _ => t.subs.length - (intOf i).toNat)
        case atStart => exact ⟨0, kn + 1, Nat.zero_le _, rfl, by omega, K1.out, G1.out, EQ.out⟩
        case round =>
          obtain ⟨j, o, hj, rfl, ho, hp, hg, hz⟩ := hrel
          clear K1 G1 EQ
          by_cases hlt : j < t.subs.length
          · have BW := Lib.hid (gr_to hg.out HB.out PL.out)
            obtain ⟨ib, off, D, d, rfl, c0, c1, c2, c3, hti⟩ := sub_as HIT.out BW.out j hlt
            have hsi : (t.subs[j]'hlt).size ≤ 4294967296 := by have := gsize_mem t.subs _ (List.getElem_mem hlt); have h3 := HS.out; have := SB.out; omega
            have DR := Lib.hid (fitsGs_drop t.subs j (dn + 1) o hlt)
            have FW := Lib.hid (fits_few (t.subs[j]'hlt) (dn + 1) o)
            have ba : Below wr.heap.size wr (wr.alloc (gc (t.subs[j]'hlt) D d)) := (Below.refl _ _).alloc (Nat.le_refl _) _
            have bsz : B ≤ wr.heap.size := by have := hg.out.size; have := PL.out; have := HB.out; omega
            have C1 := IH.out (t.subs[j]'hlt) _ B pb (dn + 1) o (deep + 1) o (wr.alloc (gc (t.subs[j]'hlt) D d)) (hti.below (ba.mono bsz)) HB.out (hp.out.below ba) hsi (by have := HD.out; omega) (by omega) rfl ho
            have BA := Lib.hid ba
            clear hti hsi ba
            generalize hgl : fitsG (t.subs[j]'hlt) (dn + 1) o = q at C1 DR FW
            clear hgl
            obtain ⟨is, o2⟩ := q
            simp only [] at C1
            have DR := Lib.hid (show fitsGs (t.subs.drop j) (dn + 1) o = if is = true then fitsGs (t.subs.drop (j + 1)) (dn + 1) o2 else (false, o2) from DR.out)
            have FW := Lib.hid (show is = true → o2 ≤ 30 from FW.out)
            generalize t.subs[j]'hlt = y at C1 c0 c1 c2 c3 BA
            have HC1 := Lib.hid C1
            clear C1
            cases is with
            | false =>
              have EV := Lib.hid (show fitsG t dn kn = (false, o2) by rw [hz.out, DR.out, if_neg (by simp)])
              go_wp2_with fail
              refine HC1.out.mono ?_
              rintro e w2 ⟨rfl, hp2, hg2⟩
              have P2 := Lib.hid hp2
              have G2 := Lib.hid ((hg.out.trans (gr_below BA.out)).trans hg2)
              clear hp2 hg2
              go_wp2_with fail
              go_ret
              exact ⟨by rw [EV.out]; rfl, by rw [EV.out]; exact P2.out, G2.out⟩
            | true =>
              have EV := Lib.hid (show fitsG t dn kn = fitsGs (t.subs.drop (j + 1)) (dn + 1) o2 by rw [hz.out, DR.out, if_pos rfl])
              go_wp2_with fail
              refine HC1.out.mono ?_
              rintro e w2 ⟨rfl, hp2, hg2⟩
              have P2 := Lib.hid hp2
              have G2 := Lib.hid ((hg.out.trans (gr_below BA.out)).trans hg2)
              clear hp2 hg2
              go_wp2_with fail
              go_roundw
              case rel => exact ⟨j + 1, o2, hlt, by go_num, (by have := FW.out; simpa using this), P2.out, G2.out, EV.out⟩
              case measure => simp [intOf]; omega
          · have EV := Lib.hid (show fitsG t dn kn = (true, o) by rw [hz.out, List.drop_eq_nil_of_le (by omega), fitsGs])
            go_wp2_with fail
            go_ret
            exact ⟨by rw [EV.out]; rfl, by rw [EV.out]; exact hp.out, hg.out⟩
end Go.Proofs.YtabkihellcflhaaGreatDoor.Gens

/- An error of the program's, of its number. -/
namespace Go.Proofs.YtabkihellcflhaaGreatDoor.Vals
set_option linter.unusedVariables false
/-- an error of the program's, of its number -/
def errOf (f : Int) : Value := if f = 0 then .nilIface else .iface 29 (.int .i64 f)
theorem errOf_ok : errOf 0 = .nilIface := rfl
theorem errOf_no {f : Int} (h : ¬ f = 0) : errOf f = .iface 29 (.int .i64 f) := if_neg h
end Go.Proofs.YtabkihellcflhaaGreatDoor.Vals
