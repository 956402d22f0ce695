/- TopFails, part 24 of the proof: A generator's box and an expression's; what a tape makes, and its size. Conditions: the sizes. · Small laws on memory behind a call's own blocks. No program. · The program's fits of expressions: a contract. Conditions: the size. · What a row's list gives of the program's table subsByKind. · A region that draws its order, whose operations read and whose callees may make memory of their own: one walk in the order of the text, over all worlds that are 'later' than the one in which it begins. -/
import Derived.Test.YtabkihellcflhaaGreatDoorTopFailsZ23
import Derived.Test.YtabkihellcflhaaGreatDoorTopFailsZ1
import Derived.Maps.AppendAt
import Derived.Test.YtabkihellcflhaaGreatDoorTopFailsZ21
import Derived.Test.YtabkihellcflhaaGreatDoorRows
import Derived.Lib.LaidTab
import Derived.Stop.LaidErr
import Derived.Shelf.Vars
import Derived.Lib.SmallJoins
import Derived.Test.YtabkihellcflhaaGreatDoorProg
import Derived.WalkKit
import Derived.BigQuiet
import Derived.WalkSpells
/- A generator's box and an expression's; what a tape makes, and its size. Conditions: the sizes. -/
namespace Go.Proofs.YtabkihellcflhaaGreatDoor.Gens
open Go.RowKit Lists Ints Vals Exprs
set_option linter.unusedVariables false

/-- a box of three cells -/
def E3 (b : Nat) (x0 x1 x2 : Value) (w : World) : Prop := w.heap[b]? = some (.cells #[x0, x1, x2] 27 (0, 0))
theorem E3.facts {b : Nat} {x0 x1 x2 : Value} {w : World} (h : E3 b x0 x1 x2 w) : w.cell? ⟨b, 0, none⟩ = some x0 ∧ w.cell? ⟨b, 1, none⟩ = some x1 ∧ w.cell? ⟨b, 2, none⟩ = some x2 :=
  ⟨by rw [Lib.cell_of_heap h]; rfl, by rw [Lib.cell_of_heap h]; rfl, by rw [Lib.cell_of_heap h]; rfl⟩
theorem E3.lt {b : Nat} {x0 x1 x2 : Value} {w : World} (h : E3 b x0 x1 x2 w) : b < w.heap.size := (Array.getElem?_eq_some_iff.1 h).1
theorem E3.below {b : Nat} {x0 x1 x2 : Value} {w w' : World} (h : E3 b x0 x1 x2 w) (hb : Below w.heap.size w w') : E3 b x0 x1 x2 w' := (hb.block b h.lt).trans h
/-- a generator's box and an expression's -/
theorem gx_boxes (w : World) (t x : Gn) (GA XA : Option Addr) (gc' xc : Nat) :
    let W := (w.alloc (gc t GA gc')).alloc (ec x XA xc)
    G4 w.heap.size (.int .i64 t.kind) (.int .i64 t.a) (.int .i64 t.b) (.slice GA t.subs.length gc') W ∧ E3 (w.heap.size + 1) (.int .i64 x.kind) (.int .i64 x.a) (.slice XA x.subs.length xc) W ∧ Below w.heap.size w W ∧ W.heap.size = w.heap.size + 2 := by
  intro W
  have z1 : (w.alloc (gc t GA gc')).heap.size = w.heap.size + 1 := by simp
  have n1 := new_obj w (gc t GA gc')
  have n2 := new_obj (w.alloc (gc t GA gc')) (ec x XA xc)
  rw [z1] at n2
  refine ⟨(Below.heap_alloc _ _ _ (by omega)).trans n1, n2, ((Below.refl _ _).alloc (Nat.le_refl _) _).alloc (by omega) _, by show (World.alloc _ _).heap.size = _; simp⟩
theorem rep_size {t : Gn} {l : List Int} {v : Tr} (h : repV t l = .ok v) : v.size ≤ 1399680 ∧ faultV v 0 = 0 := by
  have h0 : genV t = 0 := (rep_facts (show roseE t l = 0 by unfold roseE; rw [h]; rfl)).1
  unfold repV repG at h
  rw [if_pos h0] at h
  cases hp : play readC t l with
  | error e => rw [hp] at h; cases h
  | ok p =>
    obtain ⟨c, v', r⟩ := p
    rw [hp] at h
    simp only at h
    split at h
    · injection h with h
      subst h
      have hv := small_val read_bounded (gen_right h0).1 (gen_right h0).2 hp
      exact ⟨hv.2, (Vals.fault_ok 6 _ 0 rfl).2 hv.1⟩
    · cases h
end Go.Proofs.YtabkihellcflhaaGreatDoor.Gens

/- Small laws on memory behind a call's own blocks. No program. -/
namespace Go.Proofs.YtabkihellcflhaaGreatDoor.Rng
open Go.RowKit

theorem ret_bool {b : Bool} (h : b = true) : Ending.returned (.bool b) = .returned (.bool true) := by rw [h]
theorem after {w w1 : World} {o : Obj} (h : Below (w.alloc o).heap.size (w.alloc o) w1) : Below w.heap.size w w1 :=
  Below.trans ((Below.refl _ _).alloc (Nat.le_refl _) _) (h.mono (by simp))
theorem on {a b c : World} (h : Below a.heap.size a b) (k : Below b.heap.size b c) : Below a.heap.size a c := h.trans (k.mono h.size)
end Go.Proofs.YtabkihellcflhaaGreatDoor.Rng

/- The program's fits of expressions: a contract. Conditions: the size. -/
namespace Go.Proofs.YtabkihellcflhaaGreatDoor.Exprs
open Go.RowKit Lists Gens Rng
set_option linter.unusedVariables false

/-- a box of a number -/
def EPB (b : Nat) (k : Int) (w : World) : Prop := w.heap[b]? = some (.cells #[.int .i64 k] 3 (0, 0))
theorem EPB.cell {b : Nat} {k : Int} {w : World} (h : EPB b k w) : w.cell? ⟨b, 0, none⟩ = some (.int .i64 k) := by rw [Lib.cell_of_heap h]; rfl
theorem EPB.free {b : Nat} {k : Int} {w : World} (h : EPB b k w) : w.frozen? ⟨b, 0, none⟩ = false := Lib.frozen_of_heap h 0
theorem EPB.lt {b : Nat} {k : Int} {w : World} (h : EPB b k w) : b < w.heap.size := (Array.getElem?_eq_some_iff.1 h).1
theorem EPB.below {b : Nat} {k : Int} {w w' : World} (h : EPB b k w) (hb : Below w.heap.size w w') : EPB b k w' := (hb.block b h.lt).trans h
theorem EPB.put {b : Nat} {k : Int} {w : World} (h : EPB b k w) (j : Int) : EPB b j (w.setCell ⟨b, 0, none⟩ (.int .i64 j)) := by
  unfold EPB at h ⊢
  simp [World.setCell, Array.getElem?_modify, h]
/-- All but block rb is as it was. -/
abbrev EGr (rb : Nat) (w w' : World) : Prop := w.grownBy w' (some rb)
theorem egr_refl (rb : Nat) (w : World) : EGr rb w w := ⟨rfl, rfl, rfl, Nat.le_refl _, fun _ _ _ => rfl⟩
theorem egr_below {rb : Nat} {w w' : World} (h : Below w.heap.size w w') : EGr rb w w' := ⟨h.os, h.tape, h.output, h.size, fun i hi _ => h.block i hi⟩
theorem egr_set {rb : Nat} {w w' : World} (h : EGr rb w w') (o : Nat) (v : Value) : EGr rb w (w'.setCell ⟨rb, o, none⟩ v) :=
  h.trans ⟨rfl, rfl, rfl, by simp [World.setCell], fun i hi hne => Below.heap_setCell _ _ _ _ (fun e => hne (by rw [e]))⟩
theorem egr_alloc {rb : Nat} {w w' : World} (h : EGr rb w w') (o : Obj) : EGr rb w (w'.alloc o) := h.trans (World.grownBy_alloc _ _ _)
theorem egr_to {rb B : Nat} {w w' : World} (h : EGr rb w w') (hB : B ≤ rb) (hr : rb < w.heap.size) : Below B w w' :=
  ⟨h.os, h.tape, h.output, h.size, fun k hk => h.block k (by omega) (by simp; omega)⟩

set_option maxHeartbeats 4000000 in
set_option maxRecDepth 100000 in
theorem efits_any : ∀ (n : Nat) (t : Gn) (v : Value) (B pb dn kn : Nat) (deep k : Int) (w : World), EAt w (EBel B) n v t → B ≤ pb → EPB pb k w → t.size ≤ 4294967296 → deep = dn → dn ≤ 6 → k = kn → kn ≤ 30 →
    Calls Tryz.prog 79 #[v, .int .i64 deep, .pointer (some ⟨pb, 0, none⟩)] w fun e w' => e = .returned (.bool (fitsG t dn kn).1) ∧ EPB pb ((fitsG t dn kn).2 : Nat) w' ∧ EGr pb w w' := by
  intro n
  induction n with
  | zero => intro t v B pb dn kn deep k w h; exact h.elim
  | succ n ih =>
    intro t v B pb dn kn deep k w h hB hp hsz hd hdn hk hkn
    obtain ⟨m, A, c, e, hw, rfl, hit⟩ := h.open_
    obtain rfl : n = m := by omega
    have IH := Lib.hid ih
    have HIT := Lib.hid hit
    have HB := Lib.hid hB
    have HS := Lib.hid hsz
    have hln : t.subs.length ≤ 4294967296 := by have := glen_sizes t.subs; have := gsize_subs t; omega
    have EQ := Lib.hid (fitsG_eq t dn kn)
    have SB := Lib.hid (gsize_subs t)
    have b0 : Below w.heap.size w (w.alloc (ec t A c)) := (Below.refl _ _).alloc (Nat.le_refl _) _
    have P0 := Lib.hid (hp.below b0)
    have B0 := Lib.hid b0
    have PL := Lib.hid hp.lt
    have hne : pb ≠ w.heap.size := by have := hp.lt; omega
    have hne2 : w.heap.size ≠ pb := hne.symm
    have dlo : 0 ≤ deep := by omega
    have dhi : deep ≤ 6 := by omega
    have klo : 0 ≤ k := by omega
    have khi : k ≤ 30 := by omega
    have HD := Lib.hid (And.intro hd hk)
    obtain ⟨p0, q0⟩ := And.intro P0.out.cell P0.out.free
    have P1 := Lib.hid (show EPB pb (k + 1) ((w.alloc (ec t A c)).setCell ⟨pb, 0, none⟩ (.int .i64 (k + 1))) from P0.out.put _)
    have G1 := Lib.hid (show EGr pb w ((w.alloc (ec t A c)).setCell ⟨pb, 0, none⟩ (.int .i64 (k + 1))) from egr_set (egr_below b0) 0 _)
    clear ih hit h hB hsz e hw hp b0 hd hk
    by_cases h1 : 30 < kn + 1
    · have EQ := Lib.hid (show fitsG t dn kn = (false, kn + 1) by rw [EQ.out, if_pos (.inl h1)])
      have g1 : decide ((30 : Int) < k + 1) = true := by have := HD.out; rw [decide_eq_true_eq]; omega
      go_enter Tryz.func79, Tryz.ntmps79
      go_wp2_with fail
      go_ret
      exact ⟨by rw [EQ.out]; rfl, by rw [EQ.out]; have := HD.out; rw [show ((kn + 1 : Nat) : Int) = k + 1 by omega]; exact P1.out, G1.out⟩
    · have g1 : decide ((30 : Int) < k + 1) = false := by have := HD.out; rw [decide_eq_false_iff_not]; omega
      by_cases h6 : 6 ≤ dn
      · have EQ := Lib.hid (show fitsG t dn kn = (false, kn + 1) by rw [EQ.out, if_pos (.inr h6)])
        have g2 : decide ((6 : Int) ≤ deep) = true := by have := HD.out; rw [decide_eq_true_eq]; omega
        go_enter Tryz.func79, Tryz.ntmps79
        go_wp2_with fail
        go_ret
        exact ⟨by rw [EQ.out]; rfl, by rw [EQ.out]; have := HD.out; rw [show ((kn + 1 : Nat) : Int) = k + 1 by omega]; exact P1.out, G1.out⟩
      · have EQ := Lib.hid (show fitsG t dn kn = fitsGs t.subs (dn + 1) (kn + 1) by rw [EQ.out, if_neg (by omega)])
        have g2 : decide ((6 : Int) ≤ deep) = false := by have := HD.out; rw [decide_eq_false_iff_not]; omega
        go_enter Tryz.func79, Tryz.ntmps79
        go_wp2_with fail
        have K1 := Lib.hid (show EPB pb ((kn + 1 : Nat) : Int) ((w.alloc (ec t A c)).setCell ⟨pb, 0, none⟩ (.int .i64 (k + 1))) by have := HD.out; rw [show ((kn + 1 : Nat) : Int) = k + 1 by omega]; exact P1.out)
        clear P0 P1 B0 p0 q0 g1 g2
        generalize (w.alloc (ec t A c)).setCell ⟨pb, 0, none⟩ (.int .i64 (k + 1)) = W1 at *
        go_loopw [25] (fun i wr => ∃ (j o : Nat), j ≤ t.subs.length ∧ i = .int .i64 j ∧ o ≤ 30 ∧ Hid (EPB pb o wr) ∧ Hid (EGr pb w wr) ∧ Hid (fitsG t dn kn = fitsGs (t.subs.drop j) (dn + 1) o)) (fun i _ => t.subs.length - (intOf i).toNat)
        case atStart => exact ⟨0, kn + 1, Nat.zero_le _, rfl, by omega, K1.out, G1.out, EQ.out⟩
        case round =>
          obtain ⟨j, o, hj, rfl, ho, hp, hg, hz⟩ := hrel
          clear K1 G1 EQ
          by_cases hlt : j < t.subs.length
          · have BW := Lib.hid (egr_to hg.out HB.out PL.out)
            obtain ⟨ib, off, D, d, rfl, c0, c1, c2, hti⟩ := esub_as HIT.out BW.out j hlt
            have hsi : (t.subs[j]'hlt).size ≤ 4294967296 := by have := gsize_mem t.subs _ (List.getElem_mem hlt); have h3 := HS.out; have := SB.out; omega
            have DR := Lib.hid (fitsGs_drop t.subs j (dn + 1) o hlt)
            have FW := Lib.hid (fits_few (t.subs[j]'hlt) (dn + 1) o)
            have ba : Below wr.heap.size wr (wr.alloc (ec (t.subs[j]'hlt) D d)) := (Below.refl _ _).alloc (Nat.le_refl _) _
            have bsz : B ≤ wr.heap.size := by have := hg.out.size; have := PL.out; have := HB.out; omega
            have C1 := IH.out (t.subs[j]'hlt) _ B pb (dn + 1) o (deep + 1) o (wr.alloc (ec (t.subs[j]'hlt) D d)) (hti.below (ba.mono bsz)) HB.out (hp.out.below ba) hsi (by have := HD.out; omega) (by omega) rfl ho
            have BA := Lib.hid ba
            clear hti hsi ba
            generalize hgl : fitsG (t.subs[j]'hlt) (dn + 1) o = q at C1 DR FW
            clear hgl
            obtain ⟨is, o2⟩ := q
            simp only [] at C1
            have DR := Lib.hid (show fitsGs (t.subs.drop j) (dn + 1) o = if is = true then fitsGs (t.subs.drop (j + 1)) (dn + 1) o2 else (false, o2) from DR.out)
            have FW := Lib.hid (show is = true → o2 ≤ 30 from FW.out)
            generalize t.subs[j]'hlt = y at C1 c0 c1 c2 BA
            have HC1 := Lib.hid C1
            clear C1
            cases is with
            | false =>
              have EV := Lib.hid (show fitsG t dn kn = (false, o2) by rw [hz.out, DR.out, if_neg (by simp)])
              go_wp2_with fail
              refine HC1.out.mono ?_
              rintro e w2 ⟨rfl, hp2, hg2⟩
              have P2 := Lib.hid hp2
              have G2 := Lib.hid ((hg.out.trans (egr_below BA.out)).trans hg2)
              clear hp2 hg2
              go_wp2_with fail
              go_ret
              exact ⟨by rw [EV.out]; rfl, by rw [EV.out]; exact P2.out, G2.out⟩
            | true =>
              have EV := Lib.hid (show fitsG t dn kn = fitsGs (t.subs.drop (j + 1)) (dn + 1) o2 by rw [hz.out, DR.out, if_pos rfl])
              go_wp2_with fail
              refine HC1.out.mono ?_
              rintro e w2 ⟨rfl, hp2, hg2⟩
              have P2 := Lib.hid hp2
              have G2 := Lib.hid ((hg.out.trans (egr_below BA.out)).trans hg2)
              clear hp2 hg2
              go_wp2_with fail
              go_roundw
              case rel => exact ⟨j + 1, o2, hlt, by go_num, (by have := FW.out; simpa using this), P2.out, G2.out, EV.out⟩
              case measure => simp [intOf]; omega
          · have EV := Lib.hid (show fitsG t dn kn = (true, o) by rw [hz.out, List.drop_eq_nil_of_le (by omega), fitsGs])
            go_wp2_with fail
            go_ret
            exact ⟨by rw [EV.out]; rfl, by rw [EV.out]; exact hp.out, hg.out⟩
end Go.Proofs.YtabkihellcflhaaGreatDoor.Exprs

/- What a row's list gives of the program's table subsByKind. -/
namespace Go.Proofs.YtabkihellcflhaaGreatDoor.Exprs
open Go.RowKit
set_option linter.unusedVariables false
theorem gSub : Tryz.prog.globalNamed "assayer/expr.subsByKind" = some 1 := by kernel_rfl
def subTab : List Int := [0, 0, 0, 0, 0, 2, 2, 2, 2, 1, 2, 2]
/-- The program's table. -/
def Subs (w : World) : Prop := Lib.TabIs Tryz.prog w "assayer/expr.subsByKind" .i64 subTab
theorem Subs.block {w : World} (h : Subs w) : 1 < w.heap.size := by
  have h := h
  unfold Subs Lib.TabIs World.var? at h
  rw [gSub] at h
  simp only [Option.bind_some] at h
  rcases Nat.lt_or_ge 1 w.heap.size with h1 | h1
  · exact h1
  · rw [Array.getElem?_eq_none h1] at h; cases h
theorem Subs.below {w w' : World} (h : Subs w) (hb : Below w.heap.size w w') : Subs w' := by
  have hl := h.block
  unfold Subs Lib.TabIs World.var? at h ⊢
  rw [gSub] at h ⊢
  simp only [Option.bind_some] at h ⊢
  rw [hb.block _ hl]
  exact h
theorem gSubType : (Tryz.prog.globals[1]?).map (·.type) = some 160 := by kernel_rfl
theorem subs_of_laid {W : World} {r : List (String × DataW Unit)} (h : laidMet Tryz.prog (("assayer/expr.subsByKind", Rows.laid_assayer_expr_subsByKind) :: r) W) : Subs W :=
  Lib.tabIs_of_head (k := .i64) (zs := subTab) (rest := r) gSub gSubType Tryz.underlying160 Tryz.underlying3 (by kernel_rfl) (by kernel_rfl) h
theorem Subs.at_ {w : World} (h : Subs w) (k : Int) (h1 : 1 ≤ k) (h2 : k ≤ 11) : w.cell? ⟨1, k.toNat, none⟩ = some (.int .i64 (subsE k)) := by
  have := h.cell gSub k.toNat (by show k.toNat < 12; omega)
  rw [this]
  rcases (show k = 1 ∨ k = 2 ∨ k = 3 ∨ k = 4 ∨ k = 5 ∨ k = 6 ∨ k = 7 ∨ k = 8 ∨ k = 9 ∨ k = 10 ∨ k = 11 by omega) with rfl | rfl | rfl | rfl | rfl | rfl | rfl | rfl | rfl | rfl | rfl <;> rfl
end Go.Proofs.YtabkihellcflhaaGreatDoor.Exprs

/- A region that draws its order, whose operations read and whose callees may make memory of their own: one walk in the order of the text, over all worlds that are 'later' than the one in which it begins. -/
namespace Go.Proofs.YtabkihellcflhaaGreatDoor.Rng
open Go.RowKit

/-- A world in which all that was there in W is as it was. -/
def Later (W : World) : Type := { w' : World // Below W.heap.size W w' }
def lat {W : World} (n : Later W) : World := n.val
theorem lat_below {W : World} (n : Later W) : Below W.heap.size W (lat n) := n.property
instance laterSome (W : World) : Nonempty (Later W) := ⟨⟨W, Below.refl _ _⟩⟩
theorem lat_cell {W : World} {a : Addr} {v : Value} (h : W.cell? a = some v) (n : Later W) : (lat n).cell? a = some v := cell_later (lat_below n) h

theorem wp_region_later {P : Program} {id : Nat} {Q : Exit → Act → World → Prop} {a : Act} {w : World} {l : List Oper} (hm : P.follows .mixedOrders = true) (hB : Region.lexB .any l.toArray = true)
    (h : wpQuiet P l.toArray (fun w' => ∃ n : Later w, w' = lat n) (fun a' => ∀ w', (∃ n : Later w, w' = lat n) → Q .normal a' w') l a) : (Code.region id l.toArray true).wp P Q a w :=
  wp_region_quiet (C := fun w' => ∃ n : Later w, w' = lat n) hm hB ⟨⟨_, (Below.refl _ _).drew⟩, rfl⟩ (by simpa using h)

theorem later_call {P : Program} {f : FuncId} {args : Array Value} {W : World} {n : Later W} {v : Value}
    (h : Calls P f args (lat n) fun e w' => e = .returned v ∧ Below (lat n).heap.size (lat n) w') : Calls P f args (lat n) fun e w'' => e = .returned v ∧ ∃ m : Later W, w'' = lat m :=
  h.mono fun _ w' ⟨he, hb⟩ => ⟨he, ⟨w', (lat_below n).trans (hb.mono (lat_below n).size)⟩, rfl⟩
theorem later_same {P : Program} {f : FuncId} {args : Array Value} {W : World} {n : Later W} {v : Value}
    (h : Calls P f args (lat n) fun e w' => e = .returned v ∧ lat n = w') : Calls P f args (lat n) fun e w'' => e = .returned v ∧ ∃ m : Later W, w'' = lat m :=
  h.mono fun _ _ ⟨he, hb⟩ => ⟨he, n, hb.symm⟩
end Go.Proofs.YtabkihellcflhaaGreatDoor.Rng
