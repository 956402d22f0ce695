/- The program's reader of values: value. Conditions: the size; the library's variables. -/
import Derived.Test.YtgeljcfokeiaeaaDoorReader
import Derived.Test.YtgeljcfokeiaeaaDoorReadP
import Derived.Defers
namespace Go.Proofs.YtgeljcfokeiaeaaDoor.Vals
open Go.RowKit Go.ChangeShapes Lists Ints Build Ref
open Go.Lib (itoa)
set_option linter.unusedVariables false

/-- The library's variables, none of them the reader. -/
def LibOK (rb : Nat) (w : World) : Prop := Tab w ∧ Errs w ∧ 3 < rb ∧ 1 < rb ∧ 2 < rb
theorem var_gr {rb : Nat} {w w' : World} {name : String} {g : Nat} {cs : Array Value} (hg : Tryd.prog.globalNamed name = some g) (h : w.var? Tryd.prog name = some cs) (hn : g ≠ rb) (hb : Gr rb w w') : w'.var? Tryd.prog name = some cs := by
  have hl := var_block hg h
  unfold World.var? at h ⊢
  rw [hg] at h ⊢
  simp only [Option.bind_some] at h ⊢
  rw [hb.block g hl (by simpa using hn)]
  exact h
theorem LibOK.far {rb r : Nat} {w w' : World} (h : LibOK rb w) (hb : Gr r w w') (hr : rb ≤ r) : LibOK rb w' := by
  obtain ⟨h1, ⟨⟨t1, p1, e1⟩, t2, p2, e2⟩, n1, n2, n3⟩ := h
  exact ⟨var_gr gTab h1 (by omega) hb, ⟨⟨t1, p1, var_gr gSyn e1 (by omega) hb⟩, t2, p2, var_gr gRng e2 (by omega) hb⟩, n1, n2, n3⟩
theorem LibOK.gr {rb : Nat} {w w' : World} (h : LibOK rb w) (hb : Gr rb w w') : LibOK rb w' := h.far hb (Nat.le_refl _)
theorem LibOK.below {rb : Nat} {w w' : World} (h : LibOK rb w) (hb : Below w.heap.size w w') : LibOK rb w' := h.gr (gr_below hb)
theorem RD.same {rb p d q e : Nat} {s s' : ByteArray} {w w' : World} (h : RD rb s p d w) (hb : w'.heap[rb]? = w.heap[rb]?) : RD rb s p d w' := hb.trans h
theorem drop_at (s : ByteArray) (p : Nat) (h : p < s.size) : s.data.toList.drop p = s[p]'h :: s.data.toList.drop (p + 1) := by
  have hl : p < s.data.toList.length := by rw [← size_toList]; exact h
  rw [List.drop_eq_getElem_cons hl]
  rfl
theorem drop_end (s : ByteArray) (p : Nat) (h : s.size ≤ p) : s.data.toList.drop p = [] := List.drop_eq_nil_of_le (by rw [← size_toList]; exact h)
/-- the blocks made since w -/
def New (w w' : World) : Nat → Prop := fun b => w.heap.size ≤ b ∧ b < w'.heap.size

/-- the row at A is not frozen -/
def NF (A : Option Addr) (w : World) : Prop := ∀ g, blockOf A = some g → ∃ cs T, w.heap[g]? = some (.cells cs T (0, 0))
theorem NF.none_ (w : World) : NF none w := fun g h => by cases h
theorem NF.set {A : Option Addr} {w : World} (h : NF A w) (p : Addr) (v : Value) : NF A (w.setCell p v) := by
  intro g hg
  obtain ⟨cs, T, e⟩ := h g hg
  simp only [World.setCell, Array.getElem?_modify, e]
  split
  · exact ⟨_, _, rfl⟩
  · exact ⟨_, _, rfl⟩
theorem NF.below {A : Option Addr} {w w' : World} (h : NF A w) (hb : Below w.heap.size w w') : NF A w' := by
  intro g hg
  obtain ⟨cs, T, e⟩ := h g hg
  exact ⟨cs, T, (hb.block g (Array.getElem?_eq_some_iff.1 e).1).trans e⟩

/-- what value answers -/
def ValEnds (k rb : Nat) (s : ByteArray) (p d : Nat) (w : World) (e : Ending) (w' : World) : Prop :=
  (∃ (t : Tr) (q : Nat) (A : Option Addr) (c : Nat), Good k t ∧ q ≤ s.size ∧ s.data.toList.drop p = textV t ++ s.data.toList.drop q ∧ FitsW t (s.data.toList.drop q) ∧
    e = .returned (.tuple #[.agg #[.bool t.list, .int .i64 t.num, .slice A t.items.length c], .bool true]) ∧ TAt w' (New w w') k (.agg #[.bool t.list, .int .i64 t.num, .slice A t.items.length c]) t ∧ RD rb s q d w' ∧ Gr rb w w' ∧ NF A w') ∨
  ((∀ (t : Tr) (r : List UInt8), Good k t → Fits t r → s.data.toList.drop p ≠ textV t ++ r) ∧ e = .returned (.tuple #[zeroV, .bool false]) ∧ (∃ q, q ≤ s.size ∧ RD rb s q d w') ∧ Gr rb w w')
/-- what list answers -/
def ListEnds (k rb : Nat) (s : ByteArray) (p d : Nat) (w : World) (e : Ending) (w' : World) : Prop :=
  (∃ (its : List Tr) (q : Nat) (A : Option Addr) (c : Nat), (∀ x ∈ its, Good k x) ∧ q ≤ s.size ∧ s.data.toList.drop p = textVs its ++ 41 :: s.data.toList.drop q ∧
    e = .returned (.tuple #[.agg #[.bool true, .int .i64 0, .slice A its.length c], .bool true]) ∧ TAt w' (New w w') (k + 1) (.agg #[.bool true, .int .i64 0, .slice A its.length c]) (.node true 0 its) ∧ RD rb s q d w' ∧ Gr rb w w' ∧ NF A w') ∨
  ((∀ (its : List Tr) (r : List UInt8), (∀ x ∈ its, Good k x) → s.data.toList.drop p ≠ textVs its ++ 41 :: r) ∧ e = .returned (.tuple #[zeroV, .bool false]) ∧ (∃ q, q ≤ s.size ∧ RD rb s q d w') ∧ Gr rb w w')
def ValOK (k : Nat) : Prop := ∀ (rb : Nat) (s : ByteArray) (p d : Nat) (w : World), d + k = 6 → s.size ≤ 1073741824 → p ≤ s.size → RD rb s p d w → LibOK rb w →
  Calls Tryd.prog 23 #[.pointer (some ⟨rb, 0, none⟩)] w (ValEnds k rb s p d w)
def ListOK (k : Nat) : Prop := ∀ (rb : Nat) (s : ByteArray) (p d : Nat) (w : World), d + (k + 1) = 6 → s.size ≤ 1073741824 → p ≤ s.size → RD rb s p d w → LibOK rb w →
  Calls Tryd.prog 30 #[.pointer (some ⟨rb, 0, none⟩)] w (ListEnds k rb s p d w)

set_option maxHeartbeats 1000000 in
set_option maxRecDepth 100000 in
theorem val_zero : ValOK 0 := by
  intro rb s p d w hd hs hp h hl
  obtain rfl : d = 6 := by omega
  have ha : Below w.heap.size w (w.alloc (.cells #[.bool false, .int .i64 0, .slice none 0 0] 24)) := (Below.refl _ _).alloc (Nat.le_refl _) _
  have H := Lib.hid (h.below ha)
  have HR := Lib.hid h
  have HA := Lib.hid ha
  have HB := Lib.hid (B3.new w (.bool false) (.int .i64 0) (.slice none 0 0))
  have hne : ¬ rb = w.heap.size := by have := h.lt; omega
  have HN := Lib.hid hne
  clear h hl ha hne
  go_enter Tryd.func23, Tryd.ntmps23
  have d2 := H.out.c2
  obtain ⟨z0, z1, z2, y0, y1, y2⟩ := HB.out.facts
  go_wp2_with fail
  refine bodyPost_ret (v := .tuple #[zeroV, .bool false]) (by simp [results, Tryd.results23, go_sem]) rfl ?_
  exact .inr ⟨fun t r hg _ => (good_zero hg).elim, rfl, ⟨p, hp, H.out⟩, gr_below HA.out⟩

theorem wf_of_i64 {x : Int} (h : I64 x) : (Lit.int .i64 x).wf = true := by
  unfold I64 at h
  exact WalkArith.wf_i64 (by omega)
theorem new_of {w w1 w2 w3 : World} {B n : Nat} {v : Value} {t : Tr} (h : TAt w2 (New w1 w2) n v t) (h1 : B < w1.heap.size) (h0 : w.heap.size ≤ w1.heap.size) (hs : w2.heap.size ≤ w3.heap.size) (hk : ∀ b, w1.heap.size ≤ b → b < w2.heap.size → ∀ o, w3.cell? ⟨b, o, none⟩ = w2.cell? ⟨b, o, none⟩) : TAt w3 (New w w3) n v t :=
  h.keep fun b hb => ⟨⟨Nat.le_trans h0 hb.1, Nat.lt_of_lt_of_le hb.2 hs⟩, hk b hb.1 hb.2⟩

set_option maxHeartbeats 4000000 in
set_option maxRecDepth 100000 in
theorem val_succ (k : Nat) (hlist : ListOK k) : ValOK (k + 1) := by
  intro rb s p d w hd hs hp h hl
  have ha : Below w.heap.size w (w.alloc (.cells #[.bool false, .int .i64 0, .slice none 0 0] 24)) := (Below.refl _ _).alloc (Nat.le_refl _) _
  have H := Lib.hid (h.below ha)
  have HA := Lib.hid ha
  have HB := Lib.hid (B3.new w (.bool false) (.int .i64 0) (.slice none 0 0))
  have HL := Lib.hid (hl.below ha)
  have hne : ¬ rb = w.heap.size := by have := h.lt; omega
  have HN := Lib.hid hne
  have HRB := Lib.hid h.lt
  have g6 : ¬ (6 : Int) ≤ (d : Int) := by omega
  have d2 := H.out.c2
  have LO := Lib.hid hlist
  have HD := Lib.hid hd
  clear h hl ha hne hlist hd
  by_cases hc : ∃ hp : p < s.size, s[p]'hp = 40
  · obtain ⟨hp1, hc⟩ := hc
    have SK := Lib.hid (skip_yes rb s p d 40 40 rfl (by omega) _ H.out hp1 hc)
    have DA := Lib.hid (show s.data.toList.drop p = 40 :: s.data.toList.drop (p + 1) by rw [drop_at s p hp1, hc])
    clear hc
    go_enter Tryd.func23, Tryd.ntmps23
    go_wp2_with fail
    refine SK.out.mono ?_
    rintro e w1 ⟨rfl, hr1, hg1⟩
    have LE := Lib.hid (LO.out rb s (p + 1) d w1 (by have := HD.out; omega) hs hp1 hr1 (HL.out.gr hg1))
    have B1 := Lib.hid (HB.out.gr hg1 (fun e => HN.out e.symm))
    have Z1 := Lib.hid hg1.size
    have G1 := Lib.hid ((gr_below (rb := rb) HA.out).trans hg1)
    clear hr1 hg1 d2
    go_wp2_with fail
    refine LE.out.mono ?_
    rintro e w2 (⟨its, q, A, c, hgd, hq, htx, rfl, hta, hr2, hg2, hnf⟩ | ⟨hno, rfl, ⟨q, hq, hr2⟩, hg2⟩)
    · have R2 := Lib.hid hr2
      have G2 := Lib.hid (G1.out.trans hg2)
      have B2 := Lib.hid (B1.out.gr hg2 (fun e => HN.out e.symm))
      have GD := Lib.hid hgd
      have TX := Lib.hid htx
      have TA := Lib.hid hta
      have BL := Lib.hid B1.out.lt
      have NFI := Lib.hid hnf
      obtain ⟨z0, z1, z2, y0, y1, y2⟩ := B2.out.facts
      clear hr2 hg2 hgd htx hta hnf
      go_wp2_with fail
      refine bodyPost_ret (v := .tuple #[.agg #[.bool true, .int .i64 0, .slice A its.length c], .bool true]) (by simp [results, Tryd.results23, go_sem, z0, z1, z2]) rfl ?_
      refine .inl ⟨.node true 0 its, q, A, c, good_list GD.out, hq, ?_, fun e => by simp [Tr.list] at e, rfl, ?_, ((R2.out.other HN.out _ _).other HN.out _ _).other HN.out _ _, gr_new (gr_new (gr_new G2.out (Nat.le_refl _) _ _) (Nat.le_refl _) _ _) (Nat.le_refl _) _ _, ((NFI.out.set _ _).set _ _).set _ _⟩
      · rw [DA.out, TX.out]; simp [textV]
      · refine new_of (B := w.heap.size) TA.out BL.out (by have := BL.out; omega) (by simp [World.setCell]) (fun b hb hb2 o => ?_)
        have hbn : b ≠ w.heap.size := by have := BL.out; omega
        rw [World.cell?_setCell_other _ ⟨w.heap.size, 2, none⟩ ⟨b, o, none⟩ _ (by simp <;> omega), World.cell?_setCell_other _ ⟨w.heap.size, 1, none⟩ ⟨b, o, none⟩ _ (by simp <;> omega), World.cell?_setCell_other _ ⟨w.heap.size, 0, none⟩ ⟨b, o, none⟩ _ (by simp <;> omega)]
    · have NO := Lib.hid hno
      have R2 := Lib.hid hr2
      have G2 := Lib.hid (G1.out.trans hg2)
      have B2 := Lib.hid (B1.out.gr hg2 (fun e => HN.out e.symm))
      obtain ⟨z0, z1, z2, y0, y1, y2⟩ := B2.out.facts
      clear hno hr2 hg2
      go_wp2_with fail
      refine bodyPost_ret (v := .tuple #[zeroV, .bool false]) (by simp [results, Tryd.results23, go_sem, z0, z1, z2]) rfl ?_
      refine .inr ⟨fun t r hg hf e => ?_, rfl, ⟨q, hq, ((R2.out.other HN.out _ _).other HN.out _ _).other HN.out _ _⟩, gr_new (gr_new (gr_new G2.out (Nat.le_refl _) _ _) (Nat.le_refl _) _ _) (Nat.le_refl _) _ _⟩
      rw [DA.out] at e
      cases hl : t.list with
      | true =>
        rw [textV_list t hl] at e
        simp only [List.cons_append, List.append_assoc, List.nil_append, List.cons.injEq, true_and] at e
        exact NO.out t.items r (good_items hg) e
      | false =>
        rw [textV_num t hl] at e
        obtain ⟨c, q, e2, h40, _⟩ := itoa_head t.num
        rw [e2] at e
        simp only [List.cons_append, List.cons.injEq] at e
        exact h40 e.1.symm
  · have SK := Lib.hid (skip_no rb s p d 40 40 rfl (by omega) _ H.out (fun hp e => hc ⟨hp, e⟩) (by omega))
    have DN := Lib.hid (show ∀ tl, s.data.toList.drop p ≠ 40 :: tl by
      intro tl e
      rcases Nat.lt_or_ge p s.size with h1 | h1
      · rw [drop_at s p h1] at e
        injection e with e1 e2
        exact hc ⟨h1, e1⟩
      · rw [drop_end s p h1] at e; cases e)
    clear hc
    go_enter Tryd.func23, Tryd.ntmps23
    go_wp2_with fail
    refine SK.out.mono ?_
    rintro e w1 ⟨rfl, hr1, hg1⟩
    have LB1 := HL.out.gr hg1
    have NE := Lib.hid (number_reads rb s p d (by omega) hp w1 hr1 LB1.1 LB1.2.1)
    have B1 := Lib.hid (HB.out.gr hg1 (fun e => HN.out e.symm))
    have G1 := Lib.hid ((gr_below (rb := rb) HA.out).trans hg1)
    clear hr1 hg1 d2 LB1
    go_wp2_with fail
    refine NE.out.mono ?_
    rintro e w2 (⟨n, q, hn, hq, htx, hst, rfl, hr2, hg2⟩ | ⟨hno, rfl, hr2, hg2⟩)
    · have R2 := Lib.hid hr2
      have G2 := Lib.hid (G1.out.trans hg2)
      have B2 := Lib.hid (B1.out.gr hg2 (fun e => HN.out e.symm))
      have HN6 := Lib.hid hn
      have TX := Lib.hid htx
      have ST := Lib.hid hst
      obtain ⟨z0, z1, z2, y0, y1, y2⟩ := B2.out.facts
      clear hr2 hg2 hn htx hst
      go_wp2_with fail
      refine bodyPost_ret (v := .tuple #[.agg #[.bool false, .int .i64 n, .slice none 0 0], .bool true]) (by simp [results, Tryd.results23, go_sem, z0, z1, z2]) rfl ?_
      exact .inl ⟨.node false n [], q, none, 0, good_num HN6.out, hq, by rw [TX.out, textV_num _ rfl]; rfl, fun _ => ST.out, rfl, ⟨wf_of_i64 HN6.out, none, 0, rfl, fun hp => by simp [Tr.items] at hp⟩, ((R2.out.other HN.out _ _).other HN.out _ _).other HN.out _ _, gr_new (gr_new (gr_new G2.out (Nat.le_refl _) _ _) (Nat.le_refl _) _ _) (Nat.le_refl _) _ _, NF.none_ _⟩
    · have NO := Lib.hid hno
      have R2 := Lib.hid hr2
      have G2 := Lib.hid (G1.out.trans hg2)
      have B2 := Lib.hid (B1.out.gr hg2 (fun e => HN.out e.symm))
      obtain ⟨z0, z1, z2, y0, y1, y2⟩ := B2.out.facts
      clear hno hr2 hg2
      go_wp2_with fail
      refine bodyPost_ret (v := .tuple #[zeroV, .bool false]) (by simp [results, Tryd.results23, go_sem, z0, z1, z2]) rfl ?_
      refine .inr ⟨fun t r hg hf e => ?_, rfl, ⟨p, hp, ((R2.out.other HN.out _ _).other HN.out _ _).other HN.out _ _⟩, gr_new (gr_new (gr_new G2.out (Nat.le_refl _) _ _) (Nat.le_refl _) _ _) (Nat.le_refl _) _ _⟩
      cases hl : t.list with
      | true =>
        rw [textV_list t hl] at e
        exact DN.out _ e
      | false =>
        rw [textV_num t hl] at e
        exact NO.out t.num r (Tr.i64_num hg.2) (hf hl).w e
end Go.Proofs.YtgeljcfokeiaeaaDoor.Vals
