/- The program's reader of values: contracts of skip, word, number. Conditions: the size; the library's variables. -/
import Derived.Test.YtgeljcfokeiaeaaDoorAny
import Derived.Test.YtgeljcfokeiaeaaDoorConv
import Derived.Test.YtgeljcfokeiaeaaDoorNumP
import Derived.Test.YtgeljcfokeiaeaaDoorValRow
import Derived.Test.YtgeljcfokeiaeaaDoorWrite
import Derived.Deep.AppendLies
import Derived.Deep.Cut
namespace Go.Proofs.YtgeljcfokeiaeaaDoor.Vals
open Go.RowKit Go.ChangeShapes Lists Ints Build Ref
open Go.Lib (itoa)
set_option linter.unusedVariables false

/-- In block rb lies the reader: its text, its place, its depth. -/
def RD (rb : Nat) (s : ByteArray) (p d : Nat) (w : World) : Prop := w.heap[rb]? = some (.cells #[.string s, .int .i64 p, .int .i64 d] 49 (0, 0))
theorem RD.c0 {rb p d : Nat} {s : ByteArray} {w : World} (h : RD rb s p d w) : w.cell? ⟨rb, 0, none⟩ = some (.string s) := by rw [Lib.cell_of_heap h]; rfl
theorem RD.c1 {rb p d : Nat} {s : ByteArray} {w : World} (h : RD rb s p d w) : w.cell? ⟨rb, 1, none⟩ = some (.int .i64 p) := by rw [Lib.cell_of_heap h]; rfl
theorem RD.c2 {rb p d : Nat} {s : ByteArray} {w : World} (h : RD rb s p d w) : w.cell? ⟨rb, 2, none⟩ = some (.int .i64 d) := by rw [Lib.cell_of_heap h]; rfl
theorem RD.f {rb p d : Nat} {s : ByteArray} {w : World} (h : RD rb s p d w) (o : Nat) : w.frozen? ⟨rb, o, none⟩ = false := Lib.frozen_of_heap h o
theorem RD.lt {rb p d : Nat} {s : ByteArray} {w : World} (h : RD rb s p d w) : rb < w.heap.size := (Array.getElem?_eq_some_iff.1 h).1
theorem RD.pos {rb p d : Nat} {s : ByteArray} {w : World} (h : RD rb s p d w) (q : Nat) (x : Int) (hx : x = q) : RD rb s q d (w.setCell ⟨rb, 1, none⟩ (.int .i64 x)) := by
  subst hx
  unfold RD at h ⊢
  simp [World.setCell, Array.getElem?_modify, h]
theorem RD.deep {rb p d : Nat} {s : ByteArray} {w : World} (h : RD rb s p d w) (q : Nat) (x : Int) (hx : x = q) : RD rb s p q (w.setCell ⟨rb, 2, none⟩ (.int .i64 x)) := by
  subst hx
  unfold RD at h ⊢
  simp [World.setCell, Array.getElem?_modify, h]
theorem RD.below {rb p d : Nat} {s : ByteArray} {w w' : World} (h : RD rb s p d w) (hb : Below w.heap.size w w') : RD rb s p d w' := (hb.block rb h.lt).trans h
/-- All but block rb is as it was. -/
abbrev Gr (rb : Nat) (w w' : World) : Prop := w.grownBy w' (some rb)
theorem gr_refl (rb : Nat) (w : World) : Gr rb w w := ⟨rfl, rfl, rfl, Nat.le_refl _, fun _ _ _ => rfl⟩
theorem gr_below {rb : Nat} {w w' : World} (h : Below w.heap.size w w') : Gr rb w w' := ⟨h.os, h.tape, h.output, h.size, fun i hi _ => h.block i hi⟩
theorem gr_set {rb : Nat} {w w' : World} (h : Gr rb w w') (o : Nat) (v : Value) : Gr rb w (w'.setCell ⟨rb, o, none⟩ v) :=
  h.trans ⟨rfl, rfl, rfl, by simp [World.setCell], fun i hi hne => Below.heap_setCell _ _ _ _ (fun e => hne (by rw [e]))⟩
theorem gr_alloc {rb : Nat} {w w' : World} (h : Gr rb w w') (o : Obj) : Gr rb w (w'.alloc o) := h.trans (World.grownBy_alloc _ _ _)

theorem RD.other {rb p d : Nat} {s : ByteArray} {w : World} (h : RD rb s p d w) {b : Nat} (hb : rb ≠ b) (o : Nat) (v : Value) : RD rb s p d (w.setCell ⟨b, o, none⟩ v) :=
  (Below.heap_setCell w ⟨b, o, none⟩ v rb hb).trans h
theorem gr_new {rb : Nat} {w w' : World} (h : Gr rb w w') {b : Nat} (hb : w.heap.size ≤ b) (o : Nat) (v : Value) : Gr rb w (w'.setCell ⟨b, o, none⟩ v) :=
  ⟨h.os, h.tape, h.output, by simpa [World.setCell] using h.size, fun i hi hne => (Below.heap_setCell _ _ _ _ (by show i ≠ b; omega)).trans (h.block i hi hne)⟩
/-- a block of three cells, not frozen -/
def B3 (b : Nat) (x0 x1 x2 : Value) (w : World) : Prop := w.heap[b]? = some (.cells #[x0, x1, x2] 24 (0, 0))
theorem B3.new (w : World) (x0 x1 x2 : Value) : B3 w.heap.size x0 x1 x2 (w.alloc (.cells #[x0, x1, x2] 24)) := heap_new _ _
theorem B3.facts {b : Nat} {x0 x1 x2 : Value} {w : World} (h : B3 b x0 x1 x2 w) : w.cell? ⟨b, 0, none⟩ = some x0 ∧ w.cell? ⟨b, 1, none⟩ = some x1 ∧ w.cell? ⟨b, 2, none⟩ = some x2 ∧ w.frozen? ⟨b, 0, none⟩ = false ∧ w.frozen? ⟨b, 1, none⟩ = false ∧ w.frozen? ⟨b, 2, none⟩ = false :=
  ⟨by rw [Lib.cell_of_heap h]; rfl, by rw [Lib.cell_of_heap h]; rfl, by rw [Lib.cell_of_heap h]; rfl, Lib.frozen_of_heap h 0, Lib.frozen_of_heap h 1, Lib.frozen_of_heap h 2⟩
theorem B3.lt {b : Nat} {x0 x1 x2 : Value} {w : World} (h : B3 b x0 x1 x2 w) : b < w.heap.size := (Array.getElem?_eq_some_iff.1 h).1
theorem B3.below {b : Nat} {x0 x1 x2 : Value} {w w' : World} (h : B3 b x0 x1 x2 w) (hb : Below w.heap.size w w') : B3 b x0 x1 x2 w' := (hb.block b h.lt).trans h
theorem B3.gr {rb b : Nat} {x0 x1 x2 : Value} {w w' : World} (h : B3 b x0 x1 x2 w) (hb : Gr rb w w') (hn : b ≠ rb) : B3 b x0 x1 x2 w' := (hb.block b h.lt (by simpa using hn)).trans h
theorem B3.other {b : Nat} {x0 x1 x2 : Value} {w : World} (h : B3 b x0 x1 x2 w) {c : Nat} (hn : b ≠ c) (o : Nat) (v : Value) : B3 b x0 x1 x2 (w.setCell ⟨c, o, none⟩ v) := (Below.heap_setCell w ⟨c, o, none⟩ v b hn).trans h

set_option maxHeartbeats 1000000 in
set_option maxRecDepth 100000 in
theorem skip_yes (rb : Nat) (s : ByteArray) (p d : Nat) (c : UInt8) (x : Int) (hx : x = (c.toNat : Int)) (hs : s.size ≤ 4294967200) (w : World) (h : RD rb s p d w) (hp : p < s.size) (hc : s[p]'hp = c) :
    Calls Tryd.prog 29 #[.pointer (some ⟨rb, 0, none⟩), .int .u8 x] w fun e w' => e = .returned (.bool true) ∧ RD rb s (p + 1) d w' ∧ Gr rb w w' := by
  have g1 : decide ((s.size : Int) ≤ (p : Int)) = false := by rw [decide_eq_false_iff_not]; omega
  have g2 : decide (s.size ≤ p) = false := by rw [decide_eq_false_iff_not]; omega
  have g3 : (((s[p]'hp).toNat : Int) != x) = false := by rw [bne_eq_false_iff_eq, hx, hc]
  have c0 := h.c0
  have c1 := h.c1
  have f1 := h.f 1
  have H := Lib.hid h
  clear h hc hx
  go_enter Tryd.func29, Tryd.ntmps29
  go_wp2_with fail
  go_quiet (fail)
  go_wp2_with fail
  go_ret
  exact ⟨rfl, (H.out.below (below_drewN w nq)).pos (p + 1) _ (by omega), gr_set (gr_below (below_drewN w nq)) _ _⟩

set_option maxHeartbeats 1000000 in
set_option maxRecDepth 100000 in
theorem skip_no (rb : Nat) (s : ByteArray) (p d : Nat) (c : UInt8) (x : Int) (hx : x = (c.toNat : Int)) (hs : s.size ≤ 4294967200) (w : World) (h : RD rb s p d w) (hc : ∀ hp : p < s.size, s[p]'hp ≠ c) (hp0 : p ≤ 4294967200) :
    Calls Tryd.prog 29 #[.pointer (some ⟨rb, 0, none⟩), .int .u8 x] w fun e w' => e = .returned (.bool false) ∧ RD rb s p d w' ∧ Gr rb w w' := by
  by_cases hp : p < s.size
  · have g1 : decide ((s.size : Int) ≤ (p : Int)) = false := by rw [decide_eq_false_iff_not]; omega
    have g2 : decide (s.size ≤ p) = false := by rw [decide_eq_false_iff_not]; omega
    have g3 : (((s[p]'hp).toNat : Int) != x) = true := by rw [bne_iff_ne, hx]; intro e; exact hc hp (UInt8.toNat_inj.1 (by omega))
    have c0 := h.c0
    have c1 := h.c1
    have H := Lib.hid h
    clear h hc hx
    go_enter Tryd.func29, Tryd.ntmps29
    go_wp2_with fail
    go_quiet (fail)
    go_wp2_with fail
    go_ret
    exact ⟨rfl, H.out.below (below_drewN w nq), gr_below (below_drewN w nq)⟩
  · have g1 : decide ((s.size : Int) ≤ (p : Int)) = true := by rw [decide_eq_true_eq]; omega
    have g2 : decide (s.size ≤ p) = true := by rw [decide_eq_true_eq]; omega
    have c0 := h.c0
    have c1 := h.c1
    have H := Lib.hid h
    clear h hc hx
    go_enter Tryd.func29, Tryd.ntmps29
    go_wp2_with fail
    go_quiet (fail)
    go_wp2_with fail
    go_ret
    exact ⟨rfl, H.out.below (below_drewN w nq), gr_below (below_drewN w nq)⟩

theorem ext_drop (s : ByteArray) (p : Nat) : (s.extract p s.size).data.toList = s.data.toList.drop p := by
  rw [ByteArray.data_extract, Array.toList_extract]
  have : s.size = s.data.toList.length := size_toList s
  rw [List.extract_eq_take_drop, this, List.take_of_length_le (by simp)]
theorem ext_take (s : ByteArray) (k : Nat) : (s.extract 0 k).data.toList = s.data.toList.take k := by
  rw [ByteArray.data_extract, Array.toList_extract]
  simp
set_option maxHeartbeats 1000000 in
set_option maxRecDepth 100000 in
theorem word_any (rb : Nat) (s : ByteArray) (p d : Nat) (hs : s.size ≤ 4294967200) (hp : p ≤ s.size) (w : World) (h : RD rb s p d w) :
    Calls Tryd.prog 40 #[.pointer (some ⟨rb, 0, none⟩)] w fun e w' => ∃ t : ByteArray, e = .returned (.string t) ∧ t.data.toList = wordL (s.data.toList.drop p) ∧ Below w.heap.size w w' := by
  have c0 := h.c0
  have c1 := h.c1
  have hr := ext_drop s p
  have hz : (s.extract p s.size).size ≤ 4294967200 := by rw [size_toList, hr, List.length_drop, ← size_toList]; omega
  have HR := Lib.hid hr
  clear h hr
  go_enter Tryd.func40, Tryd.ntmps40
  go_wp2_with fail
  go_quiet (fail)
  go_wp2_with fail
  have B0 := Lib.hid (below_drewN w nq)
  generalize w.drewN nq = W at B0 ⊢
  generalize s.extract p s.size = r at HR hz ⊢
  have AW := any_word r.data.toList
  have AA := any_all r hz W
  change Calls _ _ _ _ (fun e w' => e = .returned (.int .i64 (Lib.indexAny r.data.toList delL)) ∧ _) at AA
  rcases AW with ⟨h1, h2⟩ | ⟨h1, h2, h3⟩
  · rw [h1] at AA
    have HA := Lib.hid AA
    have H2 := Lib.hid (show r.data.toList = wordL (s.data.toList.drop p) by rw [← HR.out]; exact h2.symm)
    clear AA h1 h2
    refine HA.out.mono ?_
    rintro e w1 ⟨rfl, hb⟩
    have hb' := Lib.hid (on B0.out hb)
    clear hb HA
    go_wp2_with fail
    go_ret
    exact ⟨r, rfl, H2.out, hb'.out⟩
  · rw [h1] at AA
    have HA := Lib.hid AA
    have h4 : (wordL r.data.toList).length < r.size := by rw [size_toList]; exact h2
    have H3 := Lib.hid (show (r.extract 0 (wordL r.data.toList).length).data.toList = wordL (s.data.toList.drop p) by rw [ext_take, ← h3, HR.out])
    generalize (wordL r.data.toList).length = k at HA h4 H3
    clear AA h1 h2 h3
    refine HA.out.mono ?_
    rintro e w1 ⟨rfl, hb⟩
    have hb' := Lib.hid (on B0.out hb)
    clear hb HA
    go_wp2_with fail
    go_ret
    exact ⟨_, rfl, H3.out, hb'.out⟩

/-! number -/
abbrev zeroV : Value := .agg #[.bool false, .int .i64 0, .slice none 0 0]
/-- what number answers where the text's rest is l -/
def NumEnds (rb : Nat) (s : ByteArray) (p d : Nat) (w : World) (e : Ending) (w' : World) : Prop :=
  (∃ (n : Int) (q : Nat), I64 n ∧ q ≤ s.size ∧ s.data.toList.drop p = itoa n ++ s.data.toList.drop q ∧ StopsW (s.data.toList.drop q) ∧ e = .returned (.tuple #[.agg #[.bool false, .int .i64 n, .slice none 0 0], .bool true]) ∧ RD rb s q d w' ∧ Gr rb w w') ∨
  ((∀ (n : Int) (r : List UInt8), I64 n → StopsW r → s.data.toList.drop p ≠ itoa n ++ r) ∧ e = .returned (.tuple #[zeroV, .bool false]) ∧ RD rb s p d w' ∧ Gr rb w w')
theorem num_fails {l : List UInt8} (h : ∀ n, I64 n → wordL l ≠ itoa n) : ∀ (n : Int) (r : List UInt8), I64 n → StopsW r → l ≠ itoa n ++ r := by
  intro n r hn hr e
  refine h n hn ?_
  rw [e]
  exact word_eq _ _ (itoa_nostop n) hr

set_option maxHeartbeats 2000000 in
set_option maxRecDepth 100000 in
theorem number_reads (rb : Nat) (s : ByteArray) (p d : Nat) (hs : s.size ≤ 4294967200) (hp : p ≤ s.size) (w : World) (h : RD rb s p d w) (ht : Tab w) (he : Errs w) :
    Calls Tryd.prog 31 #[.pointer (some ⟨rb, 0, none⟩)] w (NumEnds rb s p d w) := by
  have ha : Below w.heap.size w (w.alloc (.cells #[.bool false, .int .i64 0, .slice none 0 0] 24)) := (Below.refl _ _).alloc (Nat.le_refl _) _
  have WD := Lib.hid (word_any rb s p d hs hp _ (h.below ha))
  have HA := Lib.hid ha
  have H := Lib.hid h
  have HT := Lib.hid ht
  have HE := Lib.hid he
  clear h ht he ha
  go_enter Tryd.func31, Tryd.ntmps31
  go_wp2_with fail
  refine WD.out.mono ?_
  rintro e w1 ⟨t, rfl, htx, hb1⟩
  have hw1 := on HA.out hb1
  have hWR := word_rest (s.data.toList.drop p)
  have htz : t.size + p ≤ s.size := by
    have h1 := congrArg List.length hWR.1
    have h2 : (s.data.toList.drop p).length = s.size - p := by rw [List.length_drop, ← size_toList]
    rw [List.length_append, h2] at h1
    rw [size_toList t, htx]
    omega
  have blk : B3 w.heap.size (.bool false) (.int .i64 0) (.slice none 0 0) w1 := (B3.new w _ _ _).below hb1
  have HTX := Lib.hid htx
  have HWR := Lib.hid hWR
  have W1 := Lib.hid hw1
  have HL := Lib.hid H.out.lt
  have hne : ¬ rb = w.heap.size := by have := HL.out; omega
  have HN := Lib.hid hne
  have BK := Lib.hid blk
  clear htx hWR hb1 WD blk hw1 hne
  rcases hat : Lib.atoiAll t.data.toList with v | _ | _
  · have iv := atoi_i64 hat
    have AT := Lib.hid (atoi_ok t (by omega) v hat w1)
    by_cases heq : itoa v = t.data.toList
    · have e1 : (⟨(itoa v).toArray⟩ : ByteArray) = t := Go.WideShapes.bytes_inj (by simpa using heq)
      have IT := fun w ht => itoa_any v iv w ht
      rw [e1] at IT
      have HIT := Lib.hid IT
      have HEQ := Lib.hid heq
      have HIV := Lib.hid iv
      clear e1 IT heq iv hat
      go_wp2_with fail
      refine AT.out.mono ?_
      rintro e w2 ⟨rfl, hb2⟩
      have W2 := Lib.hid (on W1.out hb2)
      have BK2 := Lib.hid (BK.out.below hb2)
      clear hb2
      go_wp2_with fail
      refine (HIT.out _ (HT.out.below W2.out)).mono ?_
      rintro e w3 ⟨rfl, hb3⟩
      have W3 := Lib.hid (on W2.out hb3)
      have BK3 := Lib.hid (BK2.out.below hb3)
      have R3 := Lib.hid (H.out.below W3.out)
      have d1 := R3.out.c1
      have f1 := R3.out.f 1
      clear hb3
      go_upto_region 6 with (fail)
      have R4 := Lib.hid (R3.out.pos (p + t.size) ((p : Int) + (t.size : Int)) (by omega))
      have G4 := Lib.hid (gr_set (gr_below (rb := rb) W3.out) 1 (.int .i64 ((p : Int) + (t.size : Int))))
      have BK4 := Lib.hid (BK3.out.other (c := rb) (fun e => HN.out e.symm) 1 (.int .i64 ((p : Int) + (t.size : Int))))
      clear d1 f1
      generalize w3.setCell ⟨rb, 1, none⟩ (.int .i64 ((p : Int) + (t.size : Int))) = w4 at R4 G4 BK4 ⊢
      obtain ⟨z0, z1, z2, y0, y1, y2⟩ := BK4.out.facts
      go_wp2_with fail
      refine bodyPost_ret (v := .tuple #[.agg #[.bool false, .int .i64 v, .slice none 0 0], .bool true]) (by simp [results, Tryd.results31, go_sem, z0, z1, z2]) rfl ?_
      have hd : s.data.toList.drop (p + t.size) = (s.data.toList.drop p).drop (wordL (s.data.toList.drop p)).length := by
        rw [List.drop_drop, size_toList t, HTX.out]
      exact .inl ⟨v, p + t.size, HIV.out, by omega, by rw [hd, HEQ.out, HTX.out]; exact HWR.out.1.symm, by rw [hd]; exact HWR.out.2, rfl, ((R4.out.other HN.out _ _).other HN.out _ _).other HN.out _ _, gr_new (gr_new (gr_new G4.out (Nat.le_refl _) _ _) (Nat.le_refl _) _ _) (Nat.le_refl _) _ _⟩
    · have NO := Lib.hid (show ∀ n, I64 n → wordL (s.data.toList.drop p) ≠ itoa n by
        intro n hn e
        rw [← HTX.out] at e
        rw [e, atoi_itoa n hn] at hat
        injection hat with hat
        exact heq (by rw [e, hat]))
      have hbq : ((⟨(itoa v).toArray⟩ : ByteArray).toList == t.toList) = false := by
        rw [beq_eq_false_iff_ne, ByteArray.toList_eq, ByteArray.toList_eq]; simpa using heq
      have hbn : ((⟨(itoa v).toArray⟩ : ByteArray).toList != t.toList) = true := by rw [bne, hbq]; rfl
      have IT := fun w ht => itoa_any v iv w ht
      generalize (⟨(itoa v).toArray⟩ : ByteArray) = u at hbq hbn IT
      have HIT := Lib.hid IT
      clear IT heq iv hat
      go_wp2_with fail
      refine AT.out.mono ?_
      rintro e w2 ⟨rfl, hb2⟩
      have W2 := Lib.hid (on W1.out hb2)
      have BK2 := Lib.hid (BK.out.below hb2)
      clear hb2
      go_wp2_with fail
      refine (HIT.out _ (HT.out.below W2.out)).mono ?_
      rintro e w3 ⟨rfl, hb3⟩
      have W3 := Lib.hid (on W2.out hb3)
      have BK3 := Lib.hid (BK2.out.below hb3)
      have R3 := Lib.hid (H.out.below W3.out)
      clear hb3
      obtain ⟨z0, z1, z2, y0, y1, y2⟩ := BK3.out.facts
      go_wp2_with fail
      refine bodyPost_ret (v := .tuple #[zeroV, .bool false]) (by simp [results, Tryd.results31, go_sem, z0, z1, z2]) rfl ?_
      exact .inr ⟨num_fails NO.out, rfl, ((R3.out.other HN.out _ _).other HN.out _ _).other HN.out _ _, gr_new (gr_new (gr_new (gr_below W3.out) (Nat.le_refl _) _ _) (Nat.le_refl _) _ _) (Nat.le_refl _) _ _⟩
  all_goals
    have NO := Lib.hid (show ∀ n, I64 n → wordL (s.data.toList.drop p) ≠ itoa n by
      intro n hn e
      rw [← HTX.out] at e
      rw [e, atoi_itoa n hn] at hat
      cases hat)
    have AT := Lib.hid (atoi_no t (by omega) (by rw [hat]; intro v e; cases e) w1 (HE.out.below W1.out))
    clear hat
    go_wp2_with fail
    refine AT.out.mono ?_
    rintro e w3 ⟨n, ty, a, rfl, hb3⟩
    have W3 := Lib.hid (on W1.out hb3)
    have BK3 := Lib.hid (BK.out.below hb3)
    have R3 := Lib.hid (H.out.below W3.out)
    clear hb3
    obtain ⟨z0, z1, z2, y0, y1, y2⟩ := BK3.out.facts
    go_wp2_with fail
    refine bodyPost_ret (v := .tuple #[zeroV, .bool false]) (by simp [results, Tryd.results31, go_sem, z0, z1, z2]) rfl ?_
    exact .inr ⟨num_fails NO.out, rfl, ((R3.out.other HN.out _ _).other HN.out _ _).other HN.out _ _, gr_new (gr_new (gr_new (gr_below W3.out) (Nat.le_refl _) _ _) (Nat.le_refl _) _ _) (Nat.le_refl _) _ _⟩
end Go.Proofs.YtgeljcfokeiaeaaDoor.Vals
