/- TopFails, part 12 of the proof: In the midst of a list of values that a source's choices make: the row so far, the box that holds it. · The program's value: what it makes of a source's choices. Conditions: a small generator. -/
import Derived.Test.YtabkihellcflhaaGreatDoorTopFailsZ11
import Derived.Deep.RegionLaw
/- In the midst of a list of values that a source's choices make: the row so far, the box that holds it. -/
namespace Go.Proofs.YtabkihellcflhaaGreatDoor.Gens
open Go.RowKit Go.ChangeShapes Lists Ints Vals
set_option linter.unusedVariables false

theorem OwnX.keep {w w' : World} {base c d : Nat} {A : Option Addr} {acc : List Tr} {X : Nat → Prop} (h : OwnX w base A c acc d X) (hs : w.heap.size ≤ w'.heap.size) (hk : ∀ b, base ≤ b → b < w.heap.size → w'.heap[b]? = w.heap[b]?) : OwnX w' base A c acc d X := by
  have hg := h.t.ge
  obtain ⟨hn, xs, h1, h2, h3⟩ := h
  refine ⟨hn, xs, h1, ⟨h2.1, ?_⟩, fun j hj hj' => (h3 j hj hj').keep fun b hb => ⟨⟨hb.1, Nat.lt_of_lt_of_le hb.2.1 hs, hb.2.2.1, hb.2.2.2⟩, fun o => World.cell?_of_block (hk b hb.1 hb.2.1)⟩⟩
  rcases h2.2 with h0 | ⟨g, cap, cur, he, hbg, hh, r⟩
  · exact .inl h0
  · exact .inr ⟨g, cap, cur, he, hbg, (hk g hbg (Array.getElem?_eq_some_iff.1 hh).1).trans hh, r⟩
theorem step_append_x {ops : Array Oper} {o : Oper} {a : Act} {w : World} {K : Act → World → Prop} {Q : Exit → Act → World → Prop} {E : Prop} (hgd : o.guard = none) (s x : Operand)
    (ho : o.op = .call { callee := .builtin .append, args := #[s, x], argTypes := #[45, 45] })
    (base c d : Nat) (A : Option Addr) (acc : List Tr) (X : Nat → Prop) (hX : ∀ b, X b → b < w.heap.size) (hown : OwnX w base A c acc d X) (b : Nat) (x0 x1 x2 : Value) (c2 : Nat) (t : Tr)
    (k0 : w.cell? ⟨b, 0, none⟩ = some x0) (k1 : w.cell? ⟨b, 1, none⟩ = some x1) (k2 : w.cell? ⟨b, 2, none⟩ = some x2) (one : x0.oneCell' = true ∧ x1.oneCell' = true ∧ x2.oneCell' = true)
    (ht : TAt w (MineX w base A X) d (.agg #[x0, x1, x2]) t)
    (hs : a.eval s = .slice A acc.length c) (hx : a.eval x = .slice (some ⟨b, 0, none⟩) 1 c2)
    (h63 : acc.length + 1 ≤ 1099511627776) (hbase : base ≤ w.heap.size)
    (h : ∀ A' c' w' (zl : List Tr), Hid (zl = acc ++ [t]) → OwnX w' base A' c' zl d X → w.grownBy w' (blockOf A) → K (a.put o.dst (.slice A' zl.length c')) w') :
    if Region.wanted o (yielded ops a.tmps) = true then Oper.wp Tryz.prog o a w K Q else E := by
  have hw : Region.wanted o (yielded ops a.tmps) = true := by simp [Region.wanted, hgd]
  rw [if_pos hw]
  obtain ⟨A', c', w', hrun, h2, h3⟩ := run_append_x w base c d A acc X hX hown b x0 x1 x2 c2 t k0 k1 k2 one ht h63 hbase o.type
  unfold Oper.wp execOp
  simp only [ho, resolve, invoke, builtin, Sem.run_bind, Sem.run_pure, Result.andThen_ok, List.map_toArray, List.map_cons, List.map_nil, hs, hx, hrun]
  exact h A' c' w' _ rfl h2 h3

section
variable {σ : Type} {ch : σ → Int → Except Int (Int × σ)} {k : Nat} {cap : Array Value} {B : Nat} {I : σ → (Nat → Prop) → World → Prop}
/-- j of the generators l have made the values acc: they lie in the row at A, which the value in box vb holds; w: the world at the call, base: where the row may begin. -/
structure Mid (ch : σ → Int → Except Int (Int × σ)) (I : σ → (Nat → Prop) → World → Prop) (l : List Gn) (s : σ) (X : Nat → Prop) (w : World) (vb base n j : Nat) (acc : List Tr) (sj : σ) (Xj : Nat → Prop) (A : Option Addr) (c : Nat) (wr : World) : Prop where
  le : j ≤ l.length
  run : ∃ cs, playAll ch (l.take j) s = .ok (cs, acc, sj)
  len : acc.length = j
  inv : I sj Xj wr
  mv : Mv X w wr Xj
  row : OwnX wr base A c acc n Xj
  box : V3 vb (.bool true) (.int .i64 0) (.slice A acc.length c) wr
  lo : w.heap.size ≤ vb
  hi : vb < base
  base : base ≤ wr.heap.size
  out : ¬ Xj vb
theorem all_len : ∀ (l : List Gn) (s : σ) (c : List Int) (vs : List Tr) (s1 : σ), playAll ch l s = .ok (c, vs, s1) → vs.length = l.length
  | [], s, c, vs, s1, h => by
    simp only [playAll, Except.ok.injEq, Prod.mk.injEq] at h
    obtain ⟨_, rfl, _⟩ := h
    rfl
  | g :: l, s, c, vs, s1, h => by
    simp only [playAll] at h
    cases h1 : play ch g s with
    | error e => rw [h1] at h; cases h
    | ok p =>
      obtain ⟨c1, v, s3⟩ := p
      simp only [h1] at h
      cases h3 : playAll ch l s3 with
      | error e => simp only [h3] at h; cases h
      | ok q =>
        obtain ⟨c4, vs4, s4⟩ := q
        simp only [h3, Except.ok.injEq, Prod.mk.injEq] at h
        obtain ⟨_, rfl, _⟩ := h
        simp [all_len l s3 c4 vs4 s4 h3]
theorem Mid.start (S : Src ch k cap B I) {l : List Gn} {s : σ} {X : Nat → Prop} {w W : World} {vb base n : Nat} (hI : I s X w) (hb : Below w.heap.size w W) (hv : V3 vb (.bool true) (.int .i64 0) (.slice none 0 0) W) (hlo : w.heap.size ≤ vb) (hhi : vb < base) (hbase : base ≤ W.heap.size) :
    Mid ch I l s X w vb base n 0 [] s X none 0 W :=
  ⟨Nat.zero_le _, ⟨[], by simp [playAll]⟩, rfl, S.below hI hb, Mv.of_below hb, OwnX.none_, hv, hlo, hhi, hbase, S.not hI hlo⟩
/-- what a further choice leaves of it, ahead of the call of value: memory was made -/
theorem Mid.later (S : Src ch k cap B I) {l : List Gn} {s sj : σ} {X Xj : Nat → Prop} {w wr wr2 : World} {vb base n j c : Nat} {acc : List Tr} {A : Option Addr} (h : Mid ch I l s X w vb base n j acc sj Xj A c wr) (hb : Below wr.heap.size wr wr2) : Mid ch I l s X w vb base n j acc sj Xj A c wr2 :=
  ⟨h.le, h.run, h.len, S.below h.inv hb, Mv.later h.mv hb, h.row.mv (Mv.of_below hb), h.box.below hb, h.lo, h.hi, Nat.le_trans h.base hb.size, h.out⟩
/-- what the call gives: the row as it was, the value among what the row may hold -/
theorem Mid.called (S : Src ch k cap B I) {l : List Gn} {s sj s' : σ} {X Xj X' : Nat → Prop} {w wr w3 w4 : World} {vb base n j c : Nat} {acc : List Tr} {A : Option Addr} {t : Tr} {v : Value} (h : Mid ch I l s X w vb base n j acc sj Xj A c wr)
    (hi : I s' X' w3) (hm : Mv Xj wr w3 X') (ht : TAt w3 (fun b => wr.heap.size ≤ b ∧ b < w3.heap.size ∧ ¬ X' b) n v t) (hb : Below w3.heap.size w3 w4) :
    OwnX w4 base A c acc n X' ∧ TAt w4 (MineX w4 base A X') n v t ∧ (∀ b, X' b → b < w4.heap.size) ∧ base ≤ w4.heap.size ∧ V3 vb (.bool true) (.int .i64 0) (.slice A acc.length c) w4 := by
  refine ⟨(h.row.mv hm).mv (Mv.of_below hb), ?_, fun b hx => Nat.lt_of_lt_of_le ((S.lt s' X' w3 hi).2 b hx).2 hb.size, Nat.le_trans h.base (Nat.le_trans hm.size hb.size), (h.box.mv hm h.out).below hb⟩
  refine ht.keep fun b ⟨h1, h2, h3⟩ => ⟨⟨Nat.le_trans h.base h1, Nat.lt_of_lt_of_le h2 hb.size, fun e => ?_, h3⟩, fun o => hb.cell (p := ⟨b, o, none⟩) h2⟩
  have := (h.row.t.ge b e).2
  omega
/-- one more -/
theorem Mid.next (S : Src ch k cap B I) {l : List Gn} {s sj s' : σ} {X Xj X' : Nat → Prop} {w wr w3 w4 w5 : World} {vb base n j c c' : Nat} {acc : List Tr} {A A' : Option Addr} {t : Tr} {c2 : List Int} (h : Mid ch I l s X w vb base n j acc sj Xj A c wr) (hj : j < l.length)
    (hp : play ch (l[j]'hj) sj = .ok (c2, t, s')) (hi : I s' X' w3) (hm : Mv Xj wr w3 X') (hb : Below w3.heap.size w3 w4) (ho : OwnX w5 base A' c' (acc ++ [t]) n X') (hown : OwnX w4 base A c acc n X') (hg : w4.grownBy w5 (blockOf A)) (hB : B ≤ w.heap.size) :
    Mid ch I l s X w vb base n (j + 1) (acc ++ [t]) s' X' A' c' (w5.setCell ⟨vb, 2, none⟩ (.slice A' (acc ++ [t]).length c')) := by
  obtain ⟨cs, hr⟩ := h.run
  have hv3 : ¬ X' vb := Mv.not hm h.box.lt h.out
  have hge := hown.t.ge
  have hbox4 : V3 vb (.bool true) (.int .i64 0) (.slice A acc.length c) w4 := (h.box.mv hm h.out).below hb
  have hbox5 : V3 vb (.bool true) (.int .i64 0) (.slice A acc.length c) w5 := (hg.block vb hbox4.lt (fun e => by have := (hge vb e.symm).1; have := h.hi; omega)).trans hbox4
  have m5 : Mv X w w5 X' := by
    have m4 := Mv.later (Mv.trans h.mv hm) hb
    have h1 := h.lo
    have h2 := h.hi
    exact ⟨hg.os.trans m4.os, hg.tape.trans m4.tape, hg.output.trans m4.output, Nat.le_trans m4.size hg.size, fun b hlt hx => (hg.block b (Nat.lt_of_lt_of_le hlt m4.size) (fun e => by have := (hge b e.symm).1; omega)).trans (m4.block b hlt hx), m4.new⟩
  have i5 : I s' X' w5 := by
    obtain ⟨l1, l2⟩ := S.lt s' X' w3 hi
    refine S.keep s' X' w3 w5 hi (fun b hbx => ?_) (Nat.le_trans hb.size hg.size)
    have hlt : b < w3.heap.size := hbx.elim (fun h => by omega) (fun h => (l2 b h).2)
    refine (hg.block b (Nat.lt_of_lt_of_le hlt hb.size) (fun e => ?_)).trans (hb.block b hlt)
    rcases hbx with hlo | hx
    · have := (hge b e.symm).1
      have := h.lo
      have := h.hi
      omega
    · exact hown.1 b e.symm hx
  refine ⟨hj, ⟨cs ++ c2, all_step hj hr hp⟩, by simp [h.len], S.set i5 (Nat.le_trans hB h.lo) hv3 2 _, Mv.set m5 h.lo 2 _, OwnX.keep ho (by simp [World.setCell]) (fun b hb1 hb2 => Below.heap_setCell _ _ _ _ (by show b ≠ vb; have := h.hi; omega)), hbox5.put2 _, h.lo, h.hi, ?_, hv3⟩
  · have : (w5.setCell ⟨vb, 2, none⟩ (.slice A' (acc ++ [t]).length c')).heap.size = w5.heap.size := by simp [World.setCell]
    rw [this]; exact Nat.le_trans h.base (Nat.le_trans hm.size (Nat.le_trans hb.size hg.size))
theorem V3.grown {vb base c n : Nat} {x0 x1 x2 : Value} {w4 w5 : World} {A : Option Addr} {acc : List Tr} {X : Nat → Prop} (h : V3 vb x0 x1 x2 w4) (hown : OwnX w4 base A c acc n X) (hg : w4.grownBy w5 (blockOf A)) (hlt : vb < base) : V3 vb x0 x1 x2 w5 :=
  (hg.block vb h.lt (fun e => by have := (hown.t.ge vb e.symm).1; omega)).trans h
/-- a box beside it -/
theorem Mid.side {l : List Gn} {s sj : σ} {X Xj X' : Nat → Prop} {w wr w3 w4 w5 : World} {vb base n j c : Nat} {acc : List Tr} {A : Option Addr} {rb : Nat} {x0 x1 x2 y : Value} (h : Mid ch I l s X w vb base n j acc sj Xj A c wr) (hm : Mv Xj wr w3 X') (hb : Below w3.heap.size w3 w4) (hown : OwnX w4 base A c acc n X') (hg : w4.grownBy w5 (blockOf A))
    (hr : V3 rb x0 x1 x2 wr ∧ ¬ Xj rb) (hlt : rb < base) (hne : rb ≠ vb) (o : Nat) : V3 rb x0 x1 x2 (w5.setCell ⟨vb, o, none⟩ y) ∧ ¬ X' rb :=
  ⟨(V3.grown ((hr.1.mv hm hr.2).below hb) hown hg hlt).other hne _ _, Mv.not hm hr.1.lt hr.2⟩
theorem OwnX.set {w : World} {base c d : Nat} {A : Option Addr} {acc : List Tr} {X : Nat → Prop} (h : OwnX w base A c acc d X) {b : Nat} (hb : b < base) (o : Nat) (v : Value) : OwnX (w.setCell ⟨b, o, none⟩ v) base A c acc d X :=
  OwnX.keep h (by simp [World.setCell]) (fun q h1 h2 => Below.heap_setCell _ _ _ _ (by show q ≠ b; omega))
/-- all of them: the value is returned through box rb -/
theorem Mid.done (S : Src ch k cap B I) {r : Except Int (List Int × Tr × σ)} {l : List Gn} {s sj : σ} {X Xj : Nat → Prop} {w wr : World} {vb base n j c : Nat} {acc : List Tr} {A : Option Addr} {rb : Nat} {y0 y1 y2 : Value} (h : Mid ch I l s X w vb base n j acc sj Xj A c wr) (hj : j = l.length) (hB : B ≤ w.heap.size)
    (hp : ∃ cs, ∀ cs2, playAll ch l s = .ok (cs2, acc, sj) → r = .ok (cs, .node true 0 acc, sj)) (hlo : w.heap.size ≤ rb) (hhi : rb < base) (hx : ¬ Xj rb) : VPost I (n + 1) r X w (.returned (tval (.node true 0 acc) A c)) (((wr.setCell ⟨rb, 0, none⟩ y0).setCell ⟨rb, 1, none⟩ y1).setCell ⟨rb, 2, none⟩ y2) := by
  obtain ⟨cs, hrun⟩ := h.run
  rw [List.take_of_length_le (by omega)] at hrun
  obtain ⟨cs', hp⟩ := hp
  have hrb : B ≤ rb := Nat.le_trans hB hlo
  have ho := OwnX.set (OwnX.set (OwnX.set h.row hhi 0 y0) hhi 1 y1) hhi 2 y2
  refine VPost.good (hp _ hrun) (S.set (S.set (S.set h.inv hrb hx 0 y0) hrb hx 1 y1) hrb hx 2 y2) (Mv.set (Mv.set (Mv.set h.mv hlo 0 y0) hlo 1 y1) hlo 2 y2) ?_ (OwnX.nfr ho)
  exact (OwnX.at_ (l := true) (n := 0) ho (by decide)).keep fun b ⟨h1, h2, h3⟩ => ⟨⟨by have := h.lo; have := h.hi; omega, h2, h3⟩, fun _ => rfl⟩
/-- begun behind a first choice -/
theorem Mid.start2 {l : List Gn} {s1 : σ} {X X1 : Nat → Prop} {w w1 : World} {vb base n : Nat} (hI : I s1 X1 w1) (hm : Mv X w w1 X1) (hv : V3 vb (.bool true) (.int .i64 0) (.slice none 0 0) w1) (hlo : w.heap.size ≤ vb) (hhi : vb < base) (hbase : base ≤ w1.heap.size) (hx : ¬ X1 vb) :
    Mid ch I l s1 X w vb base n 0 [] s1 X1 none 0 w1 :=
  ⟨Nat.zero_le _, ⟨[], by simp [playAll]⟩, rfl, hI, hm, OwnX.none_, hv, hlo, hhi, hbase, hx⟩
theorem Mid.sideG {l : List Gn} {s sj : σ} {X Xj X' : Nat → Prop} {w wr w3 w4 w5 : World} {vb base n j c : Nat} {acc : List Tr} {A : Option Addr} {rb : Nat} {x0 x1 x2 x3 y : Value} (h : Mid ch I l s X w vb base n j acc sj Xj A c wr) (hm : Mv Xj wr w3 X') (hb : Below w3.heap.size w3 w4) (hown : OwnX w4 base A c acc n X') (hg : w4.grownBy w5 (blockOf A))
    (hr : G4 rb x0 x1 x2 x3 wr ∧ ¬ Xj rb) (hlt : rb < base) (hne : rb ≠ vb) (o : Nat) : G4 rb x0 x1 x2 x3 (w5.setCell ⟨vb, o, none⟩ y) ∧ ¬ X' rb :=
  ⟨(Below.heap_setCell w5 ⟨vb, o, none⟩ y rb hne).trans ((hg.block rb ((hr.1.mv hm hr.2).below hb).lt (fun e => by have := (hown.t.ge rb e.symm).1; omega)).trans ((hr.1.mv hm hr.2).below hb)), Mv.not hm hr.1.lt hr.2⟩
end
end Go.Proofs.YtabkihellcflhaaGreatDoor.Gens

/- The program's value: what it makes of a source's choices. Conditions: a small generator. -/
namespace Go.Proofs.YtabkihellcflhaaGreatDoor.Gens
open Go.RowKit Lists Ints Vals
set_option linter.unusedVariables false

section
variable {σ : Type} {ch : σ → Int → Except Int (Int × σ)} {k : Nat} {cap : Array Value} {B : Nat} {I : σ → (Nat → Prop) → World → Prop}

theorem bel_drew {w W : World} (h : Below w.heap.size w W) : Below w.heap.size w W.drew := ⟨h.os, h.tape, h.output, h.size, h.block⟩

set_option maxHeartbeats 1000000 in
set_option maxRecDepth 100000 in
theorem value_int (S : Src ch k cap B I) (n : Nat) (a b : Int) (subs : List Gn) (A : Option Addr) (c : Nat) (s : σ) (X : Nat → Prop) (w : World) (hr : Right (.node 2 a b subs)) (hI : I s X w) (hne : play ch (.node 2 a b subs) s ≠ .error 77) :
    Calls Tryz.prog 68 #[fv k cap, .agg #[.int .i64 2, .int .i64 a, .int .i64 b, .slice A subs.length c]] w (VPost I (n + 1) (play ch (.node 2 a b subs) s) X w) := by
  have hm := (right_max hr).1 rfl
  have hn := (right_num hr).2 rfl
  have hsub : IntKind.i64.wrap (b - a) = b - a := wrap_small (by omega) (by omega)
  have hent := S.ent
  have HB := Lib.hid (two_boxes w (.int .i64 2) (.int .i64 a) (.int .i64 b) (.slice A subs.length c) (.bool false) (.int .i64 0) (.slice none 0 0))
  have HBAD := Lib.hid (fun er W1 X' (hc : ch s (b - a) = .error er) (hm : Mv X w W1 X') => VPost.bad (I := I) (er := er) (n := n + 1) (r := play ch (.node 2 a b subs) s) (by simp [play, hc]) hm)
  have HNE := Lib.hid (show ch s (b - a) ≠ .error 77 from fun e => hne (by simp [play, e]))
  clear hne
  have HN := Lib.hid hn
  have HM := Lib.hid hm
  have HR := Lib.hid hr
  clear hm hn hr
  go_enter Tryz.func68, Tryz.ntmps68
  go_wp2_with fail
  generalize (w.alloc (.cells #[.int .i64 2, .int .i64 a, .int .i64 b, .slice A subs.length c] 24)).alloc (.cells #[.bool false, .int .i64 0, .slice none 0 0] 47) = W at HB ⊢
  have hX : ∀ q, w.heap.size ≤ q → ¬ X q := fun q hq => S.not hI hq
  have HC := Lib.hid (S.call s X W.drew (b - a) HM.out.1 (by have := HM.out; omega) (S.below hI (bel_drew HB.out.2.2.1)) HNE.out)
  obtain ⟨k0, k1, k2, k3⟩ := HB.out.1.facts
  go_region_held2 (fun w' => w'.cell? ⟨w.heap.size, 1, none⟩ = some (.int .i64 a) ∧ w'.cell? ⟨w.heap.size, 2, none⟩ = some (.int .i64 b)) (go_keep) (first
    | (with_reducible refine HC.out.mono ?_
       intro e w1 hs
       rcases hs.split with ⟨er, X', hc, rfl, hm1⟩ | ⟨x, s', X', hc, rfl, hi1, hm1⟩
       · exact ⟨rfl, HBAD.out er w1 X' hc (Mv.trans (Mv.of_below (bel_drew HB.out.2.2.1)) hm1)⟩
       have j1 := Mv.cell hm1 (v := .int .i64 a) k1 (hX _ (Nat.le_refl _))
       have j2 := Mv.cell hm1 (v := .int .i64 b) k2 (hX _ (Nat.le_refl _))
       have hb := S.bnd s _ x s' HM.out.1 hc
       have hadd : IntKind.i64.wrap (a + x) = a + x := wrap_small (by have := HN.out; omega) (by have := HN.out; omega)
       have V1 := Lib.hid (V3.mv HB.out.2.1 (Mv.trans (Mv.of_below (bel_drew (Below.refl _ _))) hm1) (hX _ (by omega)))
       obtain ⟨z0, z1, z2, y0, y1, y2⟩ := V1.out.facts
       clear hs hb))
  have V9 := V3.put V1.out (.bool false) (.int .i64 (a + x)) (.slice none 0 0)
  have M9 := Lib.hid (Mv.set (Mv.set (Mv.set (Mv.trans (Mv.of_below (bel_drew HB.out.2.2.1)) hm1) (b := w.heap.size + 1) (by omega) 0 (.bool false)) (b := w.heap.size + 1) (by omega) 1 (.int .i64 (a + x))) (b := w.heap.size + 1) (by omega) 2 (.slice none 0 0))
  have hx1 : ¬ X' (w.heap.size + 1) := Mv.not hm1 (by show w.heap.size + 1 < W.heap.size; rw [HB.out.2.2.2]; omega) (hX _ (by omega))
  have hB : B ≤ w.heap.size + 1 := by have := (S.lt s X w hI).1; omega
  have I9 := Lib.hid (S.set (S.set (S.set hi1 hB hx1 0 (.bool false)) hB hx1 1 (.int .i64 (a + x))) hB hx1 2 (.slice none 0 0))
  have hb := S.bnd s _ x s' HM.out.1 hc
  have hwf : Wf (a + x) := wf_small (by have := HN.out; omega) (by have := HN.out; omega)
  clear z0 z1 z2 y0 y1 y2 j1 j2 V1 HC
  generalize ((w1.setCell ⟨w.heap.size + 1, 0, none⟩ (.bool false)).setCell ⟨w.heap.size + 1, 1, none⟩ (.int .i64 (a + x))).setCell ⟨w.heap.size + 1, 2, none⟩ (.slice none 0 0) = W9 at V9 M9 I9 ⊢
  obtain ⟨z0, z1, z2, _⟩ := V9.facts
  go_wp2_with fail
  refine bodyPost_ret (v := tval (.node false (a + x) []) none 0) (by simp [results, Tryz.results68, go_sem, z0, z1, z2, Tr.list, Tr.num, Tr.items]) rfl ?_
  exact VPost.good (c := [x]) (s' := s') (by simp [play, hc]) I9.out M9.out ⟨hwf, none, 0, rfl, fun hp => by simp [Tr.items] at hp⟩ (NFr.none_ _)
set_option maxHeartbeats 1000000 in
set_option maxRecDepth 100000 in
theorem value_just (S : Src ch k cap B I) (n : Nat) (a b : Int) (subs : List Gn) (A : Option Addr) (c : Nat) (s : σ) (X : Nat → Prop) (w : World) (hr : Right (.node 1 a b subs)) (hI : I s X w) :
    Calls Tryz.prog 68 #[fv k cap, .agg #[.int .i64 1, .int .i64 a, .int .i64 b, .slice A subs.length c]] w (VPost I (n + 1) (play ch (.node 1 a b subs) s) X w) := by
  have hn := (right_num hr).1 rfl
  have hwf : Wf a := wf_small (by omega) (by omega)
  have HB := Lib.hid (two_boxes w (.int .i64 1) (.int .i64 a) (.int .i64 b) (.slice A subs.length c) (.bool false) (.int .i64 a) (.slice none 0 0))
  have HN := Lib.hid hn
  clear hn hr
  go_enter Tryz.func68, Tryz.ntmps68
  go_wp2_with fail
  generalize (w.alloc (.cells #[.int .i64 1, .int .i64 a, .int .i64 b, .slice A subs.length c] 24)).alloc (.cells #[.bool false, .int .i64 a, .slice none 0 0] 47) = W at HB ⊢
  obtain ⟨_, v3, hb, _⟩ := HB.out
  obtain ⟨z0, z1, z2, _⟩ := v3.facts
  refine bodyPost_ret (v := tval (.node false a []) none 0) (by simp [results, Tryz.results68, go_sem, z0, z1, z2, Tr.list, Tr.num, Tr.items]) rfl ?_
  exact VPost.good (c := []) (s' := s) (by simp [play]) (S.below hI hb) (Mv.of_below hb) ⟨hwf, none, 0, rfl, fun hp => by simp [Tr.items] at hp⟩ (NFr.none_ _)
end
end Go.Proofs.YtabkihellcflhaaGreatDoor.Gens
