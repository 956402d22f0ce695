/- RunsTell, part 36 of the proof: Contract of the document's own Played. Condition: the sizes. -/
import Derived.Test.YtabkihellcflhaaGreatDoorRunsTellZ34
import Derived.Test.YtabkihellcflhaaGreatDoorRunsTellZ10
import Derived.Test.YtabkihellcflhaaGreatDoorRunsTellZ3
import Derived.Test.YtabkihellcflhaaGreatDoorRunsTellZ8
import Derived.Test.YtabkihellcflhaaGreatDoorRunsTellZ6
import Derived.Deep.CutBlock
import Derived.Deep.RegionLaw
/- Contract of the document's own Played. Condition: the sizes. -/
namespace Go.Proofs.YtabkihellcflhaaGreatDoor.Gens
open Go.RowKit Lists Ints Vals Go.ChangeShapes
set_option linter.unusedVariables false

/-! rows of any values -/
def OwnV (w : World) (base : Nat) (A : Option Addr) (c : Nat) (xs : List (Value × Value × Value)) : Prop :=
  w.ownsRow base 47 3 (.slice A xs.length c) xs.length (xs.flatMap three)
theorem OwnV.none_ {w : World} {base : Nat} : OwnV w base none 0 [] := ⟨rfl, .inl ⟨rfl, rfl⟩⟩
theorem OwnV.ge {w : World} {base c : Nat} {A : Option Addr} {xs : List (Value × Value × Value)} (h : OwnV w base A c xs) : ∀ g, blockOf A = some g → base ≤ g ∧ g < w.heap.size := by
  intro g hg
  rcases h.2 with ⟨he, _⟩ | ⟨g', cap, cur, he, hb, hh, _⟩
  · injection he with he; subst he; cases hg
  · injection he with he; subst he
    have : g' = g := by simpa [blockOf] using hg
    subst this
    exact ⟨hb, (Array.getElem?_eq_some_iff.1 hh).1⟩
theorem OwnV.same {w w' : World} {base c : Nat} {A : Option Addr} {xs : List (Value × Value × Value)} (h : OwnV w base A c xs) (hb : ∀ g, blockOf A = some g → w'.heap[g]? = w.heap[g]?) : OwnV w' base A c xs := by
  refine ⟨h.1, ?_⟩
  rcases h.2 with h0 | ⟨g, cap, cur, he, hbg, hh, r⟩
  · exact .inl h0
  · refine .inr ⟨g, cap, cur, he, hbg, (hb g ?_).trans hh, r⟩
    injection he with he; subst he; rfl
set_option maxRecDepth 100000 in
theorem run_append_v (w : World) (base c : Nat) (A : Option Addr) (xs : List (Value × Value × Value)) (hown : OwnV w base A c xs) (b : Nat) (x0 x1 x2 : Value) (c2 : Nat)
    (k0 : w.cell? ⟨b, 0, none⟩ = some x0) (k1 : w.cell? ⟨b, 1, none⟩ = some x1) (k2 : w.cell? ⟨b, 2, none⟩ = some x2) (one : x0.oneCell' = true ∧ x1.oneCell' = true ∧ x2.oneCell' = true)
    (h63 : xs.length + 1 ≤ 1099511627776) (hbase : base ≤ w.heap.size) (ty : TypeId) :
    ∃ A' c' w', (Builtin.append_ #[45, 45] ty #[.slice A xs.length c, .slice (some ⟨b, 0, none⟩) 1 c2]).run Tryz.prog w = .ok (.slice A' (xs ++ [(x0, x1, x2)]).length c') w' ∧ OwnV w' base A' c' (xs ++ [(x0, x1, x2)]) ∧ w.grownBy w' (blockOf A) ∧ (blockOf A' = blockOf A ∨ blockOf A' = some w.heap.size) := by
  obtain ⟨i0, hi, hz, hsz, hby⟩ := info_parts val_info
  have hcells : ∀ j u, ([x0, x1, x2] : List Value)[j]? = some u → w.cell? ((⟨b, 0, none⟩ : Addr).add j) = some u := by
    intro j u hu
    rw [Go.WideShapes.add_plain, Nat.zero_add]
    match j, hu with
    | 0, hu => rw [k0]; simpa using hu
    | 1, hu => rw [k1]; simpa using hu
    | 2, hu => rw [k2]; simpa using hu
    | j + 3, hu => simp at hu
  obtain ⟨v', w', hrun, r2, r3, _, r5⟩ := run_append_own_at (P := Tryz.prog) w base 45 ty 47 i0 _ 3 40 Tryz.underlying45 hi hz hsz hby rfl (by decide) _ xs.length _ hown
    ⟨b, 0, none⟩ 1 c2 [x0, x1, x2] rfl hcells (by
      intro u hu
      simp only [List.mem_cons, List.not_mem_nil, or_false] at hu
      rcases hu with rfl | rfl | rfl
      · exact one.1
      · exact one.2.1
      · exact one.2.2) (by simp only [maxLen]; omega) (by omega) hbase
  have hv : ∃ A' c', v' = .slice A' (xs.length + 1) c' := by
    rcases r2.2 with ⟨he, hn⟩ | ⟨g, cap, cur, he, _⟩
    · omega
    · exact ⟨_, _, he⟩
  obtain ⟨A', c', rfl⟩ := hv
  rw [blockOf_own] at r3
  rw [blockOf_own, blockOf_own] at r5
  have e : (xs ++ [(x0, x1, x2)]).length = xs.length + 1 := by simp
  refine ⟨A', c', w', by rw [e]; exact hrun, ?_, r3, r5⟩
  unfold OwnV
  rw [e, List.flatMap_append]
  exact r2
theorem wpList_append_v {ops : Array Oper} {rest : List Oper} {o : Oper} {a : Act} {w : World} {Q : Exit → Act → World → Prop} (hgd : o.guard = none) (s x : Operand)
    (ho : o.op = .call { callee := .builtin .append, args := #[s, x], argTypes := #[45, 45] })
    (base c : Nat) (A : Option Addr) (xs : List (Value × Value × Value)) (hown : OwnV w base A c xs) (b : Nat) (x0 x1 x2 : Value) (c2 : Nat)
    (k0 : w.cell? ⟨b, 0, none⟩ = some x0) (k1 : w.cell? ⟨b, 1, none⟩ = some x1) (k2 : w.cell? ⟨b, 2, none⟩ = some x2) (one : x0.oneCell' = true ∧ x1.oneCell' = true ∧ x2.oneCell' = true)
    (hs : a.eval s = .slice A xs.length c) (hx : a.eval x = .slice (some ⟨b, 0, none⟩) 1 c2)
    (h63 : xs.length + 1 ≤ 1099511627776) (hbase : base ≤ w.heap.size)
    (h : ∀ A' c' w' (zl : List (Value × Value × Value)), Hid (zl = xs ++ [(x0, x1, x2)]) → OwnV w' base A' c' zl → w.grownBy w' (blockOf A) → (blockOf A' = blockOf A ∨ blockOf A' = some w.heap.size) → wpList Tryz.prog ops Q rest (a.put o.dst (.slice A' zl.length c')) w') : wpList Tryz.prog ops Q (o :: rest) a w := by
  obtain ⟨A', c', w', hrun, h2, h3, h4⟩ := run_append_v w base c A xs hown b x0 x1 x2 c2 k0 k1 k2 one h63 hbase o.type
  refine wpList_plain hgd fun K hK => ?_
  unfold Oper.wp execOp
  simp only [ho, resolve, invoke, builtin, Sem.run_bind, Sem.run_pure, Result.andThen_ok, List.map_toArray, List.map_cons, List.map_nil, hs, hx, hrun]
  exact hK _ _ (h A' c' w' _ rfl h2 h3 h4)

/-! a box of a play -/
def P6 (b : Nat) (x0 x1 x2 x3 x4 x5 : Value) (w : World) : Prop := w.heap[b]? = some (.cells #[x0, x1, x2, x3, x4, x5] 130 (0, 0))
theorem P6.facts {b : Nat} {x0 x1 x2 x3 x4 x5 : Value} {w : World} (h : P6 b x0 x1 x2 x3 x4 x5 w) : w.cell? ⟨b, 0, none⟩ = some x0 ∧ w.cell? ⟨b, 1, none⟩ = some x1 ∧ w.cell? ⟨b, 2, none⟩ = some x2 ∧ w.cell? ⟨b, 3, none⟩ = some x3 ∧ w.cell? ⟨b, 4, none⟩ = some x4 ∧ w.cell? ⟨b, 5, none⟩ = some x5 :=
  ⟨by rw [Lib.cell_of_heap h]; rfl, by rw [Lib.cell_of_heap h]; rfl, by rw [Lib.cell_of_heap h]; rfl, by rw [Lib.cell_of_heap h]; rfl, by rw [Lib.cell_of_heap h]; rfl, by rw [Lib.cell_of_heap h]; rfl⟩
theorem P6.free {b : Nat} {x0 x1 x2 x3 x4 x5 : Value} {w : World} (h : P6 b x0 x1 x2 x3 x4 x5 w) (o : Nat) : w.frozen? ⟨b, o, none⟩ = false := Lib.frozen_of_heap h o
theorem P6.lt {b : Nat} {x0 x1 x2 x3 x4 x5 : Value} {w : World} (h : P6 b x0 x1 x2 x3 x4 x5 w) : b < w.heap.size := (Array.getElem?_eq_some_iff.1 h).1
theorem P6.same {b : Nat} {x0 x1 x2 x3 x4 x5 : Value} {w w' : World} (h : P6 b x0 x1 x2 x3 x4 x5 w) (hb : w'.heap[b]? = w.heap[b]?) : P6 b x0 x1 x2 x3 x4 x5 w' := hb.trans h
theorem P6.below {b : Nat} {x0 x1 x2 x3 x4 x5 : Value} {w w' : World} (h : P6 b x0 x1 x2 x3 x4 x5 w) (hb : Below w.heap.size w w') : P6 b x0 x1 x2 x3 x4 x5 w' := (hb.block b h.lt).trans h
theorem P6.put3 {b : Nat} {x0 x1 x2 x3 x4 x5 : Value} {w : World} (h : P6 b x0 x1 x2 x3 x4 x5 w) (y0 y1 y2 : Value) : P6 b y0 y1 y2 x3 x4 x5 (((w.setCell ⟨b, 0, none⟩ y0).setCell ⟨b, 1, none⟩ y1).setCell ⟨b, 2, none⟩ y2) := by
  unfold P6 at h ⊢
  simp [World.setCell, Array.getElem?_modify, h]
theorem P6.put6 {b : Nat} {x0 x1 x2 x3 x4 x5 : Value} {w : World} (h : P6 b x0 x1 x2 x3 x4 x5 w) (y0 y1 y2 y3 y4 y5 : Value) : P6 b y0 y1 y2 y3 y4 y5 ((((((w.setCell ⟨b, 0, none⟩ y0).setCell ⟨b, 1, none⟩ y1).setCell ⟨b, 2, none⟩ y2).setCell ⟨b, 3, none⟩ y3).setCell ⟨b, 4, none⟩ y4).setCell ⟨b, 5, none⟩ y5) := by
  unfold P6 at h ⊢
  simp [World.setCell, Array.getElem?_modify, h]
/-- all but block b is as it was -/
theorem put3_gr (w : World) (b : Nat) (y0 y1 y2 : Value) : w.grownBy (((w.setCell ⟨b, 0, none⟩ y0).setCell ⟨b, 1, none⟩ y1).setCell ⟨b, 2, none⟩ y2) (some b) :=
  gr_set (gr_set (gr_set (gr_refl b w) _ _) _ _) _ _
theorem put6_gr (w : World) (b : Nat) (y0 y1 y2 y3 y4 y5 : Value) : w.grownBy ((((((w.setCell ⟨b, 0, none⟩ y0).setCell ⟨b, 1, none⟩ y1).setCell ⟨b, 2, none⟩ y2).setCell ⟨b, 3, none⟩ y3).setCell ⟨b, 4, none⟩ y4).setCell ⟨b, 5, none⟩ y5) (some b) :=
  gr_set (gr_set (gr_set (gr_set (gr_set (gr_set (gr_refl b w) _ _) _ _) _ _) _ _) _ _) _ _
theorem put6_size (w : World) (b : Nat) (y0 y1 y2 y3 y4 y5 : Value) : ((((((w.setCell ⟨b, 0, none⟩ y0).setCell ⟨b, 1, none⟩ y1).setCell ⟨b, 2, none⟩ y2).setCell ⟨b, 3, none⟩ y3).setCell ⟨b, 4, none⟩ y4).setCell ⟨b, 5, none⟩ y5).heap.size = w.heap.size := by simp [World.setCell]
theorem three_play (w : World) (g : Gn) (A : Option Addr) (c : Nat) (x0 x1 x2 x3 x4 x5 z0 z1 z2 z3 z4 z5 : Value) :
    let W := ((w.alloc (gc g A c)).alloc (.cells #[x0, x1, x2, x3, x4, x5] 130)).alloc (.cells #[z0, z1, z2, z3, z4, z5] 130)
    G4 w.heap.size (.int .i64 g.kind) (.int .i64 g.a) (.int .i64 g.b) (.slice A g.subs.length c) W ∧ P6 (w.heap.size + 1) x0 x1 x2 x3 x4 x5 W ∧ P6 (w.heap.size + 1 + 1) z0 z1 z2 z3 z4 z5 W ∧ Below w.heap.size w W ∧ W.heap.size = w.heap.size + 3 :=
  ⟨new1 _ _ _ _, new2 _ _ _ _, new3 _ _ _ _, bel3 _ _ _ _ (Nat.le_refl _), by simp⟩

/-- what a play comes to; where its tape lies: where it came in, or in new memory -/
def PlP (n : Nat) (w : World) (t : List Int) (TA : Option Addr) (k : Nat) (r : Except Int (List Int × Tr × List Int)) (e : Ending) (w' : World) : Prop :=
  Below w.heap.size w w' ∧ match r with
    | .ok (c, v, _) => ∃ (VA TA' : Option Addr) (vc tc : Nat), e = .returned (pv v.list v.num VA v.items.length vc TA' (t ++ c).length tc (k + c.length : Nat) 0) ∧
        TAt w' (fun b => w.heap.size ≤ b ∧ b < w'.heap.size) n (.agg #[.bool v.list, .int .i64 v.num, .slice VA v.items.length vc]) v ∧ ((c = [] ∧ TA' = TA) ∨ AtS w' (fun b => w.heap.size ≤ b) TA' (t ++ c)) ∧ (t ++ c).length ≤ tc
    | .error er => er ≠ 0 ∧ ∃ (lb : Bool) (nm : Int) (VA : Option Addr) (vl vc : Nat) (TA' : Option Addr) (tl tc : Nat) (k' : Int), e = .returned (pv lb nm VA vl vc TA' tl tc k' er)
/-- what is asked of Played, of so many levels -/
def PlayedOK (n : Nat) : Prop := ∀ (g : Gn) (v : Value) (lb : Bool) (nm : Int) (VA : Option Addr) (vl vc : Nat) (t : List Int) (TA : Option Addr) (tc k : Nat) (l : List Int) (L : Option Addr) (lc : Nat) (mend : Bool) (B : Nat) (w : World),
  GAt w (GBel B) n v g → Right g → g.size ≤ 4294967296 → At w B TA t → At w B L l → B ≤ w.heap.size → t.length + longG g ≤ 4294967296 → l.length ≤ 4294967296 → k + longG g ≤ 4294967296 → t.length ≤ tc →
  Calls Tryz.prog 85 #[v, pv lb nm VA vl vc TA t.length tc k 0, .slice L l.length lc, .bool mend] w (PlP n w t TA k (play (chC mend) g (l.drop k)))

set_option maxHeartbeats 1000000 in
set_option maxRecDepth 100000 in
/-- of a play that has an error nothing is asked -/
theorem played_bad {n : Nat} {g : Gn} {v : Value} {B : Nat} (lb : Bool) (nm : Int) (VA : Option Addr) (vl vc : Nat) (TA : Option Addr) (tl tc : Nat) (k er : Int) (he : er ≠ 0) (L : Option Addr) (ll lc : Nat) (mend : Bool) (w : World) (h : GAt w (GBel B) n v g) :
    Calls Tryz.prog 85 #[v, pv lb nm VA vl vc TA tl tc k er, .slice L ll lc, .bool mend] w fun e w' => e = .returned (pv lb nm VA vl vc TA tl tc k er) ∧ Below w.heap.size w w' := by
  obtain ⟨m, A, c, e, hw, rfl, _⟩ := h.open_
  have HB := Lib.hid (three_play w g A c (.bool lb) (.int .i64 nm) (.slice VA vl vc) (.slice TA tl tc) (.int .i64 k) (.int .i64 er) (.bool false) (.int .i64 0) (.slice none 0 0) (.slice none 0 0) (.int .i64 0) (.int .i64 0))
  have g2 : (er != 0) = true := by rw [bne_iff_ne]; exact he
  clear h e hw he
  go_enter Tryz.func85, Tryz.ntmps85
  go_upto_region 1 with fail
  generalize ((w.alloc (gc g A c)).alloc (.cells #[.bool lb, .int .i64 nm, .slice VA vl vc, .slice TA tl tc, .int .i64 k, .int .i64 er] 130)).alloc (.cells #[.bool false, .int .i64 0, .slice none 0 0, .slice none 0 0, .int .i64 0, .int .i64 0] 130) = W at HB ⊢
  obtain ⟨p0, p1, p2, p3, p4, p5⟩ := HB.out.2.1.facts
  obtain ⟨r0, r1, r2, r3, r4, r5⟩ := HB.out.2.2.1.facts
  have f0 := HB.out.2.2.1.free 0
  have f1 := HB.out.2.2.1.free 1
  have f2 := HB.out.2.2.1.free 2
  have f3 := HB.out.2.2.1.free 3
  have f4 := HB.out.2.2.1.free 4
  have f5 := HB.out.2.2.1.free 5
  have Q := Lib.hid (And.intro (HB.out.2.2.1.put6 (.bool lb) (.int .i64 nm) (.slice VA vl vc) (.slice TA tl tc) (.int .i64 k) (.int .i64 er)).facts (HB.out.2.2.2.1.grown (put6_gr W (w.heap.size + 1 + 1) (.bool lb) (.int .i64 nm) (.slice VA vl vc) (.slice TA tl tc) (.int .i64 k) (.int .i64 er)) (by rw [HB.out.2.2.2.2]; omega) (fun g hg => by injection hg with hg; omega)))
  go_wp2_with fail
  generalize (((((W.setCell ⟨w.heap.size + 1 + 1, 0, none⟩ (.bool lb)).setCell ⟨w.heap.size + 1 + 1, 1, none⟩ (.int .i64 nm)).setCell ⟨w.heap.size + 1 + 1, 2, none⟩ (.slice VA vl vc)).setCell ⟨w.heap.size + 1 + 1, 3, none⟩ (.slice TA tl tc)).setCell ⟨w.heap.size + 1 + 1, 4, none⟩ (.int .i64 k)).setCell ⟨w.heap.size + 1 + 1, 5, none⟩ (.int .i64 er) = W9 at Q ⊢
  obtain ⟨q0, q1, q2, q3, q4, q5⟩ := Q.out.1
  refine bodyPost_ret (v := pv lb nm VA vl vc TA tl tc k er) (by simp [results, Tryz.results85, go_sem, q0, q1, q2, q3, q4, q5]) rfl ?_
  exact ⟨rfl, Q.out.2⟩

/-! the parts of a list, one after the other -/
def GsS (w : World) (S : Nat → Prop) (n : Nat) (A : Option Addr) (l : List Gn) : Prop :=
  0 < l.length → ∃ b off, A = some ⟨b, off, none⟩ ∧ S b ∧ ∀ j (h : j < l.length), ∃ x0 x1 x2 x3, w.cell? ⟨b, off + j * 4, none⟩ = some x0 ∧ w.cell? ⟨b, off + j * 4 + 1, none⟩ = some x1 ∧ w.cell? ⟨b, off + j * 4 + 2, none⟩ = some x2 ∧ w.cell? ⟨b, off + j * 4 + 3, none⟩ = some x3 ∧ GAt w S n (.agg #[x0, x1, x2, x3]) (l[j]'h)
theorem GsS.keep {w w' : World} {S S' : Nat → Prop} {n : Nat} {A : Option Addr} {l : List Gn} (h : GsS w S n A l) (hk : ∀ b, S b → S' b ∧ ∀ o, w'.cell? ⟨b, o, none⟩ = w.cell? ⟨b, o, none⟩) : GsS w' S' n A l := fun hp => by
  obtain ⟨b, off, e, hb, hc⟩ := h hp
  refine ⟨b, off, e, (hk b hb).1, fun j hj => ?_⟩
  obtain ⟨x0, x1, x2, x3, c0, c1, c2, c3, ht⟩ := hc j hj
  exact ⟨x0, x1, x2, x3, ((hk b hb).2 _).trans c0, ((hk b hb).2 _).trans c1, ((hk b hb).2 _).trans c2, ((hk b hb).2 _).trans c3, ht.keep hk⟩
theorem GsS.sub {w : World} {S : Nat → Prop} {n : Nat} {A : Option Addr} {l : List Gn} (h : GsS w S n A l) (k : Nat) (hk : k < l.length) : ∃ b off D d, A = some ⟨b, off, none⟩ ∧ w.cell? ⟨b, off + k * 4, none⟩ = some (.int .i64 (l[k]'hk).kind) ∧ w.cell? ⟨b, off + k * 4 + 1, none⟩ = some (.int .i64 (l[k]'hk).a) ∧ w.cell? ⟨b, off + k * 4 + 2, none⟩ = some (.int .i64 (l[k]'hk).b) ∧ w.cell? ⟨b, off + k * 4 + 3, none⟩ = some (.slice D (l[k]'hk).subs.length d) ∧
      GAt w S n (gv (l[k]'hk) D d) (l[k]'hk) := by
  obtain ⟨b, off, e, hB, hc⟩ := h (by omega)
  obtain ⟨x0, x1, x2, x3, c0, c1, c2, c3, ht⟩ := hc k hk
  obtain ⟨_, D, d, _, _, ev, _⟩ := ht.open_
  simp only [Value.agg.injEq, Array.mk.injEq, List.cons.injEq, and_true] at ev
  obtain ⟨rfl, rfl, rfl, rfl⟩ := ev
  exact ⟨b, off, D, d, e, c0, c1, c2, c3, ht⟩

/-- where the loop stands: so many parts played -/
structure PM (ch : List Int → Int → Except Int (Int × List Int)) (ps : List Gn) (r : Except Int (List Int × Tr × List Int)) (l t1 : List Int) (k1 n : Nat) (S : Nat → Prop) (SA : Option Addr) (pb rb vb base : Nat) (w : World) (TA1 : Option Addr)
    (j : Nat) (xs : List (Value × Value × Value)) (A : Option Addr) (c : Nat) (lb : Bool) (nm : Int) (VA : Option Addr) (vl vc : Nat) (TA : Option Addr) (tl tc : Nat) (a e : Int) (wr : World) : Prop where
  le : j ≤ ps.length
  len : xs.length = j
  row : OwnV wr base A c xs
  box : P6 pb (.bool lb) (.int .i64 nm) (.slice VA vl vc) (.slice TA tl tc) (.int .i64 a) (.int .i64 e) wr
  vbox : V3 vb (.bool true) (.int .i64 0) (.slice A xs.length c) wr
  rbox : P6 rb (.bool false) (.int .i64 0) (.slice none 0 0) (.slice none 0 0) (.int .i64 0) (.int .i64 0) wr
  gs : GsS wr S n SA ps
  bel : Below w.heap.size w wr
  size : base ≤ wr.heap.size
  mode : (e = 0 ∧ ∃ (cj : List Int) (acc : List Tr), playAll ch (ps.take j) (l.drop k1) = .ok (cj, acc, l.drop (k1 + cj.length)) ∧ acc.length = j ∧ tl = (t1 ++ cj).length ∧ a = ((k1 + cj.length : Nat) : Int) ∧
      AtS wr (fun b => b ≠ pb ∧ b ≠ rb ∧ b ≠ vb ∧ blockOf A ≠ some b) TA (t1 ++ cj) ∧ ((cj = [] ∧ TA = TA1) ∨ AtS wr (fun b => w.heap.size ≤ b) TA (t1 ++ cj)) ∧
      (∀ i (h : i < acc.length) (h' : i < xs.length), TAt wr (Mine wr base A) n (.agg #[(xs[i]'h').1, (xs[i]'h').2.1, (xs[i]'h').2.2]) (acc[i]'h)) ∧ tl ≤ tc) ∨ (e ≠ 0 ∧ r = .error e)
/-- what a part's play comes to -/
def PNext (ch : List Int → Int → Except Int (Int × List Int)) (ps : List Gn) (r : Except Int (List Int × Tr × List Int)) (l t1 : List Int) (k1 n : Nat) (pb rb vb : Nat) (w : World) (TA1 : Option Addr) (j : Nat) (A : Option Addr) (base : Nat) (xs : List (Value × Value × Value)) (wr : World)
    (lb : Bool) (nm : Int) (VA : Option Addr) (vl vc : Nat) (TA : Option Addr) (tl tc : Nat) (a e : Int) (w3 : World) : Prop :=
  (e = 0 ∧ ∃ (cj : List Int) (acc : List Tr) (v : Tr), playAll ch (ps.take (j + 1)) (l.drop k1) = .ok (cj, acc ++ [v], l.drop (k1 + cj.length)) ∧ acc.length = j ∧ tl = (t1 ++ cj).length ∧ a = ((k1 + cj.length : Nat) : Int) ∧
      AtS w3 (fun b => b ≠ pb ∧ b ≠ rb ∧ b ≠ vb ∧ blockOf A ≠ some b) TA (t1 ++ cj) ∧ ((cj = [] ∧ TA = TA1) ∨ AtS w3 (fun b => w.heap.size ≤ b) TA (t1 ++ cj)) ∧
      (∀ i (h : i < acc.length) (h' : i < xs.length), TAt wr (Mine wr base A) n (.agg #[(xs[i]'h').1, (xs[i]'h').2.1, (xs[i]'h').2.2]) (acc[i]'h)) ∧
      TAt w3 (fun b => wr.heap.size ≤ b ∧ b < w3.heap.size) n (.agg #[.bool lb, .int .i64 nm, .slice VA vl vc]) v ∧ tl ≤ tc) ∨ (e ≠ 0 ∧ r = .error e)

section
variable {ch : List Int → Int → Except Int (Int × List Int)} {ps : List Gn} {r : Except Int (List Int × Tr × List Int)} {l t1 : List Int} {k1 n : Nat} {S : Nat → Prop} {SA : Option Addr} {pb rb vb base : Nat} {w : World} {TA1 : Option Addr}
  {j : Nat} {xs : List (Value × Value × Value)} {A : Option Addr} {c : Nat} {lb : Bool} {nm : Int} {VA : Option Addr} {vl vc : Nat} {TA : Option Addr} {tl tc : Nat} {a e : Int} {wr : World}
theorem cell_same {w w' : World} {b : Nat} (h : w'.heap[b]? = w.heap[b]?) (o : Nat) : w'.cell? ⟨b, o, none⟩ = w.cell? ⟨b, o, none⟩ := World.cell?_of_block h
/-- one part more -/
theorem PM.next (h : PM ch ps r l t1 k1 n S SA pb rb vb base w TA1 j xs A c lb nm VA vl vc TA tl tc a e wr) (hj : j < ps.length)
    (hS : ∀ b, S b → b ≠ pb ∧ b ≠ rb ∧ b ≠ vb ∧ b < base) (hpb : w.heap.size ≤ pb ∧ pb < base) (hrb : w.heap.size ≤ rb ∧ rb < base) (hvb : w.heap.size ≤ vb ∧ vb < base) (hpr : pb ≠ rb) (hpv : pb ≠ vb) (hrv : rb ≠ vb)
    {lb' : Bool} {nm' : Int} {VA' : Option Addr} {vl' vc' : Nat} {TA' : Option Addr} {tl' tc' : Nat} {a' e' : Int} {w3 w4 w5 w6 w7 : World} (hb3 : Below wr.heap.size wr w3)
    (hn : PNext ch ps r l t1 k1 n pb rb vb w TA1 j A base xs wr lb' nm' VA' vl' vc' TA' tl' tc' a' e' w3)
    (h4 : w4 = ((((((w3.setCell ⟨pb, 0, none⟩ (.bool lb')).setCell ⟨pb, 1, none⟩ (.int .i64 nm')).setCell ⟨pb, 2, none⟩ (.slice VA' vl' vc')).setCell ⟨pb, 3, none⟩ (.slice TA' tl' tc')).setCell ⟨pb, 4, none⟩ (.int .i64 a')).setCell ⟨pb, 5, none⟩ (.int .i64 e')))
    (h5 : w5 = w4.alloc (.cells #[.bool lb', .int .i64 nm', .slice VA' vl' vc'] 47))
    {A' : Option Addr} {c' : Nat} {zl : List (Value × Value × Value)} (hz : zl = xs ++ [(.bool lb', .int .i64 nm', .slice VA' vl' vc')]) (hown : OwnV w6 base A' c' zl) (g6 : w5.grownBy w6 (blockOf A)) (r6 : blockOf A' = blockOf A ∨ blockOf A' = some w5.heap.size)
    (h7 : w7 = w6.setCell ⟨vb, 2, none⟩ (.slice A' zl.length c')) :
    PM ch ps r l t1 k1 n S SA pb rb vb base w TA1 (j + 1) zl A' c' lb' nm' VA' vl' vc' TA' tl' tc' a' e' w7 := by
  have hA := h.row.ge
  have z3 := hb3.size
  have gr4 : w3.grownBy w4 (some pb) := by rw [h4]; exact put6_gr _ _ _ _ _ _ _ _
  have z4 : w4.heap.size = w3.heap.size := by rw [h4]; exact put6_size _ _ _ _ _ _ _ _
  have z5 : w5.heap.size = w4.heap.size + 1 := by rw [h5]; simp
  have b5 : Below w4.heap.size w4 w5 := by rw [h5]; exact bel1 _ _
  have gr7 : w6.grownBy w7 (some vb) := by rw [h7]; exact gr_set (gr_refl vb w6) _ _
  have z6 := g6.size
  have z7 := gr7.size
  have hsz := h.size
  have hneA : ∀ q, q < base → blockOf A ≠ some q := fun q hq he => by have := (hA q he).1; omega
  have hA' : ∀ q, blockOf A' = some q → (blockOf A = some q ∨ q = w5.heap.size) := fun q hq => by
    rcases r6 with h1 | h1
    · exact .inl (h1 ▸ hq)
    · rw [h1] at hq; injection hq with hq; exact .inr hq.symm
  have keep : ∀ q, q < w3.heap.size → q ≠ pb → q ≠ vb → blockOf A ≠ some q → w7.heap[q]? = w3.heap[q]? := fun q h1 h2 h3 h4' => by
    rw [gr7.block q (by omega) (fun e => h3 (Option.some.inj e)), g6.block q (by omega) (fun e => h4' e.symm), b5.block q (by omega), gr4.block q h1 (fun e => h2 (Option.some.inj e))]
  have keepr : ∀ q, q < wr.heap.size → q ≠ pb → q ≠ vb → blockOf A ≠ some q → w7.heap[q]? = wr.heap[q]? := fun q h1 h2 h3 h4' => (keep q (by omega) h2 h3 h4').trans (hb3.block q h1)
  have box4 : P6 pb (.bool lb') (.int .i64 nm') (.slice VA' vl' vc') (.slice TA' tl' tc') (.int .i64 a') (.int .i64 e') w4 := by rw [h4]; exact (h.box.below (hb3.mono (Nat.le_refl _))).put6 _ _ _ _ _ _
  refine ⟨hj, by rw [hz, List.length_append, h.len]; rfl, ?_, ?_, ?_, ?_, ?_, ?_, by omega, ?_⟩
  · exact hown.same fun g hg => gr7.block g (hown.ge g hg).2 (fun e => by have e := Option.some.inj e; have := (hown.ge g hg).1; omega)
  · exact box4.same (by
      have := box4.lt
      rw [gr7.block pb (by omega) (fun e => hpv (Option.some.inj e)), g6.block pb (by omega) (fun e => hneA pb hpb.2 e.symm), b5.block pb (by omega)])
  · have hv6 : V3 vb (.bool true) (.int .i64 0) (.slice A xs.length c) w6 := by
      have hv3 : V3 vb (.bool true) (.int .i64 0) (.slice A xs.length c) w3 := h.vbox.below hb3
      have := hv3.lt
      exact (((g6.block vb (by omega) (fun e => hneA vb hvb.2 e.symm)).trans (b5.block vb (by omega))).trans (gr4.block vb (by omega) (fun e => hpv (Option.some.inj e).symm))).trans hv3
    rw [h7]; exact hv6.put2 _
  · exact h.rbox.same (keepr rb (by have := h.rbox.lt; omega) hpr.symm hrv (hneA rb hrb.2))
  · exact h.gs.keep fun b hb => by
      obtain ⟨s1, s2, s3, s4⟩ := hS b hb
      exact ⟨hb, fun o => cell_same (keepr b (by omega) s1 s3 (hneA b s4)) o⟩
  · refine (((h.bel.trans (hb3.mono h.bel.size)).grown gr4 (by have := h.bel.size; omega) (fun g hg => by have hg := Option.some.inj hg; omega)).trans (b5.mono (by have := h.bel.size; omega))).grown g6 (by have := h.bel.size; omega) (fun g hg => by have := (hA g hg).1; omega) |>.grown gr7 (by have := h.bel.size; omega) (fun g hg => by have hg := Option.some.inj hg; omega)
  · rcases hn with ⟨e0, cj, acc, v, p1, p2, p3, p4, p5, p6, p7, p8, pc⟩ | ⟨e0, hr⟩
    · refine .inl ⟨e0, cj, acc ++ [v], p1, by simp [p2], p3, p4, ?_, ?_, fun i hi hi' => ?_, pc⟩
      · refine p5.keep fun b hb hlt => ⟨⟨⟨hb.1, hb.2.1, hb.2.2.1, fun he => ?_⟩, by omega⟩, fun o => cell_same (keep b hlt hb.1 hb.2.2.1 hb.2.2.2) o⟩
        rcases hA' b he with h1 | h1
        · exact hb.2.2.2 h1
        · omega
      · rcases p6 with p6 | p6
        · exact .inl p6
        · refine .inr fun hp => ?_
          obtain ⟨b, off, he, hb, hc⟩ := p6 hp
          obtain ⟨b', off', he', hb', _⟩ := p5 hp
          obtain ⟨rfl, rfl⟩ : b = b' ∧ off = off' := by rw [he] at he'; simpa using he'
          exact ⟨b, off, he, ⟨hb.1, by omega⟩, fun q hq => (cell_same (keep b hb.2 hb'.1.1 hb'.1.2.2.1 hb'.1.2.2.2) _).trans (hc q hq)⟩
      · subst hz
        by_cases hlt : i < acc.length
        · rw [List.getElem_append_left hlt]
          have hx : i < xs.length := by rw [h.len]; omega
          have := (p7 i hlt hx).keep (S' := Mine w7 base A') (w' := w7) fun b hb => by
            refine ⟨⟨hb.1, by have := hb.2.1; omega, fun he => ?_⟩, fun o => cell_same (keepr b hb.2.1 (by have := hb.1; omega) (by have := hb.1; omega) hb.2.2) o⟩
            rcases hA' b he with h1 | h1
            · exact hb.2.2 h1
            · have := hb.2.1; omega
          simpa [List.getElem_append_left hx] using this
        · obtain rfl : i = acc.length := by rw [List.length_append, List.length_singleton] at hi; omega
          have ea : (acc ++ [v])[acc.length]'hi = v := by simp
          rw [ea]
          have := p8.keep (S' := Mine w7 base A') (w' := w7) fun b hb => by
            have hb : wr.heap.size ≤ b ∧ b < w3.heap.size := hb
            have hne : blockOf A ≠ some b := fun he => by have := (hA b he).2; omega
            refine ⟨⟨by omega, by omega, fun he => ?_⟩, fun o => cell_same (keep b hb.2 (by omega) (by omega) hne) o⟩
            rcases hA' b he with h1 | h1
            · exact hne h1
            · omega
          have hl : acc.length = xs.length := by rw [h.len, p2]
          simpa [hl] using this
    · exact .inr ⟨e0, hr⟩
end

theorem chC_bounded (mend : Bool) : Bounded (chC mend) := by cases mend; exact read_bounded; exact mend_bounded
theorem chC_tails (mend : Bool) : Tails (chC mend) := by cases mend; exact read_tails; exact mend_tails
theorem longs_take : ∀ (l : List Gn) (k : Nat) (h : k < l.length), longs (l.take k) + longG (l[k]'h) ≤ longs l
  | [], k, h => by simp at h
  | t :: r, 0, h => by simp [longs]
  | t :: r, k + 1, h => by
    have := longs_take r k (by simpa using h)
    simp only [List.take_succ_cons, longs, List.getElem_cons_succ]
    omega
theorem at_new {w : World} {S : Nat → Prop} {A : Option Addr} {l : List Int} (h : AtS w S A l) {W : World} (hb : Below w.heap.size w W) : At W W.heap.size A l := (h.at_.below hb).more hb.size

set_option maxHeartbeats 1000000 in
/-- the call of a part's play -/
theorem PM.call {mend : Bool} {ps : List Gn} {r : Except Int (List Int × Tr × List Int)} {l t1 : List Int} {k1 n : Nat} {S : Nat → Prop} {SA : Option Addr} {pb rb vb base : Nat} {w : World} {TA1 : Option Addr}
    {j : Nat} {xs : List (Value × Value × Value)} {A : Option Addr} {c : Nat} {lb : Bool} {nm : Int} {VA : Option Addr} {vl vc : Nat} {TA : Option Addr} {tl tc : Nat} {a e : Int} {wr : World}
    (IH : PlayedOK n) (h : PM (chC mend) ps r l t1 k1 n S SA pb rb vb base w TA1 j xs A c lb nm VA vl vc TA tl tc a e wr) (hj : j < ps.length) (hr : ∀ x ∈ ps, Right x) (hz : ∀ x ∈ ps, x.size ≤ 4294967296)
    (hS : ∀ b, S b → b ≠ pb ∧ b ≠ rb ∧ b ≠ vb ∧ b < base) (hpb : w.heap.size ≤ pb ∧ pb < base) (hrb : w.heap.size ≤ rb ∧ rb < base) (hvb : w.heap.size ≤ vb ∧ vb < base)
    {L : Option Addr} {lc : Nat} (hL : At wr wr.heap.size L l) (hll : l.length ≤ 4294967296) (hlong : t1.length + longs ps ≤ 4294967296 ∧ k1 + longs ps ≤ 4294967296)
    (hbad : ∀ er, playAll (chC mend) ps (l.drop k1) = .error er → r = .error er) {W : World} (hW : Below wr.heap.size wr W) {D : Option Addr} {d : Nat} (hg : GAt wr S n (gv (ps[j]'hj) D d) (ps[j]'hj)) :
    Calls Tryz.prog 85 #[gv (ps[j]'hj) D d, pv lb nm VA vl vc TA tl tc a e, .slice L l.length lc, .bool mend] W fun en w3 => ∃ (lb' : Bool) (nm' : Int) (VA' : Option Addr) (vl' vc' : Nat) (TA' : Option Addr) (tl' tc' : Nat) (a' e' : Int),
      en = .returned (pv lb' nm' VA' vl' vc' TA' tl' tc' a' e') ∧ Below wr.heap.size wr w3 ∧ PNext (chC mend) ps r l t1 k1 n pb rb vb w TA1 j A base xs wr lb' nm' VA' vl' vc' TA' tl' tc' a' e' w3 := by
  have hsz := h.size
  have hg2 : GAt W (GBel W.heap.size) n (gv (ps[j]'hj) D d) (ps[j]'hj) := hg.keep fun b hb => by
    have := (hS b hb).2.2.2
    have hz := hW.size
    exact ⟨(by show b < W.heap.size; omega), fun o => hW.cell (p := ⟨b, o, none⟩) (by show b < wr.heap.size; omega)⟩
  rcases h.mode with ⟨rfl, cj, acc, p1, p2, rfl, rfl, p5, p6, p7, pc⟩ | ⟨he, hre⟩
  · have hcl := all_long (chC_bounded mend) (ps.take j) (fun x hx => hr x (List.mem_of_mem_take hx)) _ _ _ _ p1
    have hlt := longs_take ps j hj
    have C := IH (ps[j]'hj) (gv (ps[j]'hj) D d) lb nm VA vl vc (t1 ++ cj) TA tc (k1 + cj.length) l L lc mend W.heap.size W hg2 (hr _ (List.getElem_mem hj)) (hz _ (List.getElem_mem hj)) (at_new p5 hW) ((hL.below hW).more hW.size) (Nat.le_refl _) (by rw [List.length_append]; omega) hll (by omega) pc
    refine C.mono ?_
    rintro en w3 ⟨hb3, hm⟩
    have hb : Below wr.heap.size wr w3 := hW.trans (hb3.mono hW.size)
    cases hp : play (chC mend) (ps[j]'hj) (l.drop (k1 + cj.length)) with
    | error er =>
      rw [hp] at hm
      obtain ⟨hne, lb', nm', VA', vl', vc', TA', tl', tc', a', rfl⟩ := hm
      exact ⟨lb', nm', VA', vl', vc', TA', tl', tc', a', er, rfl, hb, .inr ⟨hne, hbad er (all_stop hj p1 hp)⟩⟩
    | ok q =>
      obtain ⟨c2, v2, s2⟩ := q
      rw [hp] at hm
      obtain ⟨VA', TA', vc', tc', rfl, htv, htp, hcp⟩ := hm
      have hs2 := play_left (chC_tails mend) _ _ _ _ _ hp
      rw [List.drop_drop] at hs2
      have hrun := all_step hj p1 hp
      rw [hs2] at hrun
      have hnew : AtS w3 (fun b => W.heap.size ≤ b) TA' (t1 ++ cj ++ c2) → AtS w3 (fun b => b ≠ pb ∧ b ≠ rb ∧ b ≠ vb ∧ blockOf A ≠ some b) TA' (t1 ++ (cj ++ c2)) := fun hq => by
        rw [← List.append_assoc]
        refine hq.keep fun b hb1 hb2 => ⟨⟨⟨?_, ?_, ?_, fun he => ?_⟩, hb2⟩, fun _ => rfl⟩
        · have := hW.size; omega
        · have := hW.size; omega
        · have := hW.size; omega
        · have := (h.row.ge b he).2; have := hW.size; omega
      have hnew2 : AtS w3 (fun b => W.heap.size ≤ b) TA' (t1 ++ cj ++ c2) → AtS w3 (fun b => w.heap.size ≤ b) TA' (t1 ++ (cj ++ c2)) := fun hq => by
        rw [← List.append_assoc]
        exact hq.keep fun b hb1 hb2 => ⟨⟨by have := hW.size; have := h.bel.size; omega, hb2⟩, fun _ => rfl⟩
      refine ⟨v2.list, v2.num, VA', v2.items.length, vc', TA', _, tc', _, 0, rfl, hb, .inl ⟨rfl, cj ++ c2, acc, v2, ?_, p2, by rw [List.append_assoc], by rw [List.length_append, Nat.add_assoc], ?_, ?_, p7, ?_, hcp⟩⟩
      · rw [hrun, List.length_append, Nat.add_assoc]
      · rcases htp with ⟨rfl, rfl⟩ | htp
        · rw [List.append_nil]
          exact p5.keep fun b h1 h2 => ⟨⟨h1, Nat.lt_of_lt_of_le h2 hb.size⟩, fun o => hb.cell (p := ⟨b, o, none⟩) h2⟩
        · exact hnew htp
      · rcases htp with ⟨rfl, rfl⟩ | htp
        · rw [List.append_nil]
          rcases p6 with p6 | p6
          · exact .inl p6
          · exact .inr (p6.keep fun b h1 h2 => ⟨⟨h1, Nat.lt_of_lt_of_le h2 hb.size⟩, fun o => hb.cell (p := ⟨b, o, none⟩) h2⟩)
        · exact .inr (hnew2 htp)
      · exact htv.keep fun b hq => ⟨⟨Nat.le_trans hW.size hq.1, hq.2⟩, fun _ => rfl⟩
  · refine (played_bad lb nm VA vl vc TA tl tc a e he L l.length lc mend W hg2).mono ?_
    rintro en w3 ⟨rfl, hb3⟩
    exact ⟨lb, nm, VA, vl, vc, TA, tl, tc, a, e, rfl, hW.trans (hb3.mono hW.size), .inr ⟨he, hre⟩⟩
theorem at_puts {w3 W4 W5 W9 : World} {pb rb lo lw : Nat} {TA : Option Addr} {z : List Int} (h : AtS w3 (fun b => lo ≤ b) TA z) (g4 : w3.grownBy W4 (some pb)) (g5 : W4.grownBy W5 (some pb)) (g9 : W5.grownBy W9 (some rb)) (hp : pb < lo) (hr : rb < lo) (hw : lw ≤ lo) : AtS W9 (fun b => lw ≤ b) TA z := by
  have z4 := g4.size
  have z5 := g5.size
  have z9 := g9.size
  refine h.keep fun b hb hlt => ?_
  have hb : lo ≤ b := hb
  refine ⟨⟨(by show lw ≤ b; omega), by omega⟩, fun o => cell_same (((g9.block b (by omega) (fun e => by have e := Option.some.inj e; omega)).trans (g5.block b (by omega) (fun e => by have e := Option.some.inj e; omega))).trans (g4.block b hlt (fun e => by have e := Option.some.inj e; omega))) o⟩
theorem at_put2 {w5 W9 : World} {rb lo lw : Nat} {TA : Option Addr} {z : List Int} (h : AtS w5 (fun b => lo ≤ b) TA z) (g : w5.grownBy W9 (some rb)) (hr : rb < lo) (hw : lw ≤ lo) : AtS W9 (fun b => lw ≤ b) TA z := by
  have z4 := g.size
  refine h.keep fun b hb hlt => ?_
  have hb : lo ≤ b := hb
  exact ⟨⟨(by show lw ≤ b; omega), by omega⟩, fun o => cell_same (g.block b hlt (fun e => by have e := Option.some.inj e; omega)) o⟩
theorem at_put1 {w3 W4 : World} {pb lo : Nat} {TA : Option Addr} {z : List Int} (h : AtS w3 (fun b => lo ≤ b) TA z) (g4 : w3.grownBy W4 (some pb)) (hp : pb < lo) : AtS W4 (fun b => lo ≤ b) TA z := by
  have z4 := g4.size
  refine h.keep fun b hb hlt => ⟨⟨hb, by omega⟩, fun o => cell_same (g4.block b hlt (fun e => by have e := Option.some.inj e; have hb : lo ≤ b := hb; omega)) o⟩
theorem longs_mem : ∀ (l : List Gn) (g : Gn), g ∈ l → longG g ≤ longs l
  | [], g, h => by simp at h
  | x :: r, g, h => by
    rcases List.mem_cons.1 h with rfl | h
    · rw [longs]; omega
    · have := longs_mem r g h; rw [longs]; omega
theorem at_later {w W : World} {S S' : Nat → Prop} {TA : Option Addr} {z : List Int} (h : AtS w S TA z) (hb : Below w.heap.size w W) (hs : ∀ b, S b → S' b) : AtS W S' TA z :=
  h.keep fun b h1 h2 => ⟨⟨hs b h1, Nat.lt_of_lt_of_le h2 hb.size⟩, fun o => hb.cell (p := ⟨b, o, none⟩) h2⟩
theorem tree_put {w5 W9 : World} {rb lo hi n lw : Nat} {v : Value} {x : Tr} (h : TAt w5 (fun b => lo ≤ b ∧ b < hi) n v x) (g : w5.grownBy W9 (some rb)) (hr : rb < lo) (hh : hi ≤ w5.heap.size) (hw : lw ≤ lo) : TAt W9 (fun b => lw ≤ b ∧ b < W9.heap.size) n v x :=
  h.keep fun b hb => by
    have hb : lo ≤ b ∧ b < hi := hb
    have := g.size
    exact ⟨⟨by omega, by omega⟩, fun o => cell_same (g.block b (by omega) (fun e => by have e := Option.some.inj e; omega)) o⟩

/-- it begins -/
theorem PM.start {ch : List Int → Int → Except Int (Int × List Int)} {ps : List Gn} {r : Except Int (List Int × Tr × List Int)} {l t1 : List Int} {k1 n : Nat} {S : Nat → Prop} {SA : Option Addr} {pb rb vb base : Nat} {w : World} {TA1 : Option Addr} {lb : Bool} {nm : Int} {VA : Option Addr} {vl vc : Nat} {TA : Option Addr} {tl tc : Nat} {a e : Int} {wr : World}
    (box : P6 pb (.bool lb) (.int .i64 nm) (.slice VA vl vc) (.slice TA tl tc) (.int .i64 a) (.int .i64 e) wr) (vbox : V3 vb (.bool true) (.int .i64 0) (.slice none 0 0) wr) (rbox : P6 rb (.bool false) (.int .i64 0) (.slice none 0 0) (.slice none 0 0) (.int .i64 0) (.int .i64 0) wr)
    (gs : GsS wr S n SA ps) (bel : Below w.heap.size w wr) (size : base ≤ wr.heap.size)
    (mode : (e = 0 ∧ tl = t1.length ∧ a = ((k1 : Nat) : Int) ∧ TA = TA1 ∧ AtS wr (fun b => b ≠ pb ∧ b ≠ rb ∧ b ≠ vb) TA t1 ∧ tl ≤ tc) ∨ (e ≠ 0 ∧ r = .error e)) :
    PM ch ps r l t1 k1 n S SA pb rb vb base w TA1 0 [] none 0 lb nm VA vl vc TA tl tc a e wr := by
  refine ⟨Nat.zero_le _, rfl, OwnV.none_, box, vbox, rbox, gs, bel, size, ?_⟩
  rcases mode with ⟨e0, h1, h2, h3, h4, h5⟩ | h
  · refine .inl ⟨e0, [], [], rfl, rfl, by simpa using h1, by simpa using h2, ?_, .inl ⟨rfl, h3⟩, fun i hi => by simp at hi, h5⟩
    rw [List.append_nil]
    exact h4.keep fun b hb hlt => ⟨⟨⟨hb.1, hb.2.1, hb.2.2, fun he => by cases he⟩, hlt⟩, fun _ => rfl⟩
  · exact .inr h
theorem PM.row_at {ch : List Int → Int → Except Int (Int × List Int)} {ps : List Gn} {r : Except Int (List Int × Tr × List Int)} {l t1 : List Int} {k1 n : Nat} {S : Nat → Prop} {SA : Option Addr} {pb rb vb base : Nat} {w : World} {TA1 : Option Addr}
    {j : Nat} {xs : List (Value × Value × Value)} {A : Option Addr} {c : Nat} {lb : Bool} {nm : Int} {VA : Option Addr} {vl vc : Nat} {TA : Option Addr} {tl tc : Nat} {a e : Int} {wr : World}
    (h : PM ch ps r l t1 k1 n S SA pb rb vb base w TA1 j xs A c lb nm VA vl vc TA tl tc a e wr) (hpb : pb < base) {w3 w4 w5 : World} (hb3 : Below wr.heap.size wr w3) (g4 : w3.grownBy w4 (some pb)) (b5 : Below w4.heap.size w4 w5) : OwnV w5 base A c xs :=
  h.row.same fun g hg => by
    have h1 := h.row.ge g hg
    have h2 := hb3.size
    have h3 := g4.size
    rw [b5.block g (by omega), g4.block g (by omega) (fun e => by have e := Option.some.inj e; omega), hb3.block g h1.2]
/-- it ends -/
theorem PM.done {ch : List Int → Int → Except Int (Int × List Int)} {ps : List Gn} {r : Except Int (List Int × Tr × List Int)} {l t1 : List Int} {k1 n : Nat} {S : Nat → Prop} {SA : Option Addr} {pb rb vb base : Nat} {w : World} {TA1 : Option Addr}
    {j : Nat} {xs : List (Value × Value × Value)} {A : Option Addr} {c : Nat} {lb : Bool} {nm : Int} {VA : Option Addr} {vl vc : Nat} {TA' : Option Addr} {tl tc : Nat} {a e : Int} {wr : World}
    (h : PM ch ps r l t1 k1 n S SA pb rb vb base w TA1 j xs A c lb nm VA vl vc TA' tl tc a e wr) (hj : j = ps.length) (hpb : w.heap.size ≤ pb ∧ pb < base) (hrb : w.heap.size ≤ rb ∧ rb < base)
    {t c0 : List Int} {TA : Option Addr} {k : Nat} (ht : t1 = t ++ c0) (hk : k1 = k + c0.length) (hf : (c0 = [] ∧ TA1 = TA) ∨ ∀ b, blockOf TA1 = some b → w.heap.size ≤ b)
    (hgood : ∀ cj acc s, playAll ch ps (l.drop k1) = .ok (cj, acc, s) → r = .ok (c0 ++ cj, .node true 0 acc, s))
    {W5 W9 : World} (g5 : wr.grownBy W5 (some pb)) (g9 : W5.grownBy W9 (some rb)) :
    PlP (n + 1) w t TA k r (.returned (.agg #[.bool true, .int .i64 0, .slice A xs.length c, .slice TA' tl tc, .int .i64 a, .int .i64 e])) W9 := by
  have z5 := g5.size
  have z9 := g9.size
  have hbel : Below w.heap.size w W9 := (h.bel.grown g5 h.bel.size (fun g hg => by have hg := Option.some.inj hg; omega)).grown g9 (by have := h.bel.size; omega) (fun g hg => by have hg := Option.some.inj hg; omega)
  have keep : ∀ q, q < wr.heap.size → q ≠ pb → q ≠ rb → W9.heap[q]? = wr.heap[q]? := fun q h1 h2 h3 => by
    rw [g9.block q (by omega) (fun e => h3 (Option.some.inj e)), g5.block q h1 (fun e => h2 (Option.some.inj e))]
  refine ⟨hbel, ?_⟩
  rcases h.mode with ⟨e0, cj, acc, p1, p2, p3, p4, p5, p6, p7, pc⟩ | ⟨he, hr⟩
  · rw [List.take_of_length_le (by omega)] at p1
    rw [hgood _ _ _ p1]
    subst ht hk e0 p3 p4
    have hlen : xs.length = acc.length := by rw [h.len, p2]
    have ho : OwnT wr base A c acc n := ⟨xs, hlen, by rw [← hlen]; exact h.row, p7⟩
    have hta := ho.at_ (l := true) (n := 0) (by decide)
    refine ⟨A, TA', c, tc, by simp [Tr.list, Tr.num, Tr.items, hlen, Nat.add_assoc, List.append_assoc], ?_, ?_, by rw [List.append_assoc] at pc; exact pc⟩
    · refine hta.keep fun b hb => ?_
      have hb : base ≤ b ∧ b < wr.heap.size := hb
      exact ⟨⟨by omega, by omega⟩, fun o => cell_same (keep b hb.2 (by omega) (by omega)) o⟩
    · have both : ((∀ b off, TA' = some ⟨b, off, none⟩ → w.heap.size ≤ b)) → AtS W9 (fun b => w.heap.size ≤ b) TA' (t ++ (c0 ++ cj)) := fun hb => by
        rw [← List.append_assoc]
        intro hp
        obtain ⟨b, off, he, h1, h2⟩ := p5 hp
        exact ⟨b, off, he, ⟨hb b off he, by omega⟩, fun q hq => (cell_same (keep b h1.2 h1.1.1 h1.1.2.1) _).trans (h2 q hq)⟩
      rcases p6 with ⟨rfl, rfl⟩ | p6
      · rcases hf with ⟨rfl, rfl⟩ | hf
        · exact .inl ⟨rfl, rfl⟩
        · exact .inr (both fun b off he => hf b (by rw [he]; rfl))
      · refine .inr ?_
        rw [← List.append_assoc]
        intro hp
        obtain ⟨b, off, he, h1, h2⟩ := p6 hp
        obtain ⟨b', off', he', h1', _⟩ := p5 hp
        obtain ⟨rfl, rfl⟩ : b = b' ∧ off = off' := by rw [he] at he'; simpa using he'
        exact ⟨b, off, he, ⟨h1.1, by omega⟩, fun q hq => (cell_same (keep b h1.2 h1'.1.1 h1'.1.2.1) _).trans (h2 q hq)⟩
  · rw [hr]
    exact ⟨he, true, 0, A, xs.length, c, TA', tl, tc, a, rfl⟩
end Go.Proofs.YtabkihellcflhaaGreatDoor.Gens
