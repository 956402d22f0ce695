/- The program's needed: rows that have no pair of their own are left out. Conditions: the sizes. -/
import Derived.Test.YtbajkbkfinineaaDoorPairRow
import Derived.Test.YtbajkbkfinineaaDoorGridD
import Derived.Maps.Range
namespace Go.Proofs.YtbajkbkfinineaaDoor.Pair
open Go.RowKit Ints Lists Vals Gens
set_option linter.unusedVariables false

theorem OwnRowsD.keepb {w w' : World} {base c : Nat} {A : Option Addr} {zs : List (List Int)} (h : OwnRowsD w base A c zs) (hk : ∀ b, base ≤ b → b < w.heap.size → w'.heap[b]? = w.heap[b]?) : OwnRowsD w' base A c zs := by
  obtain ⟨xs, h1, h2, h3, h4⟩ := h
  refine ⟨xs, h1, ⟨h2.1, ?_⟩, fun j hj hj' => ?_, h4⟩
  · rcases h2.2 with h0 | ⟨g, cap, cur, he, hg, hh, h5⟩
    · exact .inl h0
    · exact .inr ⟨g, cap, cur, he, hg, (hk g hg (Array.getElem?_eq_some_iff.1 hh).1).trans hh, h5⟩
  · obtain ⟨D, d, e, ho, hn⟩ := h3 j hj hj'
    refine ⟨D, d, e, ⟨ho.1, ?_⟩, hn⟩
    rcases ho.2 with h0 | ⟨g, cap, cur, he, hg, hh, h5⟩
    · exact .inl h0
    · exact .inr ⟨g, cap, cur, he, hg, (hk g hg (Array.getElem?_eq_some_iff.1 hh).1).trans hh, h5⟩
theorem own_keepb {w w' : World} {base c : Nat} {A : Option Addr} {z : List Int} (h : Own w base A c z) (hk : ∀ b, base ≤ b → b < w.heap.size → w'.heap[b]? = w.heap[b]?) : Own w' base A c z := by
  refine ⟨h.1, ?_⟩
  rcases h.2 with h0 | ⟨g, cap, cur, he, hg, hh, h5⟩
  · exact .inl h0
  · exact .inr ⟨g, cap, cur, he, hg, (hk g hg (Array.getElem?_eq_some_iff.1 hh).1).trans hh, h5⟩

/-! what the closures leave -/
structure OwnI (B p s n : Nat) (f : Quad → Int) (w0 : World) (z : List Quad) (w : World) : Prop where
  box : Bx p 53 (.map (some B)) w
  sup : Bx s 4 (.bool (z.all fun q => decide (¬ f q = 1))) w
  map : MAt B n f w
  grown : w0.grownBy w (some s)
theorem all_step (f : Quad → Int) (z : List Quad) (q : Quad) : ((z ++ [q]).all fun q => decide (¬ f q = 1)) = ((z.all fun q => decide (¬ f q = 1)) && decide (¬ f q = 1)) := by
  rw [List.all_append]; simp
theorem own_do {B p s n N : Nat} {f : Quad → Int} {R : Option Addr} {r levels : List Int} {w0 : World} (h0 : levE levels = 0) (hr : Full levels r) (hN : N ≤ s) (hat : At w0 N R r) (hp : p < s) (hB : B < s) :
    DoQ 33 #[.pointer (some ⟨p, 0, none⟩), .pointer (some ⟨s, 0, none⟩)] R r (OwnI B p s n f w0) := by
  refine ⟨fun args w => rfl, fun hl => ?_, fun z q w hI hpre => ?_⟩
  · obtain ⟨b, off, e, hb, hc⟩ := hat hl
    exact ⟨b, off, e, fun z w hI i hi => hI.grown.cell (hc i hi) (by simp; omega)⟩
  · refine (need_own w hI.box hI.sup hI.map (prs_small h0 hr (pre_mem hpre))).mono ?_
    rintro e w' ⟨rfl, h1, h2⟩
    exact ⟨rfl, hI.box.kept h2 (by simp; omega), by rw [all_step]; exact h1, hI.map.kept h2 (by simp; omega), hI.grown.trans h2⟩
structure MapI (g : (Quad → Int) → List Quad → Quad → Int) (B p n : Nat) (f : Quad → Int) (w0 : World) (z : List Quad) (w : World) : Prop where
  box : Bx p 53 (.map (some B)) w
  map : MAt B (n + z.length) (g f z) w
  grown : w0.grownBy w (some B)
theorem upd_sub (f : Quad → Int) (z : List Quad) (q : Quad) : upd (subF f z) q (subF f z q - 1) = subF f (z ++ [q]) := by rw [subF_step]; rfl
theorem upd_add (f : Quad → Int) (z : List Quad) (q : Quad) : upd (addF f z) q (addF f z q + 1) = addF f (z ++ [q]) := by rw [addF_step]; rfl
theorem count_small {r levels : List Int} (h0 : levE levels = 0) (hr : Full levels r) {z : List Quad} {q : Quad} (hpre : z ++ [q] <+: prs r) : z.length < 144 ∧ z.count q ≤ 144 := by
  have hl := prs_len (r := r) (by rw [hr.1]; exact (lev_ok h0).1)
  have hz := pre_len hpre
  have hc := List.count_le_length (a := q) (l := z)
  exact ⟨by omega, by omega⟩
theorem down_do {B p n N : Nat} {f : Quad → Int} {R : Option Addr} {r levels : List Int} {w0 : World} (h0 : levE levels = 0) (hr : Full levels r) (hat : At w0 N R r) (hRB : ∀ g, rowOf R = some g → g ≠ B) (hpB : p ≠ B) (hn : n ≤ 900000000000) (hf : ∀ q, -5000 ≤ f q ∧ f q ≤ 5000) :
    DoQ 34 #[.pointer (some ⟨p, 0, none⟩)] R r (MapI subF B p n f w0) := by
  refine ⟨fun args w => rfl, fun hl => ?_, fun z q w hI hpre => ?_⟩
  · obtain ⟨b, off, e, hb, hc⟩ := hat hl
    have hne := hRB b (by rw [e]; rfl)
    exact ⟨b, off, e, fun z w hI i hi => hI.grown.cell (hc i hi) (by simpa using hne)⟩
  · have hs := count_small h0 hr hpre
    have hq := hf q
    refine (need_down w hI.box hI.map (count_hid (by omega)) (prs_small h0 hr (pre_mem hpre)) (by unfold subF; omega)).mono ?_
    rintro e w' ⟨rfl, h1, h2⟩
    refine ⟨rfl, hI.box.kept h2 (by simpa using hpB), ?_, hI.grown.trans h2⟩
    rw [upd_sub] at h1
    rw [List.length_append, List.length_singleton, ← Nat.add_assoc]
    exact h1
theorem up_do {B p n N : Nat} {f : Quad → Int} {R : Option Addr} {r levels : List Int} {w0 : World} (h0 : levE levels = 0) (hr : Full levels r) (hat : At w0 N R r) (hRB : ∀ g, rowOf R = some g → g ≠ B) (hpB : p ≠ B) (hn : n ≤ 900000000000) (hf : ∀ q, -5000 ≤ f q ∧ f q ≤ 5000) :
    DoQ 27 #[.pointer (some ⟨p, 0, none⟩)] R r (MapI addF B p n f w0) := by
  refine ⟨fun args w => rfl, fun hl => ?_, fun z q w hI hpre => ?_⟩
  · obtain ⟨b, off, e, hb, hc⟩ := hat hl
    have hne := hRB b (by rw [e]; rfl)
    exact ⟨b, off, e, fun z w hI i hi => hI.grown.cell (hc i hi) (by simpa using hne)⟩
  · have hs := count_small h0 hr hpre
    have hq := hf q
    refine (rows_up w hI.box hI.map (count_hid (by omega)) (prs_small h0 hr (pre_mem hpre)) (by unfold addF; omega)).mono ?_
    rintro e w' ⟨rfl, h1, h2⟩
    refine ⟨rfl, hI.box.kept h2 (by simpa using hpB), ?_, hI.grown.trans h2⟩
    rw [upd_add] at h1
    rw [List.length_append, List.length_singleton, ← Nat.add_assoc]
    exact h1

/-! the rows that are kept: by their places -/
def OwnV (w : World) (base : Nat) (A : Option Addr) (c : Nat) (xs : List Value) : Prop := w.ownsRow base 22 1 (.slice A xs.length c) xs.length xs
theorem ownV_none {w : World} {base : Nat} : OwnV w base none 0 [] := ⟨rfl, .inl ⟨rfl, rfl⟩⟩
theorem OwnV.ge {w : World} {base c : Nat} {A : Option Addr} {xs : List Value} (h : OwnV w base A c xs) : ∀ g, rowOf A = some g → base ≤ g ∧ g < w.heap.size := by
  intro g hg
  rcases h.2 with ⟨he, _⟩ | ⟨g', cap, cur, he, hb, hh, _⟩
  · injection he with he; subst he; cases hg
  · injection he with he; subst he
    have : g' = g := by simpa [rowOf] using hg
    subst this
    exact ⟨hb, (Array.getElem?_eq_some_iff.1 hh).1⟩
theorem OwnV.grown {w w' : World} {base c : Nat} {A : Option Addr} {xs : List Value} {row : Option Nat} (h : OwnV w base A c xs) (hg : w.grownBy w' row) (hne : ∀ g, rowOf A = some g → row ≠ some g) : OwnV w' base A c xs := by
  refine ⟨h.1, ?_⟩
  rcases h.2 with h0 | ⟨g, cap, cur, he, hb, hh, h1⟩
  · exact .inl h0
  · refine .inr ⟨g, cap, cur, he, hb, ?_, h1⟩
    injection he with he; subst he
    rw [hg.block g (Array.getElem?_eq_some_iff.1 hh).1 (fun e => hne g rfl e.symm)]
    exact hh
set_option maxRecDepth 100000 in
theorem wpList_append_val {ops : Array Oper} {rest : List Oper} {o : Oper} {a : Act} {w : World} {Q : Exit → Act → World → Prop} (hgd : o.guard = none) (s x : Operand)
    (ho : o.op = .call { callee := .builtin .append, args := #[s, x], argTypes := #[23, 23] })
    (base c : Nat) (A : Option Addr) (xs : List Value) (hown : OwnV w base A c xs) (b : Nat) (v : Value) (T : TypeId) (hv : v.oneCell' = true)
    (hc : w.heap[b]? = some (.cells #[v] T (0, 0))) (hs : a.eval s = .slice A xs.length c) (hx : a.eval x = .slice (some ⟨b, 0, none⟩) 1 1)
    (h63 : xs.length + 1 ≤ 4398046511104) (hbase : base ≤ w.heap.size)
    (h : ∀ A' c' w' (zl : List Value), Hid (zl = xs ++ [v]) → OwnV w' base A' c' zl → w.grownBy w' (rowOf A) → wpList Tryd.prog ops Q rest (a.put o.dst (.slice A' zl.length c')) w') : wpList Tryd.prog ops Q (o :: rest) a w := by
  obtain ⟨i0, hi, hz, hsz, hby⟩ := info_parts rows_info
  obtain ⟨v', w', hrun, h2, h3, _, h5⟩ := run_append_own_at (P := Tryd.prog) w base 23 o.type 22 i0 (.slice none 0 0) 1 24 Tryd.underlying23 hi hz hsz hby rfl (by decide) (.slice A xs.length c) xs.length xs hown
    ⟨b, 0, none⟩ 1 1 [v] (by simp) (by
      intro j u hu
      cases j with
      | zero =>
        have hu : v = u := by simpa using hu
        subst hu
        rw [Go.WideShapes.add_plain, Lib.cell_of_heap hc]; rfl
      | succ j => simp at hu) (by intro u hu; rw [List.mem_singleton.1 hu]; exact hv) (by simp only [maxLen]; omega) (by omega) hbase
  have hf2 : ∃ A' c', v' = .slice A' (xs.length + 1) c' := by
    rcases h2.2 with ⟨he, hn⟩ | ⟨g, cap, cur, he, _⟩
    · omega
    · exact ⟨_, _, he⟩
  obtain ⟨A', c', rfl⟩ := hf2
  have e : (xs ++ [v]).length = xs.length + 1 := by simp
  rw [rowOf_own] at h3
  refine wpList_plain hgd fun K hK => ?_
  unfold Oper.wp execOp
  simp only [ho, resolve, invoke, builtin, Sem.run_bind, Sem.run_pure, Result.andThen_ok, List.map_toArray, List.map_cons, List.map_nil, hs, hx, hrun]
  have := h A' c' w' (xs ++ [v]) (Lib.hid rfl) (by unfold OwnV; rw [e]; exact h2) h3
  rw [e] at this
  exact hK _ _ this
/-- which of the rows are kept -/
def KeptL (rows : List (List Int)) (Ds : Nat → Option Addr) (ds : Nat → Nat) (i : Nat) (zs : List (List Int)) (xs : List Value) : Prop :=
  ∃ js : List Nat, js.Pairwise (· < ·) ∧ (∀ j ∈ js, j < i) ∧ zs = js.map (fun j => rows.getD j []) ∧ xs = js.map fun j => .slice (Ds j) (rows.getD j []).length (ds j)
theorem KeptL.zero {rows : List (List Int)} {Ds : Nat → Option Addr} {ds : Nat → Nat} : KeptL rows Ds ds 0 [] [] := ⟨[], by simp, by simp, rfl, rfl⟩
theorem KeptL.skip {rows : List (List Int)} {Ds : Nat → Option Addr} {ds : Nat → Nat} {i : Nat} {zs : List (List Int)} {xs : List Value} (h : KeptL rows Ds ds i zs xs) : KeptL rows Ds ds (i + 1) zs xs := by
  obtain ⟨js, h1, h2, h3, h4⟩ := h
  exact ⟨js, h1, fun j hj => by have := h2 j hj; omega, h3, h4⟩
theorem KeptL.put {rows : List (List Int)} {Ds : Nat → Option Addr} {ds : Nat → Nat} {i : Nat} {zs : List (List Int)} {xs : List Value} (h : KeptL rows Ds ds i zs xs) (hi : i < rows.length) : KeptL rows Ds ds (i + 1) (zs ++ [rows[i]]) (xs ++ [.slice (Ds i) rows[i].length (ds i)]) := by
  obtain ⟨js, h1, h2, h3, h4⟩ := h
  have e : rows.getD i [] = rows[i] := by simp [List.getD_eq_getElem?_getD, hi]
  refine ⟨js ++ [i], ?_, fun j hj => ?_, by rw [h3, List.map_append, List.map_singleton, e], by rw [h4, List.map_append, List.map_singleton, e]⟩
  · rw [List.pairwise_append]
    exact ⟨h1, by simp, fun a ha b hb => by rw [List.mem_singleton] at hb; subst hb; exact h2 a ha⟩
  · rcases List.mem_append.1 hj with hj | hj
    · have := h2 j hj; omega
    · rw [List.mem_singleton] at hj; omega
theorem KeptL.len {rows : List (List Int)} {Ds : Nat → Option Addr} {ds : Nat → Nat} {i : Nat} {zs : List (List Int)} {xs : List Value} (h : KeptL rows Ds ds i zs xs) : xs.length = zs.length := by
  obtain ⟨js, h1, h2, h3, h4⟩ := h
  rw [h3, h4]; simp
theorem KeptL.own {rows : List (List Int)} {Ds : Nat → Option Addr} {ds : Nat → Nat} {zs : List (List Int)} {xs : List Value} {w : World} {base N c : Nat} {A : Option Addr} (h : KeptL rows Ds ds rows.length zs xs) (hv : OwnV w N A c xs) (hN : base ≤ N)
    (ho : ∀ k (hk : k < rows.length), Own w base (Ds k) (ds k) rows[k]) (hlt : ∀ k, k < rows.length → ∀ g, rowOf (Ds k) = some g → g < N) (hd : ∀ i j, i < rows.length → j < rows.length → i ≠ j → ∀ g, rowOf (Ds i) = some g → rowOf (Ds j) ≠ some g) : OwnRowsD w base A c zs := by
  have hl := h.len
  have hge := hv.ge
  obtain ⟨js, h1, h2, h3, h4⟩ := h
  refine ⟨xs, hl, ?_, fun j hj hj' => ?_, fun i j hi hj hij g hg => ?_⟩
  · unfold OwnV at hv
    rw [hl] at hv
    refine ⟨hv.1, ?_⟩
    rcases hv.2 with h0 | ⟨g, cap, cur, he, hg, h5⟩
    · exact .inl h0
    · exact .inr ⟨g, cap, cur, he, by omega, h5⟩
  · subst h3
    subst h4
    rw [List.length_map] at hj hj'
    have hk := h2 js[j] (List.getElem_mem hj)
    have e : rows.getD js[j] [] = rows[js[j]] := by simp [List.getD_eq_getElem?_getD, hk]
    simp only [List.getElem_map, e]
    refine ⟨_, _, rfl, ho _ hk, fun g hg ha => ?_⟩
    have := hlt _ hk g hg
    have := (hge g ha).1
    omega
  · subst h4
    rw [List.length_map] at hi hj
    simp only [List.getElem_map] at hg ⊢
    rw [rowOf_own] at hg ⊢
    refine hd js[i] js[j] (h2 _ (List.getElem_mem hi)) (h2 _ (List.getElem_mem hj)) (fun e => ?_) g hg
    have hp := List.pairwise_iff_getElem.1 h1
    rcases Nat.lt_or_gt_of_ne hij with hlt2 | hlt2
    · have := hp i j hi hj hlt2; omega
    · have := hp j i hj hi hlt2; omega

set_option maxHeartbeats 8000000 in
set_option maxRecDepth 100000 in
theorem needed_prog {B n base c : Nat} {A : Option Addr} {rows : List (List Int)} {f : Quad → Int} {levels : List Int} (w : World) (hrows : OwnRowsD w base A c rows) (hB : B < base) (hbw : base ≤ w.heap.size) (hm : MAt B n f w) (hn : n ≤ 800000000000) (hfull : ∀ r ∈ rows, Full levels r) (h0 : levE levels = 0) (hlen : rows.length ≤ 4000) (hf : ∀ i, i ≤ rows.length → ∀ q, -5000 ≤ (needN rows f i).2 q ∧ (needN rows f i).2 q ≤ 5000) :
    Calls Tryd.prog 28 #[.slice A rows.length c, .map (some B)] w fun e w' => ∃ (A' : Option Addr) (c' : Nat) (z : List (List Int)), e = .returned (.slice A' z.length c') ∧ Hid (z = (needN rows f rows.length).1) ∧ OwnRowsD w' base A' c' z ∧ w.grownBy w' (some B) := by
  obtain ⟨Ds, ds, hr, hdist⟩ := hrows.open_
  have HR := Lib.hid hr
  have HD := Lib.hid hdist
  have HF := Lib.hid hfull
  have HB := Lib.hid hf
  have L0 := Lib.hid h0
  have BL := Lib.hid hm.lt
  have P1 := Lib.hid (show Bx w.heap.size 53 (.map (some B)) (w.alloc (.cells #[.map (some B)] 53)) from heap_new2 _ _)
  have M1 := Lib.hid (hm.kept (World.grownBy_alloc w (.cells #[.map (some B)] 53) none) (by simp))
  have G1 := Lib.hid (show w.grownBy (w.alloc (.cells #[.map (some B)] 53)) (some B) from World.grownBy_alloc _ _ _)
  have rni : (rows.length : Int) ≤ 4000 := by omega
  have HN := Lib.hid (And.intro hlen (And.intro hn hB))
  have HBW := Lib.hid hbw
  have OW := Lib.hid (fun (wr : World) (hg : w.grownBy wr (some B)) k (hk : k < rows.length) => show Own wr base (Ds k) (ds k) rows[k] from own_keepb (hr k hk).2.1 (fun b hb hl => hg.block b hl (fun e => by injection e with e; omega)))
  have OL := Lib.hid (fun k (hk : k < rows.length) g (hg : rowOf (Ds k) = some g) => show base ≤ g ∧ g < w.heap.size from own_blk (hr k hk).2.1 g hg)
  obtain ⟨V, HV⟩ : ∃ V, Hid (V = (needN rows f rows.length).1) := ⟨_, Lib.hid rfl⟩
  rw [← HV.out]
  clear hr hdist hfull hf h0 hm hrows hlen hn hB hbw
  go_enter Tryd.func28, Tryd.ntmps28
  go_wp2_with fail
  go_loopw [5, 11] (fun rv iv wr => ∃ (i : Nat) (A2 : Option Addr) (c2 : Nat) (xs : List Value), i ≤ rows.length ∧ iv = .int .i64 i ∧ rv = .slice A2 xs.length c2 ∧ Hid (KeptL rows Ds ds i (needN rows f i).1 xs) ∧ Hid (OwnV wr (w.heap.size + 1) A2 c2 xs) ∧ Hid (Bx w.heap.size 53 (.map (some B)) wr) ∧ Hid (∃ n', n' ≤ n + i * 144 ∧ MAt B n' (needN rows f i).2 wr) ∧ Hid (w.grownBy wr (some B))) (fun _ iv _ => rows.length - (intOf iv).toNat)
  case atStart => exact ⟨0, none, 0, [], Nat.zero_le _, rfl, rfl, KeptL.zero, ownV_none, P1.out, Lib.hid ⟨n, by omega, M1.out⟩, G1.out⟩
  case round =>
    clear P1 M1 G1
    obtain ⟨i, A2, c2, xs, hi, rfl, rfl, hk, hv, hp, hm, hg⟩ := hrel
    by_cases hlt : i < rows.length
    · obtain ⟨⟨g, rfl, hg1, hg2, hgc⟩, _, _⟩ := HR.out i hlt
      have cr := hg.out.cell hgc (by have := HN.out.2.2; simp; omega)
      have hii : (i : Int) < rows.length := by omega
      have FU := Lib.hid (HF.out rows[i] (List.getElem_mem hlt))
      have OI := Lib.hid (fun W (hgg : w.grownBy W (some B)) => OW.out W hgg i hlt)
      have NS := Lib.hid (need_step rows f i hlt)
      have KS := Lib.hid hk.out.skip
      have KP := Lib.hid (hk.out.put hlt)
      have XL := Lib.hid (show xs.length ≤ 4000 by
        obtain ⟨js, j1, j2, j3, j4⟩ := hk.out
        have : js.length ≤ i := by
          have hnd : js.Nodup := j1.imp (fun h => Nat.ne_of_lt h)
          have hsub : ∀ j ∈ js, j ∈ List.range i := fun j hj => by rw [List.mem_range]; exact j2 j hj
          have := Nod.nodup_len hnd hsub
          simpa using this
        rw [j4, List.length_map]
        have := HN.out.1
        omega)
      have RB := Lib.hid (show ∀ g, rowOf (Ds i) = some g → g ≠ B from fun g hg' => by have := (OL.out i hlt g hg').1; have := HN.out.2.2; omega)
      have FB := Lib.hid (HB.out i hi)
      have GL := Lib.hid hg.out.size
      have rlen := Lib.hid (show rows[i].length ≤ 4294967296 by have := FU.out.1; have := (lev_ok L0.out).1; omega)
      have rge := Lib.hid (show ∀ j, j < rows[i].length → -1 ≤ rows[i].getD j 0 from fun j hj => by have := FU.out.2 j (by rw [← FU.out.1]; exact hj); omega)
      clear hk hgc
      generalize rows[i] = row at *
      generalize hf1 : needN rows f (i + 1) = nx at *
      have NE := Lib.hid hf1
      clear hf1
      generalize hf0 : needN rows f i = nw at *
      clear hf0
      obtain ⟨zs, ff⟩ := nw
      simp only at KS KP hm FB
      -- is it superfluous?
      have S1 := Lib.hid (show Bx wr.heap.size 4 (.bool true) (wr.alloc (.cells #[.bool true] 4)) from heap_new2 _ _)
      have GA := Lib.hid (show wr.grownBy (wr.alloc (.cells #[.bool true] 4)) none from World.grownBy_alloc _ _ _)
      have P1 := Lib.hid (hp.out.kept GA.out (by simp))
      have E1 := Lib.hid (show Calls Tryd.prog 21 #[.slice (Ds i) row.length (ds i), qfv 33 #[.pointer (some ⟨w.heap.size, 0, none⟩), .pointer (some ⟨wr.heap.size, 0, none⟩)]] (wr.alloc (.cells #[.bool true] 4)) fun e w' => e = .returned (.tuple #[]) ∧ Bx w.heap.size 53 (.map (some B)) w' ∧ Bx wr.heap.size 4 (.bool ((prs row).all fun q => decide (¬ ff q = 1))) w' ∧ (∃ n', n' ≤ n + i * 144 ∧ MAt B n' ff w') ∧ (wr.alloc (.cells #[.bool true] 4)).grownBy w' (some wr.heap.size) by
        obtain ⟨n', hn', hM⟩ := hm.out
        refine (each_ok (own_do (f := ff) (n := n') (p := w.heap.size) (s := wr.heap.size) L0.out FU.out (Nat.le_refl _) (((OI.out wr hg.out).at_).below (vbel1 wr _)) (by have := hp.out.lt; omega) (by have := BL.out; have := GL.out; omega)) rlen.out rge.out (ds i) _ ⟨P1.out, S1.out, hM.kept GA.out (by simp), World.grownBy.refl _ _⟩).mono ?_
        rintro e w' ⟨rfl, h⟩
        exact ⟨rfl, h.box, h.sup, ⟨n', hn', h.map⟩, h.grown⟩)
      have G2 := Lib.hid (fun (W : World) (h : (wr.alloc (.cells #[.bool true] 4)).grownBy W (some wr.heap.size)) => show w.grownBy W (some B) from (hg.out.andThen GA.out (fun j hj => by cases hj)).andThen h (fun j hj => by injection hj with hj; rw [← hj]; exact .inl GL.out))
      have V2 := Lib.hid (fun (W : World) (h : (wr.alloc (.cells #[.bool true] 4)).grownBy W (some wr.heap.size)) => show OwnV W (w.heap.size + 1) A2 c2 xs from (hv.out.grown GA.out (fun g hg e => by cases e)).grown h (fun g hg e => by injection e with e; have := (hv.out.ge g hg).2; omega))
      clear hm S1 GA P1 hp
      generalize hsup : ((prs row).all fun q => decide (¬ ff q = 1)) = sup at *
      have SUP := Lib.hid hsup
      clear hsup
      go_wp2_with fail
      refine E1.out.mono ?_
      rintro e w2 ⟨rfl, hp2, hs2, hm2, hg2'⟩
      have P2 := Lib.hid hp2
      have s2 := hs2.cell
      have M2 := Lib.hid hm2
      have GG := Lib.hid (G2.out w2 hg2')
      have VV := Lib.hid (V2.out w2 hg2')
      clear hp2 hs2 hm2 hg2' E1 G2 V2 hv
      cases sup with
      | true =>
        have NX := Lib.hid (show nx = (zs, subF ff (prs row)) by rw [NS.out]; unfold stepD; rw [if_pos SUP.out])
        have E2 := Lib.hid (show Calls Tryd.prog 21 #[.slice (Ds i) row.length (ds i), qfv 34 #[.pointer (some ⟨w.heap.size, 0, none⟩)]] w2 fun e w' => e = .returned (.tuple #[]) ∧ Bx w.heap.size 53 (.map (some B)) w' ∧ (∃ n', n' ≤ n + (i + 1) * 144 ∧ MAt B n' (subF ff (prs row)) w') ∧ w2.grownBy w' (some B) by
          obtain ⟨n', hn', hM⟩ := M2.out
          have hpl := prs_len (r := row) (by rw [FU.out.1]; exact (lev_ok L0.out).1)
          have hn9 : n' ≤ 900000000000 := by have := HN.out; omega
          refine (each_ok (down_do (f := ff) (n := n') (p := w.heap.size) L0.out FU.out (OI.out w2 GG.out).at_ RB.out (by have := BL.out; omega) hn9 FB.out) rlen.out rge.out (ds i) w2 ⟨P2.out, by rw [subF_nil]; exact hM, World.grownBy.refl _ _⟩).mono ?_
          rintro e w' ⟨rfl, h⟩
          exact ⟨rfl, h.box, ⟨_, by omega, h.map⟩, h.grown⟩)
        have GA3 := Lib.hid (fun (W : World) (h : w2.grownBy W (some B)) => show w.grownBy W (some B) from GG.out.trans h)
        have VA3 := Lib.hid (fun (W : World) (h : w2.grownBy W (some B)) => show OwnV W (w.heap.size + 1) A2 c2 xs from VV.out.grown h (fun g hg e => by injection e with e; have := (VV.out.ge g hg).1; have := BL.out; omega))
        clear P2 M2 GG VV KP
        go_wp2_with fail
        refine E2.out.mono ?_
        rintro e w3 ⟨rfl, hp3, hm3, hg3⟩
        have P3 := Lib.hid hp3
        have M3 := Lib.hid hm3
        have G3 := Lib.hid (GA3.out w3 hg3)
        have V3 := Lib.hid (VA3.out w3 hg3)
        clear hp3 hm3 hg3 E2 GA3 VA3 s2
        go_wp2_with fail
        go_roundw
        case rel => exact ⟨i + 1, A2, c2, xs, hlt, by go_num, rfl, by rw [NE.out, NX.out]; exact KS.out, V3.out, P3.out, by rw [NE.out, NX.out]; exact M3.out, G3.out⟩
        case measure => simp [intOf]; omega
      | false =>
        have NX := Lib.hid (show nx = (zs ++ [row], ff) by rw [NS.out]; unfold stepD; rw [if_neg (by rw [SUP.out]; decide)])
        have NC := Lib.hid (heap_new2 w2 (.cells #[.slice (Ds i) row.length (ds i)] 22))
        have GA := Lib.hid (show w2.grownBy (w2.alloc (.cells #[.slice (Ds i) row.length (ds i)] 22)) none from World.grownBy_alloc _ _ _)
        have VA := Lib.hid (VV.out.grown GA.out (fun g hg e => by cases e))
        have PA := Lib.hid (P2.out.kept GA.out (by simp))
        have MA := Lib.hid (show ∃ n', n' ≤ n + (i + 1) * 144 ∧ MAt B n' ff (w2.alloc (.cells #[.slice (Ds i) row.length (ds i)] 22)) by
          obtain ⟨n', hn', hM⟩ := M2.out
          exact ⟨n', by omega, hM.kept GA.out (by simp)⟩)
        have GB := Lib.hid (show w.grownBy (w2.alloc (.cells #[.slice (Ds i) row.length (ds i)] 22)) (some B) from GG.out.andThen GA.out (fun j hj => by cases hj))
        clear P2 M2 GG VV KS
        go_wp2_with (
          at_builtin
          refine wpList_append_val rfl (.tmp 22) (.tmp 24) rfl (w.heap.size + 1) c2 A2 xs VA.out w2.heap.size (.slice (Ds i) row.length (ds i)) 22 rfl NC.out rfl rfl (by have := XL.out; omega) PA.out.lt ?_
          intro A5 c5 w5 z5 hz5 own5 g5
          have V5 := Lib.hid own5
          have P5 := Lib.hid (PA.out.kept g5 (fun e => by have := (VA.out.ge _ e.symm).1; omega))
          have M5 := Lib.hid (show ∃ n', n' ≤ n + (i + 1) * 144 ∧ MAt B n' ff w5 by
            obtain ⟨n', hn', hM⟩ := MA.out
            exact ⟨n', hn', hM.kept g5 (fun e => by have := (VA.out.ge _ e.symm).1; have := BL.out; omega)⟩)
          have G5 := Lib.hid (GB.out.andThen g5 (fun j hj => .inl (by have := (VA.out.ge j hj).1; omega)))
          have K5 := Lib.hid (show KeptL rows Ds ds (i + 1) (zs ++ [row]) z5 by rw [hz5.out]; exact KP.out)
          clear own5 g5)
        go_roundw
        case rel => exact ⟨i + 1, A5, c5, z5, hlt, by go_num, rfl, by rw [NE.out, NX.out]; exact K5.out, V5.out, P5.out, by rw [NE.out, NX.out]; exact M5.out, G5.out⟩
        case measure => simp [intOf]; omega
    · obtain rfl : i = rows.length := by omega
      have hv2 := HV.out
      subst hv2
      have LK := Lib.hid hk.out.len
      have OR := Lib.hid (hk.out.own hv.out (base := base) (by have := HBW.out; omega) (fun k hk => OW.out wr hg.out k hk) (fun k hk g hg => by have := (OL.out k hk g hg).2; omega) HD.out)
      go_wp2_with fail
      go_ret
      exact ⟨A2, c2, _, by rw [← LK.out]; rfl, Lib.hid rfl, OR.out, hg.out⟩
end Go.Proofs.YtbajkbkfinineaaDoor.Pair
