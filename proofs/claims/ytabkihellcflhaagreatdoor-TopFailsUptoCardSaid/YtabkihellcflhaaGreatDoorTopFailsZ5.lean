/- TopFails, part 5 of the proof: The program's Check of generators. Conditions: the size. · Values (a bool, a number, items) as trees: how they lie in memory, and what an argument reads as. -/
import Derived.Test.YtabkihellcflhaaGreatDoorTopFailsZ3
import Derived.Test.YtabkihellcflhaaGreatDoorTopFailsZ4
import Derived.Test.YtabkihellcflhaaGreatDoorTopFailsZ1
import Derived.Deep.Slices
import Derived.Deep.Fields
import Derived.Lib.SmallJoins
/- The program's Check of generators. Conditions: the size. -/
namespace Go.Proofs.YtabkihellcflhaaGreatDoor.Gens
open Go.RowKit Lists Ints Vals
set_option linter.unusedVariables false

theorem gen_right {t : Gn} (h : genV t = 0) : Right t ∧ (largeG t 0).2 = false := by
  unfold genV at h
  by_cases hl : (largeG t 0).2 = true
  · rw [if_pos hl] at h; cases h
  · rw [if_neg hl] at h
    exact ⟨h, by simpa using hl⟩
set_option maxHeartbeats 2000000 in
set_option maxRecDepth 100000 in
theorem gcheck {n : Nat} {t : Gn} {v : Value} {B : Nat} (w : World) (h : GAt w (GBel B) n v t) (hB : B ≤ w.heap.size) (hsz : t.size ≤ 4294967296) :
    Calls Tryz.prog 36 #[v] w fun e w' => e = .returned (errOf (genV t)) ∧ Below w.heap.size w w' := by
  obtain ⟨m, A, c, e, hw, rfl, _⟩ := h.open_
  have b1 : Below w.heap.size w (w.alloc (gc t A c)) := (Below.refl _ _).alloc (Nat.le_refl _) _
  have s1 : (w.alloc (gc t A c)).heap.size = w.heap.size + 1 := by simp
  have b2 : Below (w.alloc (gc t A c)).heap.size (w.alloc (gc t A c)) ((w.alloc (gc t A c)).alloc (.cells #[.int .i64 0] 3)) := (Below.refl _ _).alloc (Nat.le_refl _) _
  have p2 : PB (w.heap.size + 1) 0 ((w.alloc (gc t A c)).alloc (.cells #[.int .i64 0] 3)) := by
    have := gheap_new (w.alloc (gc t A c)) (.cells #[.int .i64 0] 3)
    rw [s1] at this; exact this
  have g0 : (w.alloc (gc t A c)).heap[w.heap.size]? = some (gc t A c) := gheap_new w _
  have HH := Lib.hid (fun (W : World) (hb : Below (w.alloc (gc t A c)).heap.size (w.alloc (gc t A c)) W) => gbox w W _ _ _ _ hb)
  have hh2 := h.below (b1.mono hB)
  have C1 := fits_any n t _ B (w.heap.size + 1) 0 0 0 0 _ (hh2.below (b2.mono (by omega))) (by omega) p2 hsz rfl (by omega) rfl (by omega)
  rw [fits_large] at C1
  have C2 := Lib.hid (fun (W : World) (hb : Below w.heap.size w W) => parts_any n t _ B W (h.below (hb.mono hB)) (Nat.le_trans hB hb.size) hsz)
  have EV := Lib.hid (show genV t = if (largeG t 0).2 = true then 4 else partV t from rfl)
  have BB := Lib.hid (And.intro b1 b2)
  clear h hB hsz e hw hh2 p2 g0 b1 b2
  cases hl : (largeG t 0).2 with
  | true =>
    rw [hl] at C1 EV
    simp only [Bool.not_true] at C1
    have C1 := Lib.hid C1
    clear hl
    go_enter Tryz.func36, Tryz.ntmps36
    go_wp2_with fail
    refine C1.out.mono ?_
    rintro e w2 ⟨rfl, hp2, hg2⟩
    have B3 := Lib.hid (on BB.out.1 (BB.out.2.trans (gr_to hg2 (show (w.alloc (gc t A c)).heap.size ≤ w.heap.size + 1 by omega) (by simp))))
    clear hp2 hg2
    go_wp2_with fail
    go_ret
    exact ⟨ret_v (by rw [EV.out]; rfl), B3.out⟩
  | false =>
    rw [hl] at C1 EV
    simp only [Bool.not_false] at C1
    have C1 := Lib.hid C1
    clear hl
    go_enter Tryz.func36, Tryz.ntmps36
    go_wp2_with fail
    refine C1.out.mono ?_
    rintro e w2 ⟨rfl, hp2, hg2⟩
    have b3 := BB.out.2.trans (gr_to hg2 (show (w.alloc (gc t A c)).heap.size ≤ w.heap.size + 1 by omega) (by simp))
    obtain ⟨k0, k1, k2, k3⟩ := HH.out w2 b3
    have B3 := Lib.hid (on BB.out.1 b3)
    have C2 := Lib.hid (C2.out w2 B3.out)
    clear hp2 hg2 b3
    go_wp2_with fail
    refine C2.out.mono ?_
    rintro e w3 ⟨rfl, hb3⟩
    have B4 := Lib.hid (on B3.out hb3)
    clear hb3
    go_wp2_with fail
    go_ret
    exact ⟨ret_v (by rw [EV.out]; rfl), B4.out⟩
end Go.Proofs.YtabkihellcflhaaGreatDoor.Gens

/- Values (a bool, a number, items) as trees: how they lie in memory, and what an argument reads as. -/
namespace Go.Proofs.YtabkihellcflhaaGreatDoor.Vals
open Go.RowKit Go.WideShapes Go.ChangeShapes Go.Deep Go.Joins
set_option linter.unusedVariables false

inductive Tr where
  | node (list : Bool) (num : Int) (items : List Tr)
instance instTr : Inhabited Tr := ⟨.node false 0 []⟩
def Tr.list : Tr → Bool | .node l _ _ => l
def Tr.num : Tr → Int | .node _ n _ => n
def Tr.items : Tr → List Tr | .node _ _ i => i
mutual
def Tr.size : Tr → Nat
  | .node _ _ i => 1 + sizes i
def sizes : List Tr → Nat
  | [] => 0
  | t :: r => t.size + sizes r
end

/-- In world w, in blocks of S, the value v is the tree t of at most so many levels. -/
def TAt (w : World) (S : Nat → Prop) : Nat → Value → Tr → Prop
  | 0, _, _ => False
  | n + 1, v, t => (Lit.int .i64 t.num).wf = true ∧ ∃ A c, v = .agg #[.bool t.list, .int .i64 t.num, .slice A t.items.length c] ∧
      (0 < t.items.length → ∃ b off, A = some ⟨b, off, none⟩ ∧ S b ∧ ∀ j (h : j < t.items.length), ∃ x0 x1 x2, w.cell? ⟨b, off + j * 3, none⟩ = some x0 ∧ w.cell? ⟨b, off + j * 3 + 1, none⟩ = some x1 ∧ w.cell? ⟨b, off + j * 3 + 2, none⟩ = some x2 ∧ TAt w S n (.agg #[x0, x1, x2]) (t.items[j]'h))

theorem TAt.keep {w w' : World} {S S' : Nat → Prop} (hk : ∀ b, S b → S' b ∧ ∀ o, w'.cell? ⟨b, o, none⟩ = w.cell? ⟨b, o, none⟩) : ∀ {n : Nat} {v : Value} {t : Tr}, TAt w S n v t → TAt w' S' n v t
  | 0, _, _, h => h
  | n + 1, v, t, h => by
    obtain ⟨hw, A, c, rfl, h⟩ := h
    refine ⟨hw, A, c, rfl, fun hp => ?_⟩
    obtain ⟨b, off, e, hb, hc⟩ := h hp
    obtain ⟨hb', hk'⟩ := hk b hb
    refine ⟨b, off, e, hb', fun j hj => ?_⟩
    obtain ⟨x0, x1, x2, c0, c1, c2, ht⟩ := hc j hj
    exact ⟨x0, x1, x2, (hk' _).trans c0, (hk' _).trans c1, (hk' _).trans c2, TAt.keep hk ht⟩
def Bel (B : Nat) : Nat → Prop := fun b => b < B
theorem TAt.below {w w' : World} {B n : Nat} {v : Value} {t : Tr} (h : TAt w (Bel B) n v t) (hb : Below B w w') : TAt w' (Bel B) n v t :=
  h.keep fun b hB => ⟨hB, fun o => hb.cell (p := ⟨b, o, none⟩) hB⟩
theorem TAt.more {w : World} {B B' n : Nat} {v : Value} {t : Tr} (h : TAt w (Bel B) n v t) (hB : B ≤ B') : TAt w (Bel B') n v t :=
  h.keep fun b hb => ⟨Nat.lt_of_lt_of_le hb hB, fun _ => rfl⟩
theorem TAt.drew {w : World} {S : Nat → Prop} {n : Nat} {v : Value} {t : Tr} (h : TAt w S n v t) : TAt w.drew S n v t := h.keep (w := w) (w' := w.drew) fun b hb => ⟨hb, fun _ => rfl⟩
theorem TAt.drewN {w : World} {S : Nat → Prop} {n : Nat} {v : Value} {t : Tr} (h : TAt w S n v t) (k : Nat) : TAt (w.drewN k) S n v t := h.keep (w := w) (w' := w.drewN k) fun b hb => ⟨hb, fun _ => rfl⟩
theorem TAt.up {w : World} {S : Nat → Prop} : ∀ {n m : Nat} {v : Value} {t : Tr}, n ≤ m → TAt w S n v t → TAt w S m v t
  | 0, _, _, _, _, h => h.elim
  | n + 1, 0, _, _, hm, _ => by omega
  | n + 1, m + 1, v, t, hm, h => by
    obtain ⟨hw, A, c, rfl, h⟩ := h
    refine ⟨hw, A, c, rfl, fun hp => ?_⟩
    obtain ⟨b, off, e, hb, hc⟩ := h hp
    refine ⟨b, off, e, hb, fun j hj => ?_⟩
    obtain ⟨x0, x1, x2, c0, c1, c2, ht⟩ := hc j hj
    exact ⟨x0, x1, x2, c0, c1, c2, TAt.up (by omega) ht⟩
/-- opened -/
theorem TAt.open_ {w : World} {S : Nat → Prop} {n : Nat} {v : Value} {t : Tr} (h : TAt w S n v t) : ∃ m A c, n = m + 1 ∧ (Lit.int .i64 t.num).wf = true ∧ v = .agg #[.bool t.list, .int .i64 t.num, .slice A t.items.length c] ∧
    (0 < t.items.length → ∃ b off, A = some ⟨b, off, none⟩ ∧ S b ∧ ∀ j (h : j < t.items.length), ∃ x0 x1 x2, w.cell? ⟨b, off + j * 3, none⟩ = some x0 ∧ w.cell? ⟨b, off + j * 3 + 1, none⟩ = some x1 ∧ w.cell? ⟨b, off + j * 3 + 2, none⟩ = some x2 ∧ TAt w S m (.agg #[x0, x1, x2]) (t.items[j]'h)) := by
  cases n with
  | zero => exact h.elim
  | succ n =>
    obtain ⟨hw, A, c, rfl, h⟩ := h
    exact ⟨n, A, c, rfl, hw, rfl, h⟩

theorem sizes_bulk {H : Type} (f : Nat → Tr) (elems : List (DataW H)) : ∀ (k : Nat), (∀ i (h : i < elems.length), (f (k + i)).size ≤ Rows.uptoBulk (elems[i]'h)) → sizes ((List.range' k elems.length).map f) ≤ Rows.uptoBulkAll elems := by
  induction elems with
  | nil => intro k _; simp [sizes, Rows.uptoBulkAll]
  | cons d r ih =>
    intro k h
    simp only [List.length_cons, List.range'_succ, List.map_cons, sizes, Rows.uptoBulkAll]
    have h0 := h 0 (by simp)
    have h1 := ih (k + 1) (fun i hi => by
      have := h (i + 1) (by simpa using hi)
      simpa [Nat.add_assoc, Nat.add_comm 1 i] using this)
    simp at h0
    omega

set_option maxRecDepth 100000 in
theorem cells3 : Tryz.prog.cellsOf 47 = 3 := by kernel_rfl
set_option maxRecDepth 100000 in
theorem hone : oneCellFields Tryz.prog #[{ name := "List", type := 4, offset := 0, embedded := false, tag := "", pkgPath := "", byteOffset := 0 }, { name := "Num", type := 3, offset := 1, embedded := false, tag := "", pkgPath := "", byteOffset := 8 }, { name := "Items", type := 45, offset := 2, embedded := false, tag := "", pkgPath := "", byteOffset := 16 }] = true := by kernel_rfl

set_option maxRecDepth 100000 in
theorem read_tree {H : Type} {enc : TypeId × Value → H} {w : World} {base : Nat} {spare : Nat → Bool} {held : Bool} : ∀ (fuel : Nat) (cs : List Value) (x : DataW H × List MemPlace),
    DataW.trod enc Tryz.prog w base spare held fuel 47 cs = some x → ∃ t : Tr, TAt w (Bel w.heap.size) fuel (.agg cs.toArray) t ∧ t.size ≤ Rows.uptoBulk x.1 := by
  intro fuel
  induction fuel using Nat.strongRecOn with
  | ind fuel ih =>
    intro cs x h
    obtain ⟨xs, n, rfl, rfl, hlen, hxl, hf⟩ := DataW.trod_struct Tryz.underlying47 h
    rw [cells3] at hlen
    match cs, hlen with
    | [c0, c1, c2], _ =>
      obtain ⟨o0, k0⟩ := hone_of hone 0 _ rfl
      obtain ⟨o1, k1⟩ := hone_of hone 1 _ rfl
      obtain ⟨o2, k2⟩ := hone_of hone 2 _ rfl
      match xs, hxl with
      | [y0, y1, y2], _ =>
        have f0 := hf 0 _ rfl
        have f1 := hf 1 _ rfl
        have f2 := hf 2 _ rfl
        rw [o0, k0] at f0
        rw [o1, k1] at f1
        rw [o2, k2] at f2
        obtain ⟨l, e0, rfl⟩ := DataW.trod_bool Tryz.underlying4 f0
        obtain ⟨m, e1, rfl, hm⟩ := DataW.trod_int Tryz.underlying3 f1
        simp only [List.drop_zero, List.take_succ_cons, List.take_zero, List.cons.injEq, and_true, List.drop_succ_cons] at e0 e1
        subst e0 e1
        rcases DataW.trod_slice Tryz.underlying45 f2 with ⟨e2, rfl⟩ | ⟨a, len, cap, elems, rest, n', rfl, e2, rfl, _, _, _, hel, hat, _, _⟩
        · simp only [List.take_succ_cons, List.take_zero, List.cons.injEq, and_true, List.drop_succ_cons, List.drop_zero] at e2
          subst e2
          exact ⟨.node l m [], ⟨hm, none, 0, rfl, fun hp => by simp [Tr.items] at hp⟩, by simp [Tr.size, sizes, Rows.uptoBulk, Rows.uptoBulkAll]⟩
        · simp only [List.take_succ_cons, List.take_zero, List.cons.injEq, and_true, List.drop_succ_cons, List.drop_zero] at e2
          subst e2
          have each : ∀ i, i < len → ∃ t : Tr, ∃ cs' : List Value, w.cells? base (a.add (i * 3)) 3 = some cs' ∧ TAt w (Bel w.heap.size) n' (.agg cs'.toArray) t ∧ ∀ (hi : i < elems.length), t.size ≤ Rows.uptoBulk (elems[i]'hi).1 := by
            intro i hi
            have h1 := hat i hi
            rw [cells3] at h1
            have hi' : i < elems.length := by omega
            rw [List.getElem?_eq_getElem hi'] at h1
            obtain ⟨cs', hc, ht⟩ := Option.bind_eq_some_iff.1 h1
            obtain ⟨t, h2, h3⟩ := ih n' (by omega) cs' _ ht
            exact ⟨t, cs', hc, h2, fun _ => h3⟩
          obtain ⟨f, hfx⟩ := choose_lt each
          refine ⟨.node l m ((List.range' 0 len).map f), ⟨hm, some a, cap, ?_, fun hp => ?_⟩, ?_⟩
          · simp [Tr.items, Tr.list, Tr.num]
          · have hp' : 0 < len := by simpa [Tr.items] using hp
            obtain ⟨cs0, hc0, _⟩ := hfx 0 hp'
            obtain ⟨b, off, spot⟩ := a
            have hcell : ∀ i, i < len → ∀ q, q < 3 → ∃ u, w.cell? ((⟨b, off, spot⟩ : Addr).add (i * 3) |>.add q) = some u := by
              intro i hi q hq
              obtain ⟨cs', hc, _⟩ := hfx i hi
              obtain ⟨_, hl', hu⟩ := World.cells?_some hc
              exact ⟨_, (hu q hq).trans (List.getElem?_eq_getElem (by omega))⟩
            have hspot : spot = none := by
              obtain ⟨u, hu⟩ := hcell 0 hp' 0 (by omega)
              simpa [Addr.add] using World.cell?_spot hu
            subst hspot
            refine ⟨b, off, rfl, ?_, fun j hj => ?_⟩
            · obtain ⟨u, hu⟩ := hcell 0 hp' 0 (by omega)
              exact World.block_lt_of_cell? _ _ (by simpa [Addr.add] using hu)
            · have hj' : j < len := by simpa [Tr.items] using hj
              obtain ⟨cs', hc, ht, _⟩ := hfx j hj'
              obtain ⟨_, hl', hu⟩ := World.cells?_some hc
              match cs', hl' with
              | [x0, x1, x2], _ =>
                have u0 := hu 0 (by omega)
                have u1 := hu 1 (by omega)
                have u2 := hu 2 (by omega)
                rw [add_plain, add_plain] at u0 u1 u2
                refine ⟨x0, x1, x2, by simpa using u0, by simpa using u1, by simpa using u2, ?_⟩
                have e : (Tr.node l m ((List.range' 0 len).map f)).items[j]'hj = f j := by simp [Tr.items]
                rw [e]
                exact TAt.up (by omega) ht
          · simp only [Tr.size, List.map_cons, List.map_nil, Rows.uptoBulk, Rows.uptoBulkAll]
            have := sizes_bulk f (elems.map (·.1)) 0 (fun i hi => by
              have hi' : i < elems.length := by simpa using hi
              obtain ⟨_, _, _, hs⟩ := hfx i (by omega)
              have := hs hi'
              simpa using this)
            rw [List.length_map, hel] at this
            omega

set_option maxRecDepth 100000 in
theorem open_value {H : Type} {enc : TypeId × Value → H} {w : World} {base : Nat} {r : Reach} {b0 : Nat} {spare : Nat → Bool} {held : Bool} {v : Value} {d : DataW H} {ps : List MemPlace}
    (hval : Value.okWide Tryz.prog w r b0 47 v) (hd : DataW.Trod enc Tryz.prog w base spare held 47 v d ps) :
    ∃ (t : Tr) (n : Nat), TAt w (Bel w.heap.size) n v t ∧ t.size ≤ Rows.uptoBulk d := by
  obtain ⟨cs, rfl, _⟩ := okWide_struct Tryz.underlying47 hval
  obtain ⟨fuel, hf⟩ := hd
  obtain ⟨t, h1, h2⟩ := read_tree fuel _ _ hf
  exact ⟨t, fuel, by simpa [Value.cells] using h1, h2⟩
end Go.Proofs.YtabkihellcflhaaGreatDoor.Vals
