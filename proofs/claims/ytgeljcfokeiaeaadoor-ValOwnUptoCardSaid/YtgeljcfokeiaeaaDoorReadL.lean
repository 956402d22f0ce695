/- The program's reader of values: list; so value. Conditions: the size; the library's variables. -/
import Derived.Test.YtgeljcfokeiaeaaDoorRead
import Derived.Recover
namespace Go.Proofs.YtgeljcfokeiaeaaDoor.Vals
open Go.RowKit Go.ChangeShapes Lists Ints Build Ref
open Go.Lib (itoa)
set_option linter.unusedVariables false

theorem OwnT.gr {rb base c d : Nat} {A : Option Addr} {acc : List Tr} {w w' : World} (h : OwnT w base A c acc d) (hb : Gr rb w w') (hn : rb < base) : OwnT w' base A c acc d := by
  obtain ⟨xs, h1, h2, h3⟩ := h
  have keep : ∀ b, base ≤ b → b < w.heap.size → w'.heap[b]? = w.heap[b]? := fun b hb0 hb1 => hb.block b hb1 (by simp; omega)
  refine ⟨xs, h1, ⟨h2.1, ?_⟩, fun j hj hj' => (h3 j hj hj').keep fun b hm => ⟨⟨hm.1, Nat.lt_of_lt_of_le hm.2.1 hb.size, hm.2.2⟩, fun o => World.cell?_of_block (keep b hm.1 hm.2.1)⟩⟩
  rcases h2.2 with h0 | ⟨g, cap, cur, he, hbg, hh, r⟩
  · exact .inl h0
  · exact .inr ⟨g, cap, cur, he, hbg, (keep g hbg (Array.getElem?_eq_some_iff.1 hh).1).trans hh, r⟩
/-- the box of the pointer that the deferred call reads -/
def Box (n rb : Nat) (w : World) : Prop := w.heap[n]? = some (.cells #[.pointer (some ⟨rb, 0, none⟩)] 62 (0, 0))
theorem Box.c0 {n rb : Nat} {w : World} (h : Box n rb w) : w.cell? ⟨n, 0, none⟩ = some (.pointer (some ⟨rb, 0, none⟩)) := by rw [Lib.cell_of_heap h]; rfl
theorem Box.lt {n rb : Nat} {w : World} (h : Box n rb w) : n < w.heap.size := (Array.getElem?_eq_some_iff.1 h).1
theorem Box.below {n rb : Nat} {w w' : World} (h : Box n rb w) (hb : Below w.heap.size w w') : Box n rb w' := (hb.block n h.lt).trans h
theorem Box.gr {n rb r : Nat} {w w' : World} (h : Box n rb w) (hb : Gr r w w') (hn : n ≠ r) : Box n rb w' := (hb.block n h.lt (by simpa using hn)).trans h

set_option maxRecDepth 100000 in
/-- the deferred call: the depth goes back -/
theorem close_any (rb n p d : Nat) (s : ByteArray) (u : FrameMode) (w : World) (hb : Box n rb w) (h : RD rb s p (d + 1) w) (hd : d ≤ 6) :
    CallsD Tryd.prog 39 #[.pointer (some ⟨n, 0, none⟩)] u w fun e u' w' => u' = u ∧ (e = .returned (.tuple #[]) ∧ ∃ x : Int, x = d ∧ w' = w.setCell ⟨rb, 2, none⟩ (.int .i64 x)) := by
  have c0 := hb.c0
  have c2 := h.c2
  have f2 := h.f 2
  have e1 : ((d + 1 : Nat) : Int) - 1 = (d : Int) := by omega
  have E1 := Lib.hid e1
  clear e1
  go_enter_d Tryd.func39, Tryd.ntmps39
  go_wp2
  go_end0
  exact ⟨rfl, _, by first | exact E1.out | omega, rfl⟩

/-- what stands while a list is read: acc is read, the reader stands at q -/
structure St (k rb : Nat) (s : ByteArray) (d : Nat) (w : World) (q : Nat) (A : Option Addr) (c : Nat) (acc : List Tr) (wr : World) : Prop where
  rd : RD rb s q (d + 1) wr
  box : Box w.heap.size rb wr
  cell : B3 (w.heap.size + 1) (.bool false) (.int .i64 0) (.slice none 0 0) wr
  var : B3 (w.heap.size + 1 + 1) (.bool true) (.int .i64 0) (.slice A acc.length c) wr
  own : OwnT wr (w.heap.size + 3) A c acc k
  gr : Gr rb w wr
  lib : LibOK rb wr
variable {k rb q d c : Nat} {s : ByteArray} {w wr w2 : World} {A : Option Addr} {acc : List Tr}
theorem St.call {q2 : Nat} (h : St k rb s d w q A c acc wr) (hb : rb < w.heap.size) (hg : Gr rb wr w2) (hr : RD rb s q2 (d + 1) w2) : St k rb s d w q2 A c acc w2 :=
  ⟨hr, h.box.gr hg (by omega), h.cell.gr hg (by omega), h.var.gr hg (by omega), h.own.gr hg (by omega), h.gr.trans hg, h.lib.gr hg⟩
theorem B3.put {b : Nat} {x0 x1 x2 : Value} {w : World} (h : B3 b x0 x1 x2 w) (y0 y1 y2 : Value) : B3 b y0 y1 y2 (((w.setCell ⟨b, 0, none⟩ y0).setCell ⟨b, 1, none⟩ y1).setCell ⟨b, 2, none⟩ y2) := by
  unfold B3 at h ⊢
  simp [World.setCell, Array.getElem?_modify, h]
/-- the result is stored -/
def Put (rb : Nat) (s : ByteArray) (q d : Nat) (w : World) (y0 y1 y2 : Value) (w5 : World) : Prop :=
  B3 (w.heap.size + 1) y0 y1 y2 w5 ∧ RD rb s q (d + 1) w5 ∧ Gr rb w w5 ∧ Box w.heap.size rb w5
theorem St.put (h : St k rb s d w q A c acc wr) (y0 y1 y2 : Value) (hb : rb < w.heap.size) : Put rb s q d w y0 y1 y2 (((wr.setCell ⟨w.heap.size + 1, 0, none⟩ y0).setCell ⟨w.heap.size + 1, 1, none⟩ y1).setCell ⟨w.heap.size + 1, 2, none⟩ y2) :=
  ⟨h.cell.put y0 y1 y2, ((h.rd.other (by omega) _ _).other (by omega) _ _).other (by omega) _ _, gr_new (gr_new (gr_new h.gr (by omega) _ _) (by omega) _ _) (by omega) _ _,
    (Below.heap_setCell _ _ _ _ (by simp)).trans ((Below.heap_setCell _ _ _ _ (by simp)).trans ((Below.heap_setCell _ _ _ _ (by simp)).trans h.box))⟩
theorem put_end {y0 y1 y2 : Value} {w5 w9 : World} {x : Int} (hb : rb < w.heap.size) (h : Put rb s q d w y0 y1 y2 w5) (hx : x = d) (hw : w9 = w5.setCell ⟨rb, 2, none⟩ (.int .i64 x)) : B3 (w.heap.size + 1) y0 y1 y2 w9 ∧ RD rb s q d w9 ∧ Gr rb w w9 := by
  subst hw
  exact ⟨h.1.other (by omega) _ _, h.2.1.deep d x hx, gr_set h.2.2.1 _ _⟩
theorem St.tree {y0 y1 y2 z : Value} {w9 : World} (h : St k rb s d w q A c acc wr) (hb : rb < w.heap.size) (hw : w9 = ((((wr.setCell ⟨w.heap.size + 1, 0, none⟩ y0).setCell ⟨w.heap.size + 1, 1, none⟩ y1).setCell ⟨w.heap.size + 1, 2, none⟩ y2).setCell ⟨rb, 2, none⟩ z)) :
    TAt w9 (New w w9) (k + 1) (.agg #[.bool true, .int .i64 0, .slice A acc.length c]) (.node true 0 acc) := by
  subst hw
  refine (h.own.at_ (l := true) (n := 0) (by decide)).keep fun b hm => ⟨⟨by have := hm.1; omega, by have := hm.2; simpa [World.setCell] using this⟩, fun o => World.cell?_of_block ?_⟩
  have hm1 := hm.1
  exact (Below.heap_setCell _ _ _ _ (by show b ≠ rb; omega)).trans ((Below.heap_setCell _ _ _ _ (by show b ≠ w.heap.size + 1; omega)).trans ((Below.heap_setCell _ _ _ _ (by show b ≠ w.heap.size + 1; omega)).trans (Below.heap_setCell _ _ _ _ (by show b ≠ w.heap.size + 1; omega))))
theorem St.nf {y0 y1 y2 z : Value} {w9 : World} (h : St k rb s d w q A c acc wr) (hw : w9 = ((((wr.setCell ⟨w.heap.size + 1, 0, none⟩ y0).setCell ⟨w.heap.size + 1, 1, none⟩ y1).setCell ⟨w.heap.size + 1, 2, none⟩ y2).setCell ⟨rb, 2, none⟩ z)) : NF A w9 := by
  subst hw
  refine ((((?_ : NF A wr).set _ _).set _ _).set _ _).set _ _
  intro g hg
  obtain ⟨xs, _, h2, _⟩ := h.own
  rcases h2.2 with ⟨he, _⟩ | ⟨g', cap, cur, he, _, hh, _⟩
  · injection he with he; subst he; cases hg
  · injection he with he; subst he
    have : g' = g := by simpa [blockOf] using hg
    subst this
    exact ⟨_, _, hh⟩
/-- at the start -/
theorem st_start {p : Nat} {x : Int} (hx : x = (d + 1 : Nat)) (hr : RD rb s p d w) (hl : LibOK rb w) : St k rb s d w p none 0 [] ((((w.setCell ⟨rb, 2, none⟩ (.int .i64 x)).alloc (.cells #[.pointer (some ⟨rb, 0, none⟩)] 62)).alloc (.cells #[.bool false, .int .i64 0, .slice none 0 0] 24)).alloc (.cells #[.bool true, .int .i64 0, .slice none 0 0] 24)) := by
  have hz : (w.setCell ⟨rb, 2, none⟩ (.int .i64 x)).heap.size = w.heap.size := by simp [World.setCell]
  have r0 := hr.deep (d + 1) x hx
  have g0 : Gr rb w (w.setCell ⟨rb, 2, none⟩ (.int .i64 x)) := gr_set (gr_refl _ _) _ _
  generalize w.setCell ⟨rb, 2, none⟩ (.int .i64 x) = w1 at hz r0 g0 ⊢
  have b1 : Below w1.heap.size w1 (w1.alloc (.cells #[.pointer (some ⟨rb, 0, none⟩)] 62)) := (Below.refl _ _).alloc (Nat.le_refl _) _
  have x1 : Box w.heap.size rb (w1.alloc (.cells #[.pointer (some ⟨rb, 0, none⟩)] 62)) := by rw [← hz]; exact heap_new _ _
  have hz1 : (w1.alloc (.cells #[.pointer (some ⟨rb, 0, none⟩)] 62)).heap.size = w.heap.size + 1 := by simp [hz]
  have r1 := r0.below b1
  have g1 := g0.trans (gr_below (rb := rb) b1)
  generalize w1.alloc (.cells #[.pointer (some ⟨rb, 0, none⟩)] 62) = w2 at hz1 x1 r1 g1 ⊢
  have b2 : Below w2.heap.size w2 (w2.alloc (.cells #[.bool false, .int .i64 0, .slice none 0 0] 24)) := (Below.refl _ _).alloc (Nat.le_refl _) _
  have x2 : B3 (w.heap.size + 1) (.bool false) (.int .i64 0) (.slice none 0 0) (w2.alloc (.cells #[.bool false, .int .i64 0, .slice none 0 0] 24)) := by rw [← hz1]; exact B3.new _ _ _ _
  have hz2 : (w2.alloc (.cells #[.bool false, .int .i64 0, .slice none 0 0] 24)).heap.size = w.heap.size + 1 + 1 := by simp [hz1]
  have r2 := r1.below b2
  have g2 := g1.trans (gr_below (rb := rb) b2)
  have y2 := x1.below b2
  generalize w2.alloc (.cells #[.bool false, .int .i64 0, .slice none 0 0] 24) = w3 at hz2 x2 r2 g2 y2 ⊢
  have b3 : Below w3.heap.size w3 (w3.alloc (.cells #[.bool true, .int .i64 0, .slice none 0 0] 24)) := (Below.refl _ _).alloc (Nat.le_refl _) _
  have x3 : B3 (w.heap.size + 1 + 1) (.bool true) (.int .i64 0) (.slice none 0 0) (w3.alloc (.cells #[.bool true, .int .i64 0, .slice none 0 0] 24)) := by rw [← hz2]; exact B3.new _ _ _ _
  exact ⟨r2.below b3, y2.below b3, x2.below b3, x3, OwnT.none_, g2.trans (gr_below b3), hl.gr (g2.trans (gr_below b3))⟩

/-- where the reader stands -/
def posOf (rb : Nat) (w : World) : Nat := match w.cell? ⟨rb, 1, none⟩ with | some (.int _ n) => n.toNat | _ => 0
theorem RD.posOf {rb p d : Nat} {s : ByteArray} {w : World} (h : RD rb s p d w) : Vals.posOf rb w = p := by
  unfold Vals.posOf
  rw [h.c1]
  simp
theorem no_head (s : ByteArray) (p : Nat) (c : UInt8) (h : ∀ hp : p < s.size, s[p]'hp ≠ c) : ∀ tl, s.data.toList.drop p ≠ c :: tl := by
  intro tl e
  rcases Nat.lt_or_ge p s.size with h1 | h1
  · rw [drop_at s p h1] at e
    injection e with e1 e2
    exact h h1 e1
  · rw [drop_end s p h1] at e; cases e
theorem below_two (w : World) (o : Obj) : Below w.heap.size w ((w.alloc o).alloc o) := ((Below.refl _ _).alloc (Nat.le_refl _) _).alloc (by simp) _
/-- an item that was made since, at the append -/
theorem item_new {q2 n : Nat} {v : Value} {t : Tr} {o : Obj} (h : St k rb s d w q A c acc wr) (h2 : St k rb s d w q2 A c acc w2) (hb : rb < w.heap.size) (hs : wr.heap.size ≤ w2.heap.size) (ht : TAt w2 (New wr w2) n v t) : TAt ((w2.alloc o).alloc o) (Mine ((w2.alloc o).alloc o) (w.heap.size + 3) A) n v t := by
  have b2 := below_two w2 o
  refine ht.keep fun b hb => ⟨⟨?_, Nat.lt_of_lt_of_le hb.2 b2.size, fun e => ?_⟩, fun o => World.cell?_of_block (b2.block b hb.2)⟩
  · have := h.var.lt; have := hb.1; omega
  · have := (h.own.ge b e).2; have := hb.1; omega
theorem St.append {q2 c3 : Nat} {A3 : Option Addr} {z3 : List Tr} {w3 wm : World} (h : St k rb s d w q2 A c acc w2) (hb : rb < w.heap.size) (hm : Below w2.heap.size w2 wm) (own : OwnT w3 (w.heap.size + 3) A3 c3 z3 k) (g : wm.grownBy w3 (blockOf A)) :
    St k rb s d w q2 A3 c3 z3 (w3.setCell ⟨w.heap.size + 1 + 1, 2, none⟩ (.slice A3 z3.length c3)) ∧ (∃ u, w3.cell? ⟨w.heap.size + 1 + 1, 2, none⟩ = some u) ∧ w3.frozen? ⟨w.heap.size + 1 + 1, 2, none⟩ = false ∧ w3.cell? ⟨w.heap.size, 0, none⟩ = some (.pointer (some ⟨rb, 0, none⟩)) := by
  have keep : ∀ b, b < w.heap.size + 3 → w3.heap[b]? = w2.heap[b]? := by
    intro b hb3
    have h1 := h.var.lt
    rw [g.block b (by have := hm.size; omega) (fun e => by have := (h.own.ge b e.symm).1; omega), hm.block b (by omega)]
  have kr : RD rb s q2 (d + 1) w3 := (keep rb (by omega)).trans h.rd
  have kb : Box w.heap.size rb w3 := (keep _ (by omega)).trans h.box
  have kc : B3 (w.heap.size + 1) (.bool false) (.int .i64 0) (.slice none 0 0) w3 := (keep _ (by omega)).trans h.cell
  have kv : B3 (w.heap.size + 1 + 1) (.bool true) (.int .i64 0) (.slice A acc.length c) w3 := (keep _ (by omega)).trans h.var
  have hgm : Gr rb w wm := h.gr.trans (gr_below hm)
  have kg : Gr rb w w3 := ⟨g.os.trans hgm.os, g.tape.trans hgm.tape, g.output.trans hgm.output, Nat.le_trans hgm.size g.size, fun i hi hne => (keep i (by omega)).trans (h.gr.block i hi hne)⟩
  have kl : LibOK rb w3 := by
    obtain ⟨l1, ⟨⟨t1, p1, l2⟩, t2, p2, l3⟩, n1, n2, n3⟩ := h.lib
    have go : ∀ {name : String} {gg : Nat} {cs : Array Value}, Tryd.prog.globalNamed name = some gg → w2.var? Tryd.prog name = some cs → gg < w.heap.size → w3.var? Tryd.prog name = some cs := by
      intro name gg cs e1 e2 e3
      unfold World.var? at e2 ⊢
      rw [e1] at e2 ⊢
      simp only [Option.bind_some] at e2 ⊢
      rw [keep gg (by omega)]
      exact e2
    exact ⟨go gTab l1 (by omega), ⟨⟨t1, p1, go gSyn l2 (by omega)⟩, t2, p2, go gRng l3 (by omega)⟩, n1, n2, n3⟩
  have set2 : B3 (w.heap.size + 1 + 1) (.bool true) (.int .i64 0) (.slice A3 z3.length c3) (w3.setCell ⟨w.heap.size + 1 + 1, 2, none⟩ (.slice A3 z3.length c3)) := by
    unfold B3 at kv ⊢
    simp [World.setCell, Array.getElem?_modify, kv]
  exact ⟨⟨kr.other (by omega) _ _, (Below.heap_setCell _ _ _ _ (by simp; omega)).trans kb, kc.other (by omega) _ _, set2, own.gr (rb := w.heap.size + 1 + 1) (gr_set (gr_refl _ _) _ _) (by omega), gr_new kg (by omega) _ _, kl.far (r := w.heap.size + 1 + 1) (gr_set (gr_refl _ _) _ _) (by omega)⟩, ⟨_, kv.facts.2.2.1⟩, kv.facts.2.2.2.2.2, kb.c0⟩
/-- the loop's relation -/
def RelL (k rb : Nat) (s : ByteArray) (d : Nat) (w : World) (p : Nat) (wr : World) : Prop :=
  ∃ (acc : List Tr) (q : Nat) (A : Option Addr) (c : Nat), St k rb s d w q A c acc wr ∧ q ≤ s.size ∧ acc.length ≤ q ∧ Hid (LI k (s.data.toList.drop p) acc (s.data.toList.drop q))

set_option maxHeartbeats 8000000 in
set_option maxRecDepth 100000 in
theorem list_of (k : Nat) (hval : ValOK k) : ListOK k := by
  intro rb s p d w hd hs hp h hl
  have hmf : ∀ (fn : Fn) (first cap : Array Value) (w : World), (Instr.makeFunc fn first cap).run Tryd.prog w = .ok (.func fn first cap) w := fun _ _ _ _ => rfl
  have S0 := Lib.hid (st_start (k := k) (x := (d : Int) + 1) (by omega) h hl)
  have c2 := h.c2
  have f2 := h.f 2
  have hlt := h.lt
  have HRB := Lib.hid hlt
  have HD := Lib.hid hd
  have hd5 : d ≤ 5 := by omega
  have HV := Lib.hid hval
  clear h hl hval hd
  by_cases hc : ∃ hp : p < s.size, s[p]'hp = 41
  · obtain ⟨hp1, hc⟩ := hc
    have SK := Lib.hid (skip_yes rb s p (d + 1) 41 41 rfl (by omega) _ S0.out.rd hp1 hc)
    have DA := Lib.hid (show s.data.toList.drop p = 41 :: s.data.toList.drop (p + 1) by rw [drop_at s p hp1, hc])
    clear hc
    go_enter_defers Tryd.func30, Tryd.ntmps30
    go_wp2_with fail
    refine SK.out.mono ?_
    rintro e w5 ⟨rfl, hr1, hg1⟩
    have S5 := Lib.hid (S0.out.call HRB.out hg1 hr1)
    clear hr1 hg1 c2 f2 hlt
    obtain ⟨v0, v1, v2, _, _, _⟩ := S5.out.var.facts
    obtain ⟨z0, z1, z2, y0, y1, y2⟩ := S5.out.cell.facts
    simp only [List.length_nil] at v2
    go_wp2_with fail
    clear v0 v1 v2 z0 z1 z2 y0 y1 y2
    refine leaves_cons (f := 39) (args := #[.pointer (some ⟨w.heap.size, 0, none⟩)]) (by simp) (by simp [go_sem]) ?_
    have ST5 := Lib.hid (S5.out.put (.bool true) (.int .i64 0) (.slice none 0 0) HRB.out)
    have CL := Lib.hid (close_any rb w.heap.size _ d s .returning _ (S5.out.put (.bool true) (.int .i64 0) (.slice none 0 0) HRB.out).2.2.2 (S5.out.put (.bool true) (.int .i64 0) (.slice none 0 0) HRB.out).2.1 (by omega))
    refine CL.out.mono ?_
    rintro e u' w9 ⟨rfl, rfl, x, hx, hw⟩
    have ED := put_end HRB.out ST5.out hx hw
    clear CL ST5 hw hx
    obtain ⟨z9, r9, g9⟩ := ED
    obtain ⟨z0, z1, z2, _, _, _⟩ := z9.facts
    exact ⟨.tuple #[.agg #[.bool true, .int .i64 0, .slice none 0 0], .bool true], by simp [results, Tryd.results30, go_sem, z0, z1, z2], .inl ⟨[], p + 1, none, 0, (fun x hx => by cases hx), hp1, by rw [DA.out]; rfl, rfl, ⟨rfl, none, 0, rfl, fun hp => by simp [Tr.items] at hp⟩, r9, g9, NF.none_ _⟩⟩
  · have SK := Lib.hid (skip_no rb s p (d + 1) 41 41 rfl (by omega) _ S0.out.rd (fun hp e => hc ⟨hp, e⟩) (by omega))
    have L0 := Lib.hid (LI.start (d := k) (no_head s p 41 (fun hp e => hc ⟨hp, e⟩)))
    clear hc
    go_enter_defers Tryd.func30, Tryd.ntmps30
    go_wp2_with fail
    refine SK.out.mono ?_
    rintro e w5 ⟨rfl, hr1, hg1⟩
    have S1 := Lib.hid (S0.out.call HRB.out hg1 hr1)
    clear hr1 hg1 c2 f2 hlt
    go_wp2_with fail
    go_loopw [19] (fun _ wr => RelL k rb s d w p wr) (fun _ wr => s.size + 1 - posOf rb wr)
    case atStart => exact ⟨[], p, none, 0, S1.out, hp, Nat.zero_le _, L0.out⟩
    case round =>
      obtain ⟨acc, q, A, c, st, hq, hal, hli⟩ := hrel
      have S := Lib.hid st
      have b0 := st.box.c0
      have VL := Lib.hid (HV.out rb s q (d + 1) wr (by have := HD.out; omega) hs hq st.rd st.lib)
      have LIH := Lib.hid hli.out
      clear st hli
      go_wp2_with fail
      refine VL.out.mono ?_
      clear b0
      rintro e w2 (⟨t, q2, D, dd, hgd, hq2, htx, hfw, rfl, hta, hr2, hg2, _⟩ | ⟨hno, rfl, ⟨q2, hq2, hr2⟩, hg2⟩)
      · have hql : q + 1 ≤ q2 := by
          have h1 := congrArg List.length htx
          have h2 := textV_ne t
          have h3 : 0 < (textV t).length := List.length_pos_iff.2 h2
          rw [List.length_append, List.length_drop, List.length_drop, ← size_toList] at h1
          omega
        have RD2 := Lib.hid (LIH.out.item hgd hfw htx)
        have S2 := Lib.hid (S.out.call HRB.out hg2 hr2)
        have IT := Lib.hid (item_new (o := .cells #[.bool t.list, .int .i64 t.num, .slice D t.items.length dd] 24) S.out S2.out HRB.out hg2.size hta)
        have TC : B3 (w2.heap.size + 1) (.bool t.list) (.int .i64 t.num) (.slice D t.items.length dd) ((w2.alloc (.cells #[.bool t.list, .int .i64 t.num, .slice D t.items.length dd] 24)).alloc (.cells #[.bool t.list, .int .i64 t.num, .slice D t.items.length dd] 24)) := by
          have := B3.new (w2.alloc (.cells #[.bool t.list, .int .i64 t.num, .slice D t.items.length dd] 24)) (.bool t.list) (.int .i64 t.num) (.slice D t.items.length dd)
          simpa using this
        have TC := Lib.hid TC
        have OW := Lib.hid (S2.out.own.below (below_two w2 (.cells #[.bool t.list, .int .i64 t.num, .slice D t.items.length dd] 24)))
        have P0 := Lib.hid (show posOf rb wr = q from S.out.rd.posOf)
        obtain ⟨v0, v1, v2, _, _, _⟩ := S2.out.var.facts
        have hvl := S2.out.var.lt
        clear hgd htx hfw hta hr2 hg2 VL
        go_wp2_with (at_builtin
                     refine wpList_append_tree rfl (.tmp 28) (.tmp 30) rfl (w.heap.size + 3) c k A acc OW.out (w2.heap.size + 1) (.bool t.list) (.int .i64 t.num) (.slice D t.items.length dd) 1 t TC.out.facts.1 TC.out.facts.2.1 TC.out.facts.2.2.1 ⟨rfl, rfl, rfl⟩ IT.out rfl rfl (by omega) (by simp; omega) ?_
                     intro A3 c3 w3 z3 hz3 own3 g3
                     have SA := Lib.hid (S2.out.append HRB.out (below_two w2 _) own3 g3)
                     obtain ⟨⟨u2, e2⟩, e3, e4⟩ := SA.out.2
                     clear own3 g3)
        have S4 := Lib.hid SA.out.1
        have RD3 := Lib.hid (show Read k (s.data.toList.drop p) z3 (s.data.toList.drop q2) by rw [hz3.out]; exact RD2.out)
        have hz4 : z3.length ≤ q2 := by rw [hz3.out]; simp; omega
        have hzn := Lib.hid (show z3 ≠ [] by rw [hz3.out]; simp)
        clear e2 e3 e4 SA v0 v1 v2 hvl OW TC IT RD2 S1 L0 SK
        generalize w3.setCell ⟨w.heap.size + 1 + 1, 2, none⟩ (.slice A3 z3.length c3) = w4 at S4 ⊢
        by_cases hc : ∃ hp : q2 < s.size, s[q2]'hp = 41
        · obtain ⟨hp1, hc⟩ := hc
          have SK := Lib.hid (skip_yes rb s q2 (d + 1) 41 41 rfl (by omega) w4 S4.out.rd hp1 hc)
          have DA := Lib.hid (show s.data.toList.drop q2 = 41 :: s.data.toList.drop (q2 + 1) by rw [drop_at s q2 hp1, hc])
          clear hc
          refine SK.out.mono ?_
          rintro e w5 ⟨rfl, hr5, hg5⟩
          have S5 := Lib.hid (S4.out.call HRB.out hg5 hr5)
          clear hr5 hg5 SK
          obtain ⟨v0, v1, v2, _, _, _⟩ := S5.out.var.facts
          obtain ⟨z0, z1, z2, y0, y1, y2⟩ := S5.out.cell.facts
          go_wp2_with fail
          clear v0 v1 v2 z0 z1 z2 y0 y1 y2
          refine leaves_cons (f := 39) (args := #[.pointer (some ⟨w.heap.size, 0, none⟩)]) (by simp) (by simp [go_sem]) ?_
          have ST5 := Lib.hid (S5.out.put (.bool true) (.int .i64 0) (.slice A3 z3.length c3) HRB.out)
          have CL := Lib.hid (close_any rb w.heap.size _ d s .returning _ (S5.out.put (.bool true) (.int .i64 0) (.slice A3 z3.length c3) HRB.out).2.2.2 (S5.out.put (.bool true) (.int .i64 0) (.slice A3 z3.length c3) HRB.out).2.1 (by omega))
          refine CL.out.mono ?_
          rintro e u' w9 ⟨rfl, rfl, x, hx, hw⟩
          have ED := put_end HRB.out ST5.out hx hw
          have TA := S5.out.tree HRB.out hw
          have NF9 := S5.out.nf hw
          clear CL ST5 hw hx
          obtain ⟨z9, r9, g9⟩ := ED
          obtain ⟨z0, z1, z2, _, _, _⟩ := z9.facts
          exact ⟨.tuple #[.agg #[.bool true, .int .i64 0, .slice A3 z3.length c3], .bool true], by simp [results, Tryd.results30, go_sem, z0, z1, z2], .inl ⟨z3, q2 + 1, A3, c3, RD3.out.2.1, hp1, by rw [RD3.out.1, DA.out], rfl, TA, r9, g9, NF9⟩⟩
        · have SK := Lib.hid (skip_no rb s q2 (d + 1) 41 41 rfl (by omega) w4 S4.out.rd (fun hp e => hc ⟨hp, e⟩) (by omega))
          have N41 := Lib.hid (no_head s q2 41 (fun hp e => hc ⟨hp, e⟩))
          clear hc
          refine SK.out.mono ?_
          rintro e w5 ⟨rfl, hr5, hg5⟩
          have S5 := Lib.hid (S4.out.call HRB.out hg5 hr5)
          have b5 := S5.out.box.c0
          clear hr5 hg5 SK
          by_cases hc : ∃ hp : q2 < s.size, s[q2]'hp = 32
          · obtain ⟨hp1, hc⟩ := hc
            have SK := Lib.hid (skip_yes rb s q2 (d + 1) 32 32 rfl (by omega) w5 S5.out.rd hp1 hc)
            have DA := Lib.hid (show s.data.toList.drop q2 = 32 :: s.data.toList.drop (q2 + 1) by rw [drop_at s q2 hp1, hc])
            clear hc
            go_wp2_with fail
            refine SK.out.mono ?_
            rintro e w6 ⟨rfl, hr6, hg6⟩
            have S6 := Lib.hid (S5.out.call HRB.out hg6 hr6)
            clear hr6 hg6 SK b5
            go_wp2_with fail
            go_roundw
            case rel => exact ⟨z3, q2 + 1, A3, c3, S6.out, hp1, by omega, LI.blank (by rw [← DA.out]; exact RD3.out) hzn.out⟩
            case measure => rw [P0.out, S6.out.rd.posOf]; omega
          · have SK := Lib.hid (skip_no rb s q2 (d + 1) 32 32 rfl (by omega) w5 S5.out.rd (fun hp e => hc ⟨hp, e⟩) (by omega))
            have NO := Lib.hid (read_none RD3.out hzn.out N41.out (no_head s q2 32 (fun hp e => hc ⟨hp, e⟩)))
            clear hc
            go_wp2_with fail
            refine SK.out.mono ?_
            rintro e w6 ⟨rfl, hr6, hg6⟩
            have S5 := Lib.hid (S5.out.call HRB.out hg6 hr6)
            have hqz := hq2
            clear hr6 hg6 SK b5
            obtain ⟨z0, z1, z2, y0, y1, y2⟩ := S5.out.cell.facts
            go_wp2_with fail
            clear z0 z1 z2 y0 y1 y2
            refine leaves_cons (f := 39) (args := #[.pointer (some ⟨w.heap.size, 0, none⟩)]) (by simp) (by simp [go_sem]) ?_
            have ST5 := Lib.hid (S5.out.put (.bool false) (.int .i64 0) (.slice none 0 0) HRB.out)
            have CL := Lib.hid (close_any rb w.heap.size _ d s .returning _ (S5.out.put (.bool false) (.int .i64 0) (.slice none 0 0) HRB.out).2.2.2 (S5.out.put (.bool false) (.int .i64 0) (.slice none 0 0) HRB.out).2.1 (by omega))
            refine CL.out.mono ?_
            rintro e u' w9 ⟨rfl, rfl, x, hx, hw⟩
            have ED := put_end HRB.out ST5.out hx hw
            skip
            clear CL ST5 hw hx
            obtain ⟨z9, r9, g9⟩ := ED
            obtain ⟨z0, z1, z2, _, _, _⟩ := z9.facts
            exact ⟨.tuple #[.agg #[.bool false, .int .i64 0, .slice none 0 0], .bool false], by simp [results, Tryd.results30, go_sem, z0, z1, z2], .inr ⟨NO.out, rfl, ⟨_, hqz, r9⟩, g9⟩⟩
      · have NO := Lib.hid (show ∀ (its : List Tr) (r : List UInt8), (∀ x ∈ its, Good k x) → s.data.toList.drop p ≠ textVs its ++ 41 :: r from LIH.out.no hno)
        have b5 : Below w2.heap.size w2 (w2.alloc (.cells #[.bool false, .int .i64 0, .slice none 0 0] 24)) := (Below.refl _ _).alloc (Nat.le_refl _) _
        have S5 := Lib.hid (S.out.call HRB.out (hg2.trans (gr_below b5)) (hr2.below b5))
        clear b5
        obtain ⟨z0, z1, z2, y0, y1, y2⟩ := S5.out.cell.facts
        have hqz := hq2
        clear hno hr2 hg2 VL hq2
        go_wp2_with fail
        clear z0 z1 z2 y0 y1 y2
        refine leaves_cons (f := 39) (args := #[.pointer (some ⟨w.heap.size, 0, none⟩)]) (by simp) (by simp [go_sem]) ?_
        have ST5 := Lib.hid (S5.out.put (.bool false) (.int .i64 0) (.slice none 0 0) HRB.out)
        have CL := Lib.hid (close_any rb w.heap.size _ d s .returning _ (S5.out.put (.bool false) (.int .i64 0) (.slice none 0 0) HRB.out).2.2.2 (S5.out.put (.bool false) (.int .i64 0) (.slice none 0 0) HRB.out).2.1 (by omega))
        refine CL.out.mono ?_
        rintro e u' w9 ⟨rfl, rfl, x, hx, hw⟩
        have ED := put_end HRB.out ST5.out hx hw
        clear CL ST5 hw hx
        obtain ⟨z9, r9, g9⟩ := ED
        obtain ⟨z0, z1, z2, _, _, _⟩ := z9.facts
        exact ⟨.tuple #[.agg #[.bool false, .int .i64 0, .slice none 0 0], .bool false], by simp [results, Tryd.results30, go_sem, z0, z1, z2], .inr ⟨NO.out, rfl, ⟨_, hqz, r9⟩, g9⟩⟩

theorem val_ok : ∀ k, ValOK k
  | 0 => val_zero
  | k + 1 => val_succ k (list_of k (val_ok k))
end Go.Proofs.YtgeljcfokeiaeaaDoor.Vals
