/- TopFails, part 19 of the proof: The program's Draw: its closure as a source of choices; what Draw tells. Conditions: none but the generator's size. · Plain laws: what Replay tells. No program. · What is tried in a tape's place: the mathematics. No program. -/
import Derived.Test.YtabkihellcflhaaGreatDoorTopFailsZ18
import Derived.Test.YtabkihellcflhaaGreatDoorTopFailsZ9
/- The program's Draw: its closure as a source of choices; what Draw tells. Conditions: none but the generator's size. -/
namespace Go.Proofs.YtabkihellcflhaaGreatDoor.Gens
open Go.RowKit Lists Ints Vals Rng
set_option linter.unusedVariables false

/-- a random choice -/
def drawC (s : Int × Int) (m : Int) : Except Int (Int × (Int × Int)) := if m ≤ 1000 then .ok (belowK s.1 s.2 (m + 1), (plus s.1 s.2, s.2)) else .ok (0, s)
theorem draw_bounded : Bounded drawC := by
  intro s m x s' h0 h
  unfold drawC at h
  split at h
  · simp only [Except.ok.injEq, Prod.mk.injEq] at h
    have := belowK_bounds s.1 s.2 (m + 1) (by omega) (by omega)
    omega
  · simp only [Except.ok.injEq, Prod.mk.injEq] at h
    omega
theorem draw_total : Total drawC := fun s m _ => by unfold drawC; split <;> exact ⟨_, _, rfl⟩
/-- the box of a seed -/
def SB (p : Nat) (s : Int × Int) (w : World) : Prop := w.heap[p]? = some (.cells #[.int .u64 s.1, .int .u64 s.2] 65 (0, 0))
theorem SB.facts {p : Nat} {s : Int × Int} {w : World} (h : SB p s w) : w.cell? ⟨p, 0, none⟩ = some (.int .u64 s.1) ∧ w.cell? ⟨p, 1, none⟩ = some (.int .u64 s.2) ∧ w.frozen? ⟨p, 0, none⟩ = false ∧ w.frozen? ⟨p, 1, none⟩ = false :=
  ⟨by rw [Lib.cell_of_heap h]; rfl, by rw [Lib.cell_of_heap h]; rfl, Lib.frozen_of_heap h 0, Lib.frozen_of_heap h 1⟩
theorem SB.lt {p : Nat} {s : Int × Int} {w : World} (h : SB p s w) : p < w.heap.size := (Array.getElem?_eq_some_iff.1 h).1
theorem SB.put {p : Nat} {s : Int × Int} {w : World} (h : SB p s w) (a g : Int) : SB p (a, g) ((w.setCell ⟨p, 0, none⟩ (.int .u64 a)).setCell ⟨p, 1, none⟩ (.int .u64 g)) := by
  unfold SB at h ⊢
  simp [World.setCell, Array.getElem?_modify, h]
def IS (B p : Nat) (s : Int × Int) (X : Nat → Prop) (w : World) : Prop := (∀ b, X b ↔ b = p) ∧ B ≤ p ∧ B ≤ w.heap.size ∧ SB p s w

set_option maxHeartbeats 1000000 in
set_option maxRecDepth 100000 in
theorem src_draw (B p : Nat) : Src drawC 57 #[.pointer (some ⟨p, 0, none⟩)] B (IS B p) := by
  refine ⟨fun s X w w' h hk hs => ?_, fun s X w h => ?_, draw_bounded, fun args w => ?_, fun s X w m h0 h1 hI _ => ?_⟩
  · obtain ⟨h1, h2, h3, h4⟩ := h
    exact ⟨h1, h2, Nat.le_trans h3 hs, (hk p (.inr ((h1 p).2 rfl))).trans h4⟩
  · obtain ⟨h1, h2, h3, h4⟩ := h
    exact ⟨h3, fun b hb => by rw [h1] at hb; subst hb; exact ⟨h2, h4.lt⟩⟩
  · rfl
  · obtain ⟨a, g⟩ := s
    obtain ⟨hX, hBp, hBw, hbox⟩ := hI
    have HX := Lib.hid hX
    have HBX := Lib.hid hbox
    obtain ⟨f0, f1, _, _⟩ := hbox.facts
    simp only at f0 f1
    have CB := Lib.hid (below_ok a g (m + 1) (by omega) (by omega) w)
    have HR := Lib.hid (show drawC (a, g) m = .ok (belowK a g (m + 1), (plus a g, g)) by unfold drawC; rw [if_pos h1])
    clear hX hbox
    show Calls Tryz.prog 57 #[.int .i64 m, .pointer (some ⟨p, 0, none⟩)] w _
    go_enter Tryz.func57, Tryz.ntmps57
    go_wp2_with fail
    refine CB.out.mono ?_
    rintro e w1 ⟨rfl, hb⟩
    have HB1 := Lib.hid (show SB p (a, g) w1 from (hb.block p HBX.out.lt).trans HBX.out)
    have BB := Lib.hid hb
    clear hb CB f0 f1
    obtain ⟨f0, f1, z0, z1⟩ := HB1.out.facts
    simp only at f0 f1
    generalize belowK a g (m + 1) = x at *
    go_wp2_with fail
    go_ret
    show SPost _ (drawC (a, g) m) _ _ _ _
    rw [HR.out]
    refine ⟨rfl, X, ⟨HX.out, hBp, by have := BB.out.size; simp [World.setCell]; omega, HB1.out.put _ _⟩, ?_⟩
    refine ⟨BB.out.os, BB.out.tape, BB.out.output, by have := BB.out.size; simp [World.setCell]; omega, fun b hb hx => ?_, fun b hb => .inl hb⟩
    have hne : b ≠ p := fun e => hx ((HX.out b).2 e)
    exact (Below.heap_setCell _ ⟨p, 1, none⟩ _ b hne).trans ((Below.heap_setCell _ ⟨p, 0, none⟩ _ b hne).trans (BB.out.block b hb))

/-- what Draw tells -/
def drawL (t : Gn) (s : Int × Int) : List Int := if genV t = 0 then (match play drawC t s with | .ok (c, _, _) => c | .error _ => []) else []
theorem draw_run {t : Gn} (s : Int × Int) (h0 : genV t = 0) : ∃ v r, play drawC t s = .ok (drawL t s, v, r) ∧ (drawL t s).length ≤ 1399680 := by
  obtain ⟨hr, hl⟩ := gen_right h0
  obtain ⟨c, v, r, h⟩ := play_total draw_total t hr s
  have e : drawL t s = c := by unfold drawL; rw [if_pos h0, h]
  exact ⟨v, r, by rw [e, h], by rw [e]; exact Nat.le_trans (play_long draw_bounded t hr s c v r h) (small_long hl)⟩

set_option maxHeartbeats 2000000 in
set_option maxRecDepth 100000 in
theorem draw_prog {n : Nat} {t : Gn} {v : Value} {a g : Int} (w : World) (h : GAt w (GBel w.heap.size) n v t) (hsz : t.size ≤ 4294967296) :
    Calls Tryz.prog 32 #[v, .agg #[.int .u64 a, .int .u64 g]] w fun e w' => ∃ (A' : Option Addr) (c' : Nat), e = .returned (.tuple #[.slice A' (drawL t (a, g)).length c', errOf (genV t)]) ∧ Own w' w.heap.size A' c' (drawL t (a, g)) ∧ Below w.heap.size w w' := by
  obtain ⟨m, A, c, e, hw, rfl, _⟩ := h.open_
  have b1 : Below w.heap.size w ((w.alloc (gc t A c)).alloc (.cells #[.int .u64 a, .int .u64 g] 65)) := ((Below.refl _ _).alloc (Nat.le_refl _) _).alloc (by simp) _
  have s1 : (w.alloc (gc t A c)).heap.size = w.heap.size + 1 := by simp
  have g1 : G4 w.heap.size (.int .i64 t.kind) (.int .i64 t.a) (.int .i64 t.b) (.slice A t.subs.length c) ((w.alloc (gc t A c)).alloc (.cells #[.int .u64 a, .int .u64 g] 65)) := (Below.heap_alloc _ _ _ (by omega)).trans (new_obj w _)
  have l1 : SB (w.heap.size + 1) (a, g) ((w.alloc (gc t A c)).alloc (.cells #[.int .u64 a, .int .u64 g] 65)) := by
    have := new_obj (w.alloc (gc t A c)) (.cells #[.int .u64 a, .int .u64 g] 65)
    rw [s1] at this; exact this
  have z1 : ((w.alloc (gc t A c)).alloc (.cells #[.int .u64 a, .int .u64 g] 65)).heap.size = w.heap.size + 2 := by simp
  have C1 := gcheck _ (h.below b1) (by simp; omega) hsz
  have HB := Lib.hid (And.intro b1 (And.intro g1 (And.intro l1 z1)))
  have HT := Lib.hid h
  clear h hsz e hw b1 s1 g1 l1 z1
  by_cases hz : genV t = 0
  · obtain ⟨v', r, hp, hlen⟩ := draw_run (a, g) hz
    have HR := Lib.hid (And.intro (gen_right hz).1 (And.intro (small30 hz) (And.intro hp hlen)))
    rw [hz, errOf_ok] at C1 ⊢
    have C1 := Lib.hid C1
    clear hz hp hlen
    generalize drawL t (a, g) = cs at HR ⊢
    go_enter Tryz.func32, Tryz.ntmps32
    go_wp2_with fail
    generalize (w.alloc (gc t A c)).alloc (.cells #[.int .u64 a, .int .u64 g] 65) = W1 at *
    refine C1.out.mono ?_
    rintro e w2 ⟨rfl, hb2⟩
    have B2 := Lib.hid (HB.out.1.trans (hb2.mono HB.out.1.size))
    obtain ⟨k0, k1, k2, k3⟩ := (HB.out.2.1.below hb2).facts
    have IS0 := Lib.hid (show IS w.heap.size (w.heap.size + 1) (a, g) (fun b => b = w.heap.size + 1) w2 from ⟨fun b => Iff.rfl, by omega, B2.out.size, (hb2.block _ HB.out.2.2.1.lt).trans HB.out.2.2.1⟩)
    have RC := record_ok (src_draw w.heap.size (w.heap.size + 1)) (HT.out.below B2.out) HR.out.1 HR.out.2.1 IS0.out HR.out.2.2.1 (by have := HR.out.2.2.2; omega)
    have RC := Lib.hid RC
    clear hb2 C1
    go_wp2_with fail
    refine RC.out.mono ?_
    rintro e w3 ⟨A', c', X', rfl, hown, hmv⟩
    have HO := Lib.hid (own_less hown B2.out.size)
    have B3 := Lib.hid (B2.out.trans (Mv.below hmv (fun b hb => by show w.heap.size ≤ b; have : b = w.heap.size + 1 := hb; omega) B2.out.size))
    clear hown hmv RC
    go_wp2_with fail
    go_ret2
    exact ⟨A', c', rfl, HO.out, B3.out⟩
  · have RE := Lib.hid (errOf_no hz)
    have HL := Lib.hid (show drawL t (a, g) = [] by unfold drawL; rw [if_neg hz])
    rw [errOf_no hz] at C1
    generalize genV t = q at C1 RE
    have C1 := Lib.hid C1
    clear hz
    go_enter Tryz.func32, Tryz.ntmps32
    go_wp2_with fail
    generalize (w.alloc (gc t A c)).alloc (.cells #[.int .u64 a, .int .u64 g] 65) = W1 at *
    refine C1.out.mono ?_
    rintro e w2 ⟨rfl, hb2⟩
    have B2 := Lib.hid (HB.out.1.trans (hb2.mono HB.out.1.size))
    clear hb2
    go_wp2_with fail
    go_ret2
    exact ⟨none, 0, by rw [HL.out, RE.out]; rfl, by rw [HL.out]; exact Own.none, B2.out⟩
end Go.Proofs.YtabkihellcflhaaGreatDoor.Gens

/- Plain laws: what Replay tells. No program. -/
namespace Go.Proofs.YtabkihellcflhaaGreatDoor.Gens
open Vals
set_option linter.unusedVariables false

theorem read_err {l : List Int} {m e : Int} (h : readC l m = .error e) : e = 1 ∨ e = 5 := by
  unfold readC at h
  split at h
  · injection h with h; omega
  · split at h
    · cases h
    · injection h with h; omega
theorem rep_err {f : List Int → Except Int (List Int × Tr × List Int)} (hf : ∀ s e, f s = .error e → e = 1 ∨ e = 5) : ∀ n s e, rep f n s = .error e → e = 1 ∨ e = 5
  | 0, s, e, h => by simp [rep] at h
  | n + 1, s, e, h => by
    simp only [rep] at h
    cases h1 : f s with
    | error e1 => rw [h1] at h; injection h with h; rw [← h]; exact hf s e1 h1
    | ok p =>
      obtain ⟨c1, v, s1⟩ := p
      rw [h1] at h
      cases h2 : rep f n s1 with
      | error e2 => simp only [h2] at h; injection h with h; rw [← h]; exact rep_err hf n s1 e2 h2
      | ok q => simp only [h2] at h; cases h
mutual
theorem play_err : ∀ (g : Gn) (s : List Int) (e : Int), play readC g s = .error e → e = 1 ∨ e = 5
  | .node k a b subs, s, e, h => by
    simp only [play] at h
    split at h
    · cases h
    · split at h
      · cases h1 : readC s (b - a) with
        | error e1 => rw [h1] at h; injection h with h; rw [← h]; exact read_err h1
        | ok p => rw [h1] at h; cases h
      · split at h
        · cases h1 : readC s (subs.length - 1) with
          | error e1 => rw [h1] at h; injection h with h; rw [← h]; exact read_err h1
          | ok p =>
            obtain ⟨x, s1⟩ := p
            simp only [h1] at h
            cases h2 : playAt readC subs x.toNat s1 with
            | error e2 => simp only [h2] at h; injection h with h; rw [← h]; exact at_err subs x.toNat s1 e2 h2
            | ok q => simp only [h2] at h; cases h
        · split at h
          · cases h1 : playAll readC subs s with
            | error e1 => simp only [h1] at h; injection h with h; rw [← h]; exact all_err subs s e1 h1
            | ok q => simp only [h1] at h; cases h
          · cases h1 : readC s a with
            | error e1 => rw [h1] at h; injection h with h; rw [← h]; exact read_err h1
            | ok p =>
              obtain ⟨x, s1⟩ := p
              simp only [h1] at h
              cases h2 : playRep readC subs x.toNat s1 with
              | error e2 => simp only [h2] at h; injection h with h; rw [← h]; exact rep_err' subs x.toNat s1 e2 h2
              | ok q => simp only [h2] at h; cases h
theorem at_err : ∀ (l : List Gn) n s e, playAt readC l n s = .error e → e = 1 ∨ e = 5
  | [], n, s, e, h => by simp [playAt] at h
  | g :: l, 0, s, e, h => by simp only [playAt] at h; exact play_err g s e h
  | g :: l, n + 1, s, e, h => by simp only [playAt] at h; exact at_err l n s e h
theorem all_err : ∀ (l : List Gn) s e, playAll readC l s = .error e → e = 1 ∨ e = 5
  | [], s, e, h => by simp [playAll] at h
  | g :: l, s, e, h => by
    simp only [playAll] at h
    cases h1 : play readC g s with
    | error e1 => rw [h1] at h; injection h with h; rw [← h]; exact play_err g s e1 h1
    | ok p =>
      obtain ⟨c1, v, s1⟩ := p
      simp only [h1] at h
      cases h2 : playAll readC l s1 with
      | error e2 => simp only [h2] at h; injection h with h; rw [← h]; exact all_err l s1 e2 h2
      | ok q => simp only [h2] at h; cases h
theorem rep_err' : ∀ (l : List Gn) n s e, playRep readC l n s = .error e → e = 1 ∨ e = 5
  | [], n, s, e, h => by simp [playRep] at h
  | g :: l, n, s, e, h => by simp only [playRep] at h; exact rep_err (fun s e h => play_err g s e h) n s e h
end
/-- what Replay tells of a right generator -/
def repG (t : Gn) (l : List Int) : Except Int Tr := match play readC t l with
  | .ok (_, v, r) => if r = [] then .ok v else .error 3
  | .error e => .error e
/-- what Replay tells -/
def repV (t : Gn) (l : List Int) : Except Int Tr := if genV t = 0 then repG t l else .error (genV t)
def trOf (r : Except Int Tr) : Tr := match r with | .ok v => v | .error _ => .node false 0 []
def errI (r : Except Int Tr) : Int := match r with | .ok _ => 0 | .error e => e
end Go.Proofs.YtabkihellcflhaaGreatDoor.Gens

/- What is tried in a tape's place: the mathematics. No program. -/
namespace Go.Proofs.YtabkihellcflhaaGreatDoor.Gens
open Go.RowKit Lists Ints Vals
set_option linter.unusedVariables false

/-- a list without the place i -/
def lackL (l : List Int) (i : Nat) : List Int := l.take i ++ l.drop (i + 1)
/-- what is tried at the place i -/
def triesL (l : List Int) (i : Nat) : List (List Int) := if 0 < l.getD i 0 then [l.set i 0, l.set i (l.getD i 0 / 2), l.set i (l.getD i 0 - 1), lackL l i] else [lackL l i]
/-- what is kept of one that is tried -/
def keptL (t : Gn) (l x : List Int) : List (List Int) := if lessL (mendL t x) l = true then [mendL t x] else []
def lessAt (t : Gn) (l : List Int) (i : Nat) : List (List Int) := (triesL l i).flatMap (keptL t l)
def lessTo (t : Gn) (l : List Int) (k : Nat) : List (List Int) := (List.range k).flatMap (lessAt t l)
/-- the candidates -/
def roseL (t : Gn) (l : List Int) : List (List Int) := lessTo t l l.length

theorem lessTo_zero (t : Gn) (l : List Int) : lessTo t l 0 = [] := rfl
theorem lessTo_succ (t : Gn) (l : List Int) (k : Nat) : lessTo t l (k + 1) = lessTo t l k ++ lessAt t l k := by
  unfold lessTo
  rw [List.range_succ, List.flatMap_append, List.flatMap_singleton]
theorem lessAt_four (t : Gn) (l : List Int) (i : Nat) (h : 0 < l.getD i 0) : lessAt t l i = keptL t l (l.set i 0) ++ keptL t l (l.set i (l.getD i 0 / 2)) ++ keptL t l (l.set i (l.getD i 0 - 1)) ++ keptL t l (lackL l i) := by
  unfold lessAt triesL
  rw [if_pos h]
  simp [List.append_assoc]
theorem lessAt_one (t : Gn) (l : List Int) (i : Nat) (h : ¬ 0 < l.getD i 0) : lessAt t l i = keptL t l (lackL l i) := by
  unfold lessAt triesL
  rw [if_neg h]
  simp
theorem kept_len (t : Gn) (l x : List Int) : (keptL t l x).length ≤ 1 := by unfold keptL; split <;> simp
theorem lessAt_len (t : Gn) (l : List Int) (i : Nat) : (lessAt t l i).length ≤ 4 := by
  by_cases h : 0 < l.getD i 0
  · rw [lessAt_four t l i h]
    have a := kept_len t l (l.set i 0)
    have b := kept_len t l (l.set i (l.getD i 0 / 2))
    have c := kept_len t l (l.set i (l.getD i 0 - 1))
    have d := kept_len t l (lackL l i)
    simp only [List.length_append]
    omega
  · rw [lessAt_one t l i h]
    have d := kept_len t l (lackL l i)
    omega
theorem lessTo_len (t : Gn) (l : List Int) : ∀ k, (lessTo t l k).length ≤ 4 * k
  | 0 => by simp [lessTo_zero]
  | k + 1 => by
    rw [lessTo_succ, List.length_append]
    have := lessTo_len t l k
    have := lessAt_len t l k
    omega
theorem rose_len (t : Gn) (l : List Int) : (roseL t l).length ≤ 4 * l.length := lessTo_len t l l.length
theorem kept_mem {t : Gn} {l x y : List Int} (h : y ∈ keptL t l x) : y = mendL t x ∧ lessL y l = true := by
  unfold keptL at h
  split at h
  · rename_i hl
    have : y = mendL t x := by simpa using h
    subst this
    exact ⟨rfl, hl⟩
  · cases h
theorem rose_mem {t : Gn} {l y : List Int} (h : y ∈ roseL t l) : (∃ x, y = mendL t x) ∧ lessL y l = true := by
  unfold roseL lessTo at h
  obtain ⟨i, _, h1⟩ := List.mem_flatMap.1 h
  unfold lessAt at h1
  obtain ⟨x, _, h2⟩ := List.mem_flatMap.1 h1
  obtain ⟨h3, h4⟩ := kept_mem h2
  exact ⟨⟨x, h3⟩, h4⟩
theorem lack_len (l : List Int) (i : Nat) : (lackL l i).length ≤ l.length := by
  unfold lackL
  simp only [List.length_append, List.length_take, List.length_drop]
  omega
theorem lack_len' (l : List Int) (i : Nat) (h : i < l.length) : (lackL l i).length + 1 = l.length := by
  unfold lackL
  simp only [List.length_append, List.length_take, List.length_drop]
  omega
/-- each can be played -/
theorem rep_mend {t : Gn} (h0 : genV t = 0) (x : List Int) : ∃ v, repV t (mendL t x) = .ok v := by
  obtain ⟨v, r, h1, _⟩ := mend_run (t := t) x h0
  refine ⟨v, ?_⟩
  have h2 := mend_read (gen_right h0).1 h1 []
  rw [List.append_nil] at h2
  unfold repV repG
  rw [if_pos h0, h2]
  rfl
theorem rose_facts {t : Gn} (h0 : genV t = 0) (l : List Int) : (roseL t l).length ≤ 4 * l.length ∧ ∀ y ∈ roseL t l, (∃ v, repV t y = .ok v) ∧ lessL y l = true ∧ y.length ≤ 1399680 := by
  refine ⟨rose_len t l, fun y hy => ?_⟩
  obtain ⟨⟨x, rfl⟩, h2⟩ := rose_mem hy
  obtain ⟨_, _, _, hl⟩ := mend_run (t := t) x h0
  exact ⟨rep_mend h0 x, h2, hl⟩
/-- what can be played is mended as it is -/
theorem rep_own {t : Gn} {l : List Int} (h : errI (repV t l) = 0) : genV t = 0 ∧ mendL t l = l := by
  unfold repV at h
  by_cases h0 : genV t = 0
  · rw [if_pos h0] at h
    refine ⟨h0, ?_⟩
    obtain ⟨v, r, h1, _⟩ := mend_run (t := t) l h0
    have h3 := read_own (gen_right h0).1 h1
    refine h3.1 ?_
    unfold repG at h
    cases hp : play readC t l with
    | error e =>
      rw [hp] at h
      have h : e = 0 := h
      rcases play_err t l e hp with h' | h' <;> omega
    | ok p =>
      obtain ⟨c, v', r'⟩ := p
      rw [hp] at h
      by_cases hr' : r' = []
      · subst hr'; exact ⟨c, v', rfl⟩
      · have h : errI (if r' = [] then Except.ok v' else Except.error 3) = 0 := h
        rw [if_neg hr'] at h
        have h : (3 : Int) = 0 := h
        omega
  · rw [if_neg h0] at h
    exact absurd h h0
/-- what Less tells -/
def roseE (t : Gn) (l : List Int) : Int := errI (repV t l)
def roseV (t : Gn) (l : List Int) : List (List Int) := if roseE t l = 0 then roseL t l else []
theorem rep_facts {t : Gn} {l : List Int} (h : roseE t l = 0) : genV t = 0 ∧ l.length ≤ 1399680 ∧ ∀ x ∈ l, 0 ≤ x ∧ x ≤ 1000 := by
  obtain ⟨h0, h1⟩ := rep_own h
  obtain ⟨v, r, h2, h3⟩ := mend_run (t := t) l h0
  have h4 := mend_within (gen_right h0).1 (small30 h0) h2
  rw [h1] at h3 h4
  exact ⟨h0, h3, h4⟩
end Go.Proofs.YtabkihellcflhaaGreatDoor.Gens
