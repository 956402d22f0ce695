/- TopFails, part 15 of the proof: The program's value of an Any, and of every generator. Conditions: a small generator. -/
import Derived.Test.YtabkihellcflhaaGreatDoorTopFailsZ14
/- The program's value of an Any, and of every generator. Conditions: a small generator. -/
namespace Go.Proofs.YtabkihellcflhaaGreatDoor.Gens
open Go.RowKit Lists Ints Vals
set_option linter.unusedVariables false
attribute [local go_sem ↓] Go.wp_at_zero Go.wp_at_succ

theorem sub_as2 {w wr : World} {B n ib off : Nat} {l : List Gn}
    (hit : 0 < l.length → ∃ b o, some (⟨ib, off, none⟩ : Addr) = some ⟨b, o, none⟩ ∧ GBel B b ∧ ∀ j (h : j < l.length), ∃ x0 x1 x2 x3, w.cell? ⟨b, o + j * 4, none⟩ = some x0 ∧ w.cell? ⟨b, o + j * 4 + 1, none⟩ = some x1 ∧ w.cell? ⟨b, o + j * 4 + 2, none⟩ = some x2 ∧ w.cell? ⟨b, o + j * 4 + 3, none⟩ = some x3 ∧ GAt w (GBel B) n (.agg #[x0, x1, x2, x3]) (l[j]'h))
    (hb : Below B w wr) (k : Nat) (h : k < l.length) : ∃ D d, wr.cell? ⟨ib, off + k * 4, none⟩ = some (.int .i64 (l[k]'h).kind) ∧ wr.cell? ⟨ib, off + k * 4 + 1, none⟩ = some (.int .i64 (l[k]'h).a) ∧ wr.cell? ⟨ib, off + k * 4 + 2, none⟩ = some (.int .i64 (l[k]'h).b) ∧ wr.cell? ⟨ib, off + k * 4 + 3, none⟩ = some (.slice D (l[k]'h).subs.length d) ∧
      GAt wr (GBel B) n (gv (l[k]'h) D d) (l[k]'h) := by
  obtain ⟨b, o, D, d, e, h1⟩ := sub_as hit hb k h
  simp only [Option.some.injEq, Addr.mk.injEq, and_true] at e
  obtain ⟨rfl, rfl⟩ := e
  exact ⟨D, d, h1⟩
theorem far3 (w : World) {rb b : Nat} (h : b ≠ rb) (o : Nat) (y0 y1 y2 : Value) : (((w.setCell ⟨rb, 0, none⟩ y0).setCell ⟨rb, 1, none⟩ y1).setCell ⟨rb, 2, none⟩ y2).cell? ⟨b, o, none⟩ = w.cell? ⟨b, o, none⟩ :=
  World.cell?_of_block ((Below.heap_setCell _ ⟨rb, 2, none⟩ _ b h).trans ((Below.heap_setCell _ ⟨rb, 1, none⟩ _ b h).trans (Below.heap_setCell _ ⟨rb, 0, none⟩ _ b h)))
/-- the sub at a place -/
def subN (l : List Gn) (m : Nat) : Gn := l.getD m default
theorem subN_get {l : List Gn} {m : Nat} (h : m < l.length) : subN l m = l[m]'h := by simp [subN, List.getD, h]
/-- where the subs' own subs lie -/
theorem subs_all {w : World} {B n ib off : Nat} {l : List Gn}
    (hit : 0 < l.length → ∃ b o, some (⟨ib, off, none⟩ : Addr) = some ⟨b, o, none⟩ ∧ GBel B b ∧ ∀ j (h : j < l.length), ∃ x0 x1 x2 x3, w.cell? ⟨b, o + j * 4, none⟩ = some x0 ∧ w.cell? ⟨b, o + j * 4 + 1, none⟩ = some x1 ∧ w.cell? ⟨b, o + j * 4 + 2, none⟩ = some x2 ∧ w.cell? ⟨b, o + j * 4 + 3, none⟩ = some x3 ∧ GAt w (GBel B) n (.agg #[x0, x1, x2, x3]) (l[j]'h)) :
    ∃ (D : Nat → Option Addr) (d : Nat → Nat), ∀ m, m < l.length → ∀ wr, Below B w wr → (wr.cell? ⟨ib, off + m * 4, none⟩ = some (.int .i64 (subN l m).kind) ∧ wr.cell? ⟨ib, off + m * 4 + 1, none⟩ = some (.int .i64 (subN l m).a) ∧ wr.cell? ⟨ib, off + m * 4 + 2, none⟩ = some (.int .i64 (subN l m).b) ∧ wr.cell? ⟨ib, off + m * 4 + 3, none⟩ = some (.slice (D m) (subN l m).subs.length (d m))) ∧
      GAt wr (GBel B) n (gv (subN l m) (D m) (d m)) (subN l m) := by
  have : ∀ m, ∃ p : Option Addr × Nat, m < l.length → ∀ wr, Below B w wr → (wr.cell? ⟨ib, off + m * 4, none⟩ = some (.int .i64 (subN l m).kind) ∧ wr.cell? ⟨ib, off + m * 4 + 1, none⟩ = some (.int .i64 (subN l m).a) ∧ wr.cell? ⟨ib, off + m * 4 + 2, none⟩ = some (.int .i64 (subN l m).b) ∧ wr.cell? ⟨ib, off + m * 4 + 3, none⟩ = some (.slice p.1 (subN l m).subs.length p.2)) ∧
      GAt wr (GBel B) n (gv (subN l m) p.1 p.2) (subN l m) := by
    intro m
    by_cases h : m < l.length
    · obtain ⟨D, d, c0, c1, c2, c3, ht⟩ := sub_as2 hit (Below.refl B w) m h
      rw [← subN_get h] at c0 c1 c2 c3 ht
      obtain ⟨b, o, e, hB, _⟩ := hit (by omega)
      simp only [Option.some.injEq, Addr.mk.injEq, and_true] at e
      obtain ⟨rfl, rfl⟩ := e
      exact ⟨(D, d), fun _ wr hb => ⟨⟨(hb.cell (p := ⟨ib, _, none⟩) hB).trans c0, (hb.cell (p := ⟨ib, _, none⟩) hB).trans c1, (hb.cell (p := ⟨ib, _, none⟩) hB).trans c2, (hb.cell (p := ⟨ib, _, none⟩) hB).trans c3⟩, ht.below hb⟩⟩
    · exact ⟨(none, 0), fun h' => absurd h' h⟩
  obtain ⟨f, hf⟩ := Classical.skolem.1 this
  exact ⟨fun m => (f m).1, fun m => (f m).2, hf⟩
section
variable {σ : Type} {ch : σ → Int → Except Int (Int × σ)} {k : Nat} {cap : Array Value} {B : Nat} {I : σ → (Nat → Prop) → World → Prop}
theorem VPost.through (S : Src ch k cap B I) {r : Except Int (List Int × Tr × σ)} {X X1 X2 : Nat → Prop} {w w1 w2 : World} {n rb : Nat} {c : List Int} {t : Tr} {s2 : σ} {A : Option Addr} {cc : Nat} {y0 y1 y2 : Value}
    (h : r = .ok (c, t, s2)) (hi : I s2 X2 w2) (hm1 : Mv X w w1 X1) (hm2 : Mv X1 w1 w2 X2) (ht : TAt w2 (fun b => w1.heap.size ≤ b ∧ b < w2.heap.size ∧ ¬ X2 b) n (tval t A cc) t) (hn : NFr A w2) (hB : B ≤ w.heap.size) (hlo : w.heap.size ≤ rb) (hhi : rb < w1.heap.size) (hx : ¬ X2 rb) :
    VPost I (n + 1) r X w (.returned (tval t A cc)) (((w2.setCell ⟨rb, 0, none⟩ y0).setCell ⟨rb, 1, none⟩ y1).setCell ⟨rb, 2, none⟩ y2) := by
  have hrb : B ≤ rb := Nat.le_trans hB hlo
  refine VPost.good h (S.set (S.set (S.set hi hrb hx 0 y0) hrb hx 1 y1) hrb hx 2 y2) (Mv.set (Mv.set (Mv.set (Mv.trans hm1 hm2) hlo 0 y0) hlo 1 y1) hlo 2 y2) (TAt.up (Nat.le_succ n) (ht.keep fun b ⟨h1, h2, h3⟩ => ⟨⟨Nat.le_trans hm1.size h1, by simpa [World.setCell] using h2, h3⟩, fun o => ?_⟩)) (NFr.set (NFr.set (NFr.set hn)))
  refine World.cell?_of_block ?_
  have hne : b ≠ rb := by omega
  exact (Below.heap_setCell _ ⟨rb, 2, none⟩ _ b hne).trans ((Below.heap_setCell _ ⟨rb, 1, none⟩ _ b hne).trans (Below.heap_setCell _ ⟨rb, 0, none⟩ _ b hne))

set_option maxHeartbeats 4000000 in
set_option maxRecDepth 100000 in
theorem value_any (S : Src ch k cap B I) (n : Nat) (ih : ValueOK ch k cap B I n) (a b : Int) (subs : List Gn) (A : Option Addr) (c : Nat) (s : σ) (X : Nat → Prop) (w : World) (hr : Right (.node 5 a b subs)) (hsz : (Gn.node 5 a b subs).size ≤ 30) (hI : I s X w) (hne : play ch (.node 5 a b subs) s ≠ .error 77)
    (hit : 0 < subs.length → ∃ b off, A = some ⟨b, off, none⟩ ∧ GBel B b ∧ ∀ j (h : j < subs.length), ∃ x0 x1 x2 x3, w.cell? ⟨b, off + j * 4, none⟩ = some x0 ∧ w.cell? ⟨b, off + j * 4 + 1, none⟩ = some x1 ∧ w.cell? ⟨b, off + j * 4 + 2, none⟩ = some x2 ∧ w.cell? ⟨b, off + j * 4 + 3, none⟩ = some x3 ∧ GAt w (GBel B) n (.agg #[x0, x1, x2, x3]) (subs[j]'h)) :
    Calls Tryz.prog 68 #[fv k cap, .agg #[.int .i64 5, .int .i64 a, .int .i64 b, .slice A subs.length c]] w (VPost I (n + 1) (play ch (.node 5 a b subs) s) X w) := by
  have hrs : ∀ g ∈ subs, Right g := hr.subs
  have hzs : subs.length ≤ 30 ∧ ∀ g ∈ subs, g.size ≤ 30 := by
    rw [Gn.size] at hsz
    exact ⟨by have := glen_sizes subs; omega, fun g hg => by have := gsize_mem subs g hg; omega⟩
  have hX : ∀ q, w.heap.size ≤ q → ¬ X q := fun q hq => S.not hI hq
  obtain ⟨hBw, hXB⟩ := S.lt s X w hI
  have hm1 := (right_max hr).2.1 rfl
  have hpos : 0 < subs.length := by omega
  obtain ⟨ib, off, rfl, hib, _⟩ := hit hpos
  have hib1 : ib ≠ w.heap.size + 1 := by have : ib < B := hib; omega
  clear hib
  have HB := Lib.hid (two_boxes w (.int .i64 5) (.int .i64 a) (.int .i64 b) (.slice (some ⟨ib, off, none⟩) subs.length c) (.bool false) (.int .i64 0) (.slice none 0 0))
  have hent := S.ent
  have IH := Lib.hid ih
  obtain ⟨D, d, hall⟩ := subs_all hit
  have HIT := Lib.hid hall
  have HRS := Lib.hid hrs
  have HZS := Lib.hid hzs
  have HXB := Lib.hid hXB
  have hln := hzs.1
  have hwr : IntKind.i64.wrap ((subs.length : Int) - 1) = (subs.length : Int) - 1 := wrap_small (by omega) (by omega)
  have HPC := Lib.hid (fun er (h : ch s ((subs.length : Int) - 1) = .error er) => show play ch (.node 5 a b subs) s = .error er by simp [play, h])
  have HPB := Lib.hid (fun (m : Nat) s1 er (hlt : m < subs.length) (h : ch s ((subs.length : Int) - 1) = .ok ((m : Int), s1)) (h2 : play ch (subN subs m) s1 = .error er) => show play ch (.node 5 a b subs) s = .error er by rw [subN_get hlt] at h2; simp [play, h, at_get _ _ _ hlt, h2])
  have HPG := Lib.hid (fun (m : Nat) s1 cs t s' (hlt : m < subs.length) (h : ch s ((subs.length : Int) - 1) = .ok ((m : Int), s1)) (h2 : play ch (subN subs m) s1 = .ok (cs, t, s')) => show play ch (.node 5 a b subs) s = .ok ((m : Int) :: cs, t, s') by rw [subN_get hlt] at h2; simp [play, h, at_get _ _ _ hlt, h2])
  have HNE := Lib.hid (show ch s ((subs.length : Int) - 1) ≠ .error 77 from fun e => hne (HPC.out 77 e))
  have HNB := Lib.hid (fun (m : Nat) s1 (hlt : m < subs.length) (h : ch s ((subs.length : Int) - 1) = .ok ((m : Int), s1)) (e : play ch (subN subs m) s1 = .error 77) => hne (HPB.out m s1 77 hlt h e))
  clear hne hrs hzs hr hsz ih hit hall hXB
  go_enter Tryz.func68, Tryz.ntmps68
  go_wp2_with fail
  generalize (w.alloc (.cells #[.int .i64 5, .int .i64 a, .int .i64 b, .slice (some ⟨ib, off, none⟩) subs.length c] 24)).alloc (.cells #[.bool false, .int .i64 0, .slice none 0 0] 47) = W at HB ⊢
  have HC := Lib.hid (S.call s X W.drew ((subs.length : Int) - 1) hm1 (by omega) (S.below hI (bel_drew HB.out.2.2.1)) HNE.out)
  obtain ⟨k0, k1, k2, k3⟩ := HB.out.1.facts
  have HWB := Lib.hid (show Below B w W from HB.out.2.2.1.mono hBw)
  have K0 := fun m (h : m < subs.length) => (HIT.out m h W HWB.out).1.1
  have K1 := fun m (h : m < subs.length) => (HIT.out m h W HWB.out).1.2.1
  have K2 := fun m (h : m < subs.length) => (HIT.out m h W HWB.out).1.2.2.1
  have K3 := fun m (h : m < subs.length) => (HIT.out m h W HWB.out).1.2.2.2
  go_region_held2 (fun w' => w'.cell? ⟨w.heap.size, 3, none⟩ = some (.slice (some ⟨ib, off, none⟩) subs.length c) ∧ (∀ m, m < subs.length → w'.cell? ⟨ib, off + m * 4, none⟩ = some (.int .i64 (subN subs m).kind)) ∧ (∀ m, m < subs.length → w'.cell? ⟨ib, off + m * 4 + 1, none⟩ = some (.int .i64 (subN subs m).a)) ∧ (∀ m, m < subs.length → w'.cell? ⟨ib, off + m * 4 + 2, none⟩ = some (.int .i64 (subN subs m).b)) ∧ (∀ m, m < subs.length → w'.cell? ⟨ib, off + m * 4 + 3, none⟩ = some (.slice (D m) (subN subs m).subs.length (d m)))) (first | exact ⟨(far3 w2 (by omega) _ _ _ _).trans i3, fun m h => (far3 w2 hib1 _ _ _ _).trans (M0 m h), fun m h => (far3 w2 hib1 _ _ _ _).trans (M1 m h), fun m h => (far3 w2 hib1 _ _ _ _).trans (M2 m h), fun m h => (far3 w2 hib1 _ _ _ _).trans (M3 m h)⟩ | exact ⟨i3, M0, M1, M2, M3⟩ | exact ⟨j3, L0, L1, L2, L3⟩ | exact ⟨k3, K0, K1, K2, K3⟩) (first
    | (with_reducible refine HC.out.mono ?_
       intro e w1 hs
       rcases hs.split with ⟨er, X', hc, rfl, hm1⟩ | ⟨x, s1, X1, hc, rfl, hi1, hm1⟩
       · exact ⟨rfl, VPost.bad (HPC.out er hc) (Mv.trans (Mv.of_below (bel_drew HB.out.2.2.1)) hm1)⟩
       have j3 := Mv.cell hm1 (v := .slice (some ⟨ib, off, none⟩) subs.length c) k3 (hX _ (Nat.le_refl _))
       have hb := S.bnd s _ x s1 (by omega) hc
       obtain ⟨m, rfl⟩ := Int.eq_ofNat_of_zero_le hb.1
       have hlt : m < subs.length := by omega
       have hlt2 : (m : Int) < (subs.length : Int) := by omega
       have hge2 : (0 : Int) ≤ (m : Int) := by omega
       have HMV := Lib.hid (show Mv X w w1 X1 from Mv.trans (Mv.of_below (bel_drew HB.out.2.2.1)) hm1)
       have HBB := Lib.hid (Mv.below HMV.out (fun b hb => (HXB.out b hb).1) hBw)
       have L0 := fun m (h : m < subs.length) => (HIT.out m h w1 HBB.out).1.1
       have L1 := fun m (h : m < subs.length) => (HIT.out m h w1 HBB.out).1.2.1
       have L2 := fun m (h : m < subs.length) => (HIT.out m h w1 HBB.out).1.2.2.1
       have L3 := fun m (h : m < subs.length) => (HIT.out m h w1 HBB.out).1.2.2.2
       have HV := Lib.hid (IH.out (subN subs m) _ s1 X1 w1 (HIT.out m hlt w1 HBB.out).2 (by rw [subN_get hlt]; exact HRS.out _ (List.getElem_mem hlt)) (by rw [subN_get hlt]; exact HZS.out.2 _ (List.getElem_mem hlt)) hi1 (HNB.out m s1 hlt hc))
       have HC1 := Lib.hid hc
       have HR1 := Lib.hid (And.intro (V3.mv HB.out.2.1 (Mv.trans (Mv.of_below (bel_drew (Below.refl _ _))) hm1) (hX _ (by omega))) (Mv.not hm1 (b := w.heap.size + 1) (by show w.heap.size + 1 < W.heap.size; rw [HB.out.2.2.2]; omega) (hX _ (by omega))))
       have hnx : ¬ X1 w.heap.size := Mv.not hm1 (b := w.heap.size) (by show w.heap.size < W.heap.size; rw [HB.out.2.2.2]; omega) (hX _ (by omega))
       have HPB := Lib.hid (fun er => HPB.out m s1 er hlt hc)
       have HPG := Lib.hid (fun cs t s' => HPG.out m s1 cs t s' hlt hc)
       clear hs hc hi1 hm1 hb)
    | (with_reducible refine HV.out.mono ?_
       intro e w2 hs
       rcases hs.split with ⟨er, X', hc, rfl, hm2⟩ | ⟨cs, t, s2, A3, cc3, X2, hc, rfl, hi2, hm2, ht2, hn2⟩
       · exact ⟨rfl, VPost.bad (HPB.out er hc) (Mv.trans HMV.out hm2)⟩
       have i3 := Mv.cell hm2 (v := .slice (some ⟨ib, off, none⟩) subs.length c) j3 hnx
       have HB2 := Lib.hid (Mv.below (Mv.trans HMV.out hm2) (fun b hb => (HXB.out b hb).1) hBw)
       have M0 := fun m (h : m < subs.length) => (HIT.out m h w2 HB2.out).1.1
       have M1 := fun m (h : m < subs.length) => (HIT.out m h w2 HB2.out).1.2.1
       have M2 := fun m (h : m < subs.length) => (HIT.out m h w2 HB2.out).1.2.2.1
       have M3 := fun m (h : m < subs.length) => (HIT.out m h w2 HB2.out).1.2.2.2
       have HR2 := Lib.hid (And.intro (V3.mv HR1.out.1 hm2 HR1.out.2) (Mv.not hm2 HR1.out.1.lt HR1.out.2))
       obtain ⟨z0, z1, z2, y0, y1, y2⟩ := HR2.out.1.facts
       have HN := Lib.hid (And.intro hc (And.intro hi2 (And.intro hm2 (And.intro ht2 hn2))))
       clear hs hc hi2 hm2 ht2 hn2))
  obtain ⟨hc, hi2, hm2, ht2, hn2⟩ := HN.out
  have V9 := V3.put HR2.out.1 (.bool t.list) (.int .i64 t.num) (.slice A3 t.items.length cc3)
  have T9 := Lib.hid (VPost.through S (n := n) (rb := w.heap.size + 1) (y0 := .bool t.list) (y1 := .int .i64 t.num) (y2 := .slice A3 t.items.length cc3) (HPG.out cs t s2 hc) hi2 HMV.out hm2 ht2 hn2 hBw (by omega) HR1.out.1.lt HR2.out.2)
  clear z0 z1 z2 y0 y1 y2 i3 j3 k0 k1 k2 k3 K0 K1 K2 K3 L0 L1 L2 L3 M0 M1 M2 M3 hc hi2 hm2 ht2 hn2 HN HR2 HR1 HV HC HPB HPG
  generalize ((w2.setCell ⟨w.heap.size + 1, 0, none⟩ (.bool t.list)).setCell ⟨w.heap.size + 1, 1, none⟩ (.int .i64 t.num)).setCell ⟨w.heap.size + 1, 2, none⟩ (.slice A3 t.items.length cc3) = W9 at V9 T9 ⊢
  obtain ⟨z0, z1, z2, _⟩ := V9.facts
  go_wp2_with fail
  refine bodyPost_ret (v := tval t A3 cc3) (by simp [results, Tryz.results68, go_sem, z0, z1, z2]) rfl ?_
  exact T9.out

/-- the program's value, of every right generator of few parts -/
theorem value_ok (S : Src ch k cap B I) : ∀ n, ValueOK ch k cap B I n := by
  intro n
  induction n with
  | zero => intro g v s X w h; exact h.elim
  | succ n ih =>
    intro g v s X w h hr hsz hI hne
    obtain ⟨m, A, c, e, hw, rfl, hit⟩ := h.open_
    obtain rfl : n = m := by omega
    cases g with | node kd a b subs =>
    obtain ⟨_, _, m4, k1, k5⟩ := right_max hr
    rcases (show kd = 1 ∨ kd = 2 ∨ kd = 3 ∨ kd = 4 ∨ kd = 5 by omega) with rfl | rfl | rfl | rfl | rfl
    · exact value_just S n a b subs A c s X w hr hI
    · exact value_int S n a b subs A c s X w hr hI hne
    · exact value_both S n ih a b subs A c s X w hr hsz hI hne hit
    · obtain ⟨_, _, h1⟩ := m4 rfl
      match subs, h1 with
      | [y], _ => exact value_many S n ih a b y A c s X w hr hsz hI hne hit
    · exact value_any S n ih a b subs A c s X w hr hsz hI hne hit
end
end Go.Proofs.YtabkihellcflhaaGreatDoor.Gens
