/- The program's nth, nthOfAll: the tape of a number. Conditions: there is one. -/
import Derived.Test.YtboecgbgcbkcjaaFollow
namespace Go.Proofs.Ytboecgbgcbkcjaa.Gens
open Go.RowKit Lists Ints Vals
set_option linter.unusedVariables false

theorem own_one {w : World} {b : Nat} {x : Int} (h : w.heap[b]? = some (.cells #[.int .i64 x] 3 (0, 0))) : Own w b (some ⟨b, 0, none⟩) 1 [x] :=
  ⟨rfl, .inr ⟨b, 1, #[.int .i64 x], rfl, Nat.le_refl _, h, Nat.le_refl _, by decide, rfl, rfl⟩⟩
theorem own_base {w : World} {base base' c : Nat} {A : Option Addr} {z : List Int} (h : Own w base A c z) (hb : base' ≤ base) : Own w base' A c z := by
  refine ⟨h.1, ?_⟩
  rcases h.2 with h0 | ⟨g, cap, cur, he, hb', h1⟩
  · exact .inl h0
  · exact .inr ⟨g, cap, cur, he, Nat.le_trans hb hb', h1⟩
/-- a tape of its own -/
def NPost (w : World) (z : List Int) (e : Ending) (w' : World) : Prop := ∃ (A : Option Addr) (c : Nat), e = .returned (.slice A z.length c) ∧ Own w' w.heap.size A c z ∧ Below w.heap.size w w'
def NthOK (n : Nat) : Prop := ∀ (t : Gn) (v : Value) (B i : Nat) (w : World), GAt w (GBel B) n v t → B ≤ w.heap.size → Fine t → (enG t).cnt ≤ 1048576 → i < (enG t).cnt → Calls Try.prog 15 #[v, .int .i64 i] w (NPost w ((enG t).nth i))
theorem nth_len {t : Gn} (hf : Fine t) {i : Nat} (hi : i < (enG t).cnt) : ((enG t).nth i).length ≤ 1399680 := by
  obtain ⟨v, h⟩ := (good_gen t hf.1).tape i hi
  exact Nat.le_trans (play_long read_bounded t hf.1 _ _ _ _ h) (small_long hf.2)
theorem all_nth (g : Gn) (r : List Gn) (i : Nat) : (allE ((g :: r).map enG)).nth i = (enG g).nth (i / cn r) ++ (allE (r.map enG)).nth (i % cn r) := rfl
theorem tdiv_nat (a b : Nat) : (a : Int).tdiv (b : Int) = ((a / b : Nat) : Int) := rfl
theorem tmod_nat (a b : Nat) : (a : Int).tmod (b : Int) = ((a % b : Nat) : Int) := rfl

set_option maxHeartbeats 4000000 in
set_option maxRecDepth 100000 in
theorem nth_all (n : Nat) (ih : NthOK n) {l : List Gn} {A : Option Addr} {c B : Nat} (w : World) (h : GsAt w B n A l) (hB : B ≤ w.heap.size) (hlc : l.length ≤ c) (hl : l.length ≤ 30) (hf : ∀ x ∈ l, Fine x) (hc : cn l ≤ 1048576) (i : Nat) (hi : i < cn l) :
    Calls Try.prog 23 #[.slice A l.length c, .int .i64 i] w (NPost w ((allE (l.map enG)).nth i)) := by
  have HIT := Lib.hid h
  have HB := Lib.hid hB
  have HF := Lib.hid hf
  have HC := Lib.hid hc
  have HI := Lib.hid hi
  have IH := Lib.hid ih
  have hi2 : i ≤ 1048576 := by omega
  clear h hB hf hc hi ih
  go_enter Try.func23, Try.ntmps23
  go_wp2_with fail
  go_loopw [1, 5, 11] (fun x y u wr => ∃ (k i' : Nat) (A' : Option Addr) (c' : Nat) (z : List Int), k ≤ l.length ∧ u = .int .i64 k ∧ x = .int .i64 i' ∧ i' ≤ 1048576 ∧ y = .slice A' z.length c' ∧ Hid (i' < cn (l.drop k)) ∧ Hid ((allE (l.map enG)).nth i = z ++ (allE ((l.drop k).map enG)).nth i') ∧ z.length ≤ k * 1399680 ∧ Hid (Own wr w.heap.size A' c' z) ∧ Hid (Below w.heap.size w wr)) (fun _ _ u _ => l.length - (intOf u).toNat)
  case atStart => exact ⟨0, i, none, 0, [], Nat.zero_le _, rfl, rfl, hi2, rfl, HI.out, (show _ = [] ++ (allE ((l.drop 0).map enG)).nth i from rfl), Nat.le_refl _, Own.none, Below.refl _ _⟩
  case round =>
    obtain ⟨k, i', A', c', z, hk, rfl, rfl, hi', rfl, HI', HZ, hzl, HO, HWW⟩ := hrel
    by_cases hlt : k < l.length
    · obtain ⟨ib, off, D, d, rfl, c0, c1, c2, c3, hti⟩ := sub_as HIT.out (HWW.out.mono HB.out) k hlt
      have hfi : Fine (l[k]'hlt) := HF.out _ (List.getElem_mem hlt)
      have hfd : ∀ x ∈ l.drop (k + 1), Fine x := fun x hx => HF.out x (List.mem_of_mem_drop hx)
      have hcd := (cn_le HF.out (k + 1)).2
      have hci := cn_mem HF.out k hlt
      have hcp := cn_pos hfd
      have ba := bel1 wr (gc (l[k]'hlt) D d)
      have bsz : B ≤ wr.heap.size := Nat.le_trans HB.out HWW.out.size
      have hga := (HIT.out.below (HWW.out.mono HB.out)).drop (k + 1)
      have hgb : c = k + 1 → GsAt wr B n (some ⟨ib, off, none⟩) (l.drop (k + 1)) := fun hck => by
        rw [List.drop_eq_nil_of_le (by omega)]; exact GsAt.nil
      have RCA := rcount_all (c := c - (k + 1)) (wr.alloc (gc (l[k]'hlt) D d)) (hga.below (ba.mono bsz)) (by simp; omega) (by simp; omega) hfd (by have := HC.out; omega)
      have RCB := fun (h : c = k + 1) => by
        have := rcount_all (c := 0) (wr.alloc (gc (l[k]'hlt) D d)) ((hgb h).below (ba.mono bsz)) (by simp; omega) (by simp; omega) hfd (by have := HC.out; omega)
        rw [List.length_drop, show l.length - (k + 1) = 0 by omega] at this
        exact this
      rw [List.length_drop] at RCA
      have hq : i' / cn (l.drop (k + 1)) < (enG (l[k]'hlt)).cnt := (Nat.div_lt_iff_lt_mul (by omega)).2 (by have := HI'.out; rw [cn_drop l k hlt] at this; exact this)
      have hmd : i' % cn (l.drop (k + 1)) < cn (l.drop (k + 1)) := Nat.mod_lt _ (by omega)
      have hnl := nth_len hfi hq
      have hcb : cn (l.drop (k + 1)) ≤ 1048576 := by have := HC.out; omega
      have hz2 : (allE (l.map enG)).nth i = (z ++ (enG (l[k]'hlt)).nth (i' / cn (l.drop (k + 1)))) ++ (allE ((l.drop (k + 1)).map enG)).nth (i' % cn (l.drop (k + 1))) := by
        rw [HZ.out, List.drop_eq_getElem_cons hlt, all_nth, List.append_assoc]
      have NT := Lib.hid (fun (W : World) (hb : Below wr.heap.size wr W) => IH.out (l[k]'hlt) _ B (i' / cn (l.drop (k + 1))) W (hti.below (hb.mono bsz)) (Nat.le_trans bsz hb.size) hfi (by have := HC.out; omega) hq)
      have MD := Lib.hid hmd
      have BA := Lib.hid ba
      have hNL := Lib.hid hnl
      have HZ2 := Lib.hid hz2
      have RCA := Lib.hid RCA
      have RCB := Lib.hid RCB
      have g0 := Lib.hid (fun (W : World) (hb : Below (wr.alloc (gc (l[k]'hlt) D d)).heap.size (wr.alloc (gc (l[k]'hlt) D d)) W) => gbox wr W _ _ _ _ hb)
      clear hti hfi hfd hcd hci bsz hga hgb hq hmd hnl hz2 ba HZ
      generalize (enG (l[k]'hlt)).nth (i' / cn (l.drop (k + 1))) = zn at *
      generalize l[k]'hlt = y at *
      generalize hr : cn (l.drop (k + 1)) = r at *
      have HR := Lib.hid hr
      clear hr
      have hdv : i' / r ≤ 1048576 := Nat.le_trans (Nat.div_le_self _ _) hi'
      have hmo : i' % r ≤ 1048576 := Nat.le_trans (Nat.mod_le _ _) hi'
      by_cases hck : c = k + 1
      all_goals (
        (try subst hck)
        go_wp2_with fail
        first
          | ((with_reducible refine RCA.out.mono ?_))
          | ((with_reducible refine (RCB.out (by first | trivial | rfl)).mono ?_))
        rintro e w2 ⟨rfl, hb2⟩
        obtain ⟨k0, k1, k2, k3⟩ := g0.out w2 hb2
        have B2 := Lib.hid (below_trans BA.out hb2)
        have NT2 := NT.out w2.drew B2.out.drew
        rw [Int.natCast_ediv] at NT2
        have NT2 := Lib.hid NT2
        have HO2 := Lib.hid (HO.out.below B2.out.drew)
        have HWW2 := Lib.hid (HWW.out.trans (B2.out.drew.mono HWW.out.size))
        clear RCA RCB g0 hb2 NT
        have hr0 : ¬ r = 0 := by omega
        have wd : IntKind.i64.wrap ((i' : Int) / (r : Int)) = (i' : Int) / (r : Int) := by rw [← Int.natCast_ediv]; have h0 : (0 : Int) ≤ ((i' / r : Nat) : Int) := Int.natCast_nonneg _; exact IntWalk.i64_in _ ⟨by omega, by omega⟩
        go_wp2_with fail
        go_region_law (first
          | (go_simp
             with_reducible refine NT2.out.mono ?_
             rintro e w3 ⟨A3, c3, rfl, own3, hb3⟩
             have O3 := Lib.hid own3
             have P3 := Lib.hid (HO2.out.below hb3)
             have W3 := Lib.hid (HWW2.out.trans (hb3.mono HWW2.out.size))
             clear own3 hb3)
          | (refine step_append_ints (by rfl) (.tmp 21) (.tmp 26) (by rfl) w.heap.size c' A' z P3.out w3.heap.size A3 c3 zn O3.out.at_ (by rfl) (by rfl) (by have := hNL.out; omega) W3.out.size ?_
             intro A4 c4 w4 z4 hz4 own4 g4 r4
             have W4 := Lib.hid (W3.out.grown g4 W3.out.size P3.out.ge)
             have O4 := Lib.hid own4
             have L4 := Lib.hid (show z4.length ≤ (k + 1) * 1399680 by rw [hz4.out, List.length_append]; have := hNL.out; omega)
             clear own4 g4 r4))
        all_goals (
          go_wp2_with fail
          go_roundw
          case rel => exact ⟨k + 1, i' % r, A4, c4, z4, hlt, by go_num, rfl, hmo, rfl, (show i' % r < cn (l.drop (k + 1)) by rw [HR.out]; exact MD.out), (show (allE (l.map enG)).nth i = z4 ++ (allE ((l.drop (k + 1)).map enG)).nth (i' % r) by rw [hz4.out]; exact HZ2.out), L4.out, O4.out, W4.out⟩
          case measure => simp [intOf]; omega))
    · have hr := Lib.hid (show (allE (l.map enG)).nth i = z by
        rw [HZ.out, List.drop_eq_nil_of_le (by omega)]; exact List.append_nil z)
      go_wp2_with fail
      go_ret
      exact ⟨A', c', by rw [hr.out]; rfl, by rw [hr.out]; exact HO.out, HWW.out⟩

theorem branch_cnt {t : Gn} (hf : Fine t) (hk : t.kind = 4 ∨ t.kind = 5) (j : Nat) (hj : j < (branches t).length) : ((branches t)[j]'hj).cnt = cn (follow t j) ∧ ∀ i, ((branches t)[j]'hj).nth i = (allE ((follow t j).map enG)).nth i := by
  rw [branch_get hf.1 hk j hj]; exact ⟨rfl, fun _ => rfl⟩
theorem follow_fine {t : Gn} (hf : Fine t) (hk : t.kind = 4 ∨ t.kind = 5) (j : Nat) : ∀ x ∈ follow t j, Fine x := fun x hx => hf.subs x (follow_right hf.1 hk j x hx)
theorem follow_len {t : Gn} (hf : Fine t) (hk : t.kind = 4 ∨ t.kind = 5) (j : Nat) (hj : j < (branches t).length) : (follow t j).length ≤ 30 ∧ j ≤ 1048576 := by
  rw [branch_len hf.1 hk] at hj
  have h1 := hf.size
  have hm := right_max (k := t.kind) (a := t.a) (b := t.b) (subs := t.subs) (by cases t; exact hf.1)
  have h2 := glen_sizes t.subs
  rw [gsize_subs] at h1
  unfold follow
  rcases hk with hk | hk
  · obtain ⟨m0, m5, _⟩ := hm.2.2.1 hk
    rw [if_pos hk] at hj ⊢
    rw [List.length_replicate]
    omega
  · rw [if_neg (by omega)] at hj ⊢
    have : ((t.subs.drop j).take 1).length ≤ 1 := List.length_take_le _ _
    omega
/-- what is left of the branches -/
theorem choose_drop {L : List En} {c i : Nat} (h : i < chooseC (L.drop c)) : ∃ hc : c < L.length, chooseC (L.drop c) = (L[c]'hc).cnt + chooseC (L.drop (c + 1)) ∧ chooseN c (L.drop c) i = if i < (L[c]'hc).cnt then (c : Int) :: (L[c]'hc).nth i else chooseN (c + 1) (L.drop (c + 1)) (i - (L[c]'hc).cnt) := by
  have hc : c < L.length := by
    rcases Nat.lt_or_ge c L.length with h1 | h1
    · exact h1
    · rw [List.drop_eq_nil_of_le h1] at h; simp [chooseC] at h
  refine ⟨hc, ?_, ?_⟩
  · rw [List.drop_eq_getElem_cons hc, chooseC]
  · rw [List.drop_eq_getElem_cons hc, chooseN]
theorem chooseC_drop (l : List En) (j : Nat) : chooseC (l.drop j) ≤ chooseC l := by
  have := chooseC_app (l.take j) (l.drop j)
  rw [List.take_append_drop] at this
  omega

set_option maxHeartbeats 8000000 in
set_option maxRecDepth 100000 in
theorem nth_any : ∀ n, NthOK n := by
  intro n
  induction n with
  | zero => intro t v B i w h; exact h.elim
  | succ n ih =>
    intro t v B i w h hB hf hc hi
    obtain ⟨m, A, c, e, hw, rfl, hit⟩ := h.open_
    obtain rfl : n = m := by omega
    have hcap := h.cap_
    have b1 := bel1 w (gc t A c)
    have hln : t.subs.length ≤ 30 := by have := glen_sizes t.subs; have h3 := gsize_subs t; have := hf.size; omega
    have hi2 : i ≤ 1048576 := by omega
    have hnl := nth_len hf hi
    have H := Lib.hid h
    have HB := Lib.hid hB
    have HF := Lib.hid hf
    have HC := Lib.hid hc
    have HI := Lib.hid hi
    have IH := Lib.hid ih
    have B1 := Lib.hid b1
    have HIT := Lib.hid (show GsAt w B n A t.subs from hit)
    have hm := right_max (k := t.kind) (a := t.a) (b := t.b) (subs := t.subs) (by cases t; exact hf.1)
    clear h hB hf hc hi ih b1 hit e hw
    cases t with | node k a b subs =>
    simp only [Gn.kind, Gn.a, Gn.b, Gn.subs] at *
    change Calls Try.prog 15 #[.agg #[.int .i64 k, .int .i64 a, .int .i64 b, .slice A subs.length c], .int .i64 i] w _
    rcases (show k = 1 ∨ k = 2 ∨ k = 3 ∨ k = 4 ∨ k = 5 by omega) with rfl | rfl | rfl | h45
    · have EV := Lib.hid (show (enG (.node 1 a b subs)).nth i = [] by rw [enG_just]; rfl)
      go_enter Try.func15, Try.ntmps15
      go_wp2_with fail
      go_ret
      exact ⟨none, 0, by rw [EV.out]; rfl, by rw [EV.out]; exact Own.none, B1.out⟩
    · have EV := Lib.hid (show (enG (.node 2 a b subs)).nth i = [(i : Int)] by rw [enG_int]; rfl)
      have W2 : Below w.heap.size w ((w.alloc (.cells #[.int .i64 2, .int .i64 a, .int .i64 b, .slice A subs.length c] 24)).alloc (.cells #[.int .i64 i] 3)) := B1.out.trans ((bel1 _ _).mono B1.out.size)
      have O2 := own_base (own_one (new_obj (w.alloc (.cells #[.int .i64 2, .int .i64 a, .int .i64 b, .slice A subs.length c] 24)) (.cells #[.int .i64 i] 3))) B1.out.size
      have z1 : (w.alloc (.cells #[.int .i64 2, .int .i64 a, .int .i64 b, .slice A subs.length c] 24)).heap.size = w.heap.size + 1 := by simp
      rw [z1] at O2
      clear z1
      have W2 := Lib.hid W2
      have O2 := Lib.hid O2
      go_enter Try.func15, Try.ntmps15
      go_wp2_with fail
      go_ret
      exact ⟨some ⟨w.heap.size + 1, 0, none⟩, 1, by rw [EV.out]; rfl, by rw [EV.out]; exact O2.out, W2.out⟩
    · have EV := Lib.hid (enG_both a b subs)
      have hcn : (enG (.node 3 a b subs)).cnt = cn subs := by rw [EV.out]; rfl
      have NA := nth_all n IH.out (w.alloc (.cells #[.int .i64 3, .int .i64 a, .int .i64 b, .slice A subs.length c] 24)) (HIT.out.below (B1.out.mono HB.out)) (by have := HB.out; simp; omega) hcap hln (HF.out.subs) (by rw [← hcn]; exact HC.out) i (by rw [← hcn]; exact HI.out)
      have NA := Lib.hid NA
      clear hcn
      go_enter Try.func15, Try.ntmps15
      go_wp2_with fail
      refine NA.out.mono ?_
      rintro e w2 ⟨A2, c2, rfl, own2, hb2⟩
      have O2 := Lib.hid (own_base own2 B1.out.size)
      have W2 := Lib.hid (B1.out.trans (hb2.mono B1.out.size))
      clear own2 hb2
      go_wp2_with fail
      go_ret
      exact ⟨A2, c2, by rw [EV.out]; rfl, by rw [EV.out]; exact O2.out, W2.out⟩
    · have hk5 : (Gn.node k a b subs).kind = 4 ∨ (Gn.node k a b subs).kind = 5 := h45
      have FO := Lib.hid (fun (W : World) (hb : Below w.heap.size w W) (j : Nat) (hj : j < (branches (.node k a b subs)).length) => show Calls Try.prog 24 #[.agg #[.int .i64 k, .int .i64 a, .int .i64 b, .slice A subs.length c], .int .i64 j] W (FPost W n (follow (.node k a b subs) j)) from following_ok (k := k) (a := a) (b := b) (subs := subs) (j := j) W (H.out.below (hb.mono HB.out)) (Nat.le_trans HB.out hb.size) HF.out h45 hj)
      have CT := Lib.hid (show chooseC (branches (.node k a b subs)) ≤ 1048576 ∧ i < chooseC (branches (.node k a b subs)) by
        have h1 := HC.out; have h2 := HI.out; rw [enG_choose _ hk5] at h1 h2; exact ⟨h1, h2⟩)
      have EV := Lib.hid (show (enG (.node k a b subs)).nth i = chooseN 0 (branches (.node k a b subs)) i by rw [enG_choose _ hk5]; rfl)
      have BC := Lib.hid (fun j hj => branch_cnt HF.out hk5 j hj)
      have FF := Lib.hid (fun j => follow_fine HF.out hk5 j)
      have FL := Lib.hid (fun j hj => follow_len HF.out hk5 j hj)
      have G1 := Lib.hid (new_obj w (.cells #[.int .i64 k, .int .i64 a, .int .i64 b, .slice A subs.length c] 24))
      have NA := Lib.hid (fun (l : List Gn) (A : Option Addr) (c : Nat) (W : World) (hg : GsAt W W.heap.size n A l) (hlc : l.length ≤ c) (hl : l.length ≤ 30) (hf : ∀ x ∈ l, Fine x) (hc : cn l ≤ 1048576) (i : Nat) (hi : i < cn l) => nth_all n IH.out W hg (Nat.le_refl _) hlc hl hf hc i hi)
      have hkd : (k == 1) = false ∧ (k == 2) = false ∧ (k == 3) = false := by refine ⟨?_, ?_, ?_⟩ <;> simp <;> omega
      obtain ⟨kd1, kd2, kd3⟩ := hkd
      clear H HIT IH HC HI hm
      have K45 := Lib.hid h45
      clear hk5 h45
      go_enter Try.func15, Try.ntmps15
      go_wp2_with fail
      go_loopw [1, 5] (fun x y wr => ∃ (ch i' : Nat), y = .int .i64 ch ∧ x = .int .i64 i' ∧ i' ≤ 1048576 ∧ Hid (i' < chooseC ((branches (.node k a b subs)).drop ch)) ∧ Hid ((enG (.node k a b subs)).nth i = chooseN ch ((branches (.node k a b subs)).drop ch) i') ∧ Hid (G4 w.heap.size (.int .i64 k) (.int .i64 a) (.int .i64 b) (.slice A subs.length c) wr) ∧ Hid (Below w.heap.size w wr)) (fun _ y _ => (branches (.node k a b subs)).length - (intOf y).toNat)
      case atStart => exact ⟨0, i, rfl, rfl, hi2, CT.out.2, EV.out, G1.out, B1.out⟩
      case round =>
        obtain ⟨ch, i', rfl, rfl, hi', HI', HZ, HG, HWW⟩ := hrel
        obtain ⟨hch, e1, e2⟩ := choose_drop HI'.out
        obtain ⟨bc1, bc2⟩ := BC.out ch hch
        obtain ⟨fl1, fl2⟩ := FL.out ch hch
        have hqb : cn (follow (.node k a b subs) ch) ≤ 1048576 := by
          have h1 := chooseC_drop (branches (.node k a b subs)) ch
          have := CT.out.1
          omega
        rw [bc1] at e1 e2
        have hi2' := HI'.out
        rw [e1] at hi2'
        have hz := HZ.out
        rw [e2] at hz
        have FO1 := Lib.hid (FO.out wr HWW.out ch hch)
        have hff := FF.out ch
        have HE := Lib.hid (And.intro hi2' (And.intro hz bc2))
        have FL1 := Lib.hid (And.intro fl1 hff)
        have HCH := Lib.hid hch
        clear e1 e2 bc1 hi2' hz bc2 hff fl1
        generalize follow (.node k a b subs) ch = l2 at *
        obtain ⟨k0, k1, k2, k3⟩ := HG.out.facts
        go_wp2_with fail
        ((with_reducible refine FO1.out.mono ?_))
        rintro e w2 ⟨A2, c2, rfl, hlc, hgs, hb2⟩
        have B2 := Lib.hid (HWW.out.trans (hb2.mono HWW.out.size))
        have GS2 := Lib.hid (And.intro hlc hgs)
        have HG2 := Lib.hid (HG.out.below hb2)
        have RC := Lib.hid (rcount_all (c := c2) w2 hgs (Nat.le_refl _) (by have := FL1.out.1; omega) FL1.out.2 hqb)
        clear hlc hgs hb2 FO1 k0 k1 k2 k3
        go_wp2_with fail
        ((with_reducible refine RC.out.mono ?_))
        rintro e w3 ⟨rfl, hb3⟩
        have B3 := Lib.hid (B2.out.trans (hb3.mono B2.out.size))
        have HG3 := Lib.hid (HG2.out.below hb3)
        have GS3 := Lib.hid (GS2.out.2.later hb3)
        clear hb3 RC
        by_cases hlt : i' < cn l2
        · obtain ⟨h1, h2, h3⟩ := HE.out
          rw [if_pos hlt, h3] at h2
          have hlz : ((allE (l2.map enG)).nth i').length ≤ 1399680 := by rw [h2] at hnl; simp only [List.length_cons] at hnl; omega
          have hd : decide (i' < cn l2) = true := by rw [decide_eq_true_eq]; exact hlt
          have N1 := NA.out l2 A2 c2 (w3.alloc (.cells #[.int .i64 ch] 3)) (GS3.out.later (bel1 _ _)) GS2.out.1 FL1.out.1 FL1.out.2 hqb i' hlt
          have HZE := Lib.hid (show (enG (.node k a b subs)).nth i = [(ch : Int)] ++ (allE (l2.map enG)).nth i' from h2)
          have HLZ := Lib.hid hlz
          have O4 := Lib.hid (own_one (new_obj w3 (.cells #[.int .i64 ch] 3)))
          have B4 := Lib.hid (bel1 w3 (.cells #[.int .i64 ch] 3))
          clear h1 h2 h3 hlz hnl
          generalize (allE (l2.map enG)).nth i' = zr at *
          have N1 := Lib.hid N1
          go_wp2_with fail
          ((with_reducible refine N1.out.mono ?_))
          rintro e w5 ⟨A5, c5, rfl, own5, hb5⟩
          have P5 := Lib.hid (O4.out.below hb5)
          have O5 := Lib.hid own5.at_
          have B5 := Lib.hid (B3.out.trans ((B4.out.trans (hb5.mono B4.out.size)).mono B3.out.size))
          have Z5 := Lib.hid (show w3.heap.size ≤ w5.heap.size from Nat.le_trans B4.out.size hb5.size)
          clear own5 hb5 N1
          go_wp2_with (
            at_builtin
            refine wpList_append_ints rfl (.tmp 31) (.tmp 34) rfl w3.heap.size 1 (some ⟨w3.heap.size, 0, none⟩) [(ch : Int)] P5.out w5.heap.size A5 c5 zr O5.out rfl rfl (by have := HLZ.out; simp; omega) Z5.out ?_
            intro A6 c6 w6 z6 hz6 own6 g6 r6
            have O6 := Lib.hid (own_base own6 B3.out.size)
            have B6 := Lib.hid (B5.out.grown g6 B5.out.size (fun g hg => Nat.le_trans B3.out.size (P5.out.ge g hg)))
            clear own6 g6 r6)
          go_ret
          exact ⟨A6, c6, by rw [HZE.out, ← hz6.out]; rfl, by rw [HZE.out, ← hz6.out]; exact O6.out, B6.out⟩
        · obtain ⟨h1, h2, h3⟩ := HE.out
          rw [if_neg hlt] at h2
          have hd : decide (i' < cn l2) = false := by rw [decide_eq_false_iff_not]; exact hlt
          have hsub : ((i' : Int) - (cn l2 : Int)) = ((i' - cn l2 : Nat) : Int) := by omega
          have HS := Lib.hid hsub
          have HI2 := Lib.hid (show i' - cn l2 < chooseC ((branches (.node k a b subs)).drop (ch + 1)) by omega)
          have HZ2 := Lib.hid h2
          have hi3 : i' - cn l2 ≤ 1048576 := by omega
          clear h1 h2 h3 hsub HE
          generalize cn l2 = q at *
          go_wp2_with fail
          go_roundw
          case rel => exact ⟨ch + 1, i' - q, by go_num, by rw [HS.out], hi3, HI2.out, HZ2.out, HG3.out, B3.out⟩
          case measure => have := HCH.out; simp [intOf]; omega
end Go.Proofs.Ytboecgbgcbkcjaa.Gens
