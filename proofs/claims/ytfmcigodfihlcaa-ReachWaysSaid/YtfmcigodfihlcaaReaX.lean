/-
  The document's May of a way; the statement of ways.
-/
import Derived.Test.YtfmcigodfihlcaaReaW
import Derived.Test.YtfmcigodfihlcaaReaU
namespace Go.Proofs.Ytfmcigodfihlcaa
open Go.RowKit PK
set_option linter.unusedVariables false
set_option linter.unusedSimpArgs false
attribute [local go_sem ↓] append_appM

set_option maxHeartbeats 8000000 in
set_option maxRecDepth 100000 in
theorem refMayWay_any (n : Int) (W : List Int) (s : Nat) (st : List Bool) (b : Bn) (ov lv wv : Value) (B BW : Nat) (w : World) (hB : B ≤ w.heap.size) (r : BR w B ov lv b) (h0 : bmay b = 0) (hst : Fix b false st) (hW : WayOk (FN b st) n W s) (hWl : W.length ≤ 1000) (hWr : ∀ x ∈ W, 0 ≤ x ∧ x < b.of.length) (hBW : BW ≤ w.heap.size) (rww : Row w BW 1 wv W.length (ints W)) :
    Calls Try.prog 34 #[.agg #[.int .i64 b.toks, .int .i64 b.look, ov, lv], .int .i64 n, wv] w (BoolB w true) := by
  obtain ⟨oa, oc, rfl, ho1, ho2⟩ := r.of.val
  obtain ⟨la, lc, rfl, hl1, hl2⟩ := r.l.val
  obtain ⟨z1, z2, z3, z4, z5, z6, _⟩ := bmay_zero h0
  have hwl := hW.len
  have hwp := hW.pos
  obtain ⟨wa, wc, rfl, hwc1, hwc2⟩ := rww.val
  obtain ⟨b9, o9, hao, hb9, _⟩ := rww.at (by rw [ints_length]; omega)
  subst hao
  have hbox := BoxB.new b.toks b.look 25 hB r
  have hb1 := (Below.refl w.heap.size w).alloc (Nat.le_refl _) (.cells #[.int .i64 b.toks, .int .i64 b.look, .slice oa b.of.length oc, .slice la b.l.length lc] 25)
  have hmy := refMay_any b (.slice oa b.of.length oc) (.slice la b.l.length lc) B _ hbox.le hbox.r
  rw [h0] at hmy
  have hnx : ∀ (y : Int) W BW, BW ≤ W.heap.size → BR W BW (.slice oa b.of.length oc) (.slice la b.l.length lc) b → Calls Try.prog 55 #[.agg #[.int .i64 b.toks, .int .i64 b.look, .slice oa b.of.length oc, .slice la b.l.length lc], .int .i64 y, .bool false] W (OwnI W (FN b st y)) := fun y W BW hBW hr => refNext_any false y st b (.slice oa b.of.length oc) (.slice la b.l.length lc) BW W hBW hr h0 hst
  obtain ⟨ol, hol⟩ : ∃ ol, ol = b.of.length := ⟨_, rfl⟩
  obtain ⟨ll, hll⟩ : ∃ ll, ll = b.l.length := ⟨_, rfl⟩
  obtain ⟨tk, htk⟩ : ∃ tk, tk = b.toks := ⟨_, rfl⟩
  obtain ⟨lk, hlk⟩ : ∃ lk, lk = b.look := ⟨_, rfl⟩
  obtain ⟨wn, hwn⟩ : ∃ wn, wn = W.length := ⟨_, rfl⟩
  rw [← hol, ← hll, ← htk, ← hlk] at hbox hb1 hnx hmy
  rw [← hol] at hWr
  rw [← hol, ← hll, ← htk, ← hlk]
  have ho500 : ol ≤ 500 := by omega
  have hrow1 := rww.below (hb1.mono hBW)
  have hrow2 := fun W' (hW' : Below (w.alloc (.cells #[.int .i64 tk, .int .i64 lk, .slice oa ol oc, .slice la ll lc] 25)).heap.size (w.alloc (.cells #[.int .i64 tk, .int .i64 lk, .slice oa ol oc, .slice la ll lc] 25)) W') => hrow1.below (hW'.mono (Nat.le_trans hBW hb1.size))
  rw [← hwn] at hwl hWl hrow1 hrow2 ⊢
  have hfst := hW.fst
  have hlst := hW.lst
  have htr := hW.tr
  generalize FN b st = F at *
  have Hbox := Lib.hid hbox; have Hb1 := Lib.hid hb1; have Hnx := Lib.hid hnx; have Hmy := Lib.hid hmy; have HWr := Lib.hid hWr; have Hwn := Lib.hid hwn; have Hrow := Lib.hid hrow2; have Htr := Lib.hid htr
  have hcn : ∀ j x, W[j]? = some x → (ints W)[j]? = some (Value.int .i64 x) := fun j x h => by unfold ints; rw [List.getElem?_map, h]; rfl
  have Hcn := Lib.hid hcn
  have hq1 : ¬ (wn : Int) < 2 := by omega
  have hq2 : decide ((wn : Int) < 2) = false := decide_eq_false hq1
  have hq3 : decide (wn < 2) = false := decide_eq_false (by omega)
  have hs1 : (wn : Int) - 1 = (s : Int) := by omega
  have hs2 : (s : Int) < (wn : Int) := by omega
  have hs3 : (0 : Int) < (wn : Int) := by omega
  have hs4 : (0 : Int) ≤ (s : Int) := by omega
  have hs5 : 0 < wn := by omega
  have Hws := Lib.hid hwl
  have hne : (n != n) = false := by simp
  have hwn5 : (wn : Int) ≤ 1000 := by omega
  have Hfst := Lib.hid hfst; have Hlst := Lib.hid hlst
  clear r hbox hb1 hol hll htk hlk ho1 ho2 hl1 hl2 hB z1 z2 z3 z4 z5 z6 h0 hst hnx hmy hWr hwn hrow1 hrow2 htr hcn hW hwl hwp rww hWl hq1 hBW hfst hlst
  go_enter Try.func34, Try.ntmps34
  go_upto_region 1 with fail
  generalize w.alloc (.cells #[.int .i64 tk, .int .i64 lk, .slice oa ol oc, .slice la ll lc] 25) = w1 at *
  have Hc : Hid (∀ W, Below w1.heap.size w1 W → W.cell? ⟨w.heap.size, 0, none⟩ = some (.int .i64 tk) ∧ W.cell? ⟨w.heap.size, 1, none⟩ = some (.int .i64 lk) ∧ W.cell? ⟨w.heap.size, 2, none⟩ = some (.slice oa ol oc) ∧ W.cell? ⟨w.heap.size, 3, none⟩ = some (.slice la ll lc)) := Lib.hid fun W hW => (Hbox.out.keep hW).four
  obtain ⟨c0, c1, c2, c3⟩ := Hc.out _ (Below.refl _ _)
  go_wp2_with fail
  refine (Hmy.out).mono ?_
  rintro e w2 ⟨rfl, hb2⟩
  have HB2 := Lib.hid hb2
  have c8 := (Hrow.out w2 hb2).cell 0 _ (Hcn.out 0 n Hfst.out)
  have c9 := (Hrow.out w2 hb2).cell s _ (Hcn.out s n Hlst.out)
  rw [Nat.add_zero] at c8
  clear hb2 c0 c1 c2 c3 Hmy
  go_wp2_with fail
  clear c8 c9
  go_loopw [7] (fun iv wr => ∃ i : Nat, 1 ≤ i ∧ i ≤ wn ∧ iv = .int .i64 (i : Nat) ∧ Hid (Below w1.heap.size w1 wr)) (fun iv _ => wn - (intOf iv).toNat)
  case atStart => exact ⟨1, Nat.le_refl _, by omega, rfl, HB2⟩
  case round =>
    clear HB2
    obtain ⟨i, hi0, hi, rfl, HB⟩ := hrel
    by_cases hlt : i < wn
    · obtain ⟨k, rfl⟩ : ∃ k, i = k + 1 := ⟨i - 1, by omega⟩
      have hkW : k < W.length := by have := Hwn.out; omega
      have hkW1 : k + 1 < W.length := by have := Hwn.out; omega
      obtain ⟨x, hx⟩ : ∃ x, W[k]? = some x := ⟨_, List.getElem?_eq_getElem hkW⟩
      obtain ⟨y, hy⟩ : ∃ y, W[k + 1]? = some y := ⟨_, List.getElem?_eq_getElem hkW1⟩
      have hmem := Htr.out k x y hx hy
      have hxr := HWr.out x (List.mem_of_getElem? hx)
      obtain ⟨p, rfl⟩ : ∃ p : Nat, x = (p : Int) := ⟨x.toNat, by omega⟩
      obtain ⟨i, hik⟩ : ∃ i, i = k + 1 := ⟨_, rfl⟩
      rw [← hik] at hlt hy ⊢
      have Hik := Lib.hid hik
      have hsub : (i : Int) - 1 = (k : Int) := by omega
      have q1 : decide ((p : Int) < 0) = false := decide_eq_false (by omega)
      have q2 : decide ((ol : Int) ≤ (p : Int)) = false := decide_eq_false (by omega)
      have q3 : decide (ol ≤ p) = false := decide_eq_false (by omega)
      have Hd0 : Hid (Below w1.heap.size w1 wr.drew) := Lib.hid (HB.out.trans ((Below.refl wr.heap.size wr).drew.mono HB.out.size))
      have HbxA := Hbox.out.keep Hd0.out
      have Hnext := Lib.hid (Hnx.out (p : Int) wr.drew B HbxA.le HbxA.r)
      have HS : Hid (∀ W', Below w1.heap.size w1 W' → (W'.cell? ⟨w.heap.size, 0, none⟩ = some (.int .i64 tk) ∧ W'.cell? ⟨w.heap.size, 1, none⟩ = some (.int .i64 lk) ∧ W'.cell? ⟨w.heap.size, 2, none⟩ = some (.slice oa ol oc) ∧ W'.cell? ⟨w.heap.size, 3, none⟩ = some (.slice la ll lc)) ∧ W'.cell? ⟨b9, o9 + k, none⟩ = some (.int .i64 (p : Int)) ∧ W'.cell? ⟨b9, o9 + i, none⟩ = some (.int .i64 y)) := Lib.hid fun W' hW' => ⟨Hc.out _ hW', (Hrow.out W' hW').cell k _ (Hcn.out k _ hx), (Hrow.out W' hW').cell i _ (Hcn.out i _ hy)⟩
      have hk1 : (k : Int) < (wn : Int) := by omega
      have hk2 : (0 : Int) ≤ (k : Int) := by omega
      have hwk : IntKind.i64.wrap (k : Int) = (k : Int) := by rw [IntKind.wrap_i64]; omega
      have hi1 : (i : Int) < (wn : Int) := by omega
      have hi2 : (0 : Int) ≤ (i : Int) := by omega
      have hi5 : (i : Int) ≤ 1000 := by omega
      have Hlt := Lib.hid hlt
      have Hmem := Lib.hid hmem
      clear hkW hkW1 hx hy hmem hxr hik hlt hi0 hi HbxA
      go_upto_region 6 with fail
      refine wp_region_ord 31 [(0, true), (1, true), (2, true), (3, true), (4, true), (5, true), (6, true), (7, true), (8, true), (9, true), (10, true), (11, true), (12, true), (13, true), (14, true), (15, true), (16, true), (17, true), (18, true), (19, true), (20, true), (21, true), (22, true), (23, true), (25, true), (26, true), (27, true), (28, true), (24, false), (29, false), (30, true), (31, false)] (fun w' => (w'.cell? ⟨w.heap.size, 0, none⟩ = some (.int .i64 tk) ∧ w'.cell? ⟨w.heap.size, 1, none⟩ = some (.int .i64 lk) ∧ w'.cell? ⟨w.heap.size, 2, none⟩ = some (.slice oa ol oc) ∧ w'.cell? ⟨w.heap.size, 3, none⟩ = some (.slice la ll lc)) ∧ w'.cell? ⟨b9, o9 + k, none⟩ = some (.int .i64 (p : Int)) ∧ w'.cell? ⟨b9, o9 + i, none⟩ = some (.int .i64 y)) (by kernel_rfl) (by kernel_rfl) (HS.out _ Hd0.out) ?_
      simp only [ordL, List.getElem?_toArray, List.getElem?_cons_succ, List.getElem?_cons_zero]
      iterate 28 (
        refine ordW_read (v := ?_) (by rfl) ?_ (fun _ _ _ h => h) ?_
        rotate_left
        focus (intro w' hS; obtain ⟨⟨s0, s1, s2, s3⟩, s4, s5⟩ := hS; go_simp; (try with_reducible rfl); done)
        try simp only [Act.put, List.setIfInBounds_toArray, List.set_cons_zero, List.set_cons_succ])
      refine ordW_do (by rfl) (fun K' HK => ?_)
      go_simp
      refine (Hnext.out).mono ?_
      rintro e w7 ⟨v3, rfl, hown3, hb3⟩
      have HB7 := Lib.hid (Hd0.out.trans (hb3.mono Hd0.out.size))
      have Hhas := Lib.hid (hasInt_any v3 (F (p : Int)) y w7.heap.size w7 (Nat.le_refl _) (Row.of_owns hown3))
      refine HK.out _ _ (fun _ => HS.out _ HB7.out) ?_
      clear HK K' hb3 hown3 Hnext
      try simp only [Act.put, List.setIfInBounds_toArray, List.set_cons_zero, List.set_cons_succ]
      refine ordW_do (by rfl) (fun K' HK => ?_)
      go_simp
      refine (Hhas.out).mono ?_
      rintro e w8 ⟨rfl, hb8⟩
      have HB8 := Lib.hid (HB7.out.trans (hb8.mono HB7.out.size))
      rw [decide_eq_true Hmem.out]
      refine HK.out _ _ (fun _ => HS.out _ HB8.out) ?_
      clear HK K' hb8 Hhas
      try simp only [Act.put, List.setIfInBounds_toArray, List.set_cons_zero, List.set_cons_succ]
      iterate 1 (
        refine ordW_read (v := ?_) (by rfl) ?_ (fun _ _ _ h => h) ?_
        rotate_left
        focus (intro w' hS; obtain ⟨⟨s0, s1, s2, s3⟩, s4, s5⟩ := hS; go_simp; (try with_reducible rfl); done)
        try simp only [Act.put, List.setIfInBounds_toArray, List.set_cons_zero, List.set_cons_succ])
      refine ordW_do (by rfl) (fun K' HK => ?_)
      go_simp
      refine HK.out _ _ (fun h => absurd rfl h) (ordW_nil ?_)
      clear HK K' q1 q2 q3 hsub hwk
      go_wp2_with fail
      go_roundw
      case rel => exact ⟨i + 1, by omega, by have := Hlt.out; omega, by go_num, HB8⟩
      case measure => have := Hlt.out; simp [intOf]; omega
    · have hk0 : decide (i < wn) = false := decide_eq_false hlt
      clear hlt
      go_wp2_with fail
      go_ret
      exact ⟨rfl, Hb1.out.trans (HB.out.mono Hb1.out.size)⟩
theorem refMayWay11 (b : Bn) (tk lk n : Int) (o l wv : Value) (nB BW : Nat) (W : List Int) (s : Nat) (st : List Bool) (w : World) (h1 : b.toks = tk) (h2 : b.look = lk) (hB : nB ≤ w.heap.size) (r : BR w nB o l b) (h0 : bmay b = 0) (hst : Fix b false st) (hW : WayOk (FN b st) n W s) (hWl : W.length ≤ 1000) (hWr : ∀ x ∈ W, 0 ≤ x ∧ x < b.of.length) (hBW : BW ≤ w.heap.size) (rww : Row w BW 1 wv W.length (ints W)) :
    Calls Try.prog 34 #[.agg #[.int .i64 tk, .int .i64 lk, o, l], .int .i64 n, wv] w (BoolB w true) := by
  subst h1 h2; exact refMayWay_any n W s st b o l wv nB BW w hB r h0 hst hW hWl hWr hBW rww
theorem refFar11 (b : Bn) (tk lk n m : Int) (o l : Value) (nB : Nat) (st : List Bool) (w : World) (h1 : b.toks = tk) (h2 : b.look = lk) (hB : nB ≤ w.heap.size) (r : BR w nB o l b) (h0 : bmay b = 0) (hst : Fix b false st) :
    Calls Try.prog 35 #[.agg #[.int .i64 tk, .int .i64 lk, o, l], .int .i64 n, .int .i64 m] w (FarP w (FN b st) n m) := by
  subst h1 h2; exact refFar_any n m st b o l nB w hB r h0 hst
theorem WayP.at {w w' : World} {b : Bn} {n : Int} {e : Ending} (h : WayP w b n e w') : (e = .returned (.slice none 0 0) ∧ (bmay b = 0 → (0 ≤ n ∧ n < b.of.length) → ∀ st, Fix b false st → ¬ Rc (FN b st) (FN b st n) n) ∧ Below w.heap.size w w') ∨
    (bmay b = 0 ∧ (0 ≤ n ∧ n < b.of.length) ∧ ∃ st W s a c, Fix b false st ∧ WayOk (FN b st) n W s ∧ W.length ≤ 1000 ∧ (∀ x ∈ W, 0 ≤ x ∧ x < b.of.length) ∧ e = .returned (.slice a W.length c) ∧ Row w' w'.heap.size 1 (.slice a W.length c) W.length (ints W) ∧ Below w.heap.size w w') := by
  rcases h with ⟨⟨h1, rfl⟩ | ⟨h0, hn, st, hF, ⟨h1, rfl⟩ | ⟨W, s, v, hW, hl, hr, rfl, ho⟩⟩, hb⟩
  · exact .inl ⟨rfl, fun a b => h1.elim (fun h => absurd a h) (fun h => absurd b h), hb⟩
  · exact .inl ⟨rfl, fun a _ st2 k1 k2 => by
      obtain rfl := Fix.uniq (bmay_zero a).2.2.2.2.2.1 hF k1
      exact h1 k2, hb⟩
  · obtain ⟨a, c, rfl, _, _⟩ := owns_valP ho
    exact .inr ⟨h0, hn, st, W, s, a, c, hF, hW, hl, hr, rfl, Row.of_owns ho, hb⟩
set_option maxHeartbeats 4000000 in
set_option maxRecDepth 100000 in
theorem reachWays_walk (b : Bn) (ov lv : Value) (n : Int) (w : World) (r : BR w w.heap.size ov lv b) :
    Calls Try.prog 8 #[.agg #[.int .i64 b.toks, .int .i64 b.look, ov, lv], .int .i64 n] w (BoolB w true) := by
  have hb1 := agg_box w b.toks b.look ov lv 25
  have hfew := few11_any b b.toks b.look ov lv w.heap.size _ rfl rfl hb1.size (r.below hb1)
  have hp1 := box_new w #[.int .i64 b.toks, .int .i64 b.look, ov, lv] 25
  have hidm := fewB_idem 10 20 b
  obtain ⟨htk, hlk⟩ := fewB_toks 10 20 b
  generalize fewB 10 20 b = B at *
  generalize b.toks = tk at *
  generalize b.look = lk at *
  have hs1 : (w.alloc (.cells #[.int .i64 tk, .int .i64 lk, ov, lv] 25)).heap.size = w.heap.size + 1 := by simp
  have Hfew := Lib.hid hfew; have Hp1 := Lib.hid hp1; have Hb1 := Lib.hid hb1; have Hdm := Lib.hid hidm; have Hs1 := Lib.hid hs1; have Etk := Lib.hid htk; have Elk := Lib.hid hlk
  clear hfew hp1 hb1 hidm hs1 htk hlk r
  go_enter Try.func8, Try.ntmps8
  go_upto_region 1 with fail
  obtain ⟨y0, y1, y2, y3, _, _, _, _, hlt0⟩ := four_cells Hp1.out
  generalize w.alloc (.cells #[.int .i64 tk, .int .i64 lk, ov, lv] 25) = w1 at *
  go_wp2_with fail
  refine (Hfew.out).mono ?_
  rintro e w2 ⟨o, l, rfl, hbr, hb2⟩
  obtain ⟨oa, oc, rfl, _, hocm⟩ := (hbr w2 (fun _ _ => rfl) rfl).of.val
  obtain ⟨la, lc, rfl, _, _⟩ := (hbr w2 (fun _ _ => rfl) rfl).l.val
  have hp2 : w2.heap[w.heap.size]? = some (.cells #[.int .i64 tk, .int .i64 lk, ov, lv] 25 (0, 0)) := by rw [hb2.block _ hlt0]; exact Hp1.out
  have hbox := BoxB.put tk lk hp2 (show w.heap.size < w1.heap.size + 2 by omega) hbr
  have HB3 := Lib.hid (below_four (Hb1.out.trans (hb2.mono Hb1.out.size)) (Nat.le_refl w.heap.size) (.int .i64 tk) (.int .i64 lk) (.slice oa B.of.length oc) (.slice la B.l.length lc))
  obtain ⟨x0, x1, x2, x3, f0, f1, f2, f3, hlt2⟩ := four_cells hp2
  have Hbox := Lib.hid hbox
  have hfw : ∀ W BW, BW ≤ W.heap.size → BR W BW (.slice oa B.of.length oc) (.slice la B.l.length lc) B → Calls Try.prog 23 #[.agg #[.int .i64 tk, .int .i64 lk, .slice oa B.of.length oc, .slice la B.l.length lc]] W (Few10 W tk lk B) := fun W BW hBW hr => by
    have := few11_any B tk lk (.slice oa B.of.length oc) (.slice la B.l.length lc) BW W Etk.out Elk.out hBW hr
    rw [Hdm.out] at this; exact this
  have hmy : ∀ W BW, BW ≤ W.heap.size → BR W BW (.slice oa B.of.length oc) (.slice la B.l.length lc) B → Calls Try.prog 15 #[.agg #[.int .i64 tk, .int .i64 lk, .slice oa B.of.length oc, .slice la B.l.length lc]] W (MayP W (bmay B)) := fun W BW hBW hr => may10 B tk lk _ _ BW W Etk.out Elk.out hBW hr
  have hrb : ∀ W BW, BW ≤ W.heap.size → BR W BW (.slice oa B.of.length oc) (.slice la B.l.length lc) B → bmay B = 0 → ∀ st, Fix B false st → Calls Try.prog 32 #[.agg #[.int .i64 tk, .int .i64 lk, .slice oa B.of.length oc, .slice la B.l.length lc], .int .i64 n, .int .i64 n] W (RBeginsP W B st n n) := fun W BW hBW hr h0 st h1 => refBegins11 B tk lk n n _ _ BW W Etk.out Elk.out hBW hr h0 st h1
  have hmw : ∀ W BW, BW ≤ W.heap.size → BR W BW (.slice oa B.of.length oc) (.slice la B.l.length lc) B → bmay B = 0 → ∀ st, Fix B false st → ∀ L s wv BL, WayOk (FN B st) n L s → L.length ≤ 1000 → (∀ x ∈ L, 0 ≤ x ∧ x < B.of.length) → BL ≤ W.heap.size → Row W BL 1 wv L.length (ints L) → Calls Try.prog 34 #[.agg #[.int .i64 tk, .int .i64 lk, .slice oa B.of.length oc, .slice la B.l.length lc], .int .i64 n, wv] W (BoolB W true) := fun W BW hBW hr h0 st h1 L s wv BL h2 h3 h4 h5 h6 => refMayWay11 B tk lk n _ _ wv BW BL L s st W Etk.out Elk.out hBW hr h0 h1 h2 h3 h4 h5 h6
  have hfa : ∀ W BW, BW ≤ W.heap.size → BR W BW (.slice oa B.of.length oc) (.slice la B.l.length lc) B → bmay B = 0 → ∀ st, Fix B false st → Calls Try.prog 35 #[.agg #[.int .i64 tk, .int .i64 lk, .slice oa B.of.length oc, .slice la B.l.length lc], .int .i64 n, .int .i64 n] W (FarP W (FN B st) n n) := fun W BW hBW hr h0 st h1 => refFar11 B tk lk n n _ _ BW st W Etk.out Elk.out hBW hr h0 h1
  unfold maxLen at hocm
  have hol63 : B.of.length ≤ 9223372036854775807 := by omega
  obtain ⟨ol, hol⟩ : ∃ ol, ol = B.of.length := ⟨_, rfl⟩
  obtain ⟨ll, hll⟩ : ∃ ll, ll = B.l.length := ⟨_, rfl⟩
  rw [← hol, ← hll] at HB3 Hbox hfw hmy hrb hmw hfa ⊢
  rw [← hol] at hol63
  have Hfw := Lib.hid hfw; have Hmy := Lib.hid hmy; have Hrb := Lib.hid hrb; have Hmw := Lib.hid hmw; have Hfa := Lib.hid hfa; have Hol := Lib.hid hol
  clear y0 y1 y2 y3 hlt0 hp2 hbr hb2 hbox Hfew hol hll hfw hmy hrb hmw hfa hocm
  go_upto_region 2 with fail
  generalize (((w2.setCell ⟨w.heap.size, 0, none⟩ (.int .i64 tk)).setCell ⟨w.heap.size, 1, none⟩ (.int .i64 lk)).setCell ⟨w.heap.size, 2, none⟩ (.slice oa ol oc)).setCell ⟨w.heap.size, 3, none⟩ (.slice la ll lc) = w3 at *
  clear x0 x1 x2 x3 f0 f1 f2 f3 hlt2
  obtain ⟨c0, c1, c2, c3⟩ := Hbox.out.four
  have Hfew := Lib.hid (Hfw.out w3 _ Hbox.out.le Hbox.out.r)
  go_wp2_with fail
  refine (Hfew.out).mono ?_
  rintro e w5 ⟨o5, l5, rfl, hbr5, hb5⟩
  obtain ⟨oa5, oc5, rfl, _, _⟩ := (hbr5 w5 (fun _ _ => rfl) rfl).of.val
  obtain ⟨la5, lc5, rfl, _, _⟩ := (hbr5 w5 (fun _ _ => rfl) rfl).l.val
  have HBx5 := Lib.hid (Hbox.out.keep hb5)
  have HB5 := Lib.hid (HB3.out.trans (hb5.mono HB3.out.size))
  have Hl := Lib.hid (way_any B tk lk n (.slice oa5 B.of.length oc5) (.slice la5 B.l.length lc5) w5.heap.size w5 Etk.out Elk.out (Nat.le_refl _) (hbr5 w5 (fun _ _ => rfl) rfl))
  have Hwk := Lib.hid works11_any
  clear hbr5 hb5 c0 c1 c2 c3 Hfew Hbox HB3
  go_wp2_with fail
  refine (Hl.out).mono ?_
  intro e w6 hp
  rcases hp.at with ⟨rfl, hnil, hb6⟩ | ⟨h0, hn, st, W, s, a6, c6, hF, hW, hWl, hWr, rfl, hrow, hb6⟩
  · have HBx6 := Lib.hid (HBx5.out.keep hb6)
    have HB6 := Lib.hid (HB5.out.trans (hb6.mono HB5.out.size))
    have Hnil := Lib.hid hnil
    have Hc : Hid (∀ W, Below w6.heap.size w6 W → W.cell? ⟨w.heap.size, 0, none⟩ = some (.int .i64 tk) ∧ W.cell? ⟨w.heap.size, 1, none⟩ = some (.int .i64 lk) ∧ W.cell? ⟨w.heap.size, 2, none⟩ = some (.slice oa ol oc) ∧ W.cell? ⟨w.heap.size, 3, none⟩ = some (.slice la ll lc)) := Lib.hid fun W hW => (HBx6.out.keep hW).four
    have Hy := Lib.hid (Hmy.out w6 _ HBx6.out.le HBx6.out.r)
    clear hp hb6 hnil HBx5 HB5 Hl
    obtain ⟨c0, c1, c2, c3⟩ := Hc.out _ (Below.refl _ _)
    go_upto_region 3 with fail
    clear c0 c1 c2 c3
    go_cut [32] (fun p wx => p = .bool true ∧ Hid (Below w6.heap.size w6 wx))
    case first =>
      obtain ⟨c0, c1, c2, c3⟩ := Hc.out _ (Below.refl _ _)
      by_cases h0 : bmay B = 0
      · have H0 := Lib.hid h0
        have hy := Hy.out
        rw [h0] at hy
        have Hy2 := Lib.hid hy
        clear hy h0 Hy
        go_wp2_with fail
        refine (Hy2.out).mono ?_
        rintro e w7 ⟨rfl, hb7⟩
        have HB7 := Lib.hid hb7
        clear hb7 Hy2 c0 c1 c2 c3
        obtain ⟨c0, c1, c2, c3⟩ := Hc.out _ HB7.out
        by_cases n0 : n < 0
        · have q1 : decide (n < 0) = true := decide_eq_true n0
          clear n0
          go_wp2_with fail
          go_meet
          case rel => exact ⟨rfl, HB7⟩
        have q1 : decide (n < 0) = false := decide_eq_false n0
        by_cases n1 : (ol : Int) ≤ n
        · have q2 : decide ((ol : Int) ≤ n) = true := decide_eq_true n1
          clear n0 n1
          go_wp2_with fail
          go_meet
          case rel => exact ⟨rfl, HB7⟩
        have q2 : decide ((ol : Int) ≤ n) = false := decide_eq_false n1
        obtain ⟨st, hst⟩ := fix_exists B false (bmay_zero H0.out).2.2.2.2.2.1
        have hno := Hnil.out H0.out ⟨by omega, by have := Hol.out; omega⟩ st hst
        have Hq := Lib.hid (Hrb.out w7 _ (HBx6.out.keep HB7.out).le (HBx6.out.keep HB7.out).r H0.out st hst)
        have Hno := Lib.hid hno
        clear n0 n1 hst hno
        go_wp2_with fail
        refine (Hq.out).mono ?_
        rintro e w8 ⟨v8, rfl, hv8, hb8⟩
        obtain rfl : v8 = false := by
          cases v8 with
          | false => rfl
          | true => exact absurd (hv8.1 rfl) Hno.out
        have HB8 := Lib.hid (HB7.out.trans (hb8.mono HB7.out.size))
        clear hv8 hb8 Hq c0 c1 c2 c3
        go_wp2_with fail
        go_meet
        case rel => exact ⟨rfl, HB8⟩
      · have hq : (bmay B == 0) = false := by rw [beq_eq_false_iff_ne]; exact h0
        have hq2 : (bmay B != 0) = true := by rw [bne_iff_ne]; exact h0
        obtain ⟨mm, hm⟩ : ∃ mm, mm = bmay B := ⟨_, rfl⟩
        rw [← hm] at hq hq2 Hy
        clear h0 hm
        go_wp2_with fail
        refine (Hy.out).mono ?_
        rintro e w7 ⟨rfl, hb7⟩
        have HB7 := Lib.hid hb7
        clear hb7 Hy c0 c1 c2 c3
        go_wp2_with fail
        go_meet
        case rel => exact ⟨rfl, HB7⟩
    case rest =>
    obtain ⟨rfl, HB⟩ := hcut
    go_wp2_with fail
    refine (Hwk.out _).mono ?_
    rintro e w9 ⟨rfl, hb9⟩
    have HB9 := Lib.hid (HB6.out.trans ((HB.out.trans (hb9.mono HB.out.size)).mono HB6.out.size))
    clear hb9
    go_wp2_with fail
    go_ret
    exact ⟨rfl, HB9.out⟩
  · have HBx6 := Lib.hid (HBx5.out.keep hb6)
    have HB6 := Lib.hid (HB5.out.trans (hb6.mono HB5.out.size))
    have hy := Hmy.out w6 _ HBx6.out.le HBx6.out.r
    rw [h0] at hy
    have Hy := Lib.hid hy
    have H0 := Lib.hid h0; have HF := Lib.hid hF; have HW := Lib.hid hW; have HWl := Lib.hid hWl; have HWr := Lib.hid hWr; have Hrow := Lib.hid hrow; have Hn := Lib.hid hn
    have Hrc : Hid (Rc (FN B st) (FN B st n) n) := Lib.hid (hW.own hW.fst)
    have hwl := hW.len
    obtain ⟨q, rfl⟩ : ∃ q : Nat, n = (q : Int) := ⟨n.toNat, by omega⟩
    have q5 : decide (ol ≤ q) = false := decide_eq_false (by have := Hol.out; omega)
    obtain ⟨wn, hwn⟩ : ∃ wn, wn = W.length := ⟨_, rfl⟩
    rw [← hwn] at Hrow hwl ⊢
    have Hwn := Lib.hid hwn
    have hws : Hid (wn = s + 1) := Lib.hid hwl
    have hs5 : Hid (s ≤ 1000) := Lib.hid (by omega)
    clear hp hb6 HBx5 HB5 Hl hy h0 hF hW hWl hWr hrow hn hwl hwn
    obtain ⟨c0, c1, c2, c3⟩ := HBx6.out.four
    go_wp2_with fail
    refine (Hy.out).mono ?_
    rintro e w7 ⟨rfl, hb7⟩
    have HB7 := Lib.hid (HB6.out.trans (hb7.mono HB6.out.size))
    have HBx7 := Lib.hid (HBx6.out.keep hb7)
    have Hrow7 := Lib.hid ((Hrow.out.below hb7).mono hb7.size)
    clear hb7 Hy c0 c1 c2 c3 HBx6 HB6 Hrow
    obtain ⟨c0, c1, c2, c3⟩ := HBx7.out.four
    have Hq := Lib.hid (Hrb.out w7 _ HBx7.out.le HBx7.out.r H0.out st HF.out)
    go_wp2_with fail
    refine (Hq.out).mono ?_
    rintro e w8 ⟨v8, rfl, hv8, hb8⟩
    obtain rfl : v8 = true := hv8.2 Hrc.out
    have HB8 := Lib.hid (HB7.out.trans (hb8.mono HB7.out.size))
    have HBx8 := Lib.hid (HBx7.out.keep hb8)
    have Hrow8 := Lib.hid ((Hrow7.out.below hb8).mono hb8.size)
    clear hb8 hv8 Hq c0 c1 c2 c3 HBx7 HB7 Hrow7 q5
    obtain ⟨c0, c1, c2, c3⟩ := HBx8.out.four
    have hmw := Hmw.out w8 _ HBx8.out.le HBx8.out.r H0.out st HF.out W s (.slice a6 wn c6) w8.heap.size HW.out HWl.out (fun x hx => by have := HWr.out x hx; have := Hol.out; omega) (Nat.le_refl _) (by rw [← Hwn.out]; exact Hrow8.out)
    have Hq := Lib.hid hmw
    clear hmw
    go_wp2_with fail
    refine (Hq.out).mono ?_
    rintro e w9 ⟨rfl, hb9⟩
    have HB9 := Lib.hid (HB8.out.trans (hb9.mono HB8.out.size))
    have HBx9 := Lib.hid (HBx8.out.keep hb9)
    clear hb9 Hq c0 c1 c2 c3 HBx8 HB8 Hrow8
    obtain ⟨c0, c1, c2, c3⟩ := HBx9.out.four
    have Hq := Lib.hid (Hfa.out w9 _ HBx9.out.le HBx9.out.r H0.out st HF.out)
    go_wp2_with fail
    refine (Hq.out).mono ?_
    rintro e w10 ⟨t, rfl, ht, hb10⟩
    obtain rfl := FarS.uniq HW.out ht
    have HB10 := Lib.hid (HB9.out.trans (hb10.mono HB9.out.size))
    have hse : (wn : Int) = (s : Int) + 1 := by have := hws.out; omega
    have hwk : IntKind.i64.wrap ((s : Int) + 1) = (wn : Int) := by rw [IntKind.wrap_i64]; have := hws.out; have := hs5.out; omega
    have hs1 : (s : Int) ≤ 1000 := by have := hs5.out; omega
    have hqq : decide ((wn : Int) = (s : Int) + 1) = true := decide_eq_true hse
    have hqq2 : ((wn : Int) == (s : Int) + 1) = true := by simp [hse]
    clear hb10 Hq c0 c1 c2 c3 HBx9 HB9 ht hse
    go_wp2_with fail
    refine (Hwk.out _).mono ?_
    rintro e w11 ⟨rfl, hb11⟩
    have HB11 := Lib.hid (HB10.out.trans (hb11.mono HB10.out.size))
    clear hb11
    go_wp2_with fail
    go_ret
    exact ⟨rfl, HB11.out⟩
set_option maxRecDepth 100000 in
theorem reachWays_law {H : Type} {base : Nat} (enc : TypeId × Value → H) (W : World)
    (v0 : Value) (d0 : DataW H) (p0 : List MemPlace) (k0 : Value.okWide Try.prog W .any base 25 v0) (h0 : DataW.Trod enc Try.prog W 0 (fun _ => true) true 25 v0 d0 p0) (n : Int) (_ : (Lit.int .i64 n).wf = true) :
    Calls Try.prog 8 #[v0, .int .i64 n] W fun e w' => e = .returned (.bool true) ∧ Below W.heap.size W w' := by
  obtain ⟨b, o, l, rfl, r, _⟩ := bnfOf k0 h0
  exact reachWays_walk b o l n W r
end Go.Proofs.Ytfmcigodfihlcaa
