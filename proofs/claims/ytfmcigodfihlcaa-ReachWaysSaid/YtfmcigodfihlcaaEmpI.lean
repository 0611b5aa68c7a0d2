/-
  EmptyTells.
-/
import Derived.Test.YtfmcigodfihlcaaEmpH
import Derived.Test.YtfmcigodfihlcaaRegT
namespace Go.Proofs.Ytfmcigodfihlcaa
open Go.RowKit Go.Maps Go.WideMaps
set_option linter.unusedVariables false
set_option linter.unusedSimpArgs false
attribute [local go_sem ↓] append_appM

theorem nothing10 (b : Bn) (tk lk : Int) (o l : Value) (n : Nat) (w : World) (h1 : b.toks = tk) (h2 : b.look = lk) (hB : n ≤ w.heap.size) (r : BR w n o l b) :
    Calls Try.prog 11 #[.agg #[.int .i64 tk, .int .i64 lk, o, l]] w (SomeP w b false) := by
  subst h1 h2; exact nothing_any b o l n w hB r
theorem ends10 (b : Bn) (tk lk : Int) (o l : Value) (n : Nat) (w : World) (h1 : b.toks = tk) (h2 : b.look = lk) (hB : n ≤ w.heap.size) (r : BR w n o l b) :
    Calls Try.prog 12 #[.agg #[.int .i64 tk, .int .i64 lk, o, l]] w (SomeP w b true) := by
  subst h1 h2; exact ends_any b o l n w hB r
theorem refNothing10 (b : Bn) (tk lk : Int) (o l : Value) (n : Nat) (w : World) (h1 : b.toks = tk) (h2 : b.look = lk) (hB : n ≤ w.heap.size) (r : BR w n o l b) (h0 : bmay b = 0) :
    Calls Try.prog 18 #[.agg #[.int .i64 tk, .int .i64 lk, o, l]] w (MarkP w b false) := by
  subst h1 h2; exact refNothing_any b o l n w hB r h0
theorem refEnds10 (b : Bn) (tk lk : Int) (o l : Value) (n : Nat) (w : World) (h1 : b.toks = tk) (h2 : b.look = lk) (hB : n ≤ w.heap.size) (r : BR w n o l b) (h0 : bmay b = 0) :
    Calls Try.prog 19 #[.agg #[.int .i64 tk, .int .i64 lk, o, l]] w (MarkP w b true) := by
  subst h1 h2; exact refEnds_any b o l n w hB r h0
theorem row10 (b : Bn) (tk lk : Int) (o l sv : Value) (s : List Sy) (n n2 : Nat) (w : World) (h1 : b.toks = tk) (h2 : b.look = lk) (hB : n ≤ w.heap.size) (r : BR w n o l b) (hB2 : n2 ≤ w.heap.size) (rs : SR w n2 sv s) :
    Calls Try.prog 13 #[.agg #[.int .i64 tk, .int .i64 lk, o, l], sv] w (RowP w b s) := by
  subst h1 h2; exact emptyRow_any b o l sv s n n2 w hB r hB2 rs
theorem refRow10 (b : Bn) (tk lk : Int) (o l sv : Value) (s : List Sy) (n n2 : Nat) (w : World) (h1 : b.toks = tk) (h2 : b.look = lk) (hB : n ≤ w.heap.size) (r : BR w n o l b) (hB2 : n2 ≤ w.heap.size) (rs : SR w n2 sv s) :
    Calls Try.prog 14 #[.agg #[.int .i64 tk, .int .i64 lk, o, l], sv] w (RowP w b s) := by
  subst h1 h2; exact refRow2_any b o l sv s n n2 w hB r hB2 rs
theorem SomeP.at0 {w w' : World} {b : Bn} {tk : Bool} {e : Ending} (h : SomeP w b tk e w') (h0 : bmay b = 0) : ∃ a c st, e = .returned (.tuple #[.slice a st.length c, .int .i64 0]) ∧ Fix b tk st ∧ Row w' w'.heap.size 1 (.slice a st.length c) st.length (bools st) ∧ Below w.heap.size w w' := by
  rcases h with ⟨⟨h1, h2⟩ | ⟨h1, v, st, h2, h3, h4⟩, hb⟩
  · exact absurd h0 h1
  · obtain ⟨a, c, rfl, _, _⟩ := owns_valP h4
    exact ⟨a, c, st, h2, h3, Row.of_owns h4, hb⟩
theorem SomeP.atN {w w' : World} {b : Bn} {tk : Bool} {e : Ending} (h : SomeP w b tk e w') (h0 : bmay b ≠ 0) : e = .returned (.tuple #[.slice none 0 0, .int .i64 (bmay b)]) ∧ Below w.heap.size w w' := by
  rcases h with ⟨⟨h1, h2⟩ | ⟨h1, v, st, h2, h3, h4⟩, hb⟩
  · exact ⟨h2, hb⟩
  · exact absurd h1 h0
theorem BoxB.four {w : World} {g B : Nat} {tk lk : Int} {ov lv : Value} {b : Bn} (h : BoxB w g B tk lk ov lv b) : w.cell? ⟨g, 0, none⟩ = some (.int .i64 tk) ∧ w.cell? ⟨g, 1, none⟩ = some (.int .i64 lk) ∧ w.cell? ⟨g, 2, none⟩ = some ov ∧ w.cell? ⟨g, 3, none⟩ = some lv := ⟨h.c0, h.c1, h.c2, h.c3⟩
set_option maxHeartbeats 4000000 in
set_option maxRecDepth 100000 in
theorem emptyTells_walk (b : Bn) (ov lv sv : Value) (l : List Sy) (w : World) (r : BR w w.heap.size ov lv b) (rs : SR w w.heap.size sv l) :
    Calls Try.prog 3 #[.agg #[.int .i64 b.toks, .int .i64 b.look, ov, lv], sv] w (BoolB w true) := by
  obtain ⟨sa, sc, rfl, hs1, hs2⟩ := Row.val rs
  unfold maxLen at hs2
  have hl10 : (l.take 10).length = min l.length 10 := by rw [List.length_take, Nat.min_comm]
  have hr10 := Row.take (show Row w w.heap.size 2 (.slice sa l.length sc) l.length (symC l) from rs) (l.take 10).length (by omega)
  have er10 : (symC l).take ((l.take 10).length * 2) = symC (l.take 10) := by
    rw [symC_take, hl10, Nat.min_comm, ← List.take_take, List.take_length]
  rw [er10] at hr10
  obtain ⟨n, hn⟩ : ∃ n, n = l.length := ⟨_, rfl⟩
  rw [← hn] at hl10 hs1 ⊢
  have m1 : min (n : Int) 10 = ((l.take 10).length : Int) := by omega
  have m2 : (l.take 10).length ≤ 10 := by omega
  have m4 : (if 10 < (n : Int) then 10 else (n : Int)) = ((l.take 10).length : Int) := by omega
  generalize l.take 10 = ls at *
  have n1 : (ls.length : Int) ≤ (sc : Int) := by omega
  have n2 : (0 : Int) ≤ (ls.length : Int) := by omega
  have n3 : n ≤ 9223372036854775807 := by omega
  have hb1 := agg_box w b.toks b.look ov lv 25
  have hfew := few10 b b.toks b.look ov lv w.heap.size _ rfl rfl hb1.size (r.below hb1)
  have hp1 := box_new w #[.int .i64 b.toks, .int .i64 b.look, ov, lv] 25
  have hidm := fewB_idem 40 60 b
  obtain ⟨htk, hlk⟩ := fewB_toks 40 60 b
  generalize fewB 40 60 b = B at *
  generalize b.toks = tk at *
  generalize b.look = lk at *
  have hs1 : (w.alloc (.cells #[.int .i64 tk, .int .i64 lk, ov, lv] 25)).heap.size = w.heap.size + 1 := by simp
  have Hfew := Lib.hid hfew; have Hp1 := Lib.hid hp1; have Hb1 := Lib.hid hb1; have Hdm := Lib.hid hidm; have Hs1 := Lib.hid hs1; have Etk := Lib.hid htk; have Elk := Lib.hid hlk; have Hr10 := Lib.hid hr10; have M2 := Lib.hid m2
  clear hfew hp1 hb1 hidm hs1 htk hlk r rs hr10 er10 hl10 hn hs2 m2
  go_enter Try.func3, Try.ntmps3
  go_upto_region 1 with fail
  obtain ⟨y0, y1, y2, y3, _, _, _, _, hlt0⟩ := four_cells Hp1.out
  generalize w.alloc (.cells #[.int .i64 tk, .int .i64 lk, ov, lv] 25) = w1 at *
  go_wp2_with fail
  refine (Hfew.out).mono ?_
  rintro e w2 ⟨o, l, rfl, hbr, hb2⟩
  obtain ⟨oa, oc, rfl, _, _⟩ := (hbr w2 (fun _ _ => rfl) rfl).of.val
  obtain ⟨la, lc, rfl, _, _⟩ := (hbr w2 (fun _ _ => rfl) rfl).l.val
  have hp2 : w2.heap[w.heap.size]? = some (.cells #[.int .i64 tk, .int .i64 lk, ov, lv] 25 (0, 0)) := by rw [hb2.block _ hlt0]; exact Hp1.out
  have hbox := BoxB.put tk lk hp2 (show w.heap.size < w1.heap.size + 2 by omega) hbr
  have HB3 := Lib.hid (below_four (Hb1.out.trans (hb2.mono Hb1.out.size)) (Nat.le_refl w.heap.size) (.int .i64 tk) (.int .i64 lk) (.slice oa B.of.length oc) (.slice la B.l.length lc))
  obtain ⟨x0, x1, x2, x3, f0, f1, f2, f3, hlt2⟩ := four_cells hp2
  have Hbox := Lib.hid hbox
  obtain ⟨ol, hol⟩ : ∃ ol, ol = B.of.length := ⟨_, rfl⟩
  obtain ⟨ll, hll⟩ : ∃ ll, ll = B.l.length := ⟨_, rfl⟩
  rw [← hol, ← hll] at HB3 Hbox ⊢
  clear y0 y1 y2 y3 hlt0 hp2 hbr hb2 hbox Hfew hol hll
  go_upto_region 2 with fail
  generalize (((w2.setCell ⟨w.heap.size, 0, none⟩ (.int .i64 tk)).setCell ⟨w.heap.size, 1, none⟩ (.int .i64 lk)).setCell ⟨w.heap.size, 2, none⟩ (.slice oa ol oc)).setCell ⟨w.heap.size, 3, none⟩ (.slice la ll lc) = w3 at *
  clear x0 x1 x2 x3 f0 f1 f2 f3 hlt2
  obtain ⟨a4, c4, w4, happ, ho4, hb4⟩ := sym_copy w3 sa ls.length sc ls w.heap.size HB3.out.size (Row.below Hr10.out HB3.out) (by have := M2.out; omega)
  have HB4 := Lib.hid (HB3.out.trans (hb4.mono HB3.out.size))
  have HBx4 := Lib.hid (Hbox.out.keep hb4)
  have Hs4 := Lib.hid (show SR w4 w4.heap.size (.slice a4 ls.length c4) ls from Row.of_owns ho4)
  obtain ⟨c0, c1, c2, c3⟩ := HBx4.out.four
  have Hfew := Lib.hid (few10 B tk lk (.slice oa ol oc) (.slice la ll lc) w2.heap.size w4 Etk.out Elk.out HBx4.out.le HBx4.out.r)
  rw [Hdm.out] at Hfew
  clear Hbox ho4 hb4
  go_wp2_with fail
  refine (Hfew.out).mono ?_
  rintro e w5 ⟨o5, l5, rfl, hbr5, hb5⟩
  obtain ⟨oa5, oc5, rfl, _, _⟩ := (hbr5 w5 (fun _ _ => rfl) rfl).of.val
  obtain ⟨la5, lc5, rfl, _, _⟩ := (hbr5 w5 (fun _ _ => rfl) rfl).l.val
  have HBx5 := Lib.hid (HBx4.out.keep hb5)
  have HB5 := Lib.hid (HB4.out.trans (hb5.mono HB4.out.size))
  have Hs5 := Lib.hid (show SR w5 w4.heap.size (.slice a4 ls.length c4) ls from Row.below Hs4.out hb5)
  have Hz5 := Lib.hid hb5.size
  have Hl := Lib.hid (nothing10 B tk lk (.slice oa5 B.of.length oc5) (.slice la5 B.l.length lc5) w5.heap.size w5 Etk.out Elk.out (Nat.le_refl _) (hbr5 w5 (fun _ _ => rfl) rfl))
  have Hwk := Lib.hid works10_any
  clear hbr5 hb5 c0 c1 c2 c3 happ Hs4 HBx4 HB4 Hfew
  by_cases h0 : bmay B = 0
  · go_wp2_with fail
    refine (Hl.out).mono ?_
    intro e w6 hp
    obtain ⟨a6, c6, st6, rfl, hF6, hR6, hb6⟩ := hp.at0 h0
    have HF6 := Lib.hid hF6; have HR6 := Lib.hid hR6
    have HBx6 := Lib.hid (HBx5.out.keep hb6)
    have HB6 := Lib.hid (HB5.out.trans (hb6.mono HB5.out.size))
    have Hs6 := Lib.hid (show SR w6 w4.heap.size (.slice a4 ls.length c4) ls from Row.below Hs5.out (hb6.mono Hz5.out))
    have Hz6 := Lib.hid (Nat.le_trans Hz5.out hb6.size)
    have H0 := Lib.hid h0
    obtain ⟨c0, c1, c2, c3⟩ := HBx6.out.four
    have Hfew := Lib.hid (few10 B tk lk (.slice oa ol oc) (.slice la ll lc) w2.heap.size w6 Etk.out Elk.out HBx6.out.le HBx6.out.r)
    rw [Hdm.out] at Hfew
    clear hp hF6 hR6 hb6 Hl HBx5 HB5 Hs5 Hz5 h0
    go_wp2_with fail
    refine (Hfew.out).mono ?_
    rintro e w7 ⟨o7, l7, rfl, hbr7, hb7⟩
    obtain ⟨oa7, oc7, rfl, _, _⟩ := (hbr7 w7 (fun _ _ => rfl) rfl).of.val
    obtain ⟨la7, lc7, rfl, _, _⟩ := (hbr7 w7 (fun _ _ => rfl) rfl).l.val
    have Hl := Lib.hid (ends10 B tk lk (.slice oa7 B.of.length oc7) (.slice la7 B.l.length lc7) w7.heap.size w7 Etk.out Elk.out (Nat.le_refl _) (hbr7 w7 (fun _ _ => rfl) rfl))
    have Hb7 := Lib.hid hb7
    clear hbr7 hb7 c0 c1 c2 c3 Hfew
    go_wp2_with fail
    refine (Hl.out).mono ?_
    intro e w8 hp
    obtain ⟨a8, c8, st8, rfl, hF8, hR8, hb8⟩ := hp.at0 H0.out
    have hb68 : Below w6.heap.size w6 w8 := Hb7.out.trans (hb8.mono Hb7.out.size)
    have HF8 := Lib.hid hF8; have HR8 := Lib.hid hR8
    have HBx8 := Lib.hid (HBx6.out.keep hb68)
    have HB8 := Lib.hid (HB6.out.trans (hb68.mono HB6.out.size))
    have Hs8 := Lib.hid (show SR w8 w4.heap.size (.slice a4 ls.length c4) ls from Row.below Hs6.out (hb68.mono Hz6.out))
    have HR6 := Lib.hid (HR6.out.below hb68)
    have Hz68 := Lib.hid hb68.size
    have Hz8 := Lib.hid (Nat.le_trans Hz6.out hb68.size)
    clear hp hF8 hR8 hb8 hb68 Hl HBx6 HB6 Hs6 Hz6 Hb7
    go_upto_region 5 with fail
    have Hbx : Hid (∀ W, Below w8.heap.size w8 W → W.cell? ⟨w.heap.size, 0, none⟩ = some (.int .i64 tk) ∧ W.cell? ⟨w.heap.size, 1, none⟩ = some (.int .i64 lk) ∧ W.cell? ⟨w.heap.size, 2, none⟩ = some (.slice oa ol oc) ∧ W.cell? ⟨w.heap.size, 3, none⟩ = some (.slice la ll lc)) := Lib.hid fun W hW => (HBx8.out.keep hW).four
    refine wp_region_ord 6 [(0, true), (1, true), (3, true), (4, true), (2, false), (5, false), (6, false)] (fun w' => w'.cell? ⟨w.heap.size, 0, none⟩ = some (.int .i64 tk) ∧ w'.cell? ⟨w.heap.size, 1, none⟩ = some (.int .i64 lk) ∧ w'.cell? ⟨w.heap.size, 2, none⟩ = some (.slice oa ol oc) ∧ w'.cell? ⟨w.heap.size, 3, none⟩ = some (.slice la ll lc)) (by kernel_rfl) (by kernel_rfl) (Hbx.out _ (Below.refl _ w8).drew) ?_
    simp only [ordL, List.getElem?_toArray, List.getElem?_cons_succ, List.getElem?_cons_zero]
    iterate 4 (
      refine ordW_read (v := ?_) (by rfl) ?_ (fun _ _ _ h => h) ?_
      rotate_left
      focus (intro w' hS; obtain ⟨s0, s1, s2, s3⟩ := hS; go_simp; (try with_reducible rfl); done)
      try simp only [Act.put, List.setIfInBounds_toArray, List.set_cons_zero, List.set_cons_succ])
    refine ordW_do (by rfl) (fun K' HK => ?_)
    go_simp
    have hd := (Below.refl w8.heap.size w8).drew
    refine (row10 B tk lk (.slice oa ol oc) (.slice la ll lc) (.slice a4 ls.length c4) ls w2.heap.size w4.heap.size w8.drew Etk.out Elk.out HBx8.out.le (HBx8.out.r.below (hd.mono HBx8.out.le)) Hz8.out (Row.below Hs8.out (hd.mono Hz8.out))).mono ?_
    intro e w9 hp9
    have hb89 : Below w8.heap.size w8 w9 := hd.trans (hp9.2 : Below w8.heap.size w8.drew w9)
    have Hp9 := Lib.hid hp9
    rcases hp9.1 with ⟨h1, _⟩ | ⟨_, x, rfl, _⟩
    · exact absurd H0.out h1
    have HB9 := Lib.hid (HB8.out.trans (hb89.mono HB8.out.size))
    have HBx9 := Lib.hid (HBx8.out.keep hb89)
    have Hr := Lib.hid (refRow10 B tk lk (.slice oa ol oc) (.slice la ll lc) (.slice a4 ls.length c4) ls w2.heap.size w4.heap.size w9 Etk.out Elk.out HBx9.out.le HBx9.out.r (Nat.le_trans Hz8.out hb89.size) (Row.below Hs8.out (hb89.mono Hz8.out)))
    have HR69 := Lib.hid (HR6.out.below (hb89.mono Hz68.out))
    have HR89 := Lib.hid (HR8.out.below hb89)
    have Hz69 := Lib.hid (Nat.le_trans Hz68.out hb89.size)
    have Hz89 := Lib.hid hb89.size
    refine HK.out _ _ (fun _ => Hbx.out w9 hb89) ?_
    clear HK K' hp9 hb89 hd HR6 HR8 HBx8 HB8 Hs8
    try simp only [Act.put, List.setIfInBounds_toArray, List.set_cons_zero, List.set_cons_succ]
    refine ordW_do (by rfl) (fun K' HK => ?_)
    go_simp
    refine (Hr.out).mono ?_
    intro e w10 hp10
    have hb10 := hp10.2
    obtain ⟨y, hy1, hy2⟩ := RowP.val Hp9.out hp10 (fun _ => ⟨st6, HF6.out⟩)
    simp only [Ending.returned.injEq, Value.bool.injEq] at hy1
    subst hy1 hy2
    have HB10 := Lib.hid (HB9.out.trans (hb10.mono HB9.out.size))
    have HBx10 := Lib.hid (HBx9.out.keep hb10)
    have HR610 := Lib.hid (HR69.out.below (hb10.mono Hz69.out))
    have HR810 := Lib.hid (HR89.out.below (hb10.mono Hz89.out))
    have Hz610 := Lib.hid (Nat.le_trans Hz69.out hb10.size)
    have Hz810 := Lib.hid (Nat.le_trans Hz89.out hb10.size)
    refine HK.out _ _ (fun _ => HBx10.out.four) ?_
    clear HK K' hp10 hb10 Hr HR69 HR89 HBx9 HB9 Hp9 Hbx
    try simp only [Act.put, List.setIfInBounds_toArray, List.set_cons_zero, List.set_cons_succ]
    refine ordW_do (by rfl) (fun K' HK => ?_)
    go_simp
    refine HK.out _ _ (fun h => absurd rfl h) (ordW_nil ?_)
    clear HK K'
    obtain ⟨c0, c1, c2, c3⟩ := HBx10.out.four
    have Hm := may10 B tk lk (.slice oa ol oc) (.slice la ll lc) w2.heap.size w10 Etk.out Elk.out HBx10.out.le HBx10.out.r
    rw [H0.out] at Hm
    have Hm := Lib.hid Hm
    go_wp2_with fail
    refine (Hm.out).mono ?_
    rintro e w11 ⟨rfl, b11⟩
    have HBx11 := Lib.hid (HBx10.out.keep b11)
    have HB11 := Lib.hid (HB10.out.trans (b11.mono HB10.out.size))
    have HR611 := Lib.hid (HR610.out.below (b11.mono Hz610.out))
    have HR811 := Lib.hid (HR810.out.below (b11.mono Hz810.out))
    have Hz611 := Lib.hid (Nat.le_trans Hz610.out b11.size)
    have Hz811 := Lib.hid (Nat.le_trans Hz810.out b11.size)
    have Hr := Lib.hid (refNothing10 B tk lk (.slice oa ol oc) (.slice la ll lc) w2.heap.size w11 Etk.out Elk.out HBx11.out.le HBx11.out.r H0.out)
    clear b11 c0 c1 c2 c3 HB10 HR610 HR810 HBx10 Hm
    obtain ⟨c0, c1, c2, c3⟩ := HBx11.out.four
    go_wp2_with fail
    refine (Hr.out).mono ?_
    rintro e w12 ⟨v12, st, rfl, hF12, ho12, b12⟩
    obtain rfl := HF6.out.uniq (bmay_zero H0.out).2.2.2.2.2.1 hF12
    have hr12 := Row.of_owns ho12
    obtain ⟨a12, c12, rfl, _, _⟩ := owns_valP ho12
    have HB12 := Lib.hid (HB11.out.trans (b12.mono HB11.out.size))
    have HBx12 := Lib.hid (HBx11.out.keep b12)
    have HR812 := Lib.hid (HR811.out.below (b12.mono Hz811.out))
    have Hz812 := Lib.hid (Nat.le_trans Hz811.out b12.size)
    have Hc := Lib.hid (same10_any (.slice a6 st6.length c6) (.slice a12 st6.length c12) st6 st6 _ _ w12 (Nat.le_trans Hz611.out b12.size) (Nat.le_refl _) (HR611.out.below (b12.mono Hz611.out)) hr12)
    clear hF12 ho12 hr12 b12 c0 c1 c2 c3 Hr HR611 HR811 HB11 HBx11
    obtain ⟨c0, c1, c2, c3⟩ := HBx12.out.four
    go_wp2_with fail
    refine (Hc.out).mono ?_
    rintro e w13 ⟨rfl, b13⟩
    simp only [decide_true]
    have HB13 := Lib.hid (HB12.out.trans (b13.mono HB12.out.size))
    have HBx13 := Lib.hid (HBx12.out.keep b13)
    have HR813 := Lib.hid (HR812.out.below (b13.mono Hz812.out))
    have Hz813 := Lib.hid (Nat.le_trans Hz812.out b13.size)
    have Hr := Lib.hid (refEnds10 B tk lk (.slice oa ol oc) (.slice la ll lc) w2.heap.size w13 Etk.out Elk.out HBx13.out.le HBx13.out.r H0.out)
    clear b13 c0 c1 c2 c3 Hc HR812 HB12 HBx12
    obtain ⟨c0, c1, c2, c3⟩ := HBx13.out.four
    go_wp2_with fail
    refine (Hr.out).mono ?_
    rintro e w14 ⟨v14, st, rfl, hF14, ho14, b14⟩
    obtain rfl := HF8.out.uniq (bmay_zero H0.out).2.2.2.2.2.1 hF14
    have hr14 := Row.of_owns ho14
    obtain ⟨a14, c14, rfl, _, _⟩ := owns_valP ho14
    have HB14 := Lib.hid (HB13.out.trans (b14.mono HB13.out.size))
    have Hc := Lib.hid (same10_any (.slice a8 st8.length c8) (.slice a14 st8.length c14) st8 st8 _ _ w14 (Nat.le_trans Hz813.out b14.size) (Nat.le_refl _) (HR813.out.below (b14.mono Hz813.out)) hr14)
    clear hF14 ho14 hr14 b14 c0 c1 c2 c3 Hr HR813 HB13 HBx13
    go_wp2_with fail
    refine (Hc.out).mono ?_
    rintro e w15 ⟨rfl, b15⟩
    simp only [decide_true]
    have HB15 := Lib.hid (HB14.out.trans (b15.mono HB14.out.size))
    clear b15 Hc
    go_wp2_with fail
    refine (Hwk.out _).mono ?_
    rintro e w16 ⟨rfl, b16⟩
    have HB16 := Lib.hid (HB15.out.trans (b16.mono HB15.out.size))
    clear b16
    go_wp2_with fail
    go_ret
    exact ⟨rfl, HB16.out⟩
  · have H0 := Lib.hid h0
    have hq : (bmay B == 0) = false := by rw [beq_eq_false_iff_ne]; exact h0
    obtain ⟨m, hm⟩ : ∃ m, m = bmay B := ⟨_, rfl⟩
    rw [← hm] at hq
    have Hm := Lib.hid hm
    clear h0 hm
    go_wp2_with fail
    refine (Hl.out).mono ?_
    intro e w6 hp
    obtain ⟨rfl, hb6⟩ := hp.atN H0.out
    rw [← Hm.out]
    have HBx6 := Lib.hid (HBx5.out.keep hb6)
    have HB6 := Lib.hid (HB5.out.trans (hb6.mono HB5.out.size))
    have Hs6 := Lib.hid (show SR w6 w4.heap.size (.slice a4 ls.length c4) ls from Row.below Hs5.out (hb6.mono Hz5.out))
    have Hz6 := Lib.hid (Nat.le_trans Hz5.out hb6.size)
    obtain ⟨c0, c1, c2, c3⟩ := HBx6.out.four
    have Hfew := Lib.hid (few10 B tk lk (.slice oa ol oc) (.slice la ll lc) w2.heap.size w6 Etk.out Elk.out HBx6.out.le HBx6.out.r)
    rw [Hdm.out] at Hfew
    clear hp hb6 Hl HBx5 HB5 Hs5 Hz5
    go_wp2_with fail
    refine (Hfew.out).mono ?_
    rintro e w7 ⟨o7, l7, rfl, hbr7, hb7⟩
    obtain ⟨oa7, oc7, rfl, _, _⟩ := (hbr7 w7 (fun _ _ => rfl) rfl).of.val
    obtain ⟨la7, lc7, rfl, _, _⟩ := (hbr7 w7 (fun _ _ => rfl) rfl).l.val
    have Hl := Lib.hid (ends10 B tk lk (.slice oa7 B.of.length oc7) (.slice la7 B.l.length lc7) w7.heap.size w7 Etk.out Elk.out (Nat.le_refl _) (hbr7 w7 (fun _ _ => rfl) rfl))
    have Hb7 := Lib.hid hb7
    clear hbr7 hb7 c0 c1 c2 c3 Hfew
    go_wp2_with fail
    refine (Hl.out).mono ?_
    intro e w8 hp
    obtain ⟨rfl, hb8⟩ := hp.atN H0.out
    rw [← Hm.out]
    have hb68 : Below w6.heap.size w6 w8 := Hb7.out.trans (hb8.mono Hb7.out.size)
    have HBx8 := Lib.hid (HBx6.out.keep hb68)
    have HB8 := Lib.hid (HB6.out.trans (hb68.mono HB6.out.size))
    have Hs8 := Lib.hid (show SR w8 w4.heap.size (.slice a4 ls.length c4) ls from Row.below Hs6.out (hb68.mono Hz6.out))
    have Hz8 := Lib.hid (Nat.le_trans Hz6.out hb68.size)
    clear hp hb8 hb68 Hl HBx6 HB6 Hs6 Hz6 Hb7
    go_upto_region 5 with fail
    have Hbx : Hid (∀ W, Below w8.heap.size w8 W → W.cell? ⟨w.heap.size, 0, none⟩ = some (.int .i64 tk) ∧ W.cell? ⟨w.heap.size, 1, none⟩ = some (.int .i64 lk) ∧ W.cell? ⟨w.heap.size, 2, none⟩ = some (.slice oa ol oc) ∧ W.cell? ⟨w.heap.size, 3, none⟩ = some (.slice la ll lc)) := Lib.hid fun W hW => (HBx8.out.keep hW).four
    refine wp_region_ord 6 [(0, true), (1, true), (3, true), (4, true), (2, false), (5, false), (6, false)] (fun w' => w'.cell? ⟨w.heap.size, 0, none⟩ = some (.int .i64 tk) ∧ w'.cell? ⟨w.heap.size, 1, none⟩ = some (.int .i64 lk) ∧ w'.cell? ⟨w.heap.size, 2, none⟩ = some (.slice oa ol oc) ∧ w'.cell? ⟨w.heap.size, 3, none⟩ = some (.slice la ll lc)) (by kernel_rfl) (by kernel_rfl) (Hbx.out _ (Below.refl _ w8).drew) ?_
    simp only [ordL, List.getElem?_toArray, List.getElem?_cons_succ, List.getElem?_cons_zero]
    iterate 4 (
      refine ordW_read (v := ?_) (by rfl) ?_ (fun _ _ _ h => h) ?_
      rotate_left
      focus (intro w' hS; obtain ⟨s0, s1, s2, s3⟩ := hS; go_simp; (try with_reducible rfl); done)
      try simp only [Act.put, List.setIfInBounds_toArray, List.set_cons_zero, List.set_cons_succ])
    refine ordW_do (by rfl) (fun K' HK => ?_)
    go_simp
    have hd := (Below.refl w8.heap.size w8).drew
    refine (row10 B tk lk (.slice oa ol oc) (.slice la ll lc) (.slice a4 ls.length c4) ls w2.heap.size w4.heap.size w8.drew Etk.out Elk.out HBx8.out.le (HBx8.out.r.below (hd.mono HBx8.out.le)) Hz8.out (Row.below Hs8.out (hd.mono Hz8.out))).mono ?_
    intro e w9 hp9
    have hb89 : Below w8.heap.size w8 w9 := hd.trans (hp9.2 : Below w8.heap.size w8.drew w9)
    rcases hp9.1 with ⟨_, rfl⟩ | ⟨h1, _⟩
    rotate_left
    · exact absurd h1 H0.out
    have HB9 := Lib.hid (HB8.out.trans (hb89.mono HB8.out.size))
    have HBx9 := Lib.hid (HBx8.out.keep hb89)
    have Hr := Lib.hid (refRow10 B tk lk (.slice oa ol oc) (.slice la ll lc) (.slice a4 ls.length c4) ls w2.heap.size w4.heap.size w9 Etk.out Elk.out HBx9.out.le HBx9.out.r (Nat.le_trans Hz8.out hb89.size) (Row.below Hs8.out (hb89.mono Hz8.out)))
    refine HK.out _ _ (fun _ => Hbx.out w9 hb89) ?_
    clear HK K' hp9 hb89 hd HBx8 HB8 Hs8
    try simp only [Act.put, List.setIfInBounds_toArray, List.set_cons_zero, List.set_cons_succ]
    refine ordW_do (by rfl) (fun K' HK => ?_)
    go_simp
    refine (Hr.out).mono ?_
    intro e w10 hp10
    have hb10 := hp10.2
    rcases hp10.1 with ⟨_, rfl⟩ | ⟨h1, _⟩
    rotate_left
    · exact absurd h1 H0.out
    have HB10 := Lib.hid (HB9.out.trans (hb10.mono HB9.out.size))
    have HBx10 := Lib.hid (HBx9.out.keep hb10)
    refine HK.out _ _ (fun _ => HBx10.out.four) ?_
    clear HK K' hp10 hb10 Hr HBx9 HB9 Hbx
    try simp only [Act.put, List.setIfInBounds_toArray, List.set_cons_zero, List.set_cons_succ]
    refine ordW_do (by rfl) (fun K' HK => ?_)
    go_simp
    refine HK.out _ _ (fun h => absurd rfl h) (ordW_nil ?_)
    clear HK K'
    obtain ⟨c0, c1, c2, c3⟩ := HBx10.out.four
    have Hy := may10 B tk lk (.slice oa ol oc) (.slice la ll lc) w2.heap.size w10 Etk.out Elk.out HBx10.out.le HBx10.out.r
    rw [← Hm.out] at Hy
    have Hy := Lib.hid Hy
    go_wp2_with fail
    refine (Hy.out).mono ?_
    rintro e w11 ⟨rfl, b11⟩
    have HB11 := Lib.hid (HB10.out.trans (b11.mono HB10.out.size))
    clear b11 c0 c1 c2 c3 HB10 HBx10 Hy
    go_wp2_with fail
    refine (Hwk.out _).mono ?_
    rintro e w16 ⟨rfl, b16⟩
    have HB16 := Lib.hid (HB11.out.trans (b16.mono HB11.out.size))
    clear b16
    go_wp2_with fail
    go_ret
    exact ⟨rfl, HB16.out⟩
set_option maxRecDepth 100000 in
theorem emptyTells_law {H : Type} {base : Nat} (enc : TypeId × Value → H) (W : World)
    (v0 : Value) (d0 : DataW H) (p0 : List MemPlace) (k0 : Value.okWide Try.prog W .any base 25 v0) (h0 : DataW.Trod enc Try.prog W 0 (fun _ => true) true 25 v0 d0 p0)
    (v1 : Value) (d1 : DataW H) (p1 : List MemPlace) (k1 : Value.okWide Try.prog W .any base 26 v1) (h1 : DataW.Trod enc Try.prog W 0 (fun _ => true) true 26 v1 d1 p1) :
    Calls Try.prog 3 #[v0, v1] W fun e w' => e = .returned (.bool true) ∧ Below W.heap.size W w' := by
  obtain ⟨b, o, l, rfl, r, _⟩ := bnfOf k0 h0
  obtain ⟨s, rs, _⟩ := symsOf (Go.WideShapes.okWide_slice Try.underlying26 k1) h1
  exact emptyTells_walk b o l v1 s W r rs
end Go.Proofs.Ytfmcigodfihlcaa
