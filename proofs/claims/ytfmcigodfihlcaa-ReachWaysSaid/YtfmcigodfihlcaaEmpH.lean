/-
  Stage 10's works; the statements of stage 10.
-/
import Derived.Test.YtfmcigodfihlcaaEmpG
import Derived.Test.YtfmcigodfihlcaaBnfF
namespace Go.Proofs.Ytfmcigodfihlcaa
open Go.RowKit Go.Maps Go.WideMaps
set_option linter.unusedVariables false
set_option linter.unusedSimpArgs false
attribute [local go_sem ↓] append_appM

set_option maxHeartbeats 1000000 in
theorem works10_any (w : World) : Calls Try.prog 16 #[] w (BoolB w true) := by
  have Hs := Lib.hid sample10_any
  have Hsm := Lib.hid may_smp10
  go_enter Try.func16, Try.ntmps16
  go_wp2_with fail
  refine (Hs.out _).mono ?_
  rintro e w1 ⟨o1, l1, rfl, r1, b1⟩
  have Hn := Lib.hid (nothing_any smp10 o1 l1 _ w1 (Nat.le_refl _) r1)
  have B1 := Lib.hid b1
  clear r1 b1
  go_wp2_with fail
  refine (Hn.out).mono ?_
  rintro e w2 ⟨h2, b2⟩
  rcases h2 with ⟨h2, _⟩ | ⟨_, v, st, rfl, hF, ho⟩
  · exact absurd Hsm.out h2
  rw [fix_smp10 hF] at ho
  obtain ⟨a2, c2, rfl, _, _⟩ := owns_valP ho
  obtain ⟨g, rfl, _, hg, hcl, _⟩ := owns_cellN ho (by decide)
  have cg := hcl 0 _ rfl
  have B2 := Lib.hid (B1.out.trans (b2.mono B1.out.size))
  have HC := Lib.hid (fun (W : World) (hW : Below w2.heap.size w2 W) => (hW.cell (p := ⟨g, 0, none⟩) hg).trans cg)
  clear ho hg hcl cg hF b2 Hn
  go_wp2_with fail
  refine (Hs.out _).mono ?_
  rintro e w3 ⟨o3, l3, rfl, r3, b3⟩
  have Hn := Lib.hid (least_any smp10 o3 l3 _ w3 (Nat.le_refl _) r3 (by decide))
  have B3 := Lib.hid b3
  clear r3 b3
  go_wp2_with fail
  refine (Hn.out).mono ?_
  rintro e w4 ⟨h4, b4⟩
  rcases h4 with ⟨h4, _⟩ | ⟨_, v, st, rfl, hF, ho⟩
  · exact absurd Hsm.out h4
  rw [fixL_smp10 hF] at ho
  have hrow := Row.of_owns ho
  obtain ⟨a4, c4, rfl, _, _⟩ := owns_valP ho
  have B4 := Lib.hid (B3.out.trans (b4.mono B3.out.size))
  have cg := HC.out w4 B4.out
  have B24 := Lib.hid (B2.out.trans (B4.out.mono B2.out.size))
  have b5 := (Below.refl w4.heap.size w4).alloc (Nat.le_refl _) (.cells #[.int .i64 0] 3)
  have Hc := Lib.hid (sameInts_any (.slice a4 1 c4) (.slice (some ⟨w4.heap.size, 0, none⟩) 1 1) [0] [0] _ _ (w4.alloc (.cells #[.int .i64 0] 3)) b5.size (by simp) (hrow.below b5) (row_cellsB w4 (ints [0]) 1 1 1 3 rfl (Nat.le_refl _) (by unfold maxLen; omega)))
  have B5 := Lib.hid (B24.out.trans (b5.mono B24.out.size))
  clear ho hF b4 Hn hrow b5
  go_wp2_with fail
  refine (Hc.out).mono ?_
  rintro e w6 ⟨rfl, b6⟩
  have B6 := Lib.hid (B5.out.trans (b6.mono B5.out.size))
  simp only [decide_true]
  clear b6
  go_wp2_with fail
  go_ret
  exact ⟨rfl, B6.out⟩
theorem fewB_idem (n m : Nat) (b : Bn) : fewB n m (fewB n m b) = fewB n m b := by
  unfold fewB
  simp only [List.take_take, Nat.min_self]
  congr 1
  rw [← List.map_take, List.take_take, Nat.min_self, List.map_map]
  apply List.map_congr_left
  intro p _
  simp [cutP, List.take_take]
theorem fewB_len (n m : Nat) (b : Bn) : (fewB n m b).of.length ≤ n ∧ (fewB n m b).l.length ≤ m := by
  unfold fewB
  simp only [List.length_map, List.length_take]
  omega
theorem fewB_toks (n m : Nat) (b : Bn) : (fewB n m b).toks = b.toks ∧ (fewB n m b).look = b.look := ⟨rfl, rfl⟩
/-- Few's post, with 40 and 60. -/
def Few10 (w : World) (tk lk : Int) (B : Bn) (e : Ending) (w' : World) : Prop := ∃ o l, e = .returned (.agg #[.int .i64 tk, .int .i64 lk, o, l]) ∧ (∀ W' : World, (∀ k, w.heap.size + 2 ≤ k → W'.heap[k]? = w'.heap[k]?) → W'.heap.size = w'.heap.size → BR W' w'.heap.size o l B) ∧ Below w.heap.size w w'
theorem few10 (b : Bn) (tk lk : Int) (o l : Value) (n : Nat) (w : World) (h1 : b.toks = tk) (h2 : b.look = lk) (hB : n ≤ w.heap.size) (r : BR w n o l b) :
    Calls Try.prog 10 #[.agg #[.int .i64 tk, .int .i64 lk, o, l], .int .i64 40, .int .i64 60] w (Few10 w tk lk (fewB 40 60 b)) := by
  subst h1 h2
  exact few_own b o l 40 60 (by decide) (by decide) n w hB r
theorem least10 (b : Bn) (tk lk : Int) (o l : Value) (n : Nat) (w : World) (h1 : b.toks = tk) (h2 : b.look = lk) (hB : n ≤ w.heap.size) (r : BR w n o l b) (hsm : b.of.length * b.l.length ≤ 400000) :
    Calls Try.prog 20 #[.agg #[.int .i64 tk, .int .i64 lk, o, l]] w (LeastP w b) := by
  subst h1 h2; exact least_any b o l n w hB r hsm
theorem refLeast10 (b : Bn) (tk lk : Int) (o l : Value) (n : Nat) (w : World) (h1 : b.toks = tk) (h2 : b.look = lk) (hB : n ≤ w.heap.size) (r : BR w n o l b) (h0 : bmay b = 0) :
    Calls Try.prog 22 #[.agg #[.int .i64 tk, .int .i64 lk, o, l]] w (MarkL w b) := by
  subst h1 h2; exact refLeast_any b o l n w hB r h0
theorem may10 (b : Bn) (tk lk : Int) (o l : Value) (n : Nat) (w : World) (h1 : b.toks = tk) (h2 : b.look = lk) (hB : n ≤ w.heap.size) (r : BR w n o l b) :
    Calls Try.prog 15 #[.agg #[.int .i64 tk, .int .i64 lk, o, l]] w (MayP w (bmay b)) := by
  subst h1 h2; exact refMay_any b o l n w hB r
theorem box_new (w : World) (c : Array Value) (T : TypeId) : (w.alloc (.cells c T)).heap[w.heap.size]? = some (.cells c T (0, 0)) := Array.getElem?_push_size
theorem LeastP.at {w w' : World} {b : Bn} {e : Ending} (h : LeastP w b e w') : (bmay b ≠ 0 ∧ e = .returned (.tuple #[.slice none 0 0, .int .i64 (bmay b)]) ∧ Below w.heap.size w w') ∨ (bmay b = 0 ∧ ∃ a c st, e = .returned (.tuple #[.slice a st.length c, .int .i64 0]) ∧ FixL b st ∧ Row w' w'.heap.size 1 (.slice a st.length c) st.length (ints st) ∧ Below w.heap.size w w') := by
  rcases h with ⟨⟨h1, h2⟩ | ⟨h1, v, st, h2, h3, h4⟩, hb⟩
  · exact .inl ⟨h1, h2, hb⟩
  · obtain ⟨a, c, rfl, _, _⟩ := owns_valP h4
    exact .inr ⟨h1, a, c, st, h2, h3, Row.of_owns h4, hb⟩
set_option maxHeartbeats 2000000 in
set_option maxRecDepth 100000 in
theorem emptyLeast_walk (b : Bn) (ov lv : Value) (w : World) (r : BR w w.heap.size ov lv b) :
    Calls Try.prog 4 #[.agg #[.int .i64 b.toks, .int .i64 b.look, ov, lv]] w (BoolB w true) := by
  have hb1 := agg_box w b.toks b.look ov lv 25
  have hfew := few10 b b.toks b.look ov lv w.heap.size _ rfl rfl hb1.size (r.below hb1)
  have hp1 := box_new w #[.int .i64 b.toks, .int .i64 b.look, ov, lv] 25
  have hidm := fewB_idem 40 60 b
  obtain ⟨hlen1, hlen2⟩ := fewB_len 40 60 b
  have hsm : (fewB 40 60 b).of.length * (fewB 40 60 b).l.length ≤ 400000 := Nat.le_trans (Nat.mul_le_mul hlen1 hlen2) (by decide)
  obtain ⟨htk, hlk⟩ := fewB_toks 40 60 b
  generalize fewB 40 60 b = B at *
  generalize b.toks = tk at *
  generalize b.look = lk at *
  have hs1 : (w.alloc (.cells #[.int .i64 tk, .int .i64 lk, ov, lv] 25)).heap.size = w.heap.size + 1 := by simp
  have Hfew := Lib.hid hfew; have Hp1 := Lib.hid hp1; have Hb1 := Lib.hid hb1; have Hdm := Lib.hid hidm; have Hs1 := Lib.hid hs1; have Hsm := Lib.hid hsm; have Etk := Lib.hid htk; have Elk := Lib.hid hlk
  clear hfew hp1 hb1 hidm hs1 hsm hlen1 hlen2 htk hlk r
  go_enter Try.func4, Try.ntmps4
  go_upto_region 1 with fail
  obtain ⟨y0, y1, y2, y3, _, _, _, _, hlt0⟩ := four_cells Hp1.out
  generalize w.alloc (.cells #[.int .i64 tk, .int .i64 lk, ov, lv] 25) = w1 at *
  go_wp2_with fail
  refine (Hfew.out).mono ?_
  rintro e w2 ⟨o, l, rfl, hbr, hb2⟩
  obtain ⟨oa, oc, rfl, _, _⟩ := (hbr w2 (fun _ _ => rfl) rfl).of.val
  obtain ⟨la, lc, rfl, _, _⟩ := (hbr w2 (fun _ _ => rfl) rfl).l.val
  have hp2 : w2.heap[w.heap.size]? = some (.cells #[.int .i64 tk, .int .i64 lk, ov, lv] 25 (0, 0)) := by rw [hb2.block _ hlt0]; exact Hp1.out
  have hbox := BoxB.put tk lk hp2 (show w.heap.size < w1.heap.size + 2 by omega) hbr
  have HB3 := Lib.hid (below_four (Hb1.out.trans (hb2.mono Hb1.out.size)) (Nat.le_refl w.heap.size) (.int .i64 tk) (.int .i64 lk) (.slice oa B.of.length oc) (.slice la B.l.length lc))
  obtain ⟨x0, x1, x2, x3, f0, f1, f2, f3, hlt2⟩ := four_cells hp2
  have Hbox := Lib.hid hbox
  clear y0 y1 y2 y3 hlt0 hp2 hbr hb2 hbox Hfew
  go_upto_region 2 with fail
  generalize (((w2.setCell ⟨w.heap.size, 0, none⟩ (.int .i64 tk)).setCell ⟨w.heap.size, 1, none⟩ (.int .i64 lk)).setCell ⟨w.heap.size, 2, none⟩ (.slice oa B.of.length oc)).setCell ⟨w.heap.size, 3, none⟩ (.slice la B.l.length lc) = w3 at *
  clear x0 x1 x2 x3 f0 f1 f2 f3 hlt2
  obtain ⟨c0, c1, c2, c3, hlt3, hle3, hr3⟩ := Hbox.out
  have hfew := few10 B tk lk (.slice oa B.of.length oc) (.slice la B.l.length lc) w2.heap.size w3 Etk.out Elk.out hle3 hr3
  rw [Hdm.out] at hfew
  have Hfew := Lib.hid hfew
  clear hfew hr3 hle3 hlt3
  go_wp2_with fail
  refine (Hfew.out).mono ?_
  rintro e w4 ⟨o4, l4, rfl, hbr4, hb4⟩
  obtain ⟨oa4, oc4, rfl, _, _⟩ := (hbr4 w4 (fun _ _ => rfl) rfl).of.val
  obtain ⟨la4, lc4, rfl, _, _⟩ := (hbr4 w4 (fun _ _ => rfl) rfl).l.val
  have HBx4 := Lib.hid (Hbox.out.keep hb4)
  have HB4 := Lib.hid (HB3.out.trans (hb4.mono HB3.out.size))
  have Hl := Lib.hid (least10 B tk lk (.slice oa4 B.of.length oc4) (.slice la4 B.l.length lc4) w4.heap.size w4 Etk.out Elk.out (Nat.le_refl _) (hbr4 w4 (fun _ _ => rfl) rfl) Hsm.out)
  clear hbr4 hb4 c0 c1 c2 c3 Hfew Hbox
  go_wp2_with fail
  refine (Hl.out).mono ?_
  intro e w5 hp
  have Hwk := Lib.hid works10_any
  rcases hp.at with ⟨hne, rfl, hb5⟩ | ⟨h0, a, c, st, rfl, hF, hrow, hb5⟩
  · have HBx5 := Lib.hid (HBx4.out.keep hb5)
    have HB5 := Lib.hid (HB4.out.trans (hb5.mono HB4.out.size))
    obtain ⟨c0, c1, c2, c3, hlt3, hle3, hr3⟩ := HBx5.out
    have Hm := Lib.hid (may10 B tk lk (.slice oa B.of.length oc) (.slice la B.l.length lc) w2.heap.size w5 Etk.out Elk.out hle3 hr3)
    clear hp hb5 hle3 hlt3 hr3
    have hq : (bmay B == 0) = false := by rw [beq_eq_false_iff_ne]; exact hne
    generalize bmay B = m at *
    clear hne
    go_wp2_with fail
    refine (Hm.out).mono ?_
    rintro e w6 ⟨rfl, b6⟩
    have HB6 := Lib.hid (HB5.out.trans (b6.mono HB5.out.size))
    clear b6
    go_wp2_with fail
    refine (Hwk.out _).mono ?_
    rintro e w7 ⟨rfl, b7⟩
    have HB7 := Lib.hid (HB6.out.trans (b7.mono HB6.out.size))
    clear b7 c0 c1 c2 c3
    go_wp2_with fail
    go_ret
    exact ⟨rfl, HB7.out⟩
  · have HBx5 := Lib.hid (HBx4.out.keep hb5)
    have HB5 := Lib.hid (HB4.out.trans (hb5.mono HB4.out.size))
    obtain ⟨c0, c1, c2, c3, hlt3, hle3, hr3⟩ := HBx5.out
    have Hm := may10 B tk lk (.slice oa B.of.length oc) (.slice la B.l.length lc) w2.heap.size w5 Etk.out Elk.out hle3 hr3
    rw [h0] at Hm
    have Hm := Lib.hid Hm
    have H0 := Lib.hid h0; have HF := Lib.hid hF; have Hrow := Lib.hid hrow
    clear hp hb5 hle3 hlt3 hr3 h0 hF hrow
    go_wp2_with fail
    refine (Hm.out).mono ?_
    rintro e w6 ⟨rfl, b6⟩
    have HBx6 := Lib.hid (HBx5.out.keep b6)
    have HB6 := Lib.hid (HB5.out.trans (b6.mono HB5.out.size))
    have Hrow6 := Lib.hid (Hrow.out.below b6)
    have Hs6 := Lib.hid b6.size
    clear b6 c0 c1 c2 c3
    obtain ⟨c0, c1, c2, c3, hlt3, hle3, hr3⟩ := HBx6.out
    have Hr := Lib.hid (refLeast10 B tk lk (.slice oa B.of.length oc) (.slice la B.l.length lc) w2.heap.size w6 Etk.out Elk.out hle3 hr3 H0.out)
    clear hle3 hlt3 hr3
    go_wp2_with fail
    refine (Hr.out).mono ?_
    rintro e w7 ⟨v, st2, rfl, hF2, ho2, b7⟩
    have hr2 := Row.of_owns ho2
    obtain ⟨a2, c9, rfl, _, _⟩ := owns_valP ho2
    have hst : st = st2 := HF.out.uniq (bmay_zero H0.out).2.2.2.2.2.1 hF2
    subst hst
    have HB7 := Lib.hid (HB6.out.trans (b7.mono HB6.out.size))
    have Hc := Lib.hid (sameInts_any (.slice a st.length c) (.slice a2 st.length c9) st st _ _ w7 (Nat.le_trans Hs6.out b7.size) (Nat.le_refl _) (Hrow6.out.below (b7.mono Hs6.out)) hr2)
    clear hF2 ho2 b7 hr2 Hr c0 c1 c2 c3
    obtain ⟨sl, hsl⟩ : ∃ sl, sl = st.length := ⟨_, rfl⟩
    rw [← hsl] at Hc ⊢
    clear hsl
    go_wp2_with fail
    refine (Hc.out).mono ?_
    rintro e w8 ⟨rfl, b8⟩
    simp only [decide_true]
    have HB8 := Lib.hid (HB7.out.trans (b8.mono HB7.out.size))
    clear b8 Hc
    go_wp2_with fail
    refine (Hwk.out _).mono ?_
    rintro e w9 ⟨rfl, b9⟩
    have HB9 := Lib.hid (HB8.out.trans (b9.mono HB8.out.size))
    clear b9
    go_wp2_with fail
    go_ret
    exact ⟨rfl, HB9.out⟩
set_option maxRecDepth 100000 in
theorem emptyLeast_law {H : Type} {base : Nat} (enc : TypeId × Value → H) (W : World)
    (v0 : Value) (d0 : DataW H) (p0 : List MemPlace) (k0 : Value.okWide Try.prog W .any base 25 v0) (h0 : DataW.Trod enc Try.prog W 0 (fun _ => true) true 25 v0 d0 p0) :
    Calls Try.prog 4 #[v0] W fun e w' => e = .returned (.bool true) ∧ Below W.heap.size W w' := by
  obtain ⟨b, o, l, rfl, r, _⟩ := bnfOf k0 h0
  exact emptyLeast_walk b o l W r
end Go.Proofs.Ytfmcigodfihlcaa
