/-
  The statement of what is reached and what does not end.
-/
import Derived.Test.YtfmcigodfihlcaaReaR
namespace Go.Proofs.Ytfmcigodfihlcaa
open Go.RowKit PK
set_option linter.unusedVariables false
set_option linter.unusedSimpArgs false
attribute [local go_sem ↓] append_appM

theorem marks_ext {N : Nat} {P : Nat → Prop} {a b : List Bool} (h1 : a.length = N) (h2 : b.length = N) (k1 : ∀ j : Nat, j < N → (a[j]? = some true ↔ P j)) (k2 : ∀ j : Nat, j < N → (b[j]? = some true ↔ P j)) : a = b := by
  refine List.ext_getElem (h1.trans h2.symm) fun j ha hb => ?_
  have e1 := k1 j (by omega)
  have e2 := k2 j (by omega)
  rw [List.getElem?_eq_getElem ha] at e1
  rw [List.getElem?_eq_getElem hb] at e2
  rw [← e2] at e1
  simp only [Option.some.injEq] at e1
  rw [Bool.eq_iff_iff]; exact e1
theorem ReachedP.at {w w' : World} {b : Bn} {e : Ending} (h : ReachedP w b e w') : (bmay b ≠ 0 ∧ e = .returned (.tuple #[.slice none 0 0, .int .i64 (bmay b)]) ∧ Below w.heap.size w w') ∨ (bmay b = 0 ∧ ∃ a c st, e = .returned (.tuple #[.slice a st.length c, .int .i64 0]) ∧ st.length = b.of.length ∧ (∀ j : Nat, j < b.of.length → (st[j]? = some true ↔ Rc (nextI b fun _ => true) [0] (j : Int))) ∧ Row w' w'.heap.size 1 (.slice a st.length c) st.length (bools st) ∧ Below w.heap.size w w') := by
  rcases h with ⟨⟨h1, h2⟩ | ⟨h1, v, st, h2, h3, h4, h5⟩, hb⟩
  · exact .inl ⟨h1, h2, hb⟩
  · obtain ⟨a, c, rfl, _, _⟩ := h5.val
    exact .inr ⟨h1, a, c, st, h2, h3, h4, h5, hb⟩
theorem DeadP.at {w w' : World} {b : Bn} {e : Ending} (h : DeadP w b e w') : (bmay b ≠ 0 ∧ e = .returned (.tuple #[.slice none 0 0, .int .i64 (bmay b)]) ∧ Below w.heap.size w w') ∨ (bmay b = 0 ∧ ∃ a c st, e = .returned (.tuple #[.slice a (pick (nopeP st) b.of.length).length c, .int .i64 0]) ∧ Fix b true st ∧ Row w' w'.heap.size 1 (.slice a (pick (nopeP st) b.of.length).length c) (pick (nopeP st) b.of.length).length (ints (pick (nopeP st) b.of.length)) ∧ Below w.heap.size w w') := by
  rcases h with ⟨⟨h1, h2⟩ | ⟨h1, v, st, h2, h3, h4⟩, hb⟩
  · exact .inl ⟨h1, h2, hb⟩
  · obtain ⟨a, c, rfl, _, _⟩ := owns_valP h4
    exact .inr ⟨h1, a, c, st, h2, h3, Row.of_owns h4, hb⟩
theorem refReached11 (b : Bn) (tk lk : Int) (o l : Value) (n : Nat) (w : World) (h1 : b.toks = tk) (h2 : b.look = lk) (hB : n ≤ w.heap.size) (r : BR w n o l b) (h0 : bmay b = 0) :
    Calls Try.prog 27 #[.agg #[.int .i64 tk, .int .i64 lk, o, l]] w (RReachedP w b) := by
  subst h1 h2; exact refReached_any b o l n w hB r h0
theorem refDead11 (b : Bn) (tk lk : Int) (o l : Value) (n : Nat) (w : World) (h1 : b.toks = tk) (h2 : b.look = lk) (hB : n ≤ w.heap.size) (r : BR w n o l b) (h0 : bmay b = 0) (st : List Bool) (hst : Fix b true st) :
    Calls Try.prog 28 #[.agg #[.int .i64 tk, .int .i64 lk, o, l]] w (OwnI w (pick (nopeP st) b.of.length)) := by
  subst h1 h2; exact refDead_any b o l n w hB r h0 st hst
set_option maxHeartbeats 4000000 in
set_option maxRecDepth 100000 in
theorem reachTells_walk (b : Bn) (ov lv : Value) (w : World) (r : BR w w.heap.size ov lv b) :
    Calls Try.prog 6 #[.agg #[.int .i64 b.toks, .int .i64 b.look, ov, lv]] w (BoolB w true) := by
  have hb1 := agg_box w b.toks b.look ov lv 25
  have hfew := few11_any b b.toks b.look ov lv w.heap.size _ rfl rfl hb1.size (r.below hb1)
  have hp1 := box_new w #[.int .i64 b.toks, .int .i64 b.look, ov, lv] 25
  have hidm := fewB_idem 10 20 b
  obtain ⟨htk, hlk⟩ := fewB_toks 10 20 b
  generalize fewB 10 20 b = B at *
  generalize b.toks = tk at *
  generalize b.look = lk at *
  have hs1 : (w.alloc (.cells #[.int .i64 tk, .int .i64 lk, ov, lv] 25)).heap.size = w.heap.size + 1 := by simp
  have Hfew := Lib.hid hfew; have Hp1 := Lib.hid hp1; have Hb1 := Lib.hid hb1; have Hdm := Lib.hid hidm; have Hs1 := Lib.hid hs1; have Etk := Lib.hid htk; have Elk := Lib.hid hlk
  clear hfew hp1 hb1 hidm hs1 htk hlk r
  go_enter Try.func6, Try.ntmps6
  go_upto_region 1 with fail
  obtain ⟨y0, y1, y2, y3, _, _, _, _, hlt0⟩ := four_cells Hp1.out
  generalize w.alloc (.cells #[.int .i64 tk, .int .i64 lk, ov, lv] 25) = w1 at *
  go_wp2_with fail
  refine (Hfew.out).mono ?_
  rintro e w2 ⟨o, l, rfl, hbr, hb2⟩
  obtain ⟨oa, oc, rfl, _, _⟩ := (hbr w2 (fun _ _ => rfl) rfl).of.val
  obtain ⟨la, lc, rfl, _, _⟩ := (hbr w2 (fun _ _ => rfl) rfl).l.val
  have hp2 : w2.heap[w.heap.size]? = some (.cells #[.int .i64 tk, .int .i64 lk, ov, lv] 25 (0, 0)) := by rw [hb2.block _ hlt0]; exact Hp1.out
  have hbox := BoxB.put tk lk hp2 (show w.heap.size < w1.heap.size + 2 by omega) hbr
  have HB3 := Lib.hid (below_four (Hb1.out.trans (hb2.mono Hb1.out.size)) (Nat.le_refl w.heap.size) (.int .i64 tk) (.int .i64 lk) (.slice oa B.of.length oc) (.slice la B.l.length lc))
  obtain ⟨x0, x1, x2, x3, f0, f1, f2, f3, hlt2⟩ := four_cells hp2
  have Hbox := Lib.hid hbox
  have hfw : ∀ W BW, BW ≤ W.heap.size → BR W BW (.slice oa B.of.length oc) (.slice la B.l.length lc) B → Calls Try.prog 23 #[.agg #[.int .i64 tk, .int .i64 lk, .slice oa B.of.length oc, .slice la B.l.length lc]] W (Few10 W tk lk B) := fun W BW hBW hr => by
    have := few11_any B tk lk (.slice oa B.of.length oc) (.slice la B.l.length lc) BW W Etk.out Elk.out hBW hr
    rw [Hdm.out] at this; exact this
  have hmy : ∀ W BW, BW ≤ W.heap.size → BR W BW (.slice oa B.of.length oc) (.slice la B.l.length lc) B → Calls Try.prog 15 #[.agg #[.int .i64 tk, .int .i64 lk, .slice oa B.of.length oc, .slice la B.l.length lc]] W (MayP W (bmay B)) := fun W BW hBW hr => may10 B tk lk _ _ BW W Etk.out Elk.out hBW hr
  have hrr : ∀ W BW, BW ≤ W.heap.size → BR W BW (.slice oa B.of.length oc) (.slice la B.l.length lc) B → bmay B = 0 → Calls Try.prog 27 #[.agg #[.int .i64 tk, .int .i64 lk, .slice oa B.of.length oc, .slice la B.l.length lc]] W (RReachedP W B) := fun W BW hBW hr h0 => refReached11 B tk lk _ _ BW W Etk.out Elk.out hBW hr h0
  have hrd : ∀ W BW, BW ≤ W.heap.size → BR W BW (.slice oa B.of.length oc) (.slice la B.l.length lc) B → bmay B = 0 → ∀ st, Fix B true st → Calls Try.prog 28 #[.agg #[.int .i64 tk, .int .i64 lk, .slice oa B.of.length oc, .slice la B.l.length lc]] W (OwnI W (pick (nopeP st) B.of.length)) := fun W BW hBW hr h0 st hst => refDead11 B tk lk _ _ BW W Etk.out Elk.out hBW hr h0 st hst
  obtain ⟨ol, hol⟩ : ∃ ol, ol = B.of.length := ⟨_, rfl⟩
  obtain ⟨ll, hll⟩ : ∃ ll, ll = B.l.length := ⟨_, rfl⟩
  rw [← hol, ← hll] at HB3 Hbox hfw hmy hrr hrd ⊢
  have Hfw := Lib.hid hfw; have Hmy := Lib.hid hmy; have Hrr := Lib.hid hrr; have Hrd := Lib.hid hrd; have Hol := Lib.hid hol
  clear y0 y1 y2 y3 hlt0 hp2 hbr hb2 hbox Hfew hol hll hfw hmy hrr hrd
  go_upto_region 2 with fail
  generalize (((w2.setCell ⟨w.heap.size, 0, none⟩ (.int .i64 tk)).setCell ⟨w.heap.size, 1, none⟩ (.int .i64 lk)).setCell ⟨w.heap.size, 2, none⟩ (.slice oa ol oc)).setCell ⟨w.heap.size, 3, none⟩ (.slice la ll lc) = w3 at *
  clear x0 x1 x2 x3 f0 f1 f2 f3 hlt2
  obtain ⟨c0, c1, c2, c3⟩ := Hbox.out.four
  have Hfew := Lib.hid (Hfw.out w3 _ Hbox.out.le Hbox.out.r)
  go_wp2_with fail
  refine (Hfew.out).mono ?_
  rintro e w5 ⟨o5, l5, rfl, hbr5, hb5⟩
  obtain ⟨oa5, oc5, rfl, _, _⟩ := (hbr5 w5 (fun _ _ => rfl) rfl).of.val
  obtain ⟨la5, lc5, rfl, _, _⟩ := (hbr5 w5 (fun _ _ => rfl) rfl).l.val
  have HBx5 := Lib.hid (Hbox.out.keep hb5)
  have HB5 := Lib.hid (HB3.out.trans (hb5.mono HB3.out.size))
  have Hl := Lib.hid (reached_any B tk lk (.slice oa5 B.of.length oc5) (.slice la5 B.l.length lc5) w5.heap.size w5 Etk.out Elk.out (Nat.le_refl _) (hbr5 w5 (fun _ _ => rfl) rfl))
  have Hwk := Lib.hid works11_any
  clear hbr5 hb5 c0 c1 c2 c3 Hfew Hbox HB3
  go_wp2_with fail
  refine (Hl.out).mono ?_
  intro e w6 hp
  rcases hp.at with ⟨hne, rfl, hb6⟩ | ⟨h0, a6, c6, st6, rfl, hs6, hm6, hr6, hb6⟩
  · have Hne := Lib.hid hne
    have hq : (bmay B == 0) = false := by rw [beq_eq_false_iff_ne]; exact hne
    have hq2 : (bmay B != 0) = true := by rw [bne_iff_ne]; exact hne
    obtain ⟨m, hm⟩ : ∃ m, m = bmay B := ⟨_, rfl⟩
    rw [← hm] at hq hq2 ⊢
    have Hm := Lib.hid hm
    have HBx6 := Lib.hid (HBx5.out.keep hb6)
    have HB6 := Lib.hid (HB5.out.trans (hb6.mono HB5.out.size))
    obtain ⟨c0, c1, c2, c3⟩ := HBx6.out.four
    have Hfew := Lib.hid (Hfw.out w6 _ HBx6.out.le HBx6.out.r)
    clear hne hm hp hb6 HBx5 HB5 Hl
    go_wp2_with fail
    refine (Hfew.out).mono ?_
    rintro e w7 ⟨o7, l7, rfl, hbr7, hb7⟩
    obtain ⟨oa7, oc7, rfl, _, _⟩ := (hbr7 w7 (fun _ _ => rfl) rfl).of.val
    obtain ⟨la7, lc7, rfl, _, _⟩ := (hbr7 w7 (fun _ _ => rfl) rfl).l.val
    have Hl := Lib.hid (dead_any B tk lk (.slice oa7 B.of.length oc7) (.slice la7 B.l.length lc7) w7.heap.size w7 Etk.out Elk.out (Nat.le_refl _) (hbr7 w7 (fun _ _ => rfl) rfl))
    have HBx7 := Lib.hid (HBx6.out.keep hb7)
    have HB7 := Lib.hid (HB6.out.trans (hb7.mono HB6.out.size))
    clear hbr7 hb7 c0 c1 c2 c3 Hfew HBx6 HB6
    go_wp2_with fail
    refine (Hl.out).mono ?_
    intro e w8 hp
    rcases hp.at with ⟨_, rfl, hb8⟩ | ⟨h1, _⟩
    rotate_left
    · exact absurd h1 Hne.out
    rw [← Hm.out]
    have HBx8 := Lib.hid (HBx7.out.keep hb8)
    have HB8 := Lib.hid (HB7.out.trans (hb8.mono HB7.out.size))
    obtain ⟨c0, c1, c2, c3⟩ := HBx8.out.four
    have hy := Hmy.out w8 _ HBx8.out.le HBx8.out.r
    rw [← Hm.out] at hy
    have Hy := Lib.hid hy
    clear hp hb8 Hl HBx7 HB7 hy
    go_wp2_with fail
    refine (Hy.out).mono ?_
    rintro e w9 ⟨rfl, hb9⟩
    have HB9 := Lib.hid (HB8.out.trans (hb9.mono HB8.out.size))
    clear hb9 Hy c0 c1 c2 c3
    go_wp2_with fail
    refine (Hwk.out _).mono ?_
    rintro e w10 ⟨rfl, hb10⟩
    have HB10 := Lib.hid (HB9.out.trans (hb10.mono HB9.out.size))
    clear hb10
    go_wp2_with fail
    go_ret
    exact ⟨rfl, HB10.out⟩
  · have H0 := Lib.hid h0; have Hs6 := Lib.hid hs6; have Hm6 := Lib.hid hm6; have Hr6 := Lib.hid hr6
    have HBx6 := Lib.hid (HBx5.out.keep hb6)
    have HB6 := Lib.hid (HB5.out.trans (hb6.mono HB5.out.size))
    obtain ⟨c0, c1, c2, c3⟩ := HBx6.out.four
    have Hfew := Lib.hid (Hfw.out w6 _ HBx6.out.le HBx6.out.r)
    obtain ⟨sn, hsn⟩ : ∃ sn, sn = st6.length := ⟨_, rfl⟩
    rw [← hsn] at Hr6 ⊢
    have Hsn := Lib.hid hsn
    clear h0 hs6 hm6 hr6 hb6 hp HBx5 HB5 Hl hsn
    go_wp2_with fail
    refine (Hfew.out).mono ?_
    rintro e w7 ⟨o7, l7, rfl, hbr7, hb7⟩
    obtain ⟨oa7, oc7, rfl, _, _⟩ := (hbr7 w7 (fun _ _ => rfl) rfl).of.val
    obtain ⟨la7, lc7, rfl, _, _⟩ := (hbr7 w7 (fun _ _ => rfl) rfl).l.val
    have Hl := Lib.hid (dead_any B tk lk (.slice oa7 B.of.length oc7) (.slice la7 B.l.length lc7) w7.heap.size w7 Etk.out Elk.out (Nat.le_refl _) (hbr7 w7 (fun _ _ => rfl) rfl))
    have HBx7 := Lib.hid (HBx6.out.keep hb7)
    have HB7 := Lib.hid (HB6.out.trans (hb7.mono HB6.out.size))
    have Hr7 := Lib.hid ((Hr6.out.below hb7).mono hb7.size)
    clear hbr7 hb7 c0 c1 c2 c3 Hfew HBx6 HB6 Hr6
    go_wp2_with fail
    refine (Hl.out).mono ?_
    intro e w8 hp
    rcases hp.at with ⟨h1, _⟩ | ⟨_, a8, c8, st8, rfl, hF8, hr8, hb8⟩
    · exact absurd H0.out h1
    have HBx8 := Lib.hid (HBx7.out.keep hb8)
    have HB8 := Lib.hid (HB7.out.trans (hb8.mono HB7.out.size))
    have Hr78 := Lib.hid ((Hr7.out.below hb8).mono hb8.size)
    have HF8 := Lib.hid hF8; have Hr8 := Lib.hid hr8
    obtain ⟨c0, c1, c2, c3⟩ := HBx8.out.four
    have hy := Hmy.out w8 _ HBx8.out.le HBx8.out.r
    rw [H0.out] at hy
    have Hy := Lib.hid hy
    have Hrd8 := Lib.hid (fun W BW h1 h2 => Hrd.out W BW h1 h2 H0.out st8 HF8.out)
    obtain ⟨D, hD⟩ : ∃ D, D = pick (nopeP st8) B.of.length := ⟨_, rfl⟩
    have hrd9 := Hrd8.out
    rw [← Hol.out] at hD
    rw [← Hol.out, ← hD] at Hr8 ⊢
    rw [← hD] at hrd9
    have Hrd9 := Lib.hid hrd9
    obtain ⟨dn, hdn⟩ : ∃ dn, dn = D.length := ⟨_, rfl⟩
    rw [← hdn] at Hr8 ⊢
    have Hdn := Lib.hid hdn
    clear hp hb8 Hl HBx7 HB7 hy hF8 hr8 Hr7 Hrd8 hD hrd9 hdn
    go_wp2_with fail
    refine (Hy.out).mono ?_
    rintro e w9 ⟨rfl, hb9⟩
    have HB9 := Lib.hid (HB8.out.trans (hb9.mono HB8.out.size))
    have HBx9 := Lib.hid (HBx8.out.keep hb9)
    have Hr79 := Lib.hid ((Hr78.out.below hb9).mono hb9.size)
    have Hr89 := Lib.hid ((Hr8.out.below hb9).mono hb9.size)
    clear hb9 Hy c0 c1 c2 c3 HB8 HBx8 Hr78 Hr8
    obtain ⟨c0, c1, c2, c3⟩ := HBx9.out.four
    have Hq := Lib.hid (Hrr.out w9 _ HBx9.out.le HBx9.out.r H0.out)
    go_wp2_with fail
    refine (Hq.out).mono ?_
    rintro e w10 ⟨v10, st10, rfl, hs10, hm10, ho10, hb10⟩
    have hst : st10 = st6 := marks_ext hs10 Hs6.out hm10 Hm6.out
    subst hst
    have hr10 := Row.of_owns ho10
    rw [← Hsn.out] at ho10 hr10
    obtain ⟨a10, c10, rfl, _, _⟩ := owns_valP ho10
    have Hr10 := Lib.hid hr10
    have HB10 := Lib.hid (HB9.out.trans (hb10.mono HB9.out.size))
    have HBx10 := Lib.hid (HBx9.out.keep hb10)
    have Hr710 := Lib.hid ((Hr79.out.below hb10).mono hb10.size)
    have Hr810 := Lib.hid ((Hr89.out.below hb10).mono hb10.size)
    have hqq : decide (sn = sn) = true := decide_eq_true rfl
    have hn500 : sn ≤ 500 := by have := (bmay_zero H0.out).2.1; have := Hsn.out; omega
    clear hs10 hm10 ho10 hr10 hb10 Hq c0 c1 c2 c3 HB9 HBx9 Hr79 Hr89
    go_wp2_with fail
    go_loopw [9] (fun iv wr => ∃ k : Nat, k ≤ sn ∧ iv = .int .i64 (k : Nat) ∧ Hid (Below w10.heap.size w10 wr)) (fun iv _ => sn - (intOf iv).toNat)
    case atStart => exact ⟨0, Nat.zero_le _, rfl, Lib.hid (Below.refl _ _)⟩
    case round =>
      obtain ⟨k, hk, rfl, HBk⟩ := hrel
      by_cases hlt : k < sn
      · have hkl : k < st10.length := by have := Hsn.out; omega
        have r1 := Hr710.out.below HBk.out
        have r2 := Hr10.out.below HBk.out
        obtain ⟨b1, o1, hao, _, _⟩ := r1.at (by rw [bools_length]; omega)
        subst hao
        obtain ⟨b2, o2, hao, _, _⟩ := r2.at (by rw [bools_length]; omega)
        subst hao
        have c9 := r1.cell k _ (bools_at st10 k hkl)
        have c8 := r2.cell k _ (bools_at st10 k hkl)
        generalize st10[k] = y at *
        have hk1 : (k : Int) < (sn : Int) := by omega
        have hk2 : (0 : Int) ≤ (k : Int) := by omega
        have hk3 : (k : Int) ≤ 1000 := by omega
        have Hlt := Lib.hid hlt
        have Hbk := Lib.hid (HBk.out.trans ((Below.refl wr.heap.size wr).drew.mono HBk.out.size))
        clear r1 r2 hkl hlt hk
        cases y
        all_goals
          go_wp2_with fail
          go_region
          all_goals
            go_wp2_with fail
            go_roundw
            case rel => exact ⟨k + 1, Hlt.out, by go_num, Hbk⟩
            case measure => have := Hlt.out; simp [intOf]; omega
      · have hk0 : decide (k < sn) = false := decide_eq_false hlt
        have HBxk := Lib.hid (HBx10.out.keep HBk.out)
        have HBk2 := Lib.hid (HB10.out.trans (HBk.out.mono HB10.out.size))
        have Hr8k := Lib.hid ((Hr810.out.below HBk.out).mono HBk.out.size)
        obtain ⟨c0, c1, c2, c3⟩ := HBxk.out.four
        have Hq := Lib.hid (Hrd9.out wr _ HBxk.out.le HBxk.out.r)
        clear hlt hk
        go_wp2_with fail
        refine (Hq.out).mono ?_
        rintro e w12 ⟨v12, rfl, ho12, hb12⟩
        have hr12 := Row.of_owns ho12
        rw [← Hdn.out] at ho12 hr12
        obtain ⟨a12, c12, rfl, _, _⟩ := owns_valP ho12
        have HB12 := Lib.hid (HBk2.out.trans (hb12.mono HBk2.out.size))
        have hc := sameInts_any (.slice a8 dn c8) (.slice a12 dn c12) D D _ _ w12 (Nat.le_refl _) (Nat.le_refl _) (by rw [← Hdn.out]; exact (Hr8k.out.below hb12).mono hb12.size) (by rw [← Hdn.out]; exact hr12)
        have Hc := Lib.hid hc
        clear ho12 hr12 hb12 Hq c0 c1 c2 c3 hc
        go_wp2_with fail
        refine (Hc.out).mono ?_
        rintro e w13 ⟨rfl, b13⟩
        simp only [decide_true]
        have HB13 := Lib.hid (HB12.out.trans (b13.mono HB12.out.size))
        clear b13 Hc
        go_wp2_with fail
        refine (Hwk.out _).mono ?_
        rintro e w14 ⟨rfl, hb14⟩
        have HB14 := Lib.hid (HB13.out.trans (hb14.mono HB13.out.size))
        clear hb14
        go_wp2_with fail
        go_ret
        exact ⟨rfl, HB14.out⟩
set_option maxRecDepth 100000 in
theorem reachTells_law {H : Type} {base : Nat} (enc : TypeId × Value → H) (W : World)
    (v0 : Value) (d0 : DataW H) (p0 : List MemPlace) (k0 : Value.okWide Try.prog W .any base 25 v0) (h0 : DataW.Trod enc Try.prog W 0 (fun _ => true) true 25 v0 d0 p0) :
    Calls Try.prog 6 #[v0] W fun e w' => e = .returned (.bool true) ∧ Below W.heap.size W w' := by
  obtain ⟨b, o, l, rfl, r, _⟩ := bnfOf k0 h0
  exact reachTells_walk b o l W r
end Go.Proofs.Ytfmcigodfihlcaa
