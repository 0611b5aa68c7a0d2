/-
  FollowWhole.
-/
import Derived.Test.YtimgnbacgdmiiaaFolJ
import Derived.Test.YtimgnbacgdmiiaaFolK
namespace Go.Proofs.Ytimgnbacgdmiiaa
open Go.RowKit PK
set_option linter.unusedVariables false
set_option linter.unusedSimpArgs false
attribute [local go_sem ↓] append_appM

set_option maxHeartbeats 4000000 in
set_option maxRecDepth 100000 in
theorem followWhole_walk (b : Bn) (ov lv : Value) (w : World) (r : BR w w.heap.size ov lv b) :
    Calls Try.prog 8 #[.agg #[.int .i64 b.toks, .int .i64 b.look, ov, lv]] w (BoolB w true) := by
  have hb1 := agg_box14 w b.toks b.look ov lv
  have hbx := BoxB.new b.toks b.look 25 (Nat.le_refl w.heap.size) r
  have hp1 : (w.alloc (.cells #[.int .i64 b.toks, .int .i64 b.look, ov, lv] 25)).heap[w.heap.size]? = some (.cells #[.int .i64 b.toks, .int .i64 b.look, ov, lv] 25 (0, 0)) := Array.getElem?_push_size
  have hcnt := fun k S => few_cnt b k S
  have hfw := fun W BW (hBW : BW ≤ W.heap.size) (hr : BR W BW ov lv b) => few15_any b b.toks b.look ov lv BW W rfl rfl hBW hr
  obtain ⟨htk, hlk⟩ := few14_toks b
  generalize few14B b = B at *
  generalize b.toks = tk at *
  generalize b.look = lk at *
  subst htk hlk
  have hof : ∀ o l W BW, BW ≤ W.heap.size → BR W BW o l B → Calls Try.prog 22 #[.agg #[.int .i64 B.toks, .int .i64 B.look, o, l]] W (FolP W B) := fun o l W BW hBW hr => followOf_any B _ _ o l BW W rfl rfl hBW hr (fun S => hcnt _ S)
  have hre : ∀ o l W BW, bmay B = 0 → BW ≤ W.heap.size → BR W BW o l B → Calls Try.prog 26 #[.agg #[.int .i64 B.toks, .int .i64 B.look, o, l]] W (RReachedP W B) := fun o l W BW h0 hBW hr => refReached_any B o l BW W hBW hr h0
  have hen : ∀ o l W BW, bmay B = 0 → BW ≤ W.heap.size → BR W BW o l B → Calls Try.prog 27 #[.agg #[.int .i64 B.toks, .int .i64 B.look, o, l]] W (MarkP W B true) := fun o l W BW h0 hBW hr => refEnds_any B o l BW W hBW hr h0
  have Hfw := Lib.hid hfw; have Hp1 := Lib.hid hp1; have Hb1 := Lib.hid hb1; have Hbx := Lib.hid hbx
  have Hof := Lib.hid hof; have Hre := Lib.hid hre; have Hen := Lib.hid hen
  have Hwk := Lib.hid works15_any
  clear hfw hp1 hb1 r hbx hof hre hen hcnt
  obtain ⟨tk, htk⟩ : ∃ tk, tk = B.toks := ⟨_, rfl⟩
  obtain ⟨lk, hlk⟩ : ∃ lk, lk = B.look := ⟨_, rfl⟩
  rw [← htk, ← hlk] at Hfw Hp1 Hb1 Hbx Hof Hre Hen ⊢
  have Htk := Lib.hid htk; have Hlk := Lib.hid hlk
  clear htk hlk
  go_enter Try.func8, Try.ntmps8
  go_upto_region 1 with fail
  generalize w.alloc (.cells #[.int .i64 tk, .int .i64 lk, ov, lv] 25) = w1 at *
  have Hw := Lib.hid (Hwk.out w1)
  clear Hwk
  go_wp2_with fail
  refine (Hw.out).mono ?_
  rintro e w2 ⟨rfl, hbw⟩
  have hp2 : w2.heap[w.heap.size]? = some (.cells #[.int .i64 tk, .int .i64 lk, ov, lv] 25 (0, 0)) := by
    rw [hbw.block _ (four_cells Hp1.out).2.2.2.2.2.2.2.2]; exact Hp1.out
  obtain ⟨y0, y1, y2, y3, _, _, _, _, hlt0⟩ := four_cells hp2
  have HB2 := Lib.hid (Hb1.out.trans (hbw.mono Hb1.out.size))
  have Hq := Lib.hid (Hfw.out w2 _ (Nat.le_trans Hbx.out.le hbw.size) (Hbx.out.r.below (hbw.mono Hbx.out.le)))
  have Hp2 := Lib.hid hp2
  clear hbw hp2 Hw Hp1 Hbx Hfw
  go_wp2_with fail
  refine (Hq.out).mono ?_
  rintro e w3 ⟨o, l, rfl, hbr, hb3⟩
  obtain ⟨oa, oc, rfl, _, _⟩ := (hbr w3 (fun _ _ => rfl) rfl).of.val
  obtain ⟨la, lc, rfl, _, _⟩ := (hbr w3 (fun _ _ => rfl) rfl).l.val
  have hp3 : w3.heap[w.heap.size]? = some (.cells #[.int .i64 tk, .int .i64 lk, ov, lv] 25 (0, 0)) := by rw [hb3.block _ hlt0]; exact Hp2.out
  have hbox := BoxB.put tk lk hp3 (show w.heap.size < w2.heap.size + 2 by omega) hbr
  have HB4 := Lib.hid (below_four (HB2.out.trans (hb3.mono HB2.out.size)) (Nat.le_refl w.heap.size) (.int .i64 tk) (.int .i64 lk) (.slice oa B.of.length oc) (.slice la B.l.length lc))
  obtain ⟨x0, x1, x2, x3, f0, f1, f2, f3, hlt2⟩ := four_cells hp3
  have Hbox := Lib.hid hbox
  clear y0 y1 y2 y3 hlt0 hp3 hbr hb3 hbox Hq Hp2
  go_upto_region 4 with fail
  generalize hw4 : (((w3.setCell ⟨w.heap.size, 0, none⟩ (.int .i64 tk)).setCell ⟨w.heap.size, 1, none⟩ (.int .i64 lk)).setCell ⟨w.heap.size, 2, none⟩ (.slice oa B.of.length oc)).setCell ⟨w.heap.size, 3, none⟩ (.slice la B.l.length lc) = w4 at *
  clear x0 x1 x2 x3 f0 f1 f2 f3 hlt2 hw4
  have Hq := Lib.hid (Hof.out _ _ w4 _ Hbox.out.le Hbox.out.r)
  obtain ⟨ol, hol⟩ : ∃ ol, ol = B.of.length := ⟨_, rfl⟩
  obtain ⟨ll, hll⟩ : ∃ ll, ll = B.l.length := ⟨_, rfl⟩
  rw [← hol, ← hll] at Hbox Hq ⊢
  have Hol := Lib.hid hol
  clear hol hll
  obtain ⟨c0, c1, c2, c3⟩ := Hbox.out.four
  go_wp2_with fail
  refine (Hq.out).mono ?_
  intro e w5 hp
  obtain ⟨⟨a1, d1, x, F, rfl, hV, hS⟩, hb5⟩ := hp.a
  have HB5 := Lib.hid (HB4.out.trans (hb5.mono HB4.out.size))
  have Hbox5 := Lib.hid (Hbox.out.keep hb5)
  have HV := Lib.hid hV; have HS := Lib.hid hS
  clear Hq Hbox hp hV hS hb5 Hof c0 c1 c2 c3
  by_cases hx : x = 0
  · subst hx
    have hV2 : bmay B = 0 ∧ F.length = B.of.length ∧ ∃ S, GoodSt B S ∧ ¬ OverSt B B.look S ∧ InvF (stAll B.look S B.l) B.look 600 (endT B.look) B.of.length F ∧ ClosedF (stAll B.look S B.l) B.look (endT B.look) F := by
      rcases HV.out with ⟨h1, h2, _⟩ | ⟨h0, ⟨_, h1, h2⟩ | ⟨h1, _⟩⟩
      · exact absurd h2.symm h1
      · exact ⟨h0, h1, h2⟩
      · cases h1
    obtain ⟨h0, hFl, S, hGS, hno, hI, hC⟩ := hV2
    have hre := fun W (hW : Below w5.heap.size w5 W) => Hre.out (.slice oa ol oc) (.slice la ll lc) W _ h0 (Hbox5.out.keep hW).le (Hbox5.out.keep hW).r
    have hen := fun W (hW : Below w5.heap.size w5 W) => Hen.out (.slice oa ol oc) (.slice la ll lc) W _ h0 (Hbox5.out.keep hW).le (Hbox5.out.keep hW).r
    have Hre5 := Lib.hid hre; have Hen5 := Lib.hid hen
    have HM := Lib.hid (And.intro h0 (And.intro hFl (And.intro hGS (And.intro hI hC))))
    have HC : Hid (∀ W, Below w5.heap.size w5 W → W.cell? ⟨w.heap.size, 0, none⟩ = some (.int .i64 tk) ∧ W.cell? ⟨w.heap.size, 1, none⟩ = some (.int .i64 lk) ∧ W.cell? ⟨w.heap.size, 2, none⟩ = some (.slice oa ol oc) ∧ W.cell? ⟨w.heap.size, 3, none⟩ = some (.slice la ll lc)) := Lib.hid fun W hW => (Hbox5.out.keep hW).four
    have hfl : F.length = ol := by rw [hFl]; exact Hol.out.symm
    have hol5 : ol ≤ 500 := by have := (bmay_zero h0).2.1; have := Hol.out; omega
    rw [hfl]
    clear hre hen h0 hFl hGS hno hI hC HV Hre Hen Hbox5
    have Hfl := Lib.hid hfl
    clear hfl
    go_upto_region 7 with fail
    have Hdr := Lib.hid (Below.refl w5.heap.size w5).drew
    refine wp_region_ord 5 [(0, true), (2, true), (1, false), (3, false), (4, true), (5, false)] (fun W => W.cell? ⟨w.heap.size, 0, none⟩ = some (.int .i64 tk) ∧ W.cell? ⟨w.heap.size, 1, none⟩ = some (.int .i64 lk) ∧ W.cell? ⟨w.heap.size, 2, none⟩ = some (.slice oa ol oc) ∧ W.cell? ⟨w.heap.size, 3, none⟩ = some (.slice la ll lc)) (by kernel_rfl) (by kernel_rfl) (HC.out _ Hdr.out) ?_
    simp only [ordL, List.getElem?_toArray, List.getElem?_cons_succ, List.getElem?_cons_zero]
    iterate 2 (
      refine ordW_read (v := ?_) (by rfl) ?_ (fun _ _ _ h => h) ?_
      rotate_left
      focus (intro w' hS; obtain ⟨s0, s1, s2, s3⟩ := hS; go_simp; (try with_reducible rfl); done)
      try simp only [Act.put, List.setIfInBounds_toArray, List.set_cons_zero, List.set_cons_succ])
    refine ordW_do (by rfl) (fun K' HK => ?_)
    go_simp
    refine (Hre5.out _ Hdr.out).mono ?_
    rintro e w6 ⟨v6, st, rfl, hl6, hr6, own6, hb6⟩
    obtain ⟨va6, vc6, rfl, _, _⟩ := owns_valP own6
    have hb56 : Below w5.heap.size w5 w6 := Hdr.out.trans hb6
    have Hb56 := Lib.hid hb56; have Hown6 := Lib.hid own6; have Hr6 := Lib.hid (And.intro hl6 hr6)
    refine HK.out _ _ (fun _ => HC.out _ hb56) ?_
    clear HK K' hb56 own6 hb6 hl6 hr6 Hre5
    try simp only [Act.put, List.setIfInBounds_toArray, List.set_cons_zero, List.set_cons_succ]
    refine ordW_do (by rfl) (fun K' HK => ?_)
    go_simp
    refine (Hen5.out _ Hb56.out).mono ?_
    rintro e w7 ⟨v7, st2, rfl, hfix, own7, hb7⟩
    obtain ⟨va7, vc7, rfl, _, _⟩ := owns_valP own7
    have hb57 : Below w5.heap.size w5 w7 := Hb56.out.trans (hb7.mono Hb56.out.size)
    have Hb57 := Lib.hid hb57; have Hown7 := Lib.hid own7; have Hfix := Lib.hid hfix
    have Hrow6 := Lib.hid (((Row.of_owns Hown6.out).below hb7).mono hb7.size)
    have Hrow7 := Lib.hid (Row.of_owns own7)
    refine HK.out _ _ (fun _ => HC.out _ hb57) ?_
    clear HK K' hb57 own7 hb7 hfix Hen5 Hown6 Hown7
    try simp only [Act.put, List.setIfInBounds_toArray, List.set_cons_zero, List.set_cons_succ]
    refine ordW_read (v := ?_) (by rfl) ?_ (fun _ _ _ h => h) ?_
    rotate_left
    focus (intro w' hS; obtain ⟨s0, s1, s2, s3⟩ := hS; go_simp; (try with_reducible rfl); done)
    try simp only [Act.put, List.setIfInBounds_toArray, List.set_cons_zero, List.set_cons_succ]
    refine ordW_do (by rfl) (fun K' HK => ?_)
    go_simp
    refine HK.out _ _ (fun h => absurd rfl h) (ordW_nil ?_)
    clear HK K'
    have hs2l : st2.length = ol := by rw [Hfix.out.len]; exact Hol.out.symm
    have hs1l : st.length = ol := by rw [Hr6.out.1]; exact Hol.out.symm
    rw [hs2l] at Hrow7 ⊢
    rw [hs1l] at Hrow6 ⊢
    have Hs2 := Lib.hid hs2l; have Hs1 := Lib.hid hs1l
    have HB7 := Lib.hid (HB5.out.trans (Hb57.out.mono HB5.out.size))
    have HS7 := Lib.hid (HS.out.below Hb57.out)
    obtain ⟨c0, c1, c2, c3⟩ := HC.out _ Hb57.out
    clear hs2l hs1l HB5 HS HC Hb57 Hb56
    go_wp2_with fail
    go_loopw [7, 8] (fun av nv wr => ∃ k : Nat, k ≤ ol ∧ nv = .int .i64 (k : Nat) ∧ av = .bool ((st2.take k).all id) ∧ wr = w7) (fun _ nv _ => ol - (intOf nv).toNat)
    case atStart => exact ⟨0, Nat.zero_le _, rfl, rfl, rfl⟩
    case round =>
      obtain ⟨k, hk, rfl, rfl, rfl⟩ := hrel
      by_cases hlt : k < ol
      · have hk2 : k < st2.length := by have := Hs2.out; omega
        have hnext : (st2.take (k + 1)).all id = ((st2.take k).all id && st2[k]) := by
          rw [List.take_succ_eq_append_getElem hk2, List.all_append]; simp
        obtain ⟨b7, o7, hva, hb7, _⟩ := Row.at Hrow7.out (by rw [bools_length]; omega)
        subst hva
        have c8 := Row.cell Hrow7.out k _ (bools_at _ k hk2)
        have hk3 : (k : Int) < (ol : Int) := by omega
        have hk4 : (0 : Int) ≤ (k : Int) := by omega
        have hk5 : (k : Int) ≤ 500 := by omega
        have Hlt := Lib.hid hlt; have Hn := Lib.hid hnext
        clear hnext hk hlt
        generalize st2[k] = z at *
        generalize (st2.take k).all id = y at *
        cases y with
        | true =>
          go_wp2_with fail
          go_roundw
          case rel => exact ⟨k + 1, Hlt.out, by go_num, by rw [Hn.out]; rfl, by first | rfl | trivial⟩
          case measure => have := Hlt.out; simp [intOf]; omega
        | false =>
          go_wp2_with fail
          go_roundw
          case rel => exact ⟨k + 1, Hlt.out, by go_num, by rw [Hn.out]; rfl, by first | rfl | trivial⟩
          case measure => have := Hlt.out; simp [intOf]; omega
      · obtain rfl : k = ol := by omega
        obtain ⟨w7, rfl⟩ : ∃ w7 : World, w7 = wr := ⟨_, rfl⟩
        have hall : st2.take k = st2 := List.take_of_length_le (by have := Hs2.out; omega)
        rw [hall]
        have hk0 : decide (k < k) = false := by simp
        obtain ⟨al, hal⟩ : ∃ al, al = st2.all id := ⟨_, rfl⟩
        rw [← hal]
        have Hsome : Hid (al = true → ∀ n : Nat, n < k → st[n]? = some true → (stAt F (n : Int)) ≠ []) := Lib.hid fun h n hn hr => by
          obtain ⟨m0, m1, m2, m3, m4⟩ := HM.out
          obtain ⟨x, hx⟩ := some_fol m0 m2 (fun j hj => Hfix.out.sound j (by
            have h1 : j < st2.length := by rw [Hfix.out.len]; exact hj
            rw [List.getElem?_eq_getElem h1]
            have h2 := List.all_eq_true.1 (hal.symm.trans h) _ (List.getElem_mem h1)
            simpa using h2)) m4 ((Hr6.out.2 n (by have := Hol.out; omega)).1 hr)
          intro h3; rw [h3] at hx; cases hx
        have HC7 : Hid (∀ W, Below w7.heap.size w7 W → W.cell? ⟨w.heap.size, 1, none⟩ = some (.int .i64 lk) ∧ W.cell? ⟨w.heap.size, 2, none⟩ = some (.slice oa k oc)) := Lib.hid fun W hW => ⟨(hW.cell (p := ⟨w.heap.size, 1, none⟩) (World.block_lt_of_cell? w7 _ c1)).trans c1, (hW.cell (p := ⟨w.heap.size, 2, none⟩) (World.block_lt_of_cell? w7 _ c2)).trans c2⟩
        clear hall hal hk hlt c0 c1 c2 c3
        go_wp2_with fail
        go_loopw [9] (fun nv wr => ∃ n : Nat, n ≤ k ∧ nv = .int .i64 (n : Nat) ∧ Hid (Below w7.heap.size w7 wr)) (fun nv _ => k - (intOf nv).toNat)
        case atStart => exact ⟨0, Nat.zero_le _, rfl, Lib.hid (Below.refl _ _)⟩
        case round =>
          obtain ⟨n, hn, rfl, HBn⟩ := hrel
          obtain ⟨c1, c2⟩ := HC7.out _ HBn.out
          by_cases hlt : n < k
          · have hnF : n < F.length := by have := Hfl.out; omega
            have hns : n < st.length := by have := Hs1.out; omega
            obtain ⟨g1, v1, rfl, q1, q3, q5⟩ := (HS7.out.below HBn.out) n hnF
            obtain ⟨t1, s1, rfl, _, _⟩ := q3.val
            have hstF : stAt F (n : Int) = F[n] := stAt_nat F n hnF
            have hrow6 : Row wr wr.heap.size 1 (.slice va6 k vc6) k (bools st) := (Hrow6.out.below HBn.out).mono HBn.out.size
            obtain ⟨b6, o6, hva, hb6, _⟩ := Row.at hrow6 (by rw [bools_length]; omega)
            subst hva
            have c6 := Row.cell hrow6 n _ (bools_at _ n hns)
            have hsome := fun h : al = true => Hsome.out h n hlt
            have hsx : st[n]? = some st[n] := List.getElem?_eq_getElem hns
            have hwh : ∀ t ∈ F[n], WholeT lk t := fun t ht => by
              obtain ⟨m0, m1, m2, m3, m4⟩ := HM.out
              rw [Hlk.out]
              exact whole_all m0 m2 (n := ((n : Int)).toNat) (m3.sound.der (n : Int) t (by rw [hstF]; exact ht))
            rw [hsx, hstF] at hsome
            have Hwh := Lib.hid hwh
            have Hsm : Hid (al = true → st[n] = true → F[n].length ≠ 0) := Lib.hid fun h1 h2 h3 => hsome h1 (by rw [h2]) (List.length_eq_zero_iff.1 h3)
            have Hq3 := Lib.hid q3
            have hk1 : (n : Int) < (k : Int) := by omega
            have hk2 : (0 : Int) ≤ (n : Int) := by omega
            have hk3 : (n : Int) ≤ 500 := by omega
            have Hlt := Lib.hid hlt
            clear hlt hn hsome hsx hwh hrow6 hb6 hstF
            generalize st[n] = z at *
            generalize F[n] = T at *
            clear q3
            obtain ⟨tn, htn⟩ : ∃ tn, tn = T.length := ⟨_, rfl⟩
            rw [← htn] at q1 Hsm Hq3
            have Htn := Lib.hid htn
            have htn63 : tn ≤ 9223372036854775807 := by
              obtain ⟨_, _, e, _, h2⟩ := Hq3.out.val
              cases e
              unfold maxLen at h2; omega
            clear htn
            have hcase : al = false ∨ (al = true ∧ z = false) ∨ (al = true ∧ z = true ∧ ((tn : Int) == 0) = false ∧ (tn == 0) = false) := by
              cases al with
              | false => exact .inl rfl
              | true =>
                cases z with
                | false => exact .inr (.inl ⟨rfl, rfl⟩)
                | true =>
                  have := Hsm.out rfl rfl
                  exact .inr (.inr ⟨rfl, rfl, by rw [beq_eq_false_iff_ne]; omega, by rw [beq_eq_false_iff_ne]; omega⟩)
            obtain ⟨wo, rfl⟩ : ∃ wo : World, wo = wr := ⟨_, rfl⟩
            have Hq1 := Lib.hid q1
            have Hg1 := Lib.hid q5
            clear Hsm q5
            rcases hcase with rfl | ⟨rfl, rfl⟩ | ⟨rfl, rfl, hz1, hz2⟩
            all_goals
              go_wp2_with fail
              go_loopw [10] (fun iv wx => ∃ i : Nat, i ≤ tn ∧ iv = .int .i64 (i : Nat) ∧ Hid (Below wo.heap.size wo wx)) (fun iv _ => tn - (intOf iv).toNat)
              case atStart => exact ⟨0, Nat.zero_le _, rfl, Lib.hid (Below.refl _ _)⟩
              case round =>
                clear c1 c2 c6 q1
                obtain ⟨i, hi, rfl, HBi⟩ := hrel
                have HBw := Lib.hid (HBn.out.trans (HBi.out.mono HBn.out.size))
                obtain ⟨c1, c2⟩ := HC7.out _ HBw.out
                have q1 := (HBi.out.cell (p := ⟨g1, n, none⟩) Hg1.out).trans Hq1.out
                by_cases hlt2 : i < tn
                · have hiT : i < T.length := by have := Htn.out; omega
                  have hrow : Row wr wr.heap.size 1 (.slice t1 tn s1) tn (svt T) := (Hq3.out.below HBi.out).mono HBi.out.size
                  obtain ⟨b9, o9, hva, hb9, _⟩ := Row.at hrow (by rw [svt_length]; omega)
                  subst hva
                  have c9 := Row.cell hrow i _ (svt_at T i hiT)
                  have hw9 := Hwh.out _ (List.getElem_mem hiT)
                  have hmay := may_whole (by obtain ⟨m0, _⟩ := HM.out; have := (bmay_zero m0).2.2.2.2.2.2.2.2; have := Hlk.out; omega) hw9
                  have hlen : ((T[i].length : Int)) = lk := by rw [hw9.1]; obtain ⟨m0, _⟩ := HM.out; have := (bmay_zero m0).2.2.2.2.2.2.2.2; have := Hlk.out; omega
                  obtain ⟨sx, hsx⟩ : ∃ sx : ByteArray, sx = ⟨T[i].toArray⟩ := ⟨_, rfl⟩
                  have hsz : (sx.size : Int) = lk := by rw [hsx]; show ((T[i].toArray.size : Nat) : Int) = lk; rw [List.size_toArray]; exact hlen
                  rw [← hsx] at c9 hmay
                  have z1 : ((sx.size : Int) == lk) = true := by rw [beq_iff_eq]; exact hsz
                  have z2 : ((sx.size : Int) != lk) = false := by rw [bne_eq_false_iff_eq]; exact hsz
                  have hszm : sx.size ≤ maxLen := by obtain ⟨m0, _⟩ := HM.out; have := (bmay_zero m0).2.2.2.2.2.2.2.2; have := Hlk.out; unfold maxLen; omega
                  have HMay : Hid (∀ W, Calls Try.prog 28 #[.string sx, .int .i64 lk] W fun e w' => e = .returned (.bool true) ∧ w' = W) := Lib.hid fun W => by
                    have := refTMay_any sx lk W hszm
                    rw [hmay] at this; exact this
                  have hk4 : (i : Int) < (tn : Int) := by omega
                  have hk5 : (0 : Int) ≤ (i : Int) := by omega
                  have hk6 : (i : Int) < 9223372036854775807 := by omega
                  have Hlt2 := Lib.hid hlt2
                  have HBd := Lib.hid (fun q => HBi.out.trans ((below_drewsP wr q).mono HBi.out.size))
                  clear hlt2 hi hiT hrow hb9 hw9 hmay hlen hsx hsz hszm c2
                  go_upto_region 21 with fail
                  go_quiet ((go_at_call 28; exact Calls.quiet_of_same (HMay.out _)))
                  generalize hwq : wr.drewN _ = wq at *
                  have HB5 : Hid (Below wo.heap.size wo wq) := Lib.hid (by rw [← hwq]; exact HBd.out _)
                  clear hwq
                  go_wp2_with fail
                  go_roundw
                  case rel => exact ⟨i + 1, Hlt2.out, by go_num, HB5⟩
                  case measure => have := Hlt2.out; simp [intOf]; omega
                · obtain rfl : i = tn := by omega
                  have hi0 : decide (i < i) = false := by simp
                  clear hlt2 hi c1 c2
                  go_wp2_with fail
                  go_roundw
                  case rel => exact ⟨n + 1, Hlt.out, by go_num, HBw⟩
                  case measure => have := Hlt.out; simp [intOf]; omega
          · have hn0 : decide (n < k) = false := decide_eq_false hlt
            have HE := Lib.hid (HB7.out.trans (HBn.out.mono HB7.out.size))
            clear hlt hn
            go_wp2_with fail
            go_ret
            exact ⟨rfl, HE.out⟩
  · have hF := HV.out.len.2 hx
    subst hF
    have q1 : (x == 0) = false := by rw [beq_eq_false_iff_ne]; exact hx
    have q2 : (x != 0) = true := by rw [bne_iff_ne]; exact hx
    clear hx
    simp only [List.length_nil]
    go_wp2_with fail
    go_ret
    exact ⟨rfl, HB5.out⟩
set_option maxRecDepth 100000 in
theorem followWhole_law {H : Type} {base : Nat} (enc : TypeId × Value → H) (W : World)
    (v0 : Value) (d0 : DataW H) (p0 : List MemPlace) (k0 : Value.okWide Try.prog W .any base 25 v0) (h0 : DataW.Trod enc Try.prog W 0 (fun _ => true) true 25 v0 d0 p0) :
    Calls Try.prog 8 #[v0] W fun e w' => e = .returned (.bool true) ∧ Below W.heap.size W w' := by
  obtain ⟨b, o, l, rfl, r, _⟩ := bnfOf k0 h0
  exact followWhole_walk b o l W r
end Go.Proofs.Ytimgnbacgdmiiaa
