/-
  The statement of what begins with what.
-/
import Derived.Test.YtfmcigodfihlcaaReaR
import Derived.Deep.QuietTactic
namespace Go.Proofs.Ytfmcigodfihlcaa
open Go.RowKit PK
set_option linter.unusedVariables false
set_option linter.unusedSimpArgs false
attribute [local go_sem ↓] append_appM

theorem LeftP.at {w w' : World} {b : Bn} {e : Ending} (h : LeftP w b e w') : (bmay b ≠ 0 ∧ e = .returned (.tuple #[.slice none 0 0, .int .i64 (bmay b)]) ∧ Below w.heap.size w w') ∨ (bmay b = 0 ∧ ∃ a c p st, e = .returned (.tuple #[.slice a (pick p b.of.length).length c, .int .i64 0]) ∧ Fix b false st ∧ (∀ j : Nat, p j = true ↔ Rc (FN b st) (FN b st (j : Int)) (j : Int)) ∧ Row w' w'.heap.size 1 (.slice a (pick p b.of.length).length c) (pick p b.of.length).length (ints (pick p b.of.length)) ∧ Below w.heap.size w w') := by
  rcases h with ⟨⟨h1, h2⟩ | ⟨h1, v, p, st, h2, h3, h4, h5⟩, hb⟩
  · exact .inl ⟨h1, h2, hb⟩
  · obtain ⟨a, c, rfl, _, _⟩ := owns_valP h5
    exact .inr ⟨h1, a, c, p, st, h2, h3, h4, Row.of_owns h5, hb⟩
theorem refLeft11 (b : Bn) (tk lk : Int) (o l : Value) (n : Nat) (w : World) (h1 : b.toks = tk) (h2 : b.look = lk) (hB : n ≤ w.heap.size) (r : BR w n o l b) (h0 : bmay b = 0) (p : Nat → Bool) (st : List Bool) (hst : Fix b false st) (hp : ∀ j : Nat, p j = true ↔ Rc (FN b st) (FN b st (j : Int)) (j : Int)) :
    Calls Try.prog 31 #[.agg #[.int .i64 tk, .int .i64 lk, o, l]] w (OwnI w (pick p b.of.length)) := by
  subst h1 h2; exact refLeft_any p st b o l n w hB r h0 hst hp
theorem refBegins11 (b : Bn) (tk lk n m : Int) (o l : Value) (nB : Nat) (w : World) (h1 : b.toks = tk) (h2 : b.look = lk) (hB : nB ≤ w.heap.size) (r : BR w nB o l b) (h0 : bmay b = 0) (st : List Bool) (hst : Fix b false st) :
    Calls Try.prog 32 #[.agg #[.int .i64 tk, .int .i64 lk, o, l], .int .i64 n, .int .i64 m] w (RBeginsP w b st n m) := by
  subst h1 h2; exact refBegins_any n m st b o l nB w hB r h0 hst
set_option maxHeartbeats 4000000 in
set_option maxRecDepth 100000 in
theorem reachLeft_walk (b : Bn) (ov lv : Value) (n m : Int) (w : World) (r : BR w w.heap.size ov lv b) :
    Calls Try.prog 7 #[.agg #[.int .i64 b.toks, .int .i64 b.look, ov, lv], .int .i64 n, .int .i64 m] w (BoolB w true) := by
  have hb1 := agg_box w b.toks b.look ov lv 25
  have hfew := few11_any b b.toks b.look ov lv w.heap.size _ rfl rfl hb1.size (r.below hb1)
  have hp1 := box_new w #[.int .i64 b.toks, .int .i64 b.look, ov, lv] 25
  have hidm := fewB_idem 10 20 b
  obtain ⟨htk, hlk⟩ := fewB_toks 10 20 b
  generalize fewB 10 20 b = B at *
  generalize b.toks = tk at *
  generalize b.look = lk at *
  have hs1 : (w.alloc (.cells #[.int .i64 tk, .int .i64 lk, ov, lv] 25)).heap.size = w.heap.size + 1 := by simp
  have Hfew := Lib.hid hfew; have Hp1 := Lib.hid hp1; have Hb1 := Lib.hid hb1; have Hdm := Lib.hid hidm; have Hs1 := Lib.hid hs1; have Etk := Lib.hid htk; have Elk := Lib.hid hlk
  clear hfew hp1 hb1 hidm hs1 htk hlk r
  go_enter Try.func7, Try.ntmps7
  go_upto_region 1 with fail
  obtain ⟨y0, y1, y2, y3, _, _, _, _, hlt0⟩ := four_cells Hp1.out
  generalize w.alloc (.cells #[.int .i64 tk, .int .i64 lk, ov, lv] 25) = w1 at *
  go_wp2_with fail
  refine (Hfew.out).mono ?_
  rintro e w2 ⟨o, l, rfl, hbr, hb2⟩
  obtain ⟨oa, oc, rfl, _, hocm⟩ := (hbr w2 (fun _ _ => rfl) rfl).of.val
  obtain ⟨la, lc, rfl, _, _⟩ := (hbr w2 (fun _ _ => rfl) rfl).l.val
  have hp2 : w2.heap[w.heap.size]? = some (.cells #[.int .i64 tk, .int .i64 lk, ov, lv] 25 (0, 0)) := by rw [hb2.block _ hlt0]; exact Hp1.out
  have hbox := BoxB.put tk lk hp2 (show w.heap.size < w1.heap.size + 2 by omega) hbr
  have HB3 := Lib.hid (below_four (Hb1.out.trans (hb2.mono Hb1.out.size)) (Nat.le_refl w.heap.size) (.int .i64 tk) (.int .i64 lk) (.slice oa B.of.length oc) (.slice la B.l.length lc))
  obtain ⟨x0, x1, x2, x3, f0, f1, f2, f3, hlt2⟩ := four_cells hp2
  have Hbox := Lib.hid hbox
  have hfw : ∀ W BW, BW ≤ W.heap.size → BR W BW (.slice oa B.of.length oc) (.slice la B.l.length lc) B → Calls Try.prog 23 #[.agg #[.int .i64 tk, .int .i64 lk, .slice oa B.of.length oc, .slice la B.l.length lc]] W (Few10 W tk lk B) := fun W BW hBW hr => by
    have := few11_any B tk lk (.slice oa B.of.length oc) (.slice la B.l.length lc) BW W Etk.out Elk.out hBW hr
    rw [Hdm.out] at this; exact this
  have hmy : ∀ W BW, BW ≤ W.heap.size → BR W BW (.slice oa B.of.length oc) (.slice la B.l.length lc) B → Calls Try.prog 15 #[.agg #[.int .i64 tk, .int .i64 lk, .slice oa B.of.length oc, .slice la B.l.length lc]] W (MayP W (bmay B)) := fun W BW hBW hr => may10 B tk lk _ _ BW W Etk.out Elk.out hBW hr
  have hrl : ∀ W BW, BW ≤ W.heap.size → BR W BW (.slice oa B.of.length oc) (.slice la B.l.length lc) B → bmay B = 0 → ∀ p st, Fix B false st → (∀ j : Nat, p j = true ↔ Rc (FN B st) (FN B st (j : Int)) (j : Int)) → Calls Try.prog 31 #[.agg #[.int .i64 tk, .int .i64 lk, .slice oa B.of.length oc, .slice la B.l.length lc]] W (OwnI W (pick p B.of.length)) := fun W BW hBW hr h0 p st h1 h2 => refLeft11 B tk lk _ _ BW W Etk.out Elk.out hBW hr h0 p st h1 h2
  have hrb : ∀ W BW, BW ≤ W.heap.size → BR W BW (.slice oa B.of.length oc) (.slice la B.l.length lc) B → bmay B = 0 → ∀ st, Fix B false st → Calls Try.prog 32 #[.agg #[.int .i64 tk, .int .i64 lk, .slice oa B.of.length oc, .slice la B.l.length lc], .int .i64 n, .int .i64 m] W (RBeginsP W B st n m) := fun W BW hBW hr h0 st h1 => refBegins11 B tk lk n m _ _ BW W Etk.out Elk.out hBW hr h0 st h1
  unfold maxLen at hocm
  have hol63 : B.of.length ≤ 9223372036854775807 := by omega
  obtain ⟨ol, hol⟩ : ∃ ol, ol = B.of.length := ⟨_, rfl⟩
  obtain ⟨ll, hll⟩ : ∃ ll, ll = B.l.length := ⟨_, rfl⟩
  rw [← hol, ← hll] at HB3 Hbox hfw hmy hrl hrb ⊢
  rw [← hol] at hol63
  have Hfw := Lib.hid hfw; have Hmy := Lib.hid hmy; have Hrl := Lib.hid hrl; have Hrb := Lib.hid hrb; have Hol := Lib.hid hol
  clear y0 y1 y2 y3 hlt0 hp2 hbr hb2 hbox Hfew hol hll hfw hmy hrl hrb hocm
  go_upto_region 2 with fail
  generalize (((w2.setCell ⟨w.heap.size, 0, none⟩ (.int .i64 tk)).setCell ⟨w.heap.size, 1, none⟩ (.int .i64 lk)).setCell ⟨w.heap.size, 2, none⟩ (.slice oa ol oc)).setCell ⟨w.heap.size, 3, none⟩ (.slice la ll lc) = w3 at *
  clear x0 x1 x2 x3 f0 f1 f2 f3 hlt2
  obtain ⟨c0, c1, c2, c3⟩ := Hbox.out.four
  have Hfew := Lib.hid (Hfw.out w3 _ Hbox.out.le Hbox.out.r)
  go_wp2_with fail
  refine (Hfew.out).mono ?_
  rintro e w5 ⟨o5, l5, rfl, hbr5, hb5⟩
  obtain ⟨oa5, oc5, rfl, _, _⟩ := (hbr5 w5 (fun _ _ => rfl) rfl).of.val
  obtain ⟨la5, lc5, rfl, _, _⟩ := (hbr5 w5 (fun _ _ => rfl) rfl).l.val
  have HBx5 := Lib.hid (Hbox.out.keep hb5)
  have HB5 := Lib.hid (HB3.out.trans (hb5.mono HB3.out.size))
  have Hl := Lib.hid (left_any B tk lk (.slice oa5 B.of.length oc5) (.slice la5 B.l.length lc5) w5.heap.size w5 Etk.out Elk.out (Nat.le_refl _) (hbr5 w5 (fun _ _ => rfl) rfl))
  have Hwk := Lib.hid works11_any
  clear hbr5 hb5 c0 c1 c2 c3 Hfew Hbox HB3
  go_wp2_with fail
  refine (Hl.out).mono ?_
  intro e w6 hp
  rcases hp.at with ⟨hne, rfl, hb6⟩ | ⟨h0, a6, c6, p, st6, rfl, hF6, hp6, hr6, hb6⟩
  · have Hne := Lib.hid hne
    have hq : (bmay B == 0) = false := by rw [beq_eq_false_iff_ne]; exact hne
    have hq2 : (bmay B != 0) = true := by rw [bne_iff_ne]; exact hne
    obtain ⟨mm, hm⟩ : ∃ mm, mm = bmay B := ⟨_, rfl⟩
    rw [← hm] at hq hq2 ⊢
    have Hm := Lib.hid hm
    have HBx6 := Lib.hid (HBx5.out.keep hb6)
    have HB6 := Lib.hid (HB5.out.trans (hb6.mono HB5.out.size))
    obtain ⟨c0, c1, c2, c3⟩ := HBx6.out.four
    have Hfew := Lib.hid (Hfw.out w6 _ HBx6.out.le HBx6.out.r)
    clear hne hm hp hb6 HBx5 HB5 Hl
    go_wp2_with fail
    refine (Hfew.out).mono ?_
    rintro e w7 ⟨o7, l7, rfl, hbr7, hb7⟩
    obtain ⟨oa7, oc7, rfl, _, _⟩ := (hbr7 w7 (fun _ _ => rfl) rfl).of.val
    obtain ⟨la7, lc7, rfl, _, _⟩ := (hbr7 w7 (fun _ _ => rfl) rfl).l.val
    have Hl := Lib.hid (begins_any B tk lk n m (.slice oa7 B.of.length oc7) (.slice la7 B.l.length lc7) w7.heap.size w7 Etk.out Elk.out (Nat.le_refl _) (hbr7 w7 (fun _ _ => rfl) rfl))
    have HBx7 := Lib.hid (HBx6.out.keep hb7)
    have HB7 := Lib.hid (HB6.out.trans (hb7.mono HB6.out.size))
    clear hbr7 hb7 c0 c1 c2 c3 Hfew HBx6 HB6
    go_wp2_with fail
    refine (Hl.out).mono ?_
    intro e w8 hp
    obtain ⟨v8, rfl, hv8, hb8⟩ := hp.val
    obtain rfl : v8 = false := by
      cases v8 with
      | false => rfl
      | true => exact absurd (hv8.1 rfl).1 Hne.out
    have HBx8 := Lib.hid (HBx7.out.keep hb8)
    have HB8 := Lib.hid (HB7.out.trans (hb8.mono HB7.out.size))
    obtain ⟨c0, c1, c2, c3⟩ := HBx8.out.four
    have hy := Hmy.out w8 _ HBx8.out.le HBx8.out.r
    rw [← Hm.out] at hy
    have Hy := Lib.hid hy
    clear hp hv8 hb8 Hl HBx7 HB7 hy
    go_wp2_with fail
    refine (Hy.out).mono ?_
    rintro e w9 ⟨rfl, hb9⟩
    have HB9 := Lib.hid (HB8.out.trans (hb9.mono HB8.out.size))
    clear hb9 Hy c0 c1 c2 c3
    go_wp2_with fail
    refine (Hwk.out _).mono ?_
    rintro e w10 ⟨rfl, hb10⟩
    have HB10 := Lib.hid (HB9.out.trans (hb10.mono HB9.out.size))
    clear hb10
    go_wp2_with fail
    go_ret
    exact ⟨rfl, HB10.out⟩
  · have H0 := Lib.hid h0; have HF6 := Lib.hid hF6; have Hp6 := Lib.hid hp6
    have HBx6 := Lib.hid (HBx5.out.keep hb6)
    have HB6 := Lib.hid (HB5.out.trans (hb6.mono HB5.out.size))
    obtain ⟨c0, c1, c2, c3⟩ := HBx6.out.four
    have Hfew := Lib.hid (Hfw.out w6 _ HBx6.out.le HBx6.out.r)
    have hrl6 := fun W BW h1 h2 => Hrl.out W BW h1 h2 H0.out p st6 HF6.out Hp6.out
    obtain ⟨D, hD⟩ : ∃ D, D = pick p ol := ⟨_, rfl⟩
    rw [← Hol.out, ← hD] at hr6 ⊢
    rw [← hD] at hrl6
    have Hrl6 := Lib.hid hrl6
    have Hr6 := Lib.hid hr6
    obtain ⟨dn, hdn⟩ : ∃ dn, dn = D.length := ⟨_, rfl⟩
    rw [← hdn] at Hr6 ⊢
    have Hdn := Lib.hid hdn
    clear h0 hF6 hp6 hr6 hb6 hp HBx5 HB5 Hl hrl6 hD hdn
    go_wp2_with fail
    refine (Hfew.out).mono ?_
    rintro e w7 ⟨o7, l7, rfl, hbr7, hb7⟩
    obtain ⟨oa7, oc7, rfl, _, _⟩ := (hbr7 w7 (fun _ _ => rfl) rfl).of.val
    obtain ⟨la7, lc7, rfl, _, _⟩ := (hbr7 w7 (fun _ _ => rfl) rfl).l.val
    have Hl := Lib.hid (begins_any B tk lk n m (.slice oa7 B.of.length oc7) (.slice la7 B.l.length lc7) w7.heap.size w7 Etk.out Elk.out (Nat.le_refl _) (hbr7 w7 (fun _ _ => rfl) rfl))
    have HBx7 := Lib.hid (HBx6.out.keep hb7)
    have HB7 := Lib.hid (HB6.out.trans (hb7.mono HB6.out.size))
    have Hr7 := Lib.hid ((Hr6.out.below hb7).mono hb7.size)
    clear hbr7 hb7 c0 c1 c2 c3 Hfew HBx6 HB6 Hr6
    go_wp2_with fail
    refine (Hl.out).mono ?_
    intro e w8 hp
    obtain ⟨v8, rfl, hv8, hb8⟩ := hp.val
    have HBx8 := Lib.hid (HBx7.out.keep hb8)
    have HB8 := Lib.hid (HB7.out.trans (hb8.mono HB7.out.size))
    have Hr8 := Lib.hid ((Hr7.out.below hb8).mono hb8.size)
    have Hv8 := Lib.hid hv8
    obtain ⟨c0, c1, c2, c3⟩ := HBx8.out.four
    have hy := Hmy.out w8 _ HBx8.out.le HBx8.out.r
    rw [H0.out] at hy
    have Hy := Lib.hid hy
    clear hp hb8 Hl HBx7 HB7 hy hv8 Hr7
    go_wp2_with fail
    refine (Hy.out).mono ?_
    rintro e w9 ⟨rfl, hb9⟩
    have HB9 := Lib.hid (HB8.out.trans (hb9.mono HB8.out.size))
    have HBx9 := Lib.hid (HBx8.out.keep hb9)
    have Hr9 := Lib.hid ((Hr8.out.below hb9).mono hb9.size)
    clear hb9 Hy c0 c1 c2 c3 HB8 HBx8 Hr8
    have Hc : Hid (∀ W, Below w9.heap.size w9 W → W.cell? ⟨w.heap.size, 0, none⟩ = some (.int .i64 tk) ∧ W.cell? ⟨w.heap.size, 1, none⟩ = some (.int .i64 lk) ∧ W.cell? ⟨w.heap.size, 2, none⟩ = some (.slice oa ol oc) ∧ W.cell? ⟨w.heap.size, 3, none⟩ = some (.slice la ll lc)) := Lib.hid fun W hW => (HBx9.out.keep hW).four
    obtain ⟨c0, c1, c2, c3⟩ := Hc.out _ (Below.refl _ _)
    go_upto_region 7 with fail
    have Hst : Hid (∃ t : Bool, t = decide ((0 ≤ n ∧ n < (ol : Int)) ∧ (0 ≤ m ∧ m < (ol : Int)))) := Lib.hid ⟨_, rfl⟩
    go_cut [11] (fun q wx => q = .bool (decide ((0 ≤ n ∧ n < (ol : Int)) ∧ (0 ≤ m ∧ m < (ol : Int)))) ∧ wx = w9)
    case first =>
      clear Hst
      by_cases n0 : n < 0
      · have q1 : decide (0 ≤ n) = false := decide_eq_false (by omega)
        have Hr : Hid (decide ((0 ≤ n ∧ n < (ol : Int)) ∧ (0 ≤ m ∧ m < (ol : Int))) = false) := Lib.hid (decide_eq_false (by omega))
        clear n0
        go_wp2_with fail
        go_meet
        case rel => exact ⟨by rw [Hr.out], rfl⟩
      have q1 : decide (0 ≤ n) = true := decide_eq_true (by omega)
      by_cases m0 : m < 0
      · have q2 : decide (0 ≤ m) = false := decide_eq_false (by omega)
        have Hr : Hid (decide ((0 ≤ n ∧ n < (ol : Int)) ∧ (0 ≤ m ∧ m < (ol : Int))) = false) := Lib.hid (decide_eq_false (by omega))
        clear n0 m0
        go_wp2_with fail
        go_meet
        case rel => exact ⟨by rw [Hr.out], rfl⟩
      have q2 : decide (0 ≤ m) = true := decide_eq_true (by omega)
      by_cases n1 : n < (ol : Int)
      · have q3 : decide (n < (ol : Int)) = true := decide_eq_true n1
        by_cases m1 : m < (ol : Int)
        · have q4 : decide (m < (ol : Int)) = true := decide_eq_true m1
          have Hr : Hid (decide ((0 ≤ n ∧ n < (ol : Int)) ∧ (0 ≤ m ∧ m < (ol : Int))) = true) := Lib.hid (decide_eq_true (by omega))
          clear n0 m0 n1 m1
          go_wp2_with fail
          go_meet
          case rel => exact ⟨by rw [Hr.out], rfl⟩
        · have q4 : decide (m < (ol : Int)) = false := decide_eq_false m1
          have Hr : Hid (decide ((0 ≤ n ∧ n < (ol : Int)) ∧ (0 ≤ m ∧ m < (ol : Int))) = false) := Lib.hid (decide_eq_false (by omega))
          clear n0 m0 n1 m1
          go_wp2_with fail
          go_meet
          case rel => exact ⟨by rw [Hr.out], rfl⟩
      · have q3 : decide (n < (ol : Int)) = false := decide_eq_false n1
        have Hr : Hid (decide ((0 ≤ n ∧ n < (ol : Int)) ∧ (0 ≤ m ∧ m < (ol : Int))) = false) := Lib.hid (decide_eq_false (by omega))
        clear n0 m0 n1
        go_wp2_with fail
        go_meet
        case rel => exact ⟨by rw [Hr.out], rfl⟩
    case rest =>
    obtain ⟨rfl, rfl⟩ := hcut
    have Hq := Lib.hid (Hrl6.out _ _ HBx9.out.le HBx9.out.r)
    clear Hst
    obtain ⟨t, ht⟩ : ∃ t, t = decide ((0 ≤ n ∧ n < (ol : Int)) ∧ (0 ≤ m ∧ m < (ol : Int))) := ⟨_, rfl⟩
    rw [← ht]
    have Ht := Lib.hid ht
    clear ht
    go_wp2_with fail
    refine (Hq.out).mono ?_
    rintro e w12 ⟨v12, rfl, ho12, hb12⟩
    have hr12 := Row.of_owns ho12
    rw [← Hdn.out] at ho12 hr12
    obtain ⟨a12, c12, rfl, _, _⟩ := owns_valP ho12
    have HB12 := Lib.hid (HB9.out.trans (hb12.mono HB9.out.size))
    have hc := sameInts_any (.slice a6 dn c6) (.slice a12 dn c12) D D _ _ w12 (Nat.le_refl _) (Nat.le_refl _) (by rw [← Hdn.out]; exact (Hr9.out.below hb12).mono hb12.size) (by rw [← Hdn.out]; exact hr12)
    have Hc2 := Lib.hid hc
    have HBx12 := Lib.hid (HBx9.out.keep hb12)
    clear ho12 hr12 hb12 Hq c0 c1 c2 c3 hc Hc
    go_wp2_with fail
    refine (Hc2.out).mono ?_
    rintro e w13 ⟨rfl, b13⟩
    simp only [decide_true]
    have HB13 := Lib.hid (HB12.out.trans (b13.mono HB12.out.size))
    have HBx13 := Lib.hid (HBx12.out.keep b13)
    obtain ⟨c0, c1, c2, c3⟩ := HBx13.out.four
    have Hq := Lib.hid (Hrb.out _ _ HBx13.out.le HBx13.out.r H0.out st6 HF6.out)
    clear b13 Hc2
    cases t with
    | false =>
      have hv : v8 = false := by
        cases v8 with
        | false => rfl
        | true =>
          obtain ⟨_, h1, h2, _⟩ := Hv8.out.1 rfl
          have h3 := Ht.out
          rw [← Hol.out] at h1 h2
          rw [decide_eq_true ⟨h1, h2⟩] at h3
          exact absurd h3 (by decide)
      subst hv
      go_wp2_with fail
      refine (Hwk.out _).mono ?_
      rintro e w14 ⟨rfl, hb14⟩
      have HB14 := Lib.hid (HB13.out.trans (hb14.mono HB13.out.size))
      clear hb14
      go_wp2_with fail
      go_ret
      exact ⟨rfl, HB14.out⟩
    | true =>
      go_wp2_with fail
      refine (Hq.out).mono ?_
      rintro e w14 ⟨y, rfl, hy, hb14⟩
      have hv : v8 = y := by
        rw [Bool.eq_iff_iff, Hv8.out, hy]
        have h3 := of_decide_eq_true Ht.out.symm
        rw [Hol.out] at h3
        constructor
        · rintro ⟨_, _, _, st, k1, k2⟩
          obtain rfl := Fix.uniq (bmay_zero H0.out).2.2.2.2.2.1 HF6.out k1
          exact k2
        · intro h; exact ⟨H0.out, h3.1, h3.2, st6, HF6.out, h⟩
      subst hv
      have HB14 := Lib.hid (HB13.out.trans (hb14.mono HB13.out.size))
      clear hb14 hy Hq c0 c1 c2 c3
      have hvv : (v8 == v8) = true := by simp
      cases v8
      all_goals
        go_wp2_with fail
        refine (Hwk.out _).mono ?_
        rintro e w15 ⟨rfl, hb15⟩
        have HB15 := Lib.hid (HB14.out.trans (hb15.mono HB14.out.size))
        clear hb15
        go_wp2_with fail
        go_ret
        exact ⟨rfl, HB15.out⟩
set_option maxRecDepth 100000 in
theorem reachLeft_law {H : Type} {base : Nat} (enc : TypeId × Value → H) (W : World)
    (v0 : Value) (d0 : DataW H) (p0 : List MemPlace) (k0 : Value.okWide Try.prog W .any base 25 v0) (h0 : DataW.Trod enc Try.prog W 0 (fun _ => true) true 25 v0 d0 p0) (n : Int) (_ : (Lit.int .i64 n).wf = true) (m : Int) (_ : (Lit.int .i64 m).wf = true) :
    Calls Try.prog 7 #[v0, .int .i64 n, .int .i64 m] W fun e w' => e = .returned (.bool true) ∧ Below W.heap.size W w' := by
  obtain ⟨b, o, l, rfl, r, _⟩ := bnfOf k0 h0
  exact reachLeft_walk b o l n m W r
end Go.Proofs.Ytfmcigodfihlcaa
