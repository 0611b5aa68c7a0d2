/-
  The document's May of plain rules.
-/
import Derived.Test.YtimgnbacgdmiiaaBnfC
namespace Go.Proofs.Ytimgnbacgdmiiaa
open Go.RowKit
set_option linter.unusedVariables false
set_option linter.unusedSimpArgs false

set_option maxHeartbeats 4000000 in
set_option maxRecDepth 100000 in
theorem refMay_any (b : Bn) (ov lv : Value) (B : Nat) (w : World) (hB : B ≤ w.heap.size) (r : BR w B ov lv b) :
    Calls Try.prog 18 #[.agg #[.int .i64 b.toks, .int .i64 b.look, ov, lv]] w (MayP w (bmay b)) := by
  obtain ⟨oa, oc, rfl, ho1, ho2⟩ := r.of.val
  obtain ⟨la, lc, rfl, hl1, hl2⟩ := r.l.val
  unfold maxLen at ho2 hl2
  have ho63 : b.of.length ≤ 9223372036854775807 := by omega
  have hl63 : b.l.length ≤ 9223372036854775807 := by omega
  have hfull := bmay_full (b := b)
  have hrest : ¬ (b.toks < 1 ∨ 60 < b.toks ∨ b.of.length < 1 ∨ 500 < b.of.length ∨ b.l.length < 1 ∨ 2000 < b.l.length) → bmay b = if (b.l.any longP) = true then 8 else if b.look < 1 ∨ 4 < b.look then 11 else if b.l.all (prOk b) = true then 0 else 4 := fun h => by unfold bmay; rw [if_neg h]; rfl
  have hpr : ∀ p : Pr, prOk b p = (decide (0 ≤ p.left) && decide (p.left < b.of.length) && p.right.all (symOk b)) := fun p => rfl
  have hok : ∀ s : Sy, symOk b s = if s.tok then decide (1 ≤ s.n) && decide (s.n ≤ b.toks) else decide (0 ≤ s.n) && decide (s.n < b.of.length) := fun s => rfl
  have hbox := BoxB.new b.toks b.look 25 hB r
  have hbel := (Below.refl w.heap.size w).alloc (Nat.le_refl _) (.cells #[.int .i64 b.toks, .int .i64 b.look, .slice oa b.of.length oc, .slice la b.l.length lc] 25)
  generalize bmay b = m at *
  generalize prOk b = pf at *
  generalize symOk b = f at *
  obtain ⟨tk, htk⟩ : ∃ tk, tk = b.toks := ⟨_, rfl⟩
  obtain ⟨lk, hlk⟩ : ∃ lk, lk = b.look := ⟨_, rfl⟩
  obtain ⟨ol, hol⟩ : ∃ ol, ol = b.of.length := ⟨_, rfl⟩
  obtain ⟨ll, hll⟩ : ∃ ll, ll = b.l.length := ⟨_, rfl⟩
  rw [← htk, ← hol, ← hll] at hfull hrest
  rw [← hlk] at hrest
  rw [← htk, ← hlk, ← hol, ← hll] at hbox hbel ⊢
  rw [← hol] at ho63 hpr
  rw [← htk, ← hol] at hok
  rw [← hll] at hl63
  have Hll := Lib.hid hll
  have Hbel := Lib.hid hbel; have Hbox := Lib.hid hbox; have Hfull := Lib.hid hfull; have Hrest := Lib.hid hrest; have Hpr := Lib.hid hpr; have Hok := Lib.hid hok
  clear htk hlk hol hll hbel hbox hfull hrest hpr hok r hB ho1 ho2 hl1 hl2
  go_enter Try.func18, Try.ntmps18
  go_upto_region 1 with fail
  generalize w.alloc (.cells #[.int .i64 tk, .int .i64 lk, .slice oa ol oc, .slice la ll lc] 25) = w1 at *
  obtain ⟨c0, c1, c2, c3, _, _, _⟩ := Hbox.out
  by_cases h1 : tk < 1
  · have q1 : decide (tk < 1) = true := decide_eq_true h1
    have HM := Lib.hid (Hfull.out (.inl h1))
    clear h1
    go_wp2_with fail
    go_ret
    exact ⟨by rw [HM.out]; rfl, Hbel.out⟩
  have q1 : decide (tk < 1) = false := decide_eq_false h1
  by_cases h2 : 60 < tk
  · have q2 : decide (60 < tk) = true := decide_eq_true h2
    have HM := Lib.hid (Hfull.out (.inr (.inl h2)))
    clear h1 h2
    go_wp2_with fail
    go_ret
    exact ⟨by rw [HM.out]; rfl, Hbel.out⟩
  have q2 : decide (60 < tk) = false := decide_eq_false h2
  by_cases h3 : ol < 1
  · have q3 : decide ((ol : Int) < 1) = true := decide_eq_true (by omega)
    have HM := Lib.hid (Hfull.out (.inr (.inr (.inl h3))))
    clear h1 h2 h3
    go_wp2_with fail
    go_ret
    exact ⟨by rw [HM.out]; rfl, Hbel.out⟩
  have q3 : decide ((ol : Int) < 1) = false := decide_eq_false (by omega)
  by_cases h4 : 500 < ol
  · have q4 : decide ((500 : Int) < (ol : Int)) = true := decide_eq_true (by omega)
    have HM := Lib.hid (Hfull.out (.inr (.inr (.inr (.inl h4)))))
    clear h1 h2 h3 h4
    go_wp2_with fail
    go_ret
    exact ⟨by rw [HM.out]; rfl, Hbel.out⟩
  have q4 : decide ((500 : Int) < (ol : Int)) = false := decide_eq_false (by omega)
  by_cases h5 : ll < 1
  · have q5 : decide ((ll : Int) < 1) = true := decide_eq_true (by omega)
    have HM := Lib.hid (Hfull.out (.inr (.inr (.inr (.inr (.inl h5))))))
    clear h1 h2 h3 h4 h5
    go_wp2_with fail
    go_ret
    exact ⟨by rw [HM.out]; rfl, Hbel.out⟩
  have q5 : decide ((ll : Int) < 1) = false := decide_eq_false (by omega)
  by_cases h6 : 2000 < ll
  · have q6 : decide ((2000 : Int) < (ll : Int)) = true := decide_eq_true (by omega)
    have HM := Lib.hid (Hfull.out (.inr (.inr (.inr (.inr (.inr h6))))))
    clear h1 h2 h3 h4 h5 h6
    go_wp2_with fail
    go_ret
    exact ⟨by rw [HM.out]; rfl, Hbel.out⟩
  have q6 : decide ((2000 : Int) < (ll : Int)) = false := decide_eq_false (by omega)
  have Hr := Lib.hid (Hrest.out (by omega))
  clear h1 h2 h3 h4 h5 h6 Hfull Hrest
  go_wp2_with fail
  clear c0 c1 c2 c3 q1 q2 q3 q4 q5 q6
  go_loopw [3] (fun iv wr => ∃ k : Nat, k ≤ ll ∧ iv = .int .i64 k ∧ Hid ((b.l.take k).any longP = false) ∧ Hid (Below w1.heap.size w1 wr)) (fun iv _ => ll - (intOf iv).toNat)
  case atStart => exact ⟨0, Nat.zero_le _, rfl, Lib.hid rfl, Lib.hid (Below.refl _ w1)⟩
  case round =>
    obtain ⟨k, hk, rfl, Hal, Hb⟩ := hrel
    have Hbox3 := Lib.hid (Hbox.out.keep Hb.out)
    obtain ⟨c0, c1, c2, c3, _, _, _⟩ := Hbox3.out
    by_cases hlt : k < ll
    · have hlt' : k < b.l.length := by have := Hll.out; omega
      obtain ⟨b1, o1, a1, d1, hao, hb1, e0, e1, rk, m1, m2⟩ := Hbox3.out.r.l.get k hlt'
      subst hao
      unfold maxLen at m2
      have Hyes := Lib.hid (any_yes b.l longP k hlt')
      have Hno := Lib.hid (any_step b.l longP k hlt' Hal.out)
      have hlg : longP b.l[k] = decide (500 < b.l[k].right.length) := rfl
      have hk0 : (k : Int) < (ll : Int) := by omega
      have hk1 : (0 : Int) ≤ (k : Int) := by omega
      have Hlt := Lib.hid hlt
      generalize b.l[k] = p at *
      obtain ⟨rn, hrn⟩ : ∃ rn, rn = p.right.length := ⟨_, rfl⟩
      rw [← hrn] at e1 m1 hlg
      have hr63 : rn ≤ 9223372036854775807 := by omega
      clear rk m1 m2 hlt hk hlt' hb1 hrn
      by_cases h1 : 500 < rn
      · have q1 : decide ((500 : Int) < (rn : Int)) = true := decide_eq_true (by omega)
        have HY : Hid (m = 8) := Lib.hid (by rw [Hr.out, Hyes.out (by rw [hlg, decide_eq_true h1])]; rfl)
        clear hlg h1 Hno Hyes
        go_wp2_with fail
        go_ret
        exact ⟨by rw [HY.out]; rfl, Hbel.out.trans (Hb.out.mono Hbel.out.size)⟩
      · have q1 : decide ((500 : Int) < (rn : Int)) = false := decide_eq_false (by omega)
        have HY := Lib.hid (Hno.out (by rw [hlg, decide_eq_false h1]))
        clear hlg h1 Hno Hyes
        go_wp2_with fail
        go_roundw
        case rel => exact ⟨k + 1, Hlt.out, by go_num, HY, Hb⟩
        case measure => have := Hlt.out; simp [intOf]; omega
    · obtain rfl : k = ll := by omega
      have Hr2 : Hid (m = if lk < 1 ∨ 4 < lk then 11 else if b.l.all pf = true then 0 else 4) := Lib.hid (by
        have := Hal.out; rw [Hll.out, List.take_length] at this
        rw [Hr.out, this]; rfl)
      have HB2 := Lib.hid (Hbel.out.trans (Hb.out.mono Hbel.out.size))
      obtain ⟨w2, rfl⟩ : ∃ w2 : World, w2 = wr := ⟨_, rfl⟩
      clear hk hlt Hr Hal Hbox
      by_cases h1 : lk < 1
      · have q1 : decide (lk < 1) = true := decide_eq_true h1
        have HM : Hid (m = 11) := Lib.hid (by rw [Hr2.out]; simp [h1])
        clear h1
        go_wp2_with fail
        go_ret
        exact ⟨by rw [HM.out]; rfl, HB2.out⟩
      have q1 : decide (lk < 1) = false := decide_eq_false h1
      by_cases h2 : 4 < lk
      · have q2 : decide (4 < lk) = true := decide_eq_true h2
        have HM : Hid (m = 11) := Lib.hid (by rw [Hr2.out]; simp [h2])
        clear h1 h2
        go_wp2_with fail
        go_ret
        exact ⟨by rw [HM.out]; rfl, HB2.out⟩
      have q2 : decide (4 < lk) = false := decide_eq_false h2
      have HM : Hid (m = if b.l.all pf = true then 0 else 4) := Lib.hid (by rw [Hr2.out]; simp [h1, h2])
      clear h1 h2 Hr2
      go_wp2_with fail
      clear c0 c1 c2 c3 q1 q2
      go_loopw [4] (fun iv wr => ∃ j : Nat, j ≤ k ∧ iv = .int .i64 j ∧ Hid ((b.l.take j).all pf = true) ∧ Hid (Below w2.heap.size w2 wr)) (fun iv _ => k - (intOf iv).toNat)
      case atStart => exact ⟨0, Nat.zero_le _, rfl, Lib.hid rfl, Lib.hid (Below.refl _ w2)⟩
      case round =>
        obtain ⟨j, hj, rfl, Hal, Hb2⟩ := hrel
        have Hbox4 := Lib.hid (Hbox3.out.keep Hb2.out)
        obtain ⟨c0, c1, c2, c3, _, _, _⟩ := Hbox4.out
        have HB3 := Lib.hid (HB2.out.trans (Hb2.out.mono HB2.out.size))
        by_cases hlt : j < k
        · have hlt' : j < b.l.length := by have := Hll.out; omega
          obtain ⟨b1, o1, a1, d1, hao, hb1, e0, e1, rk, m1, m2⟩ := Hbox4.out.r.l.get j hlt'
          subst hao
          unfold maxLen at m2
          have Hyes := Lib.hid (all_step b.l pf j hlt' Hal.out)
          have Hno := Lib.hid (all_no b.l pf j hlt')
          have hk0 : (j : Int) < (k : Int) := by omega
          have hk1 : (0 : Int) ≤ (j : Int) := by omega
          have hv := Hpr.out b.l[j]
          have Hlt := Lib.hid hlt
          generalize b.l[j] = p at *
          obtain ⟨x, rt⟩ := p
          simp only at e0 e1 hv rk m1
          obtain ⟨rn, hrn⟩ : ∃ rn, rn = rt.length := ⟨_, rfl⟩
          rw [← hrn] at e1 rk m1
          have hr63 : rn ≤ 9223372036854775807 := by omega
          have hba := (Below.refl wr.heap.size wr).alloc (Nat.le_refl _) (.cells #[.int .i64 x, .slice a1 rn d1] 57)
          have HB4 := Lib.hid (HB3.out.trans (hba.mono HB3.out.size))
          have HB24 := Lib.hid (Hb2.out.trans (hba.mono Hb2.out.size))
          have Hbox5 := Lib.hid (Hbox4.out.keep hba)
          have hx1 : (wr.alloc (.cells #[.int .i64 x, .slice a1 rn d1] 57)).cell? ⟨wr.heap.size, 1, none⟩ = some (.slice a1 rn d1) := cell_new wr _ _ 1 _ rfl
          have hsz5 : wr.heap.size < (wr.alloc (.cells #[.int .i64 x, .slice a1 rn d1] 57)).heap.size := by simp
          obtain ⟨d0, dd1, d2, d3, _, _, _⟩ := Hbox5.out
          have Hrk := Lib.hid (Row.below rk (hba.mono Hbox4.out.le))
          have Hrn := Lib.hid hrn
          clear rk m1 m2 hlt hj hlt' hb1 hrn hba
          by_cases h1 : x < 0
          · have q1 : decide (x < 0) = true := decide_eq_true h1
            have HY : Hid (m = 4) := Lib.hid (by rw [HM.out, Hno.out (by rw [hv, decide_eq_false (by omega)]; rfl)]; rfl)
            clear hv h1 Hno Hyes
            go_wp2_with fail
            go_ret
            exact ⟨by rw [HY.out]; rfl, HB4.out⟩
          have q1 : decide (x < 0) = false := decide_eq_false h1
          by_cases h2 : (ol : Int) ≤ x
          · have q2 : decide ((ol : Int) ≤ x) = true := decide_eq_true h2
            have HY : Hid (m = 4) := Lib.hid (by rw [HM.out, Hno.out (by rw [hv, decide_eq_false (show ¬ x < (ol : Int) by omega), Bool.and_false]; rfl)]; rfl)
            clear hv h1 h2 Hno Hyes
            go_wp2_with fail
            go_ret
            exact ⟨by rw [HY.out]; rfl, HB4.out⟩
          have q2 : decide ((ol : Int) ≤ x) = false := decide_eq_false h2
          rw [decide_eq_true (show 0 ≤ x by omega), decide_eq_true (show x < (ol : Int) by omega)] at hv
          simp only [Bool.true_and] at hv
          have Hv := Lib.hid hv
          clear h1 h2 hv
          go_upto_region 16 with fail
          generalize wr.alloc (.cells #[.int .i64 x, .slice a1 rn d1] 57) = w5 at *
          obtain ⟨w4, rfl⟩ : ∃ w4 : World, w4 = wr := ⟨_, rfl⟩
          have HX := Lib.hid fun (W : World) (hW : Below w5.heap.size w5 W) => (hW.cell (p := ⟨w4.heap.size, 1, none⟩) hsz5).trans hx1
          clear d0 dd1 d2 d3 c0 c1 c2 c3 hsz5 e0 e1 q1 q2
          go_wp2_with fail
          go_loopw [6] (fun iv wx => ∃ i : Nat, i ≤ rn ∧ iv = .int .i64 i ∧ Hid ((rt.take i).all f = true) ∧ Hid (Below w5.heap.size w5 wx)) (fun iv _ => rn - (intOf iv).toNat)
          case atStart => exact ⟨0, Nat.zero_le _, rfl, Lib.hid rfl, Lib.hid (Below.refl _ w5)⟩
          case round =>
            obtain ⟨i, hi, rfl, Hai, Hb5⟩ := hrel
            clear hx1
            have hx2 := HX.out wr Hb5.out
            have Hbox6 := Lib.hid (Hbox5.out.keep Hb5.out)
            have c0 := Hbox6.out.c0
            have c2 := Hbox6.out.c2
            by_cases hli : i < rn
            · have hli' : i < rt.length := by have := Hrn.out; omega
              obtain ⟨b6, o6, hao, hb6, e0, e1⟩ := SR.get (Row.below Hrk.out (Hb5.out.mono Hbox5.out.le) : SR wr B (.slice a1 rn d1) rt) i hli'
              subst hao
              have Hsy := Lib.hid (all_step rt f i hli' Hai.out)
              have Hsn := Lib.hid (all_no rt f i hli')
              have hk0 : (i : Int) < (rn : Int) := by omega
              have hk1 : (0 : Int) ≤ (i : Int) := by omega
              have hok := Hok.out rt[i]
              have Hli := Lib.hid hli
              generalize rt[i] = s at *
              obtain ⟨t, n⟩ := s
              simp only at e0 e1 hok
              have hbs := (Below.refl wr.heap.size wr).alloc (Nat.le_refl _) (.cells #[.bool t, .int .i64 n] 39)
              have d0 := (Hbox6.out.keep hbs).c0
              have d2 := (Hbox6.out.keep hbs).c2
              have dx := HX.out _ (Hb5.out.trans (hbs.mono Hb5.out.size))
              have HB7 := Lib.hid (Hb5.out.trans (hbs.mono Hb5.out.size))
              have HBe := Lib.hid (HB4.out.trans (HB7.out.mono HB4.out.size))
              clear hli hi hli' hb6 hbs
              cases t with
              | true =>
                simp only [if_true] at hok
                by_cases h1 : n < 1
                · have q1 : decide (n < 1) = true := decide_eq_true h1
                  have HY : Hid (m = 4) := Lib.hid (by rw [HM.out, Hno.out (by rw [Hv.out]; exact Hsn.out (by rw [hok, decide_eq_false (by omega)]; rfl))]; rfl)
                  clear hok h1 Hsy Hsn
                  go_wp2_with fail
                  go_ret
                  exact ⟨by rw [HY.out]; rfl, HBe.out⟩
                have q1 : decide (n < 1) = false := decide_eq_false h1
                by_cases h2 : tk < n
                · have q2 : decide (tk < n) = true := decide_eq_true h2
                  have HY : Hid (m = 4) := Lib.hid (by rw [HM.out, Hno.out (by rw [Hv.out]; exact Hsn.out (by rw [hok, decide_eq_false (show ¬ n ≤ tk by omega), Bool.and_false]))]; rfl)
                  clear hok h1 h2 Hsy Hsn
                  go_wp2_with fail
                  go_ret
                  exact ⟨by rw [HY.out]; rfl, HBe.out⟩
                have q2 : decide (tk < n) = false := decide_eq_false h2
                have HY := Lib.hid (Hsy.out (by rw [hok, decide_eq_true (show 1 ≤ n by omega), decide_eq_true (show n ≤ tk by omega)]; rfl))
                clear hok h1 h2 Hsy Hsn
                go_wp2_with fail
                go_roundw
                case rel => exact ⟨i + 1, Hli.out, by go_num, HY, HB7⟩
                case measure => have := Hli.out; simp [intOf]; omega
              | false =>
                simp only [Bool.false_eq_true, if_false] at hok
                by_cases h1 : n < 0
                · have q1 : decide (n < 0) = true := decide_eq_true h1
                  have HY : Hid (m = 4) := Lib.hid (by rw [HM.out, Hno.out (by rw [Hv.out]; exact Hsn.out (by rw [hok, decide_eq_false (by omega)]; rfl))]; rfl)
                  clear hok h1 Hsy Hsn
                  go_wp2_with fail
                  go_ret
                  exact ⟨by rw [HY.out]; rfl, HBe.out⟩
                have q1 : decide (n < 0) = false := decide_eq_false h1
                by_cases h2 : (ol : Int) ≤ n
                · have q2 : decide ((ol : Int) ≤ n) = true := decide_eq_true h2
                  have HY : Hid (m = 4) := Lib.hid (by rw [HM.out, Hno.out (by rw [Hv.out]; exact Hsn.out (by rw [hok, decide_eq_false (show ¬ n < (ol : Int) by omega), Bool.and_false]))]; rfl)
                  clear hok h1 h2 Hsy Hsn
                  go_wp2_with fail
                  go_ret
                  exact ⟨by rw [HY.out]; rfl, HBe.out⟩
                have q2 : decide ((ol : Int) ≤ n) = false := decide_eq_false h2
                have HY := Lib.hid (Hsy.out (by rw [hok, decide_eq_true (show 0 ≤ n by omega), decide_eq_true (show n < (ol : Int) by omega)]; rfl))
                clear hok h1 h2 Hsy Hsn
                go_wp2_with fail
                go_roundw
                case rel => exact ⟨i + 1, Hli.out, by go_num, HY, HB7⟩
                case measure => have := Hli.out; simp [intOf]; omega
            · obtain rfl : i = rn := by omega
              have HY := Lib.hid (Hyes.out (by rw [Hv.out]; have := Hai.out; rw [Hrn.out, List.take_length] at this; exact this))
              have HBn := Lib.hid (HB24.out.trans (Hb5.out.mono HB24.out.size))
              go_wp2_with fail
              go_roundw
              case rel => exact ⟨j + 1, Hlt.out, by go_num, HY, HBn⟩
              case measure => have := Hlt.out; simp [intOf]; omega
        · obtain rfl : j = k := by omega
          have H : Hid (m = 0) := Lib.hid (by
            have := Hal.out; rw [Hll.out, List.take_length] at this
            rw [HM.out, this]; rfl)
          go_wp2_with fail
          go_ret
          exact ⟨by rw [H.out]; rfl, HB3.out⟩
end Go.Proofs.Ytimgnbacgdmiiaa
