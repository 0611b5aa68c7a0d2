/-
  bnf.May, and the document's May.
-/
import Derived.Test.YtimgnbacgdmiiaaBnfB
namespace Go.Proofs.Ytimgnbacgdmiiaa
open Go.RowKit
set_option linter.unusedVariables false
set_option linter.unusedSimpArgs false

/-- The box of rules in a world, and all that it holds. -/
structure BoxB (w : World) (g B : Nat) (tk lk : Int) (ov lv : Value) (b : Bn) : Prop where
  c0 : w.cell? ⟨g, 0, none⟩ = some (.int .i64 tk)
  c1 : w.cell? ⟨g, 1, none⟩ = some (.int .i64 lk)
  c2 : w.cell? ⟨g, 2, none⟩ = some ov
  c3 : w.cell? ⟨g, 3, none⟩ = some lv
  lt : g < w.heap.size
  le : B ≤ w.heap.size
  r : BR w B ov lv b
theorem BoxB.keep {w w' : World} {g B : Nat} {tk lk : Int} {ov lv : Value} {b : Bn} (h : BoxB w g B tk lk ov lv b) (hb : Below w.heap.size w w') : BoxB w' g B tk lk ov lv b :=
  ⟨(hb.cell (p := ⟨g, 0, none⟩) h.lt).trans h.c0, (hb.cell (p := ⟨g, 1, none⟩) h.lt).trans h.c1, (hb.cell (p := ⟨g, 2, none⟩) h.lt).trans h.c2, (hb.cell (p := ⟨g, 3, none⟩) h.lt).trans h.c3, Nat.lt_of_lt_of_le h.lt hb.size, Nat.le_trans h.le hb.size, h.r.below (hb.mono h.le)⟩
theorem BoxB.new {w : World} {B : Nat} {ov lv : Value} {b : Bn} (tk lk : Int) (T : TypeId) (hB : B ≤ w.heap.size) (r : BR w B ov lv b) : BoxB (w.alloc (.cells #[.int .i64 tk, .int .i64 lk, ov, lv] T)) w.heap.size B tk lk ov lv b :=
  have hb := (Below.refl w.heap.size w).alloc (Nat.le_refl _) (.cells #[.int .i64 tk, .int .i64 lk, ov, lv] T)
  ⟨cell_new w _ _ 0 _ rfl, cell_new w _ _ 1 _ rfl, cell_new w _ _ 2 _ rfl, cell_new w _ _ 3 _ rfl, by simp, Nat.le_trans hB hb.size, r.below (hb.mono hB)⟩
theorem bmay_full {b : Bn} (h : b.toks < 1 ∨ 60 < b.toks ∨ b.of.length < 1 ∨ 500 < b.of.length ∨ b.l.length < 1 ∨ 2000 < b.l.length) : bmay b = 8 := by unfold bmay; rw [if_pos h]
def MayP (w : World) (x : Int) (e : Ending) (w' : World) : Prop := e = .returned (.int .i64 x) ∧ Below w.heap.size w w'

set_option maxHeartbeats 4000000 in
theorem bnfMay_any (b : Bn) (ov lv : Value) (B : Nat) (w : World) (hB : B ≤ w.heap.size) (r : BR w B ov lv b) :
    Calls Try.prog 33 #[.agg #[.int .i64 b.toks, .int .i64 b.look, ov, lv]] w (MayP w (bmay b)) := by
  obtain ⟨oa, oc, rfl, ho1, ho2⟩ := r.of.val
  obtain ⟨la, lc, rfl, hl1, hl2⟩ := r.l.val
  unfold maxLen at ho2 hl2
  have ho63 : b.of.length ≤ 9223372036854775807 := by omega
  have hl63 : b.l.length ≤ 9223372036854775807 := by omega
  have Hall := Lib.hid fun (W : World) (sv : Value) (l : List Sy) (C : Nat) (h1 : C ≤ W.heap.size) (h2 : SR W C sv l) => all_any b oa la oc b.l.length lc sv l C W h1 h2 ho63
  have hfull := bmay_full (b := b)
  have hrest : ¬ (b.toks < 1 ∨ 60 < b.toks ∨ b.of.length < 1 ∨ 500 < b.of.length ∨ b.l.length < 1 ∨ 2000 < b.l.length) → bmay b = if (b.l.any longP) = true then 8 else if b.look < 1 ∨ 4 < b.look then 11 else if b.l.all (prOk b) = true then 0 else 4 := fun h => by unfold bmay; rw [if_neg h]; rfl
  have hpr : ∀ p : Pr, prOk b p = (decide (0 ≤ p.left) && decide (p.left < b.of.length) && p.right.all (symOk b)) := fun p => rfl
  have hbox := BoxB.new b.toks b.look 25 hB r
  have hbel := (Below.refl w.heap.size w).alloc (Nat.le_refl _) (.cells #[.int .i64 b.toks, .int .i64 b.look, .slice oa b.of.length oc, .slice la b.l.length lc] 25)
  generalize bmay b = m at *
  generalize prOk b = pf at *
  obtain ⟨tk, htk⟩ : ∃ tk, tk = b.toks := ⟨_, rfl⟩
  obtain ⟨lk, hlk⟩ : ∃ lk, lk = b.look := ⟨_, rfl⟩
  obtain ⟨ol, hol⟩ : ∃ ol, ol = b.of.length := ⟨_, rfl⟩
  obtain ⟨ll, hll⟩ : ∃ ll, ll = b.l.length := ⟨_, rfl⟩
  rw [← htk, ← hol, ← hll] at hfull hrest
  rw [← hlk] at hrest
  rw [← htk, ← hlk, ← hol, ← hll] at Hall hbox hbel ⊢
  rw [← hol] at ho63 hpr
  rw [← hll] at hl63
  have Hll := Lib.hid hll
  have Hbel := Lib.hid hbel; have Hbox := Lib.hid hbox; have Hfull := Lib.hid hfull; have Hrest := Lib.hid hrest; have Hpr := Lib.hid hpr
  clear htk hlk hol hll hbel hbox hfull hrest hpr r hB ho1 ho2 hl1 hl2
  go_enter Try.func33, Try.ntmps33
  go_upto_region 1 with fail
  generalize w.alloc (.cells #[.int .i64 tk, .int .i64 lk, .slice oa ol oc, .slice la ll lc] 25) = w1 at *
  obtain ⟨c0, c1, c2, c3, _, _, _⟩ := Hbox.out
  by_cases h1 : tk < 1
  · have q1 : decide (tk < 1) = true := decide_eq_true h1
    have HM := Lib.hid (Hfull.out (.inl h1))
    clear h1
    go_wp2_with fail
    go_ret
    exact ⟨by rw [HM.out]; rfl, Hbel.out⟩
  have q1 : decide (tk < 1) = false := decide_eq_false h1
  by_cases h2 : 60 < tk
  · have q2 : decide (60 < tk) = true := decide_eq_true h2
    have HM := Lib.hid (Hfull.out (.inr (.inl h2)))
    clear h1 h2
    go_wp2_with fail
    go_ret
    exact ⟨by rw [HM.out]; rfl, Hbel.out⟩
  have q2 : decide (60 < tk) = false := decide_eq_false h2
  by_cases h3 : ol < 1
  · have q3 : decide ((ol : Int) < 1) = true := decide_eq_true (by omega)
    have HM := Lib.hid (Hfull.out (.inr (.inr (.inl h3))))
    clear h1 h2 h3
    go_wp2_with fail
    go_ret
    exact ⟨by rw [HM.out]; rfl, Hbel.out⟩
  have q3 : decide ((ol : Int) < 1) = false := decide_eq_false (by omega)
  by_cases h4 : 500 < ol
  · have q4 : decide ((500 : Int) < (ol : Int)) = true := decide_eq_true (by omega)
    have HM := Lib.hid (Hfull.out (.inr (.inr (.inr (.inl h4)))))
    clear h1 h2 h3 h4
    go_wp2_with fail
    go_ret
    exact ⟨by rw [HM.out]; rfl, Hbel.out⟩
  have q4 : decide ((500 : Int) < (ol : Int)) = false := decide_eq_false (by omega)
  by_cases h5 : ll < 1
  · have q5 : decide ((ll : Int) < 1) = true := decide_eq_true (by omega)
    have HM := Lib.hid (Hfull.out (.inr (.inr (.inr (.inr (.inl h5))))))
    clear h1 h2 h3 h4 h5
    go_wp2_with fail
    go_ret
    exact ⟨by rw [HM.out]; rfl, Hbel.out⟩
  have q5 : decide ((ll : Int) < 1) = false := decide_eq_false (by omega)
  by_cases h6 : 2000 < ll
  · have q6 : decide ((2000 : Int) < (ll : Int)) = true := decide_eq_true (by omega)
    have HM := Lib.hid (Hfull.out (.inr (.inr (.inr (.inr (.inr h6))))))
    clear h1 h2 h3 h4 h5 h6
    go_wp2_with fail
    go_ret
    exact ⟨by rw [HM.out]; rfl, Hbel.out⟩
  have q6 : decide ((2000 : Int) < (ll : Int)) = false := decide_eq_false (by omega)
  have Hr := Lib.hid (Hrest.out (by omega))
  have Hlong := Lib.hid (long_any tk lk (.slice oa ol oc) (.slice la ll lc) b.l B w1 Hbox.out.le Hbox.out.r.l ⟨_, _, _, rfl⟩)
  clear h1 h2 h3 h4 h5 h6 Hfull Hrest
  cases hL : b.l.any longP with
  | true =>
    rw [hL] at Hlong Hr
    go_wp2_with fail
    refine (Hlong.out).mono ?_
    rintro e w2 ⟨rfl, b2⟩
    have HB2 := Lib.hid (Hbel.out.trans (b2.mono Hbel.out.size))
    clear b2
    go_wp2_with fail
    go_ret
    exact ⟨by rw [Hr.out]; rfl, HB2.out⟩
  | false =>
    rw [hL] at Hlong Hr
    go_wp2_with fail
    refine (Hlong.out).mono ?_
    rintro e w2 ⟨rfl, b2⟩
    have HB2 := Lib.hid (Hbel.out.trans (b2.mono Hbel.out.size))
    have Hbox2 := Lib.hid (Hbox.out.keep b2)
    clear b2 c0 c1 c2 c3 q1 q2 q3 q4 q5 q6 Hlong hL Hbox
    obtain ⟨c0, c1, c2, c3, _, _, _⟩ := Hbox2.out
    by_cases h1 : lk < 1
    · have q1 : decide (lk < 1) = true := decide_eq_true h1
      have HM : Hid (m = 11) := Lib.hid (by rw [Hr.out]; simp [h1])
      clear h1
      go_wp2_with fail
      go_ret
      exact ⟨by rw [HM.out]; rfl, HB2.out⟩
    have q1 : decide (lk < 1) = false := decide_eq_false h1
    by_cases h2 : 4 < lk
    · have q2 : decide (4 < lk) = true := decide_eq_true h2
      have HM : Hid (m = 11) := Lib.hid (by rw [Hr.out]; simp [h2])
      clear h1 h2
      go_wp2_with fail
      go_ret
      exact ⟨by rw [HM.out]; rfl, HB2.out⟩
    have q2 : decide (4 < lk) = false := decide_eq_false h2
    have HM : Hid (m = if b.l.all pf = true then 0 else 4) := Lib.hid (by rw [Hr.out]; simp [h1, h2])
    clear h1 h2 Hr
    go_wp2_with fail
    clear c0 c1 c2 c3 q1 q2
    go_loopw [50] (fun iv wr => ∃ k : Nat, k ≤ ll ∧ iv = .int .i64 k ∧ Hid ((b.l.take k).all pf = true) ∧ Hid (Below w2.heap.size w2 wr)) (fun iv _ => ll - (intOf iv).toNat)
    case atStart => exact ⟨0, Nat.zero_le _, rfl, Lib.hid rfl, Lib.hid (Below.refl _ w2)⟩
    case round =>
      obtain ⟨k, hk, rfl, Hal, Hb⟩ := hrel
      have Hbox3 := Lib.hid (Hbox2.out.keep Hb.out)
      by_cases hlt : k < ll
      · have hlt' : k < b.l.length := by have := Hll.out; omega
        obtain ⟨b1, o1, a1, d1, hao, hb1, e0, e1, rk, m1, m2⟩ := Hbox3.out.r.l.get k hlt'
        subst hao
        unfold maxLen at m2
        have Hyes := Lib.hid (all_step b.l pf k hlt' Hal.out)
        have Hno := Lib.hid (all_no b.l pf k hlt')
        have hk0 : (k : Int) < (ll : Int) := by omega
        have hk1 : (0 : Int) ≤ (k : Int) := by omega
        have hv := Hpr.out b.l[k]
        have Hlt := Lib.hid hlt
        generalize b.l[k] = p at *
        obtain ⟨x, rt⟩ := p
        simp only at e0 e1 hv rk m1
        obtain ⟨rn, hrn⟩ : ∃ rn, rn = rt.length := ⟨_, rfl⟩
        rw [← hrn] at e1 rk m1
        have hba := (Below.refl wr.heap.size wr).alloc (Nat.le_refl _) (.cells #[.int .i64 x, .slice a1 rn d1] 57)
        have HB3 := Lib.hid (HB2.out.trans (Hb.out.mono HB2.out.size))
        have HB4 := Lib.hid (HB3.out.trans (hba.mono HB3.out.size))
        have HB24 := Lib.hid (Hb.out.trans (hba.mono Hb.out.size))
        obtain ⟨d0, _, d2, d3, _, _, _⟩ := Hbox3.out.keep hba
        have dd1 : (wr.alloc (.cells #[.int .i64 x, .slice a1 rn d1] 57)).cell? ⟨w.heap.size, 1, none⟩ = some (.int .i64 lk) := (Hbox3.out.keep hba).c1
        have c3 := Hbox3.out.c3
        have hle4 := Nat.le_trans Hbox3.out.le hba.size
        have Hc := Lib.hid (Hall.out (wr.alloc (.cells #[.int .i64 x, .slice a1 rn d1] 57)) (.slice a1 rn d1) rt B hle4 (Row.below rk (hba.mono Hbox3.out.le)))
        clear rk m1 m2 hlt hk hlt' hb1 hrn hba hle4
        by_cases h1 : x < 0
        · have q1 : decide (x < 0) = true := decide_eq_true h1
          have HY : Hid (m = 4) := Lib.hid (by rw [HM.out, Hno.out (by rw [hv, decide_eq_false (by omega)]; rfl)]; rfl)
          clear hv h1 Hno Hyes Hc
          go_wp2_with fail
          go_ret
          exact ⟨by rw [HY.out]; rfl, HB4.out⟩
        have q1 : decide (x < 0) = false := decide_eq_false h1
        by_cases h2 : (ol : Int) ≤ x
        · have q2 : decide ((ol : Int) ≤ x) = true := decide_eq_true h2
          have HY : Hid (m = 4) := Lib.hid (by rw [HM.out, Hno.out (by rw [hv, decide_eq_false (show ¬ x < (ol : Int) by omega), Bool.and_false]; rfl)]; rfl)
          clear hv h1 h2 Hno Hyes Hc
          go_wp2_with fail
          go_ret
          exact ⟨by rw [HY.out]; rfl, HB4.out⟩
        have q2 : decide ((ol : Int) ≤ x) = false := decide_eq_false h2
        rw [decide_eq_true (show 0 ≤ x by omega), decide_eq_true (show x < (ol : Int) by omega)] at hv
        simp only [Bool.true_and] at hv
        cases hq : rt.all (symOk b) with
        | true =>
          rw [hq] at hv Hc
          have HY := Lib.hid (Hyes.out hv)
          clear hv h1 h2 Hno Hyes hq
          go_wp2_with fail
          refine (Hc.out).mono ?_
          rintro e w5 ⟨rfl, b5⟩
          have HB5 := Lib.hid (HB24.out.trans (b5.mono HB24.out.size))
          clear b5 Hc
          go_wp2_with fail
          go_roundw
          case rel => exact ⟨k + 1, Hlt.out, by go_num, HY, HB5⟩
          case measure => have := Hlt.out; simp [intOf]; omega
        | false =>
          rw [hq] at hv Hc
          have HY : Hid (m = 4) := Lib.hid (by rw [HM.out, Hno.out hv]; rfl)
          clear hv h1 h2 Hno Hyes hq
          go_wp2_with fail
          refine (Hc.out).mono ?_
          rintro e w5 ⟨rfl, b5⟩
          have HB5 := Lib.hid (HB4.out.trans (b5.mono HB4.out.size))
          clear b5 Hc
          go_wp2_with fail
          go_ret
          exact ⟨by rw [HY.out]; rfl, HB5.out⟩
      · obtain rfl : k = ll := by omega
        have H : Hid (m = 0) := Lib.hid (by
          have := Hal.out; rw [Hll.out, List.take_length] at this
          rw [HM.out, this]; rfl)
        have HB3 := Lib.hid (HB2.out.trans (Hb.out.mono HB2.out.size))
        go_wp2_with fail
        go_ret
        exact ⟨by rw [H.out]; rfl, HB3.out⟩
end Go.Proofs.Ytimgnbacgdmiiaa
