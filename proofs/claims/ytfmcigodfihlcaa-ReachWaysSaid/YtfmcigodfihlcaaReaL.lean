/-
  The document's Left and Dead; reach.Dead.
-/
import Derived.Test.YtfmcigodfihlcaaReaK
namespace Go.Proofs.Ytfmcigodfihlcaa
open Go.RowKit PK
set_option linter.unusedVariables false
set_option linter.unusedSimpArgs false
attribute [local go_sem ↓] append_appM

set_option maxHeartbeats 4000000 in
set_option maxRecDepth 100000 in
theorem refLeft_any (p : Nat → Bool) (st : List Bool) (b : Bn) (ov lv : Value) (B : Nat) (w : World) (hB : B ≤ w.heap.size) (r : BR w B ov lv b) (h0 : bmay b = 0) (hst : Fix b false st) (hp : ∀ j : Nat, p j = true ↔ Rc (FN b st) (FN b st (j : Int)) (j : Int)) :
    Calls Try.prog 31 #[.agg #[.int .i64 b.toks, .int .i64 b.look, ov, lv]] w (OwnI w (pick p b.of.length)) := by
  obtain ⟨oa, oc, rfl, ho1, ho2⟩ := r.of.val
  obtain ⟨la, lc, rfl, hl1, hl2⟩ := r.l.val
  obtain ⟨z1, z2, z3, z4, z5, z6, _⟩ := bmay_zero h0
  have hbox := BoxB.new b.toks b.look 25 hB r
  have hb1 := (Below.refl w.heap.size w).alloc (Nat.le_refl _) (.cells #[.int .i64 b.toks, .int .i64 b.look, .slice oa b.of.length oc, .slice la b.l.length lc] 25)
  have hbg := fun (n m : Int) W BW hBW hr => refBegins_any n m st b (.slice oa b.of.length oc) (.slice la b.l.length lc) BW W hBW hr h0 hst
  obtain ⟨ol, hol⟩ : ∃ ol, ol = b.of.length := ⟨_, rfl⟩
  obtain ⟨ll, hll⟩ : ∃ ll, ll = b.l.length := ⟨_, rfl⟩
  obtain ⟨tk, htk⟩ : ∃ tk, tk = b.toks := ⟨_, rfl⟩
  obtain ⟨lk, hlk⟩ : ∃ lk, lk = b.look := ⟨_, rfl⟩
  rw [← hol, ← hll, ← htk, ← hlk] at hbox hb1 hbg
  rw [← hol, ← hll, ← htk, ← hlk]
  have ho500 : ol ≤ 500 := by omega
  have Hbox := Lib.hid hbox; have Hb1 := Lib.hid hb1; have Hbg := Lib.hid hbg; have HP := Lib.hid hp
  clear r hbox hb1 hol hll htk hlk ho1 ho2 hl1 hl2 hB z1 z2 z3 z4 z5 z6 h0 hst hbg hp
  go_enter Try.func31, Try.ntmps31
  go_upto_region 1 with fail
  generalize w.alloc (.cells #[.int .i64 tk, .int .i64 lk, .slice oa ol oc, .slice la ll lc] 25) = w1 at *
  have hown0 := World.ownsRow_made (base := w1.heap.size) (e := 3) (size := 1) w1 #[] 0 (Nat.le_refl _) (Nat.zero_le _) rfl
  have Hown0 := Lib.hid hown0
  have Hc : Hid (∀ W, Below w1.heap.size w1 W → W.cell? ⟨w.heap.size, 0, none⟩ = some (.int .i64 tk) ∧ W.cell? ⟨w.heap.size, 1, none⟩ = some (.int .i64 lk) ∧ W.cell? ⟨w.heap.size, 2, none⟩ = some (.slice oa ol oc) ∧ W.cell? ⟨w.heap.size, 3, none⟩ = some (.slice la ll lc)) := Lib.hid fun W hW => (Hbox.out.keep hW).four
  clear hown0
  go_wp2_with fail
  go_loopw [3, 4] (fun xv iv wr => ∃ (k : Nat), k ≤ ol ∧ iv = .int .i64 (k : Nat) ∧ Hid (wr.ownsRow w1.heap.size 3 1 xv (pick p k).length (ints (pick p k))) ∧ Hid (Below w1.heap.size w1 wr)) (fun _ iv _ => ol - (intOf iv).toNat)
  case atStart => exact ⟨0, Nat.zero_le _, rfl, Hown0, Lib.hid ((Below.refl _ w1).alloc (Nat.le_refl _) _)⟩
  case round =>
    clear Hown0
    obtain ⟨q, hk, rfl, HL, HB⟩ := hrel
    obtain ⟨c0, c1, c2, c3⟩ := Hc.out _ HB.out
    obtain ⟨va, vc, rfl, _, _⟩ := owns_valP HL.out
    have hplen := pick_len p q
    by_cases hlt : q < ol
    · have hq1 : (q : Int) < (ol : Int) := by omega
      have hq3 : (q : Int) ≤ 1000 := by omega
      have Hlt := Lib.hid hlt
      have Hb := Lib.hid (Hbg.out (q : Int) (q : Int) wr B (Hbox.out.keep HB.out).le (Hbox.out.keep HB.out).r)
      have Hps := Lib.hid (pick_succ p q)
      obtain ⟨ln, hln⟩ : ∃ ln, ln = (pick p q).length := ⟨_, rfl⟩
      have Hln := Lib.hid hln
      rw [← hln] at HL ⊢
      clear hln hplen hlt hk
      go_wp2_with fail
      refine (Hb.out).mono ?_
      rintro e w4 ⟨y, rfl, hy, hb4⟩
      have hpy : p q = y := by
        have h1 := HP.out q
        rw [← hy] at h1
        rw [Bool.eq_iff_iff]; exact h1
      have HL4 := Lib.hid (owns_belowP HL.out hb4)
      have Hb4 := Lib.hid (HB.out.trans (hb4.mono HB.out.size))
      clear hy hb4 Hb c0 c1 c2 c3
      cases y with
      | false =>
        rw [hpy, if_neg (by decide), List.append_nil] at Hps
        clear hpy
        go_wp2_with fail
        go_roundw
        case rel => exact ⟨q + 1, Hlt.out, by go_num, Lib.hid (by rw [Hps.out, ← Hln.out]; exact HL4.out), Hb4⟩
        case measure => have := Hlt.out; simp [intOf]; omega
      | true =>
        rw [hpy, if_pos rfl] at Hps
        obtain ⟨a5, d5, w5, happ, hown5, hb5⟩ := own_push (L := pick p q) Hb4.out.size (by rw [← Hln.out]; exact HL4.out) (q : Int) (by have := pick_len p q; have := Hlt.out; omega)
        rw [← Hps.out] at hown5
        rw [← Hln.out] at happ hown5
        have Hown5 := Lib.hid hown5
        have Hb5 := Lib.hid (Hb4.out.trans hb5)
        clear hown5 hb5 hpy
        go_wp2_with fail
        go_roundw
        case rel => exact ⟨q + 1, Hlt.out, by go_num, Hown5, Hb5⟩
        case measure => have := Hlt.out; simp [intOf]; omega
    · obtain rfl : q = ol := by omega
      have HE : Hid (OwnI w (pick p q) (.returned (.slice va (pick p q).length vc)) wr) := Lib.hid ⟨_, rfl, owns_baseP HL.out Hb1.out.size, Hb1.out.trans (HB.out.mono Hb1.out.size)⟩
      have hq0 : decide (q < q) = false := by simp
      obtain ⟨ln, hln⟩ : ∃ ln, ln = (pick p q).length := ⟨_, rfl⟩
      rw [← hln] at HE ⊢
      clear hlt hplen hln hk
      go_wp2_with fail
      go_ret
      exact HE.out
/-- What is not marked. -/
def nopeP (st : List Bool) : Nat → Bool := fun j => !((st[j]?).getD true)
theorem nopeP_at (st : List Bool) (j : Nat) (h : j < st.length) : nopeP st j = !st[j] := by unfold nopeP; rw [List.getElem?_eq_getElem h]; rfl
set_option maxHeartbeats 4000000 in
set_option maxRecDepth 100000 in
theorem refDead_any (b : Bn) (ov lv : Value) (B : Nat) (w : World) (hB : B ≤ w.heap.size) (r : BR w B ov lv b) (h0 : bmay b = 0) (st : List Bool) (hst : Fix b true st) :
    Calls Try.prog 28 #[.agg #[.int .i64 b.toks, .int .i64 b.look, ov, lv]] w (OwnI w (pick (nopeP st) b.of.length)) := by
  obtain ⟨oa, oc, rfl, ho1, ho2⟩ := r.of.val
  obtain ⟨la, lc, rfl, hl1, hl2⟩ := r.l.val
  obtain ⟨z1, z2, z3, z4, z5, z6, _⟩ := bmay_zero h0
  have hbox := BoxB.new b.toks b.look 25 hB r
  have hb1 := (Below.refl w.heap.size w).alloc (Nat.le_refl _) (.cells #[.int .i64 b.toks, .int .i64 b.look, .slice oa b.of.length oc, .slice la b.l.length lc] 25)
  have hno := refEnds_any b (.slice oa b.of.length oc) (.slice la b.l.length lc) B _ hbox.le hbox.r h0
  have huq := fun st2 (h : Fix b true st2) => Fix.uniq z6 h hst
  have hsl := hst.len
  obtain ⟨ol, hol⟩ : ∃ ol, ol = b.of.length := ⟨_, rfl⟩
  obtain ⟨ll, hll⟩ : ∃ ll, ll = b.l.length := ⟨_, rfl⟩
  obtain ⟨tk, htk⟩ : ∃ tk, tk = b.toks := ⟨_, rfl⟩
  obtain ⟨lk, hlk⟩ : ∃ lk, lk = b.look := ⟨_, rfl⟩
  rw [← hol, ← hll, ← htk, ← hlk] at hbox hb1 hno
  rw [← hol] at hsl
  rw [← hol, ← hll, ← htk, ← hlk]
  have ho500 : ol ≤ 500 := by omega
  have ho1' : 1 ≤ ol := by omega
  have Hbox := Lib.hid hbox; have Hb1 := Lib.hid hb1; have Hno := Lib.hid hno; have Huq := Lib.hid huq; have Hsl := Lib.hid hsl
  clear r hbox hb1 hol hll htk hlk ho1 ho2 hl1 hl2 hB z1 z2 z3 z4 z5 z6 h0 hst hno huq hsl
  go_enter Try.func28, Try.ntmps28
  go_upto_region 1 with fail
  generalize w.alloc (.cells #[.int .i64 tk, .int .i64 lk, .slice oa ol oc, .slice la ll lc] 25) = w1 at *
  obtain ⟨c0, c1, c2, c3⟩ := Hbox.out.four
  go_wp2_with fail
  refine (Hno.out).mono ?_
  rintro e w2 ⟨v2, st2, rfl, hF2, hown2, hb2⟩
  obtain rfl := Huq.out _ hF2
  obtain ⟨na, nc, rfl, _, _⟩ := owns_valP hown2
  obtain ⟨gn, hgn, _, hglt, hcl, _⟩ := owns_cellN hown2 (by have := Hsl.out; omega)
  subst hgn
  have Hcl := Lib.hid (fun W (hW : Below w2.heap.size w2 W) j hj => (hW.cell (p := ⟨gn, j, none⟩) hglt).trans (hcl j _ (bools_at st2 j hj)))
  have HB2 := Lib.hid (Hb1.out.trans (hb2.mono Hb1.out.size))
  rw [Hsl.out]
  have hown0 := World.ownsRow_made (base := w2.heap.size) (e := 3) (size := 1) w2 #[] 0 (Nat.le_refl _) (Nat.zero_le _) rfl
  have Hown0 := Lib.hid hown0
  clear hF2 hown2 hb2 hcl hglt hown0 Hno Hbox Hb1 c0 c1 c2 c3
  go_wp2_with fail
  go_loopw [4, 5] (fun xv iv wr => ∃ (k : Nat), k ≤ ol ∧ iv = .int .i64 (k : Nat) ∧ Hid (wr.ownsRow w2.heap.size 3 1 xv (pick (nopeP st2) k).length (ints (pick (nopeP st2) k))) ∧ Hid (Below w2.heap.size w2 wr)) (fun _ iv _ => ol - (intOf iv).toNat)
  case atStart => exact ⟨0, Nat.zero_le _, rfl, Hown0, Lib.hid ((Below.refl _ w2).alloc (Nat.le_refl _) _)⟩
  case round =>
    clear Hown0
    obtain ⟨q, hk, rfl, HL, HB⟩ := hrel
    obtain ⟨va, vc, rfl, _, _⟩ := owns_valP HL.out
    have hplen := pick_len (nopeP st2) q
    by_cases hlt : q < ol
    · have hqs : q < st2.length := by have := Hsl.out; omega
      have c9 := Hcl.out _ HB.out q hqs
      have hpy := nopeP_at st2 q hqs
      have hq1 : (q : Int) < (ol : Int) := by omega
      have hq2 : (0 : Int) ≤ (q : Int) := by omega
      have hq3 : (q : Int) ≤ 1000 := by omega
      have Hlt := Lib.hid hlt
      have Hps := Lib.hid (pick_succ (nopeP st2) q)
      obtain ⟨ln, hln⟩ : ∃ ln, ln = (pick (nopeP st2) q).length := ⟨_, rfl⟩
      have Hln := Lib.hid hln
      rw [← hln] at HL ⊢
      generalize st2[q] = y at *
      clear hln hplen hlt hk hqs
      cases y with
      | true =>
        rw [hpy, if_neg (by decide), List.append_nil] at Hps
        clear hpy
        go_wp2_with fail
        go_roundw
        case rel => exact ⟨q + 1, Hlt.out, by go_num, Lib.hid (by rw [Hps.out, ← Hln.out]; exact HL.out), HB⟩
        case measure => have := Hlt.out; simp [intOf]; omega
      | false =>
        rw [hpy, Bool.not_false, if_pos rfl] at Hps
        obtain ⟨a5, d5, w5, happ, hown5, hb5⟩ := own_push (L := pick (nopeP st2) q) HB.out.size (by rw [← Hln.out]; exact HL.out) (q : Int) (by have := pick_len (nopeP st2) q; have := Hlt.out; omega)
        rw [← Hps.out] at hown5
        rw [← Hln.out] at happ hown5
        have Hown5 := Lib.hid hown5
        have Hb5 := Lib.hid (HB.out.trans hb5)
        clear hown5 hb5 hpy
        go_wp2_with fail
        go_roundw
        case rel => exact ⟨q + 1, Hlt.out, by go_num, Hown5, Hb5⟩
        case measure => have := Hlt.out; simp [intOf]; omega
    · obtain rfl : q = ol := by omega
      have HE : Hid (OwnI w (pick (nopeP st2) q) (.returned (.slice va (pick (nopeP st2) q).length vc)) wr) := Lib.hid ⟨_, rfl, owns_baseP HL.out HB2.out.size, HB2.out.trans (HB.out.mono HB2.out.size)⟩
      have hq0 : decide (q < q) = false := by simp
      obtain ⟨ln, hln⟩ : ∃ ln, ln = (pick (nopeP st2) q).length := ⟨_, rfl⟩
      rw [← hln] at HE ⊢
      clear hlt hplen hln hk
      go_wp2_with fail
      go_ret
      exact HE.out
/-- What reach.Dead answers. -/
def DeadP (w : World) (b : Bn) (e : Ending) (w' : World) : Prop :=
  ((bmay b ≠ 0 ∧ e = .returned (.tuple #[.slice none 0 0, .int .i64 (bmay b)])) ∨ (bmay b = 0 ∧ ∃ v st, e = .returned (.tuple #[v, .int .i64 0]) ∧ Fix b true st ∧ w'.ownsRow w.heap.size 3 1 v (pick (nopeP st) b.of.length).length (ints (pick (nopeP st) b.of.length)))) ∧ Below w.heap.size w w'
set_option maxHeartbeats 4000000 in
set_option maxRecDepth 100000 in
theorem dead_any (b : Bn) (tk lk : Int) (ov lv : Value) (B : Nat) (w : World) (etk : b.toks = tk) (elk : b.look = lk) (hB : B ≤ w.heap.size) (r : BR w B ov lv b) :
    Calls Try.prog 25 #[.agg #[.int .i64 tk, .int .i64 lk, ov, lv]] w (DeadP w b) := by
  obtain ⟨oa, oc, rfl, ho1, ho2⟩ := r.of.val
  obtain ⟨la, lc, rfl, hl1, hl2⟩ := r.l.val
  subst etk elk
  have hbox := BoxB.new b.toks b.look 25 hB r
  have hb1 := agg_box w b.toks b.look (.slice oa b.of.length oc) (.slice la b.l.length lc) 25
  have hno := ends_any b (.slice oa b.of.length oc) (.slice la b.l.length lc) B _ hbox.le hbox.r
  obtain ⟨ol, hol⟩ : ∃ ol, ol = b.of.length := ⟨_, rfl⟩
  obtain ⟨ll, hll⟩ : ∃ ll, ll = b.l.length := ⟨_, rfl⟩
  obtain ⟨tk, htk⟩ : ∃ tk, tk = b.toks := ⟨_, rfl⟩
  obtain ⟨lk, hlk⟩ : ∃ lk, lk = b.look := ⟨_, rfl⟩
  rw [← hol, ← hll, ← htk, ← hlk] at hbox hb1 hno
  rw [← hol, ← hll, ← htk, ← hlk]
  have Hbox := Lib.hid hbox; have Hb1 := Lib.hid hb1; have Hno := Lib.hid hno; have Hol := Lib.hid hol
  clear r hbox hb1 hno hol hll htk hlk ho1 ho2 hl1 hl2 hB
  go_enter Try.func25, Try.ntmps25
  go_upto_region 1 with fail
  generalize w.alloc (.cells #[.int .i64 tk, .int .i64 lk, .slice oa ol oc, .slice la ll lc] 25) = w1 at *
  obtain ⟨c0, c1, c2, c3⟩ := Hbox.out.four
  go_wp2_with fail
  refine (Hno.out).mono ?_
  intro e w2 hp
  by_cases h0 : bmay b = 0
  · obtain ⟨g2, d2, st, rfl, hF, hcl, hg2, hb2⟩ := hp.own0 h0
    obtain ⟨z1, z2, _, _, _, z6, _⟩ := bmay_zero h0
    have hsl : st.length = ol := by rw [hF.len]; exact Hol.out.symm
    have ho500 : ol ≤ 500 := by have := Hol.out; omega
    have HF := Lib.hid hF; have H0 := Lib.hid h0; have Hsl := Lib.hid hsl
    have Hcl := Lib.hid (fun W (hW : Below w2.heap.size w2 W) j hj => (hW.cell (p := ⟨g2, j, none⟩) hg2).trans (hcl j hj))
    have HB2 := Lib.hid (Hb1.out.trans (hb2.mono Hb1.out.size))
    rw [hsl]
    clear hp hF hcl hg2 hb2 h0 hsl z1 z2 z6 c0 c1 c2 c3 Hno Hbox
    go_wp2_with fail
    go_loopw [6, 19] (fun xv iv wr => ∃ (k : Nat), k ≤ ol ∧ iv = .int .i64 (k : Nat) ∧ Hid (wr.ownsRow w2.heap.size 3 1 xv (pick (nopeP st) k).length (ints (pick (nopeP st) k))) ∧ Hid (Below w2.heap.size w2 wr)) (fun _ iv _ => ol - (intOf iv).toNat)
    case atStart => exact ⟨0, Nat.zero_le _, rfl, Lib.hid (World.ownsRow_nil _ _ _ _), Lib.hid (Below.refl _ _)⟩
    case round =>
      obtain ⟨q, hk, rfl, HL, HB⟩ := hrel
      obtain ⟨va, vc, rfl, _, _⟩ := owns_valP HL.out
      have hplen := pick_len (nopeP st) q
      by_cases hlt : q < ol
      · have hqs : q < st.length := by have := Hsl.out; omega
        have c9 := Hcl.out _ HB.out q hqs
        have hpy := nopeP_at st q hqs
        have hq1 : (q : Int) < (ol : Int) := by omega
        have hq2 : (0 : Int) ≤ (q : Int) := by omega
        have hq3 : (q : Int) ≤ 1000 := by omega
        have Hlt := Lib.hid hlt
        have Hps := Lib.hid (pick_succ (nopeP st) q)
        obtain ⟨ln, hln⟩ : ∃ ln, ln = (pick (nopeP st) q).length := ⟨_, rfl⟩
        have Hln := Lib.hid hln
        rw [← hln] at HL ⊢
        generalize st[q] = y at *
        clear hln hplen hlt hk hqs
        cases y with
        | true =>
          rw [hpy, if_neg (by decide), List.append_nil] at Hps
          clear hpy
          go_wp2_with fail
          go_roundw
          case rel => exact ⟨q + 1, Hlt.out, by go_num, Lib.hid (by rw [Hps.out, ← Hln.out]; exact HL.out), HB⟩
          case measure => have := Hlt.out; simp [intOf]; omega
        | false =>
          rw [hpy, Bool.not_false, if_pos rfl] at Hps
          obtain ⟨a5, d5, w5, happ, hown5, hb5⟩ := own_push (L := pick (nopeP st) q) HB.out.size (by rw [← Hln.out]; exact HL.out) (q : Int) (by have := pick_len (nopeP st) q; have := Hlt.out; omega)
          rw [← Hps.out] at hown5
          rw [← Hln.out] at happ hown5
          have Hown5 := Lib.hid hown5
          have Hb5 := Lib.hid (HB.out.trans hb5)
          clear hown5 hb5 hpy
          go_wp2_with fail
          go_roundw
          case rel => exact ⟨q + 1, Hlt.out, by go_num, Hown5, Hb5⟩
          case measure => have := Hlt.out; simp [intOf]; omega
      · have hqo : Hid (q = b.of.length) := Lib.hid (by have := Hol.out; omega)
        have hq0 : decide (q < ol) = false := decide_eq_false hlt
        have HE : Hid (DeadP w b (.returned (.tuple #[.slice va (pick (nopeP st) q).length vc, .int .i64 0])) wr) := Lib.hid ⟨.inr ⟨H0.out, _, st, rfl, HF.out, by rw [← hqo.out]; exact owns_baseP HL.out HB2.out.size⟩, HB2.out.trans (HB.out.mono HB2.out.size)⟩
        obtain ⟨ln, hln⟩ : ∃ ln, ln = (pick (nopeP st) q).length := ⟨_, rfl⟩
        rw [← hln] at HE ⊢
        clear hlt hplen hln hk
        go_wp2_with fail
        go_ret2
        exact HE.out
  · obtain ⟨rfl, hb2⟩ := hp.atN h0
    have Hne := Lib.hid h0
    have HB := Lib.hid (Hb1.out.trans (hb2.mono Hb1.out.size))
    have hq : ((bmay b : Int) == 0) = false := by rw [beq_eq_false_iff_ne]; exact h0
    have hq2 : ((bmay b : Int) != 0) = true := by rw [bne_iff_ne]; exact h0
    clear h0 hp hb2
    generalize hm : bmay b = m at *
    have HE : Hid (DeadP w b (.returned (.tuple #[.slice none 0 0, .int .i64 m])) w2) := Lib.hid ⟨.inl ⟨by rw [hm]; exact Hne.out, by rw [hm]⟩, HB.out⟩
    go_wp2_with fail
    go_ret2
    exact HE.out
end Go.Proofs.Ytfmcigodfihlcaa
