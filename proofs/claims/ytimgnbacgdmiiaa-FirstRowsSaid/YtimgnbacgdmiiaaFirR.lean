/-
  first.Row.
-/
import Derived.Test.YtimgnbacgdmiiaaFirP
namespace Go.Proofs.Ytimgnbacgdmiiaa
open Go.RowKit PK
set_option linter.unusedVariables false
set_option linter.unusedSimpArgs false
attribute [local go_sem ↓] append_appM

/-- Sets that are the beginnings of each nonterminal. -/
def GoodS (b : Bn) (S : Sts) : Prop := InvS b b.look 600 S ∧ Closed b b.look S ∧ ∀ p ∈ b.l, ¬ OverR b.look 600 S p.right
/-- What first.Row answers. -/
def FRes (w' : World) (b : Bn) (l : List Sy) (v : Value) (x : Int) : Prop :=
  (bmay b ≠ 0 ∧ v = .slice none 0 0 ∧ x = bmay b) ∨ (bmay b = 0 ∧ (∃ S, Sound b b.look S ∧ Over b b.look 600 S) ∧ v = .slice none 0 0 ∧ x = 15) ∨ (bmay b = 0 ∧ ∃ S, GoodS b S ∧ ((l.all (symOk b) = false ∧ v = .slice none 0 0 ∧ x = 4) ∨ (l.all (symOk b) = true ∧ OverR b.look 600 S l ∧ v = .slice none 0 0 ∧ x = 15) ∨ (l.all (symOk b) = true ∧ ¬ OverR b.look 600 S l ∧ x = 0 ∧ Row w' w'.heap.size 1 v (rowS b.look S l).length (svt (rowS b.look S l)))))
def FRowP (w : World) (b : Bn) (l : List Sy) (e : Ending) (w' : World) : Prop := (∃ v x, e = .returned (.tuple #[v, .int .i64 x]) ∧ FRes w' b l v x) ∧ Below w.heap.size w w'
theorem symOk_wide {b : Bn} (h0 : bmay b = 0) {s : Sy} (h : symOk b s = true) : (s.tok = true → 0 ≤ s.n ∧ s.n ≤ 255) ∧ (s.tok = false → 0 ≤ s.n ∧ s.n < b.of.length) := by
  obtain ⟨_, _, _, _, _, _, h7, _, _, _⟩ := bmay_zero h0
  unfold symOk at h
  refine ⟨fun ht => ?_, fun ht => ?_⟩
  · rw [ht, if_pos rfl, Bool.and_eq_true, decide_eq_true_eq, decide_eq_true_eq] at h; omega
  · rw [ht] at h; simp only [Bool.false_eq_true, if_false, Bool.and_eq_true, decide_eq_true_eq] at h; exact h
theorem InvS.ok {b : Bn} {k : Int} {S : Sts} (h : InvS b k 600 S) : SOk k S := fun a ha => ⟨h.sound.set a ha, h.le a ha, h.few a ha⟩
set_option maxHeartbeats 4000000 in
set_option maxRecDepth 100000 in
theorem firstRow_any (b : Bn) (l : List Sy) (tk lk : Int) (ov bv lv : Value) (B BL : Nat) (w : World) (etk : b.toks = tk) (elk : b.look = lk) (hB : B ≤ w.heap.size) (r : BR w B ov bv b) (hBL : BL ≤ w.heap.size) (rl : SR w BL lv l) :
    Calls Try.prog 15 #[.agg #[.int .i64 tk, .int .i64 lk, ov, bv], lv] w (FRowP w b l) := by
  obtain ⟨oa, oc, rfl, ho1, ho2⟩ := r.of.val
  obtain ⟨la, lc, rfl, hl1, hl2⟩ := r.l.val
  obtain ⟨ra, rc, rfl, hr1, hr2⟩ := Row.val rl
  unfold maxLen at hr2
  subst etk elk
  have hbox := BoxB.new b.toks b.look 25 hB r
  have hb1 := (Below.refl w.heap.size w).alloc (Nat.le_refl _) (.cells #[.int .i64 b.toks, .int .i64 b.look, .slice oa b.of.length oc, .slice la b.l.length lc] 25)
  have hof := firstOf_any b b.toks b.look _ _ B _ rfl rfl hbox.le hbox.r
  have hok : ∀ s : Sy, symOk b s = if s.tok then decide (1 ≤ s.n) && decide (s.n ≤ b.toks) else decide (0 ≤ s.n) && decide (s.n < b.of.length) := fun s => rfl
  have hwide : bmay b = 0 → ∀ s, symOk b s = true → (s.tok = true → 0 ≤ s.n ∧ s.n ≤ 255) ∧ (s.tok = false → 0 ≤ s.n ∧ s.n < b.of.length) := fun h0 s h => symOk_wide h0 h
  have hres : ∀ W v x, FRes W b l v x → FRes W b l v x := fun _ _ _ h => h
  obtain ⟨f, hf⟩ : ∃ f, f = symOk b := ⟨_, rfl⟩
  obtain ⟨ol, hol⟩ : ∃ ol, ol = b.of.length := ⟨_, rfl⟩
  obtain ⟨ll, hll⟩ : ∃ ll, ll = b.l.length := ⟨_, rfl⟩
  obtain ⟨rn, hrn⟩ : ∃ rn, rn = l.length := ⟨_, rfl⟩
  obtain ⟨tk, htk⟩ : ∃ tk, tk = b.toks := ⟨_, rfl⟩
  obtain ⟨lk, hlk⟩ : ∃ lk, lk = b.look := ⟨_, rfl⟩
  rw [← hf] at hok hwide
  rw [← hol, ← hll, ← htk, ← hlk] at hbox hb1 hof
  rw [← hol, ← htk] at hok
  rw [← hol] at hwide
  rw [← hol, ← hll, ← htk, ← hlk, ← hrn]
  rw [← hrn] at rl hr1
  have hrn63 : (rn : Int) ≤ 9223372036854775807 := by omega
  have Hbox := Lib.hid hbox; have Hb1 := Lib.hid hb1; have Hof := Lib.hid hof; have Hok := Lib.hid hok; have Hwide := Lib.hid hwide; have Hf := Lib.hid hf; have Hol := Lib.hid hol; have Hlk := Lib.hid hlk; have Hrn := Lib.hid hrn
  have Hmk := Lib.hid mkAhead_any
  have Rl := Lib.hid (fun W (hW : Below w.heap.size w W) => (show SR W BL (.slice ra rn rc) l from by rw [hrn]; exact Row.below (by rw [hrn] at rl; exact rl) (hW.mono hBL)))
  have HBL := Lib.hid hBL
  clear r hbox hb1 hof hok hwide hres hf hol hll htk hlk ho1 ho2 hl1 hl2 hB rl hr1 hr2 hrn hBL
  go_enter Try.func15, Try.ntmps15
  go_upto_region 1 with fail
  generalize w.alloc (.cells #[.int .i64 tk, .int .i64 lk, .slice oa ol oc, .slice la ll lc] 25) = w1 at *
  obtain ⟨c0, c1, c2, c3⟩ := Hbox.out.four
  go_wp2_with fail
  refine (Hof.out).mono ?_
  rintro e w2 ⟨h2, hb2⟩
  have Hbx2 := Lib.hid (Hbox.out.keep hb2)
  have HB2 := Lib.hid (Hb1.out.trans (hb2.mono Hb1.out.size))
  clear hb2 c0 c1 c2 c3 Hof
  rcases h2 with ⟨h0, rfl⟩ | ⟨h0, ⟨g, S, rfl, hI, hcl, hno, hst⟩ | ⟨rfl, hS⟩⟩
  · have Hne := Lib.hid h0
    have hq : ((bmay b : Int) == 0) = false := by rw [beq_eq_false_iff_ne]; exact h0
    have hq2 : ((bmay b : Int) != 0) = true := by rw [bne_iff_ne]; exact h0
    clear h0
    generalize hm : bmay b = m at *
    have HE : Hid (FRowP w b l (.returned (.tuple #[.slice none 0 0, .int .i64 m])) w2) := Lib.hid ⟨⟨_, _, rfl, .inl ⟨by rw [hm]; exact Hne.out, rfl, hm.symm⟩⟩, HB2.out⟩
    clear hm
    go_wp2_with fail
    go_ret2
    exact HE.out
  · rw [← Hol.out]
    have hN : ol ≤ 1000 := by have := (bmay_zero h0).2.1; have := Hol.out; omega
    have hk4 : 1 ≤ lk ∧ lk ≤ 4 := by have := (bmay_zero h0).2.2.2.2.2.2.2.2; have := Hlk.out; omega
    have hgood : GoodS b S := ⟨hI, hcl, hno⟩
    have Hgood := Lib.hid hgood; have H0 := Lib.hid h0; have HN := Lib.hid hN; have Hk4 := Lib.hid hk4
    have Hst := Lib.hid hst
    rw [← Hol.out] at Hst
    have HSo := Lib.hid hI.ok
    rw [← Hlk.out] at HSo
    clear hI hcl hno hst h0 hN hk4 hgood
    go_wp2_with fail
    go_loopw [22] (fun iv wr => ∃ i : Nat, i ≤ rn ∧ iv = .int .i64 (i : Nat) ∧ Hid ((l.take i).all f = true) ∧ Hid (Below w2.heap.size w2 wr)) (fun iv _ => rn - (intOf iv).toNat)
    case atStart => exact ⟨0, Nat.zero_le _, rfl, Lib.hid rfl, Lib.hid (Below.refl _ _)⟩
    case round =>
      obtain ⟨i, hi, rfl, Hai, HB⟩ := hrel
      have HBw := Lib.hid (HB2.out.trans (HB.out.mono HB2.out.size))
      obtain ⟨c0, c1, c2, c3⟩ := (Hbx2.out.keep HB.out).four
      by_cases hli : i < rn
      · have hli' : i < l.length := by have := Hrn.out; omega
        obtain ⟨b6, o6, hao, hb6, e0, e1⟩ := SR.get (show SR wr BL (.slice ra l.length rc) l by have := Rl.out wr HBw.out; rw [Hrn.out] at this; exact this) i hli'
        subst hao
        have Hsy := Lib.hid (all_step l f i hli' Hai.out)
        have Hsn := Lib.hid (all_no l f i hli')
        have hk0 : (i : Int) < (rn : Int) := by omega
        have hk1 : (0 : Int) ≤ (i : Int) := by omega
        have hok := Hok.out l[i]
        have Hli := Lib.hid hli
        generalize l[i] = s at *
        obtain ⟨t, n⟩ := s
        simp only at e0 e1 hok
        have hbs := (Below.refl wr.heap.size wr).alloc (Nat.le_refl _) (.cells #[.bool t, .int .i64 n] 39)
        have hx0 : (wr.alloc (.cells #[.bool t, .int .i64 n] 39)).cell? ⟨wr.heap.size, 0, none⟩ = some (.bool t) := cell_new wr _ _ 0 _ rfl
        have hx1 : (wr.alloc (.cells #[.bool t, .int .i64 n] 39)).cell? ⟨wr.heap.size, 1, none⟩ = some (.int .i64 n) := cell_new wr _ _ 1 _ rfl
        obtain ⟨d0, d1, d2, d3⟩ := ((Hbx2.out.keep HB.out).keep hbs).four
        have HB7 := Lib.hid (HB.out.trans (hbs.mono HB.out.size))
        have HBe := Lib.hid (HB2.out.trans (HB7.out.mono HB2.out.size))
        clear hli hi hli' hb6 hbs
        go_upto_region 7 with fail
        generalize wr.alloc (.cells #[.bool t, .int .i64 n] 39) = ws at *
        clear e0 e1 c0 c1 c2 c3
        have Hbad : Hid (f ⟨t, n⟩ = false → FRowP w b l (.returned (.tuple #[.slice none 0 0, .int .i64 4])) ws) := Lib.hid fun h => ⟨⟨_, _, rfl, .inr (.inr ⟨H0.out, S, Hgood.out, .inl ⟨by rw [← Hf.out]; exact Hsn.out h, rfl, rfl⟩⟩)⟩, HBe.out⟩
        cases t with
        | true =>
          simp only [if_true] at hok
          by_cases h1 : n < 1
          · have q1 : decide (n < 1) = true := decide_eq_true h1
            have HY := Lib.hid (Hbad.out (by rw [hok, decide_eq_false (by omega)]; rfl))
            clear hok h1 Hsy Hsn Hbad
            go_wp2_with fail
            go_ret2
            exact HY.out
          have q1 : decide (n < 1) = false := decide_eq_false h1
          by_cases h2 : tk < n
          · have q2 : decide (tk < n) = true := decide_eq_true h2
            have HY := Lib.hid (Hbad.out (by rw [hok, decide_eq_false (show ¬ n ≤ tk by omega), Bool.and_false]))
            clear hok h1 h2 Hsy Hsn Hbad
            go_wp2_with fail
            go_ret2
            exact HY.out
          have q2 : decide (tk < n) = false := decide_eq_false h2
          have HY := Lib.hid (Hsy.out (by rw [hok, decide_eq_true (show 1 ≤ n by omega), decide_eq_true (show n ≤ tk by omega)]; rfl))
          clear hok h1 h2 Hsy Hsn Hbad
          go_wp2_with fail
          go_roundw
          case rel => exact ⟨i + 1, Hli.out, by go_num, HY, HB7⟩
          case measure => have := Hli.out; simp [intOf]; omega
        | false =>
          simp only [Bool.false_eq_true, if_false] at hok
          by_cases h1 : n < 0
          · have q1 : decide (n < 0) = true := decide_eq_true h1
            have HY := Lib.hid (Hbad.out (by rw [hok, decide_eq_false (by omega)]; rfl))
            clear hok h1 Hsy Hsn Hbad
            go_wp2_with fail
            go_ret2
            exact HY.out
          have q1 : decide (n < 0) = false := decide_eq_false h1
          by_cases h2 : (ol : Int) ≤ n
          · have q2 : decide ((ol : Int) ≤ n) = true := decide_eq_true h2
            have HY := Lib.hid (Hbad.out (by rw [hok, decide_eq_false (show ¬ n < (ol : Int) by omega), Bool.and_false]))
            clear hok h1 h2 Hsy Hsn Hbad
            go_wp2_with fail
            go_ret2
            exact HY.out
          have q2 : decide ((ol : Int) ≤ n) = false := decide_eq_false h2
          have HY := Lib.hid (Hsy.out (by rw [hok, decide_eq_true (show 0 ≤ n by omega), decide_eq_true (show n < (ol : Int) by omega)]; rfl))
          clear hok h1 h2 Hsy Hsn Hbad
          go_wp2_with fail
          go_roundw
          case rel => exact ⟨i + 1, Hli.out, by go_num, HY, HB7⟩
          case measure => have := Hli.out; simp [intOf]; omega
      · have hall : l.all f = true := by
          have := Hai.out
          rw [List.take_of_length_le (by have := Hrn.out; omega)] at this; exact this
        have hk0 : decide (i < rn) = false := decide_eq_false hli
        have Hall := Lib.hid (show l.all (symOk b) = true by rw [← Hf.out]; exact hall)
        have hsw : ∀ s ∈ l, (s.tok = true → 0 ≤ s.n ∧ s.n ≤ 255) ∧ (s.tok = false → 0 ≤ s.n ∧ s.n < ol) := fun s hs => Hwide.out H0.out s (List.all_eq_true.1 hall s hs)
        have Hrow := Lib.hid fun W (hW : Below wr.heap.size wr W) kb (hc : W.cell? ⟨kb, 0, none⟩ = some (.int .i64 lk)) (hkb : kb < W.heap.size) => rowOf_any l (.slice ra rn rc) lk kb g ol ol 600 S BL W (Rl.out W (HBw.out.trans (hW.mono HBw.out.size))) (Nat.le_trans HBL.out (Nat.le_trans HBw.out.size hW.size)) (Hst.out.below (HB.out.trans (hW.mono HB.out.size))) hc hkb Hk4.out (Nat.le_refl _) HSo.out hsw HN.out
        have hb3 := (Below.refl wr.heap.size wr).alloc (Nat.le_refl _) (.cells #[.int .i64 lk] 3)
        have hr := Lib.hid (Hrow.out _ hb3 wr.heap.size (cell_new wr #[.int .i64 lk] 3 0 _ rfl) (by simp))
        have HB3 := Lib.hid (HBw.out.trans (hb3.mono HBw.out.size))
        clear hall hsw hli hi Hrow hb3
        go_wp2_with fail
        refine (Hmk.out lk wr).mono ?_
        rintro e w3 ⟨rfl, rfl⟩
        go_wp2_with fail
        refine (hr.out).mono ?_
        rintro e w4 ⟨h4, hb4⟩
        have HB4 := Lib.hid (HB3.out.trans (hb4.mono HB3.out.size))
        clear hb4 hr c0 c1 c2 c3
        rcases h4 with ⟨hn, v, rfl, hrow⟩ | ⟨ho, rfl⟩
        · obtain ⟨va, vc, rfl, _, _⟩ := hrow.val
          have HE : Hid (FRowP w b l (.returned (.tuple #[.slice va (rowS lk S l).length vc, .int .i64 0])) w4) := Lib.hid ⟨⟨_, _, rfl, .inr (.inr ⟨H0.out, S, Hgood.out, .inr (.inr ⟨Hall.out, by rw [← Hlk.out]; exact hn, rfl, by rw [← Hlk.out]; exact hrow⟩)⟩)⟩, HB4.out⟩
          clear hn hrow
          go_wp2_with fail
          go_ret2
          exact HE.out
        · have HE : Hid (FRowP w b l (.returned (.tuple #[.slice none 0 0, .int .i64 15])) w4) := Lib.hid ⟨⟨_, _, rfl, .inr (.inr ⟨H0.out, S, Hgood.out, .inr (.inl ⟨Hall.out, by rw [← Hlk.out]; exact ho, rfl, rfl⟩)⟩)⟩, HB4.out⟩
          clear ho
          go_wp2_with fail
          go_ret2
          exact HE.out
  · have HE : Hid (FRowP w b l (.returned (.tuple #[.slice none 0 0, .int .i64 15])) w2) := Lib.hid ⟨⟨_, _, rfl, .inr (.inl ⟨h0, hS, rfl, rfl⟩)⟩, HB2.out⟩
    clear hS
    go_wp2_with fail
    go_ret2
    exact HE.out
end Go.Proofs.Ytimgnbacgdmiiaa
