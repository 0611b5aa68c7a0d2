/-
  empty.some, Nothing, Ends.
-/
import Derived.Test.YtfmcigodfihlcaaEmpB
import Derived.Test.YtfmcigodfihlcaaAskB
namespace Go.Proofs.Ytfmcigodfihlcaa
open Go.RowKit Go.Maps Go.WideMaps
set_option linter.unusedVariables false
set_option linter.unusedSimpArgs false

theorem bmay_zero {b : Bn} (h : bmay b = 0) : 1 ≤ b.of.length ∧ b.of.length ≤ 500 ∧ 1 ≤ b.l.length ∧ b.l.length ≤ 2000 ∧ (∀ p ∈ b.l, p.right.length ≤ 500) ∧ (∀ p ∈ b.l, prOk b p = true) ∧ b.toks ≤ 60 ∧ 1 ≤ b.toks ∧ 1 ≤ b.look ∧ b.look ≤ 4 := by
  unfold bmay at h
  by_cases h1 : b.toks < 1 ∨ 60 < b.toks ∨ b.of.length < 1 ∨ 500 < b.of.length ∨ b.l.length < 1 ∨ 2000 < b.l.length
  · rw [if_pos h1] at h; cases h
  · rw [if_neg h1] at h
    by_cases h2 : (b.l.any fun p => decide (500 < p.right.length)) = true
    · rw [if_pos h2] at h; cases h
    · rw [if_neg h2] at h
      by_cases h3 : b.look < 1 ∨ 4 < b.look
      · rw [if_pos h3] at h; cases h
      · rw [if_neg h3] at h
        by_cases h4 : b.l.all (prOk b) = true
        · rw [List.all_eq_true] at h4
          refine ⟨by omega, by omega, by omega, by omega, fun p hp => ?_, h4, by omega, by omega, by omega, by omega⟩
          rcases Nat.lt_or_ge 500 p.right.length with h5 | h5
          · exact absurd (List.any_eq_true.2 ⟨p, hp, decide_eq_true h5⟩) h2
          · exact h5
        · rw [if_neg h4] at h; cases h
theorem sym_wide {b : Bn} (h : bmay b = 0) : ∀ p ∈ b.l, ∀ s ∈ p.right, In64 s.n := fun p hp s hs => by
  obtain ⟨_, h2, _, _, _, h6, h7, _, _, _⟩ := bmay_zero h
  have h8 := h6 p hp
  unfold prOk at h8
  simp only [Bool.and_eq_true, List.all_eq_true] at h8
  have h9 := h8.2 s hs
  unfold symOk at h9
  unfold In64
  split at h9
  · simp only [Bool.and_eq_true, decide_eq_true_eq] at h9; omega
  · simp only [Bool.and_eq_true, decide_eq_true_eq] at h9; omega
theorem askl_mem {F : Int → Option (Value × List Int)} {x k : Int} (h : AskG F x k) : x ∈ askl F k := by
  obtain ⟨v, l, h1, h2⟩ := h
  unfold askl; rw [h1]; exact h2
/-- What empty.Nothing and Ends answer. -/
def SomeP (w : World) (b : Bn) (tk : Bool) (e : Ending) (w' : World) : Prop :=
  ((bmay b ≠ 0 ∧ e = .returned (.tuple #[.slice none 0 0, .int .i64 (bmay b)])) ∨ (bmay b = 0 ∧ ∃ v st, e = .returned (.tuple #[v, .int .i64 0]) ∧ Fix b tk st ∧ w'.ownsRow w.heap.size 4 1 v st.length (bools st))) ∧ Below w.heap.size w w'

set_option maxHeartbeats 4000000 in
set_option maxRecDepth 100000 in
theorem some_nothing (b : Bn) (ov lv : Value) (B : Nat) (w : World) (hB : B ≤ w.heap.size) (r : BR w B ov lv b) :
    Calls Try.prog 37 #[.agg #[.int .i64 b.toks, .int .i64 b.look, ov, lv], .func (.func 38) #[] #[]] w (SomeP w b false) := by
  obtain ⟨oa, oc, rfl, ho1, ho2⟩ := r.of.val
  obtain ⟨la, lc, rfl, hl1, hl2⟩ := r.l.val
  have hbox := BoxB.new b.toks b.look 25 hB r
  have hb1 := (Below.refl w.heap.size w).alloc (Nat.le_refl _) (.cells #[.int .i64 b.toks, .int .i64 b.look, .slice oa b.of.length oc, .slice la b.l.length lc] 25)
  have hb2 := (Below.refl _ (w.alloc (.cells #[.int .i64 b.toks, .int .i64 b.look, .slice oa b.of.length oc, .slice la b.l.length lc] 25))).alloc (Nat.le_refl _) (.cells #[.func (.func 38) #[] #[]] 55)
  have hbox2 := hbox.keep hb2
  have hbel2 := hb1.trans (hb2.mono hb1.size)
  have hgd : ((w.alloc (.cells #[.int .i64 b.toks, .int .i64 b.look, .slice oa b.of.length oc, .slice la b.l.length lc] 25)).alloc (.cells #[.func (.func 38) #[] #[]] 55)).cell? ⟨w.heap.size + 1, 0, none⟩ = some (.func (.func 38) #[] #[]) := by
    have h0 := cell_new (w.alloc (.cells #[.int .i64 b.toks, .int .i64 b.look, .slice oa b.of.length oc, .slice la b.l.length lc] 25)) #[.func (.func 38) #[] #[]] 55 0 (.func (.func 38) #[] #[]) rfl
    rw [World.size_alloc] at h0
    exact h0
  have hs2 : ((w.alloc (.cells #[.int .i64 b.toks, .int .i64 b.look, .slice oa b.of.length oc, .slice la b.l.length lc] 25)).alloc (.cells #[.func (.func 38) #[] #[]] 55)).heap.size = w.heap.size + 2 := by simp
  have hmay := bnfMay_any b (.slice oa b.of.length oc) (.slice la b.l.length lc) B _ hbox2.le hbox2.r
  obtain ⟨ol, hol⟩ : ∃ ol, ol = b.of.length := ⟨_, rfl⟩
  obtain ⟨ll, hll⟩ : ∃ ll, ll = b.l.length := ⟨_, rfl⟩
  obtain ⟨tk, htk⟩ : ∃ tk, tk = b.toks := ⟨_, rfl⟩
  obtain ⟨lk, hlk⟩ : ∃ lk, lk = b.look := ⟨_, rfl⟩
  rw [← hol, ← hll, ← htk, ← hlk] at hbox2 hbel2 hgd hs2 hmay ⊢
  obtain ⟨i0, hi, hz0, hz1, hz2⟩ := info_parts info_boolT
  have Hbox := Lib.hid hbox2; have Hbel := Lib.hid hbel2; have Hgd := Lib.hid hgd; have Hs2 := Lib.hid hs2; have Hmay := Lib.hid hmay; have Hol := Lib.hid hol; have Hll := Lib.hid hll; have HB := Lib.hid hB
  clear r hbox hb1 hb2 hbox2 hbel2 hgd hs2 hmay hol hll htk hlk ho1 ho2 hl1 hl2 hB
  go_enter Try.func37, Try.ntmps37
  go_upto_region 1 with fail
  generalize (w.alloc (.cells #[.int .i64 tk, .int .i64 lk, .slice oa ol oc, .slice la ll lc] 25)).alloc (.cells #[.func (.func 38) #[] #[]] 55) = w2 at *
  obtain ⟨c0, c1, c2, c3, _, _, _⟩ := Hbox.out
  go_wp2_with fail
  refine (Hmay.out).mono ?_
  rintro e w3 ⟨rfl, b3⟩
  have Hb3 := Lib.hid b3
  have Hbox3 := Lib.hid (Hbox.out.keep b3)
  have Hgd3 := Lib.hid ((b3.cell (p := ⟨w.heap.size + 1, 0, none⟩) (by have := Hs2.out; show w.heap.size + 1 < _; omega)).trans Hgd.out)
  have HB3 := Lib.hid (Hbel.out.trans (b3.mono Hbel.out.size))
  clear b3 c0 c1 c2 c3 Hmay
  by_cases hE : bmay b = 0
  · obtain ⟨z1, z2, z3, z4, z5, z6, z7, z8, z9, z10⟩ := bmay_zero hE
    have Hw := Lib.hid (sym_wide hE)
    have HE := Lib.hid hE
    rw [hE]
    obtain ⟨c0, c1, c2, c3, _, _, _⟩ := Hbox3.out
    have ho500 : ol ≤ 500 := by have := Hol.out; omega
    have hl2000 : ll ≤ 2000 := by have := Hll.out; omega
    have Hz := Lib.hid (And.intro z1 (And.intro z2 (And.intro z3 (And.intro z4 (And.intro z5 z6)))))
    clear z1 z2 z3 z4 z5 z6 z7 z8 z9 z10 hE
    go_wp2_with (at_make; refine wpList_make_full _ rfl _ _ 28 rfl w3.heap.size 4 i0 (.bool false) 1 Try.underlying28 hi hz0 hz1 .i64 .i64 _ _ ol rfl rfl rfl rfl (by rw [hz2]; omega) (by unfold maxLen; omega) (Nat.le_refl _) ?_; intro wm hown hgrow; have Hown := Lib.hid hown; have Hgrow := Lib.hid hgrow; clear hown hgrow)
    have hbm : Below w3.heap.size w3 wm := (Below.refl w3.heap.size w3).grown Hgrow.out (Nat.le_refl _) (fun k e => by cases e)
    have hrowm : wm.ownsRow w3.heap.size 4 1 (.slice (some ⟨w3.heap.size, 0, none⟩) ol ol) ol (bools (List.replicate ol false)) := by
      have e : (madeCells (Value.bool false).cells (ol * 1)).toList = bools (List.replicate ol false) := by
        rw [Nat.mul_one]; show (madeCells #[Value.bool false] ol).toList = _
        rw [toList_madeCells_one]; simp [bools]
      have := Hown.out; rw [e] at this; exact this
    have hgm : w3.heap.size < wm.heap.size := (hrowm.lt w3.heap.size rfl).2
    have hb5 := (Below.refl wm.heap.size wm).alloc (Nat.le_refl _) (.cells #[.slice (some ⟨w3.heap.size, 0, none⟩) ol ol] 28)
    have hw3 : w.heap.size + 2 ≤ w3.heap.size := by have := Hs2.out; have := Hb3.out.size; omega
    have hjm : JM (wm.alloc (.cells #[.slice (some ⟨w3.heap.size, 0, none⟩) ol ol] 28)) w.heap.size wm.heap.size (w.heap.size + 1) w3.heap.size ol B w3.heap.size tk lk (.slice oa ol oc) (.slice la ll lc) (.func (.func 38) #[] #[]) b (List.replicate ol false) :=
      ⟨(Hbox3.out.keep hbm).keep hb5, cell_new wm _ _ 0 _ rfl, (hb5.cell (p := ⟨w.heap.size + 1, 0, none⟩) (by show w.heap.size + 1 < _; omega)).trans ((hbm.cell (p := ⟨w.heap.size + 1, 0, none⟩) (by show w.heap.size + 1 < _; omega)).trans Hgd3.out), hrowm.alloc _, ⟨by simp, by simp; omega⟩, ⟨by omega, by omega, by omega, by have := HB.out; omega⟩⟩
    have hs5 : (wm.alloc (.cells #[.slice (some ⟨w3.heap.size, 0, none⟩) ol ol] 28)).heap.size = wm.heap.size + 1 := by simp
    have HB5 := Lib.hid (HB3.out.trans ((hbm.trans (hb5.mono hbm.size)).mono HB3.out.size))
    have HJ5 := Lib.hid hjm
    have Hgm := Lib.hid hgm; have Hw3 := Lib.hid hw3
    clear c0 c1 c2 c3 hbm hrowm hb5 hjm hi hz0 hz1 hz2 Hown Hgrow hgm hw3 ho500 hl2000
    go_upto_region 5 with fail
    generalize wm.alloc (.cells #[.slice (some ⟨w3.heap.size, 0, none⟩) ol ol] 28) = w5 at *
    have Hs5 := Lib.hid hs5
    have Hbx : Hid (∀ W, Below w5.heap.size w5 W → W.cell? ⟨w.heap.size, 0, none⟩ = some (.int .i64 tk) ∧ W.cell? ⟨w.heap.size, 1, none⟩ = some (.int .i64 lk) ∧ W.cell? ⟨w.heap.size, 2, none⟩ = some (.slice oa ol oc) ∧ W.cell? ⟨w.heap.size, 3, none⟩ = some (.slice la ll lc)) := Lib.hid fun W hW =>
      have h := HJ5.out.box.keep hW
      ⟨h.c0, h.c1, h.c2, h.c3⟩
    clear hs5
    refine wp_region_ord 6 [(0, true), (1, true), (2, true), (3, true), (5, true), (4, false), (6, false)] (fun w' => w'.cell? ⟨w.heap.size, 0, none⟩ = some (.int .i64 tk) ∧ w'.cell? ⟨w.heap.size, 1, none⟩ = some (.int .i64 lk) ∧ w'.cell? ⟨w.heap.size, 2, none⟩ = some (.slice oa ol oc) ∧ w'.cell? ⟨w.heap.size, 3, none⟩ = some (.slice la ll lc)) (by kernel_rfl) (by kernel_rfl) (Hbx.out _ (Below.refl _ w5).drew) ?_
    simp only [ordL, List.getElem?_toArray, List.getElem?_cons_succ, List.getElem?_cons_zero]
    iterate 5 (
      refine ordW_read (v := ?_) (by rfl) ?_ (fun _ _ _ h => h) ?_
      rotate_left
      focus (intro w' hS; obtain ⟨s0, s1, s2, s3⟩ := hS; go_simp; (try with_reducible rfl); done)
      try simp only [Act.put, List.setIfInBounds_toArray, List.set_cons_zero, List.set_cons_succ])
    refine ordW_do (by rfl) (fun K' HK => ?_)
    go_simp
    have hd := (Below.refl w5.heap.size w5).drew
    refine (asks_any b tk lk (.slice oa ol oc) (.slice la ll lc) B w5.drew HJ5.out.box.le (HJ5.out.box.r.below (hd.mono HJ5.out.box.le)) (by have := Hz.out.2.2.2.1; omega) Hz.out.2.2.2.2.1 Hw.out).mono ?_
    rintro e w6 ⟨w1, cc, F, rfl, hbw1, hA, hSS, hCC⟩
    have hb56 : Below w5.heap.size w5 w6 := hd.trans ((hbw1.trans (hA.bel.mono hbw1.size)) : Below w5.heap.size w5.drew w6)
    have Hb56 := Lib.hid hb56
    have hg1 : w3.heap.size < w1.heap.size := by have h1 : w5.heap.size ≤ w1.heap.size := hbw1.size; have := Hs5.out; have := Hgm.out; omega
    have hJ6 := HJ5.out.up hb56
    have hs6 : w5.heap.size ≤ w6.heap.size := hb56.size
    have hL := look_marks b false (askl F) Hz.out.2.2.2.2.2 Hz.out.2.1 (fun j x hx s hs ht => askl_mem (hCC j (List.getElem?_eq_some_iff.1 hx).1 x hx s hs ht))
    have hset := settle_some b.l.length (lookM b false) (fun st => st.count false) (MInv b false) (fun W st => JM W w.heap.size wm.heap.size (w.heap.size + 1) w3.heap.size ol B w3.heap.size tk lk (.slice oa ol oc) (.slice la ll lc) (.func (.func 38) #[] #[]) b st)
      (b.l.length + (List.replicate ol false).count false * b.l.length) (some ⟨w.heap.size, 0, none⟩) (some ⟨wm.heap.size, 0, none⟩) (some ⟨w.heap.size + 1, 0, none⟩) w1 w6 cc w3.heap.size F (List.replicate ol false)
      ⟨Hz.out.2.2.1, by have := Hz.out.2.2.2.1; omega⟩ (Nat.le_refl _) (by
        have h1 := Hz.out.2.2.2.1
        have h2 : (List.replicate ol false).count false ≤ 500 := by have := Hz.out.2.1; have := Hol.out; simp; omega
        have h3 : (List.replicate ol false).count false * b.l.length ≤ 500 * 2000 := Nat.mul_le_mul h2 h1
        omega) hA hg1 (fun k v l hF x hx => hSS k v l hF x hx) hL ⟨by rw [List.length_replicate]; exact Hol.out, fun x hx => by
          rw [List.getElem?_replicate] at hx
          split at hx <;> cases hx⟩ hJ6
      (fun W W' st hJ hb => hJ.keep hb (by have := Hs5.out; have := Hgm.out; have := Hw3.out; omega) (by have := Hs5.out; omega) (by have := Hs5.out; have := Hgm.out; have := Hw3.out; omega) (by have := Hs5.out; have := Hgm.out; omega) (by have := HJ5.out.box.le; omega))
      (fun W st i hi hI hJ _ => look_nothing b w.heap.size wm.heap.size (w.heap.size + 1) w3.heap.size ol B w3.heap.size tk lk (.slice oa ol oc) (.slice la ll lc) st i W hi Hz.out.2.2.2.2.2 Hol.out.symm (by have := Hz.out.2.1; have := Hol.out; omega) (by rw [hI.len]; exact Hol.out.symm) hJ Hz.out.2.2.2.2.1)
    rw [← Hll.out] at hset
    have Hset := Lib.hid hset
    refine HK.out _ _ (fun _ => Hbx.out w6 hb56) ?_
    clear HK K' hA hSS hCC hL hJ6 hset hb56 hbw1 hd hg1
    try simp only [Act.put, List.setIfInBounds_toArray, List.set_cons_zero, List.set_cons_succ]
    refine ordW_do (by rfl) (fun K' HK => ?_)
    go_simp
    refine (Hset.out).mono ?_
    rintro e w7 ⟨rfl, st, hI7, hJ7, hk7, hq7⟩
    have HF := Lib.hid (fix_of_quiet Hz.out.2.2.2.2.2 hI7 (by rw [← Hll.out]; exact hq7))
    have HJ7 := Lib.hid hJ7
    have HB7 : Hid (Below w.heap.size w w7) := Lib.hid (HB5.out.trans ((Hb56.out.mono HB5.out.size).trans (hk7.below (by have := Hw3.out; omega) (by have := HB5.out.size; omega))))
    have i7 := hJ7.is
    refine HK.out _ _ (fun h => absurd rfl h) (ordW_nil ?_)
    clear HK K' hI7 hJ7 hk7 hq7 hs6
    go_wp2_with fail
    go_ret2
    refine ⟨.inr ⟨HE.out, _, st, rfl, HF.out, ?_⟩, HB7.out⟩
    have h1 := HF.out.len
    rw [← Hol.out] at h1
    rw [h1]
    exact owns_baseP HJ7.out.row (by have := Hw3.out; omega)
  · have Hne := Lib.hid hE
    have hq : ((bmay b : Int) == 0) = false := by rw [beq_eq_false_iff_ne]; exact hE
    clear hE
    generalize hm : bmay b = m at *
    go_wp2_with fail
    go_ret2
    exact ⟨.inl ⟨by rw [hm]; exact Hne.out, by rw [hm]; rfl⟩, HB3.out⟩

set_option maxHeartbeats 4000000 in
set_option maxRecDepth 100000 in
theorem some_ends (b : Bn) (ov lv : Value) (B : Nat) (w : World) (hB : B ≤ w.heap.size) (r : BR w B ov lv b) :
    Calls Try.prog 37 #[.agg #[.int .i64 b.toks, .int .i64 b.look, ov, lv], .func (.func 39) #[] #[]] w (SomeP w b true) := by
  obtain ⟨oa, oc, rfl, ho1, ho2⟩ := r.of.val
  obtain ⟨la, lc, rfl, hl1, hl2⟩ := r.l.val
  have hbox := BoxB.new b.toks b.look 25 hB r
  have hb1 := (Below.refl w.heap.size w).alloc (Nat.le_refl _) (.cells #[.int .i64 b.toks, .int .i64 b.look, .slice oa b.of.length oc, .slice la b.l.length lc] 25)
  have hb2 := (Below.refl _ (w.alloc (.cells #[.int .i64 b.toks, .int .i64 b.look, .slice oa b.of.length oc, .slice la b.l.length lc] 25))).alloc (Nat.le_refl _) (.cells #[.func (.func 39) #[] #[]] 55)
  have hbox2 := hbox.keep hb2
  have hbel2 := hb1.trans (hb2.mono hb1.size)
  have hgd : ((w.alloc (.cells #[.int .i64 b.toks, .int .i64 b.look, .slice oa b.of.length oc, .slice la b.l.length lc] 25)).alloc (.cells #[.func (.func 39) #[] #[]] 55)).cell? ⟨w.heap.size + 1, 0, none⟩ = some (.func (.func 39) #[] #[]) := by
    have h0 := cell_new (w.alloc (.cells #[.int .i64 b.toks, .int .i64 b.look, .slice oa b.of.length oc, .slice la b.l.length lc] 25)) #[.func (.func 39) #[] #[]] 55 0 (.func (.func 39) #[] #[]) rfl
    rw [World.size_alloc] at h0
    exact h0
  have hs2 : ((w.alloc (.cells #[.int .i64 b.toks, .int .i64 b.look, .slice oa b.of.length oc, .slice la b.l.length lc] 25)).alloc (.cells #[.func (.func 39) #[] #[]] 55)).heap.size = w.heap.size + 2 := by simp
  have hmay := bnfMay_any b (.slice oa b.of.length oc) (.slice la b.l.length lc) B _ hbox2.le hbox2.r
  obtain ⟨ol, hol⟩ : ∃ ol, ol = b.of.length := ⟨_, rfl⟩
  obtain ⟨ll, hll⟩ : ∃ ll, ll = b.l.length := ⟨_, rfl⟩
  obtain ⟨tk, htk⟩ : ∃ tk, tk = b.toks := ⟨_, rfl⟩
  obtain ⟨lk, hlk⟩ : ∃ lk, lk = b.look := ⟨_, rfl⟩
  rw [← hol, ← hll, ← htk, ← hlk] at hbox2 hbel2 hgd hs2 hmay ⊢
  obtain ⟨i0, hi, hz0, hz1, hz2⟩ := info_parts info_boolT
  have Hbox := Lib.hid hbox2; have Hbel := Lib.hid hbel2; have Hgd := Lib.hid hgd; have Hs2 := Lib.hid hs2; have Hmay := Lib.hid hmay; have Hol := Lib.hid hol; have Hll := Lib.hid hll; have HB := Lib.hid hB
  clear r hbox hb1 hb2 hbox2 hbel2 hgd hs2 hmay hol hll htk hlk ho1 ho2 hl1 hl2 hB
  go_enter Try.func37, Try.ntmps37
  go_upto_region 1 with fail
  generalize (w.alloc (.cells #[.int .i64 tk, .int .i64 lk, .slice oa ol oc, .slice la ll lc] 25)).alloc (.cells #[.func (.func 39) #[] #[]] 55) = w2 at *
  obtain ⟨c0, c1, c2, c3, _, _, _⟩ := Hbox.out
  go_wp2_with fail
  refine (Hmay.out).mono ?_
  rintro e w3 ⟨rfl, b3⟩
  have Hb3 := Lib.hid b3
  have Hbox3 := Lib.hid (Hbox.out.keep b3)
  have Hgd3 := Lib.hid ((b3.cell (p := ⟨w.heap.size + 1, 0, none⟩) (by have := Hs2.out; show w.heap.size + 1 < _; omega)).trans Hgd.out)
  have HB3 := Lib.hid (Hbel.out.trans (b3.mono Hbel.out.size))
  clear b3 c0 c1 c2 c3 Hmay
  by_cases hE : bmay b = 0
  · obtain ⟨z1, z2, z3, z4, z5, z6, z7, z8, z9, z10⟩ := bmay_zero hE
    have Hw := Lib.hid (sym_wide hE)
    have HE := Lib.hid hE
    rw [hE]
    obtain ⟨c0, c1, c2, c3, _, _, _⟩ := Hbox3.out
    have ho500 : ol ≤ 500 := by have := Hol.out; omega
    have hl2000 : ll ≤ 2000 := by have := Hll.out; omega
    have Hz := Lib.hid (And.intro z1 (And.intro z2 (And.intro z3 (And.intro z4 (And.intro z5 z6)))))
    clear z1 z2 z3 z4 z5 z6 z7 z8 z9 z10 hE
    go_wp2_with (at_make; refine wpList_make_full _ rfl _ _ 28 rfl w3.heap.size 4 i0 (.bool false) 1 Try.underlying28 hi hz0 hz1 .i64 .i64 _ _ ol rfl rfl rfl rfl (by rw [hz2]; omega) (by unfold maxLen; omega) (Nat.le_refl _) ?_; intro wm hown hgrow; have Hown := Lib.hid hown; have Hgrow := Lib.hid hgrow; clear hown hgrow)
    have hbm : Below w3.heap.size w3 wm := (Below.refl w3.heap.size w3).grown Hgrow.out (Nat.le_refl _) (fun k e => by cases e)
    have hrowm : wm.ownsRow w3.heap.size 4 1 (.slice (some ⟨w3.heap.size, 0, none⟩) ol ol) ol (bools (List.replicate ol false)) := by
      have e : (madeCells (Value.bool false).cells (ol * 1)).toList = bools (List.replicate ol false) := by
        rw [Nat.mul_one]; show (madeCells #[Value.bool false] ol).toList = _
        rw [toList_madeCells_one]; simp [bools]
      have := Hown.out; rw [e] at this; exact this
    have hgm : w3.heap.size < wm.heap.size := (hrowm.lt w3.heap.size rfl).2
    have hb5 := (Below.refl wm.heap.size wm).alloc (Nat.le_refl _) (.cells #[.slice (some ⟨w3.heap.size, 0, none⟩) ol ol] 28)
    have hw3 : w.heap.size + 2 ≤ w3.heap.size := by have := Hs2.out; have := Hb3.out.size; omega
    have hjm : JM (wm.alloc (.cells #[.slice (some ⟨w3.heap.size, 0, none⟩) ol ol] 28)) w.heap.size wm.heap.size (w.heap.size + 1) w3.heap.size ol B w3.heap.size tk lk (.slice oa ol oc) (.slice la ll lc) (.func (.func 39) #[] #[]) b (List.replicate ol false) :=
      ⟨(Hbox3.out.keep hbm).keep hb5, cell_new wm _ _ 0 _ rfl, (hb5.cell (p := ⟨w.heap.size + 1, 0, none⟩) (by show w.heap.size + 1 < _; omega)).trans ((hbm.cell (p := ⟨w.heap.size + 1, 0, none⟩) (by show w.heap.size + 1 < _; omega)).trans Hgd3.out), hrowm.alloc _, ⟨by simp, by simp; omega⟩, ⟨by omega, by omega, by omega, by have := HB.out; omega⟩⟩
    have hs5 : (wm.alloc (.cells #[.slice (some ⟨w3.heap.size, 0, none⟩) ol ol] 28)).heap.size = wm.heap.size + 1 := by simp
    have HB5 := Lib.hid (HB3.out.trans ((hbm.trans (hb5.mono hbm.size)).mono HB3.out.size))
    have HJ5 := Lib.hid hjm
    have Hgm := Lib.hid hgm; have Hw3 := Lib.hid hw3
    clear c0 c1 c2 c3 hbm hrowm hb5 hjm hi hz0 hz1 hz2 Hown Hgrow hgm hw3 ho500 hl2000
    go_upto_region 5 with fail
    generalize wm.alloc (.cells #[.slice (some ⟨w3.heap.size, 0, none⟩) ol ol] 28) = w5 at *
    have Hs5 := Lib.hid hs5
    have Hbx : Hid (∀ W, Below w5.heap.size w5 W → W.cell? ⟨w.heap.size, 0, none⟩ = some (.int .i64 tk) ∧ W.cell? ⟨w.heap.size, 1, none⟩ = some (.int .i64 lk) ∧ W.cell? ⟨w.heap.size, 2, none⟩ = some (.slice oa ol oc) ∧ W.cell? ⟨w.heap.size, 3, none⟩ = some (.slice la ll lc)) := Lib.hid fun W hW =>
      have h := HJ5.out.box.keep hW
      ⟨h.c0, h.c1, h.c2, h.c3⟩
    clear hs5
    refine wp_region_ord 6 [(0, true), (1, true), (2, true), (3, true), (5, true), (4, false), (6, false)] (fun w' => w'.cell? ⟨w.heap.size, 0, none⟩ = some (.int .i64 tk) ∧ w'.cell? ⟨w.heap.size, 1, none⟩ = some (.int .i64 lk) ∧ w'.cell? ⟨w.heap.size, 2, none⟩ = some (.slice oa ol oc) ∧ w'.cell? ⟨w.heap.size, 3, none⟩ = some (.slice la ll lc)) (by kernel_rfl) (by kernel_rfl) (Hbx.out _ (Below.refl _ w5).drew) ?_
    simp only [ordL, List.getElem?_toArray, List.getElem?_cons_succ, List.getElem?_cons_zero]
    iterate 5 (
      refine ordW_read (v := ?_) (by rfl) ?_ (fun _ _ _ h => h) ?_
      rotate_left
      focus (intro w' hS; obtain ⟨s0, s1, s2, s3⟩ := hS; go_simp; (try with_reducible rfl); done)
      try simp only [Act.put, List.setIfInBounds_toArray, List.set_cons_zero, List.set_cons_succ])
    refine ordW_do (by rfl) (fun K' HK => ?_)
    go_simp
    have hd := (Below.refl w5.heap.size w5).drew
    refine (asks_any b tk lk (.slice oa ol oc) (.slice la ll lc) B w5.drew HJ5.out.box.le (HJ5.out.box.r.below (hd.mono HJ5.out.box.le)) (by have := Hz.out.2.2.2.1; omega) Hz.out.2.2.2.2.1 Hw.out).mono ?_
    rintro e w6 ⟨w1, cc, F, rfl, hbw1, hA, hSS, hCC⟩
    have hb56 : Below w5.heap.size w5 w6 := hd.trans ((hbw1.trans (hA.bel.mono hbw1.size)) : Below w5.heap.size w5.drew w6)
    have Hb56 := Lib.hid hb56
    have hg1 : w3.heap.size < w1.heap.size := by have h1 : w5.heap.size ≤ w1.heap.size := hbw1.size; have := Hs5.out; have := Hgm.out; omega
    have hJ6 := HJ5.out.up hb56
    have hs6 : w5.heap.size ≤ w6.heap.size := hb56.size
    have hL := look_marks b true (askl F) Hz.out.2.2.2.2.2 Hz.out.2.1 (fun j x hx s hs ht => askl_mem (hCC j (List.getElem?_eq_some_iff.1 hx).1 x hx s hs ht))
    have hset := settle_some b.l.length (lookM b true) (fun st => st.count false) (MInv b true) (fun W st => JM W w.heap.size wm.heap.size (w.heap.size + 1) w3.heap.size ol B w3.heap.size tk lk (.slice oa ol oc) (.slice la ll lc) (.func (.func 39) #[] #[]) b st)
      (b.l.length + (List.replicate ol false).count false * b.l.length) (some ⟨w.heap.size, 0, none⟩) (some ⟨wm.heap.size, 0, none⟩) (some ⟨w.heap.size + 1, 0, none⟩) w1 w6 cc w3.heap.size F (List.replicate ol false)
      ⟨Hz.out.2.2.1, by have := Hz.out.2.2.2.1; omega⟩ (Nat.le_refl _) (by
        have h1 := Hz.out.2.2.2.1
        have h2 : (List.replicate ol false).count false ≤ 500 := by have := Hz.out.2.1; have := Hol.out; simp; omega
        have h3 : (List.replicate ol false).count false * b.l.length ≤ 500 * 2000 := Nat.mul_le_mul h2 h1
        omega) hA hg1 (fun k v l hF x hx => hSS k v l hF x hx) hL ⟨by rw [List.length_replicate]; exact Hol.out, fun x hx => by
          rw [List.getElem?_replicate] at hx
          split at hx <;> cases hx⟩ hJ6
      (fun W W' st hJ hb => hJ.keep hb (by have := Hs5.out; have := Hgm.out; have := Hw3.out; omega) (by have := Hs5.out; omega) (by have := Hs5.out; have := Hgm.out; have := Hw3.out; omega) (by have := Hs5.out; have := Hgm.out; omega) (by have := HJ5.out.box.le; omega))
      (fun W st i hi hI hJ _ => look_ends b w.heap.size wm.heap.size (w.heap.size + 1) w3.heap.size ol B w3.heap.size tk lk (.slice oa ol oc) (.slice la ll lc) st i W hi Hz.out.2.2.2.2.2 Hol.out.symm (by have := Hz.out.2.1; have := Hol.out; omega) (by rw [hI.len]; exact Hol.out.symm) hJ Hz.out.2.2.2.2.1)
    rw [← Hll.out] at hset
    have Hset := Lib.hid hset
    refine HK.out _ _ (fun _ => Hbx.out w6 hb56) ?_
    clear HK K' hA hSS hCC hL hJ6 hset hb56 hbw1 hd hg1
    try simp only [Act.put, List.setIfInBounds_toArray, List.set_cons_zero, List.set_cons_succ]
    refine ordW_do (by rfl) (fun K' HK => ?_)
    go_simp
    refine (Hset.out).mono ?_
    rintro e w7 ⟨rfl, st, hI7, hJ7, hk7, hq7⟩
    have HF := Lib.hid (fix_of_quiet Hz.out.2.2.2.2.2 hI7 (by rw [← Hll.out]; exact hq7))
    have HJ7 := Lib.hid hJ7
    have HB7 : Hid (Below w.heap.size w w7) := Lib.hid (HB5.out.trans ((Hb56.out.mono HB5.out.size).trans (hk7.below (by have := Hw3.out; omega) (by have := HB5.out.size; omega))))
    have i7 := hJ7.is
    refine HK.out _ _ (fun h => absurd rfl h) (ordW_nil ?_)
    clear HK K' hI7 hJ7 hk7 hq7 hs6
    go_wp2_with fail
    go_ret2
    refine ⟨.inr ⟨HE.out, _, st, rfl, HF.out, ?_⟩, HB7.out⟩
    have h1 := HF.out.len
    rw [← Hol.out] at h1
    rw [h1]
    exact owns_baseP HJ7.out.row (by have := Hw3.out; omega)
  · have Hne := Lib.hid hE
    have hq : ((bmay b : Int) == 0) = false := by rw [beq_eq_false_iff_ne]; exact hE
    clear hE
    generalize hm : bmay b = m at *
    go_wp2_with fail
    go_ret2
    exact ⟨.inl ⟨by rw [hm]; exact Hne.out, by rw [hm]; rfl⟩, HB3.out⟩
end Go.Proofs.Ytfmcigodfihlcaa
