/-
  row.Ahead, first.Of.
-/
import Derived.Test.YtimgnbacgdmiiaaFirH
namespace Go.Proofs.Ytimgnbacgdmiiaa
open Go.RowKit PK
set_option linter.unusedVariables false
set_option linter.unusedSimpArgs false
attribute [local go_sem ↓] append_appM

theorem mkAhead_any (k : Int) (w : World) : Calls Try.prog 34 #[.int .i64 k] w fun e w' => e = .returned (.func (.func 60) #[] #[.pointer (some ⟨w.heap.size, 0, none⟩)]) ∧ w' = w.alloc (.cells #[.int .i64 k] 3) := by
  go_enter Try.func34, Try.ntmps34
  go_wp2_with fail
  go_ret
  exact ⟨rfl, rfl⟩
/-- What first.Of answers. -/
def OfP (w : World) (b : Bn) (e : Ending) (w' : World) : Prop :=
  ((bmay b ≠ 0 ∧ e = .returned (.tuple #[.slice none 0 0, .int .i64 (bmay b)])) ∨ (bmay b = 0 ∧ ((∃ g S, e = .returned (.tuple #[.slice (some ⟨g, 0, none⟩) b.of.length b.of.length, .int .i64 0]) ∧ InvS b b.look 600 S ∧ Closed b b.look S ∧ (∀ p ∈ b.l, ¬ OverR b.look 600 S p.right) ∧ SetsR w' g b.of.length b.of.length S) ∨ (e = .returned (.tuple #[.slice none 0 0, .int .i64 15]) ∧ ∃ S, Sound b b.look S ∧ Over b b.look 600 S)))) ∧ Below w.heap.size w w'
set_option maxHeartbeats 2000000 in
set_option maxRecDepth 100000 in
theorem firstOf_any (b : Bn) (tk lk : Int) (ov lv : Value) (B : Nat) (w : World) (etk : b.toks = tk) (elk : b.look = lk) (hB : B ≤ w.heap.size) (r : BR w B ov lv b) :
    Calls Try.prog 11 #[.agg #[.int .i64 tk, .int .i64 lk, ov, lv]] w (OfP w b) := by
  obtain ⟨oa, oc, rfl, ho1, ho2⟩ := r.of.val
  obtain ⟨la, lc, rfl, hl1, hl2⟩ := r.l.val
  subst etk elk
  have hbox := BoxB.new b.toks b.look 25 hB r
  have hb1 := (Below.refl w.heap.size w).alloc (Nat.le_refl _) (.cells #[.int .i64 b.toks, .int .i64 b.look, .slice oa b.of.length oc, .slice la b.l.length lc] 25)
  have hmy := bnfMay_any b (.slice oa b.of.length oc) (.slice la b.l.length lc) B _ hbox.le hbox.r
  have hgr : bmay b = 0 → ∀ W BW kb, BW ≤ W.heap.size → BR W BW (.slice oa b.of.length oc) (.slice la b.l.length lc) b → W.cell? ⟨kb, 0, none⟩ = some (.int .i64 b.look) → kb < W.heap.size → Calls Try.prog 35 #[.agg #[.func (.func 60) #[] #[.pointer (some ⟨kb, 0, none⟩)], .int .i64 600], .agg #[.int .i64 b.toks, .int .i64 b.look, .slice oa b.of.length oc, .slice la b.l.length lc]] W (GrowP W b b.look 600) := fun h0 W BW kb hBW hr hc hkb => grow_any b b.look 600 kb _ _ BW W hBW hr h0 (by have := (bmay_zero h0).2.2.2.2.2.2.2.2; omega) (Nat.le_refl _) hc hkb
  obtain ⟨ol, hol⟩ : ∃ ol, ol = b.of.length := ⟨_, rfl⟩
  obtain ⟨ll, hll⟩ : ∃ ll, ll = b.l.length := ⟨_, rfl⟩
  obtain ⟨tk, htk⟩ : ∃ tk, tk = b.toks := ⟨_, rfl⟩
  obtain ⟨lk, hlk⟩ : ∃ lk, lk = b.look := ⟨_, rfl⟩
  rw [← hol, ← hll, ← htk, ← hlk] at hbox hb1 hmy hgr
  rw [← hol, ← hll, ← htk, ← hlk]
  have Hbox := Lib.hid hbox; have Hb1 := Lib.hid hb1; have Hmy := Lib.hid hmy; have Hgr := Lib.hid hgr; have Hol := Lib.hid hol; have Hlk := Lib.hid hlk
  have Hmk := Lib.hid mkAhead_any
  clear r hbox hb1 hmy hgr hol hll htk hlk ho1 ho2 hl1 hl2 hB
  go_enter Try.func11, Try.ntmps11
  go_upto_region 1 with fail
  generalize w.alloc (.cells #[.int .i64 tk, .int .i64 lk, .slice oa ol oc, .slice la ll lc] 25) = w1 at *
  obtain ⟨c0, c1, c2, c3⟩ := Hbox.out.four
  go_wp2_with fail
  refine (Hmy.out).mono ?_
  rintro e w2 ⟨rfl, hb2⟩
  have Hbx2 := Lib.hid (Hbox.out.keep hb2)
  have HB2 := Lib.hid (Hb1.out.trans (hb2.mono Hb1.out.size))
  clear hb2 c0 c1 c2 c3 Hmy
  by_cases h0 : bmay b = 0
  · have H0 := Lib.hid h0
    have Hgr0 := Lib.hid (Hgr.out h0)
    rw [h0]
    clear h0 Hgr
    have Hd0 : Hid (Below w2.heap.size w2 w2.drew) := Lib.hid (Below.refl w2.heap.size w2).drew
    have HS : Hid (∀ W, Below w2.heap.size w2 W → W.cell? ⟨w.heap.size, 0, none⟩ = some (.int .i64 tk) ∧ W.cell? ⟨w.heap.size, 1, none⟩ = some (.int .i64 lk) ∧ W.cell? ⟨w.heap.size, 2, none⟩ = some (.slice oa ol oc) ∧ W.cell? ⟨w.heap.size, 3, none⟩ = some (.slice la ll lc)) := Lib.hid fun W hW => (Hbx2.out.keep hW).four
    obtain ⟨c0, c1, c2, c3⟩ := HS.out _ (Below.refl _ _)
    go_upto_region 4 with fail
    clear c0 c1 c2 c3
    refine wp_region_ord 9 [(0, true), (1, true), (4, true), (2, false), (3, true), (5, false), (6, true), (7, true), (8, true), (9, false)] (fun w' => w'.cell? ⟨w.heap.size, 0, none⟩ = some (.int .i64 tk) ∧ w'.cell? ⟨w.heap.size, 1, none⟩ = some (.int .i64 lk) ∧ w'.cell? ⟨w.heap.size, 2, none⟩ = some (.slice oa ol oc) ∧ w'.cell? ⟨w.heap.size, 3, none⟩ = some (.slice la ll lc)) (by kernel_rfl) (by kernel_rfl) (HS.out _ Hd0.out) ?_
    simp only [ordL, List.getElem?_toArray, List.getElem?_cons_succ, List.getElem?_cons_zero]
    iterate 3 (
      refine ordW_read (v := ?_) (by rfl) ?_ (fun _ _ _ h => h) ?_
      rotate_left
      focus (intro w' hS; obtain ⟨s0, s1, s2, s3⟩ := hS; go_simp; (try with_reducible rfl); done)
      try simp only [Act.put, List.setIfInBounds_toArray, List.set_cons_zero, List.set_cons_succ])
    refine ordW_do (by rfl) (fun K' HK => ?_)
    go_simp
    refine (Hmk.out lk w2.drew).mono ?_
    rintro e w3 ⟨rfl, rfl⟩
    have hb3 : Below w2.heap.size w2 (w2.drew.alloc (.cells #[.int .i64 lk] 3)) := Hd0.out.alloc Hd0.out.size _
    have hc3 := cell_new w2.drew #[.int .i64 lk] 3 0 _ rfl
    have hlt3 : w2.drew.heap.size < (w2.drew.alloc (.cells #[.int .i64 lk] 3)).heap.size := by simp
    have HG := Lib.hid (Hgr0.out _ _ _ (Hbx2.out.keep hb3).le (Hbx2.out.keep hb3).r hc3 hlt3)
    have HB3 := Lib.hid hb3
    refine HK.out _ _ (fun _ => HS.out _ hb3) ?_
    clear HK K' hb3 hc3 hlt3 Hgr0
    try simp only [Act.put, List.setIfInBounds_toArray, List.set_cons_zero, List.set_cons_succ]
    iterate 1 (
      refine ordW_read (v := ?_) (by rfl) ?_ (fun _ _ _ h => h) ?_
      rotate_left
      focus (intro w' hS; obtain ⟨s0, s1, s2, s3⟩ := hS; go_simp; (try with_reducible rfl); done)
      try simp only [Act.put, List.setIfInBounds_toArray, List.set_cons_zero, List.set_cons_succ])
    refine ordW_do (by rfl) (fun K' HK => ?_)
    go_simp
    refine (HG.out).mono ?_
    rintro e w4 ⟨h4, hb4⟩
    have HB4 := Lib.hid (HB3.out.trans (hb4.mono HB3.out.size))
    have HB := Lib.hid (HB2.out.trans (HB4.out.mono HB2.out.size))
    clear hb4 HG
    rcases h4 with ⟨g, S, rfl, hI, hcl, hno, hst⟩ | ⟨rfl, hS4⟩
    · rw [← Hol.out]
      have HE : Hid (OfP w b (.returned (.tuple #[.slice (some ⟨g, 0, none⟩) ol ol, .int .i64 0])) w4) := Lib.hid ⟨.inr ⟨H0.out, .inl ⟨g, S, by rw [Hol.out], by rw [← Hlk.out]; exact hI, by rw [← Hlk.out]; exact hcl, by rw [← Hlk.out]; exact hno, hst⟩⟩, HB.out⟩
      clear hI hcl hno hst
      refine HK.out _ _ (fun _ => HS.out _ HB4.out) ?_
      clear HK K'
      try simp only [Act.put, List.setIfInBounds_toArray, List.set_cons_zero, List.set_cons_succ]
      iterate 3 (
        refine ordW_read (v := ?_) (by rfl) ?_ (fun _ _ _ h => h) ?_
        rotate_left
        focus (intro w' hS; obtain ⟨s0, s1, s2, s3⟩ := hS; go_simp; (try with_reducible rfl); done)
        try simp only [Act.put, List.setIfInBounds_toArray, List.set_cons_zero, List.set_cons_succ])
      refine ordW_do (by rfl) (fun K' HK => ?_)
      go_simp
      refine HK.out _ _ (fun h => absurd rfl h) (ordW_nil ?_)
      clear HK K'
      go_wp2_with fail
      go_ret2
      exact HE.out
    · have HE : Hid (OfP w b (.returned (.tuple #[.slice none 0 0, .int .i64 15])) w4) := Lib.hid ⟨.inr ⟨H0.out, .inr ⟨rfl, by rw [← Hlk.out]; exact hS4⟩⟩, HB.out⟩
      clear hS4
      refine HK.out _ _ (fun _ => HS.out _ HB4.out) ?_
      clear HK K'
      try simp only [Act.put, List.setIfInBounds_toArray, List.set_cons_zero, List.set_cons_succ]
      iterate 3 (
        refine ordW_read (v := ?_) (by rfl) ?_ (fun _ _ _ h => h) ?_
        rotate_left
        focus (intro w' hS; obtain ⟨s0, s1, s2, s3⟩ := hS; go_simp; (try with_reducible rfl); done)
        try simp only [Act.put, List.setIfInBounds_toArray, List.set_cons_zero, List.set_cons_succ])
      refine ordW_do (by rfl) (fun K' HK => ?_)
      go_simp
      refine HK.out _ _ (fun h => absurd rfl h) (ordW_nil ?_)
      clear HK K'
      go_wp2_with fail
      go_ret2
      exact HE.out
  · have Hne := Lib.hid h0
    have hq : ((bmay b : Int) == 0) = false := by rw [beq_eq_false_iff_ne]; exact h0
    have hq2 : ((bmay b : Int) != 0) = true := by rw [bne_iff_ne]; exact h0
    clear h0
    generalize hm : bmay b = m at *
    have HE : Hid (OfP w b (.returned (.tuple #[.slice none 0 0, .int .i64 m])) w2) := Lib.hid ⟨.inl ⟨by rw [hm]; exact Hne.out, by rw [hm]⟩, HB2.out⟩
    go_wp2_with fail
    go_ret2
    exact HE.out
end Go.Proofs.Ytimgnbacgdmiiaa
