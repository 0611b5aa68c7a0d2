/-
  The document's Of; stage 14's sample and works.
-/
import Derived.Test.YtimgnbacgdmiiaaFirL
import Derived.Test.YtimgnbacgdmiiaaBnfF
namespace Go.Proofs.Ytimgnbacgdmiiaa
open Go.RowKit PK
set_option linter.unusedVariables false
set_option linter.unusedSimpArgs false
attribute [local go_sem ↓] append_appM

/-- What the document's Of answers. -/
def ROfP (w : World) (b : Bn) (e : Ending) (w' : World) : Prop :=
  ((bmay b ≠ 0 ∧ e = .returned (.tuple #[.slice none 0 0, .int .i64 (bmay b)])) ∨ (bmay b = 0 ∧ ((∃ g c S, e = .returned (.tuple #[.slice (some ⟨g, 0, none⟩) b.of.length c, .int .i64 0]) ∧ InvS b b.look 600 S ∧ Closed b b.look S ∧ (∀ p ∈ b.l, ¬ OverR b.look 600 S p.right) ∧ SetsR w' g b.of.length c S) ∨ (e = .returned (.tuple #[.slice none 0 0, .int .i64 15]) ∧ ∃ S, Sound b b.look S ∧ Over b b.look 600 S)))) ∧ Below w.heap.size w w'
set_option maxHeartbeats 2000000 in
set_option maxRecDepth 100000 in
theorem refOf14_any (b : Bn) (tk lk : Int) (ov lv : Value) (B : Nat) (w : World) (etk : b.toks = tk) (elk : b.look = lk) (hB : B ≤ w.heap.size) (r : BR w B ov lv b) :
    Calls Try.prog 12 #[.agg #[.int .i64 tk, .int .i64 lk, ov, lv]] w (ROfP w b) := by
  obtain ⟨oa, oc, rfl, ho1, ho2⟩ := r.of.val
  obtain ⟨la, lc, rfl, hl1, hl2⟩ := r.l.val
  subst etk elk
  have hbox := BoxB.new b.toks b.look 25 hB r
  have hb1 := (Below.refl w.heap.size w).alloc (Nat.le_refl _) (.cells #[.int .i64 b.toks, .int .i64 b.look, .slice oa b.of.length oc, .slice la b.l.length lc] 25)
  have hmy := refMay_any b (.slice oa b.of.length oc) (.slice la b.l.length lc) B _ hbox.le hbox.r
  have hgr : bmay b = 0 → ∀ W BW, BW ≤ W.heap.size → BR W BW (.slice oa b.of.length oc) (.slice la b.l.length lc) b → Calls Try.prog 36 #[.agg #[.int .i64 b.toks, .int .i64 b.look, .slice oa b.of.length oc, .slice la b.l.length lc], .int .i64 b.look, .int .i64 600] W (GrownP W b b.look 600) := fun h0 W BW hBW hr => grown_any b b.look 600 _ _ BW W hBW hr h0 (by have := (bmay_zero h0).2.2.2.2.2.2.2.2; omega) (Nat.le_refl _)
  obtain ⟨ol, hol⟩ : ∃ ol, ol = b.of.length := ⟨_, rfl⟩
  obtain ⟨ll, hll⟩ : ∃ ll, ll = b.l.length := ⟨_, rfl⟩
  obtain ⟨tk, htk⟩ : ∃ tk, tk = b.toks := ⟨_, rfl⟩
  obtain ⟨lk, hlk⟩ : ∃ lk, lk = b.look := ⟨_, rfl⟩
  rw [← hol, ← hll, ← htk, ← hlk] at hbox hb1 hmy hgr
  rw [← hol, ← hll, ← htk, ← hlk]
  have Hbox := Lib.hid hbox; have Hb1 := Lib.hid hb1; have Hmy := Lib.hid hmy; have Hgr := Lib.hid hgr; have Hol := Lib.hid hol; have Hlk := Lib.hid hlk
  clear r hbox hb1 hmy hgr hol hll htk hlk ho1 ho2 hl1 hl2 hB
  go_enter Try.func12, Try.ntmps12
  go_upto_region 1 with fail
  generalize w.alloc (.cells #[.int .i64 tk, .int .i64 lk, .slice oa ol oc, .slice la ll lc] 25) = w1 at *
  obtain ⟨c0, c1, c2, c3⟩ := Hbox.out.four
  go_wp2_with fail
  refine (Hmy.out).mono ?_
  rintro e w2 ⟨rfl, hb2⟩
  have Hbx2 := Lib.hid (Hbox.out.keep hb2)
  have HB2 := Lib.hid (Hb1.out.trans (hb2.mono Hb1.out.size))
  clear hb2 c0 c1 c2 c3 Hmy
  by_cases h0 : bmay b = 0
  · have H0 := Lib.hid h0
    have HG := Lib.hid (Hgr.out h0 w2 _ Hbx2.out.le Hbx2.out.r)
    rw [h0]
    clear h0 Hgr
    obtain ⟨c0, c1, c2, c3⟩ := Hbx2.out.four
    go_wp2_with fail
    refine (HG.out).mono ?_
    rintro e w3 ⟨h3, hb3⟩
    have HB3 := Lib.hid (HB2.out.trans (hb3.mono HB2.out.size))
    clear hb3 HG c0 c1 c2 c3
    rcases h3 with ⟨g, c, S, rfl, hI, hcl, hno, hst⟩ | ⟨rfl, hS4⟩
    · rw [← Hol.out]
      have HE : Hid (ROfP w b (.returned (.tuple #[.slice (some ⟨g, 0, none⟩) ol c, .int .i64 0])) w3) := Lib.hid ⟨.inr ⟨H0.out, .inl ⟨g, c, S, by rw [Hol.out], by rw [← Hlk.out]; exact hI, by rw [← Hlk.out]; exact hcl, by rw [← Hlk.out]; exact hno, hst⟩⟩, HB3.out⟩
      clear hI hcl hno hst
      go_wp2_with fail
      go_ret2
      exact HE.out
    · have HE : Hid (ROfP w b (.returned (.tuple #[.slice none 0 0, .int .i64 15])) w3) := Lib.hid ⟨.inr ⟨H0.out, .inr ⟨rfl, by rw [← Hlk.out]; exact hS4⟩⟩, HB3.out⟩
      clear hS4
      go_wp2_with fail
      go_ret2
      exact HE.out
  · have Hne := Lib.hid h0
    have hq : ((bmay b : Int) == 0) = false := by rw [beq_eq_false_iff_ne]; exact h0
    have hq2 : ((bmay b : Int) != 0) = true := by rw [bne_iff_ne]; exact h0
    clear h0
    generalize hm : bmay b = m at *
    have HE : Hid (ROfP w b (.returned (.tuple #[.slice none 0 0, .int .i64 m])) w2) := Lib.hid ⟨.inl ⟨by rw [hm]; exact Hne.out, by rw [hm]⟩, HB2.out⟩
    go_wp2_with fail
    go_ret2
    exact HE.out
/-- The chapter's sample rules. -/
def smp14 : Bn := ⟨2, 2, [-1], [⟨0, [⟨true, 1⟩, ⟨false, 0⟩]⟩, ⟨0, [⟨true, 2⟩]⟩]⟩
theorem br_smp14 (w : World) (A : Obj) : ∃ W, W = ((((w.alloc A).alloc (.cells #[.int .i64 (-1)] 3)).alloc (.cells #[.bool true, .int .i64 1, .bool false, .int .i64 0] 39)).alloc (.cells #[.bool true, .int .i64 2] 39)).alloc (.cells #[.int .i64 0, .slice (some ⟨w.heap.size + 1 + 1, 0, none⟩) 2 2, .int .i64 0, .slice (some ⟨w.heap.size + 1 + 1 + 1, 0, none⟩) 1 1] 57) ∧
    BR W W.heap.size (.slice (some ⟨w.heap.size + 1, 0, none⟩) 1 1) (.slice (some ⟨w.heap.size + 1 + 1 + 1 + 1, 0, none⟩) 2 2) smp14 ∧ Below w.heap.size w W ∧ Below (w.heap.size + 1) (w.alloc A) W := by
  have s1 : (w.alloc A).heap.size = w.heap.size + 1 := by simp
  obtain ⟨W1, hW1⟩ : ∃ W1, W1 = w.alloc A := ⟨_, rfl⟩
  have b1 : Below w.heap.size w W1 := by rw [hW1]; exact (Below.refl w.heap.size w).alloc (Nat.le_refl _) _
  rw [← hW1] at s1 ⊢
  have r1 := row_cellsB W1 (ints [-1]) 1 1 1 3 rfl (Nat.le_refl _) (by unfold maxLen; omega)
  have s2 : (W1.alloc (.cells (ints [-1]).toArray 3)).heap.size = W1.heap.size + 1 := by simp
  have b2 := (Below.refl W1.heap.size W1).alloc (Nat.le_refl _) (.cells (ints [-1]).toArray 3)
  rw [show W1.alloc (.cells #[.int .i64 (-1)] 3) = W1.alloc (.cells (ints [-1]).toArray 3) from rfl]
  generalize W1.alloc (.cells (ints [-1]).toArray 3) = W2 at *
  have r2 := row_cellsB W2 (symC [⟨true, 1⟩, ⟨false, 0⟩]) 2 2 2 39 rfl (Nat.le_refl _) (by unfold maxLen; omega)
  have s3 : (W2.alloc (.cells (symC [⟨true, 1⟩, ⟨false, 0⟩]).toArray 39)).heap.size = W2.heap.size + 1 := by simp
  have b3 := (Below.refl W2.heap.size W2).alloc (Nat.le_refl _) (.cells (symC [⟨true, 1⟩, ⟨false, 0⟩]).toArray 39)
  rw [show W2.alloc (.cells #[.bool true, .int .i64 1, .bool false, .int .i64 0] 39) = W2.alloc (.cells (symC [⟨true, 1⟩, ⟨false, 0⟩]).toArray 39) from rfl]
  generalize W2.alloc (.cells (symC [⟨true, 1⟩, ⟨false, 0⟩]).toArray 39) = W3 at *
  have r3 := row_cellsB W3 (symC [⟨true, 2⟩]) 2 1 1 39 rfl (Nat.le_refl _) (by unfold maxLen; omega)
  have s4 : (W3.alloc (.cells (symC [⟨true, 2⟩]).toArray 39)).heap.size = W3.heap.size + 1 := by simp
  have b4 := (Below.refl W3.heap.size W3).alloc (Nat.le_refl _) (.cells (symC [⟨true, 2⟩]).toArray 39)
  rw [show W3.alloc (.cells #[.bool true, .int .i64 2] 39) = W3.alloc (.cells (symC [⟨true, 2⟩]).toArray 39) from rfl]
  generalize W3.alloc (.cells (symC [⟨true, 2⟩]).toArray 39) = W4 at *
  have r4 := row_cellsB W4 ([[.int .i64 0, .slice (some ⟨w.heap.size + 1 + 1, 0, none⟩) 2 2], [.int .i64 0, .slice (some ⟨w.heap.size + 1 + 1 + 1, 0, none⟩) 1 1]] : List (List Value)).flatten 2 2 2 57 rfl (Nat.le_refl _) (by unfold maxLen; omega)
  have s5 : (W4.alloc (.cells ([[.int .i64 0, .slice (some ⟨w.heap.size + 1 + 1, 0, none⟩) 2 2], [.int .i64 0, .slice (some ⟨w.heap.size + 1 + 1 + 1, 0, none⟩) 1 1]] : List (List Value)).flatten.toArray 57)).heap.size = W4.heap.size + 1 := by simp
  have b5 := (Below.refl W4.heap.size W4).alloc (Nat.le_refl _) (.cells ([[.int .i64 0, .slice (some ⟨w.heap.size + 1 + 1, 0, none⟩) 2 2], [.int .i64 0, .slice (some ⟨w.heap.size + 1 + 1 + 1, 0, none⟩) 1 1]] : List (List Value)).flatten.toArray 57)
  refine ⟨_, rfl, ?_⟩
  rw [show W4.alloc (.cells #[.int .i64 0, .slice (some ⟨w.heap.size + 1 + 1, 0, none⟩) 2 2, .int .i64 0, .slice (some ⟨w.heap.size + 1 + 1 + 1, 0, none⟩) 1 1] 57) = W4.alloc (.cells ([[.int .i64 0, .slice (some ⟨w.heap.size + 1 + 1, 0, none⟩) 2 2], [.int .i64 0, .slice (some ⟨w.heap.size + 1 + 1 + 1, 0, none⟩) 1 1]] : List (List Value)).flatten.toArray 57) from rfl]
  generalize W4.alloc (.cells ([[.int .i64 0, .slice (some ⟨w.heap.size + 1 + 1, 0, none⟩) 2 2], [.int .i64 0, .slice (some ⟨w.heap.size + 1 + 1 + 1, 0, none⟩) 1 1]] : List (List Value)).flatten.toArray 57) = W5 at *
  rw [s1] at s2 r1 b2
  rw [s2] at s3 r2 b3
  rw [s3] at s4 r3 b4
  rw [s4] at s5 r4 b5
  rw [s5]
  have c4 := b5
  have c3 := b4.trans (c4.mono (by omega))
  have c2 := b3.trans (c3.mono (by omega))
  have c1 := b2.trans (c2.mono (by omega))
  refine ⟨⟨((r1.below c2).mono (by omega) : Row W5 _ 1 _ 1 (ints [-1])), _, r4, rfl, fun c hc => ?_, fun i hi => ?_⟩, b1.trans (c1.mono (by omega)), c1⟩
  · simp only [List.mem_cons, List.not_mem_nil, or_false] at hc
    rcases hc with rfl | rfl <;> rfl
  · match i, hi with
    | 0, _ => exact ⟨_, rfl, (r2.below c3).mono (by omega)⟩
    | 1, _ => exact ⟨_, rfl, (r3.below c4).mono (by omega)⟩
set_option maxHeartbeats 1000000 in
theorem any_smp14 (w : World) : Calls Try.prog 37 #[] w fun e w' => ∃ o l, e = .returned (.agg #[.int .i64 2, .int .i64 2, o, l]) ∧ BR w' w'.heap.size o l smp14 ∧ Below w.heap.size w w' := by
  have hc := fun A => br_smp14 w A
  go_enter Try.func37, Try.ntmps37
  go_wp2_with fail
  obtain ⟨W, hW, hr, hb, hb2⟩ := hc (.cells #[.int .i64 2, .int .i64 2, .slice (some ⟨w.heap.size + 1, 0, none⟩) 1 1, .slice (some ⟨w.heap.size + 1 + 1 + 1 + 1, 0, none⟩) 2 2] 25)
  rw [← hW]
  have q := fun j u h => (hb2.cell (p := ⟨w.heap.size, j, none⟩) (Nat.lt_succ_self _)).trans (cell_new w #[.int .i64 2, .int .i64 2, .slice (some ⟨w.heap.size + 1, 0, none⟩) 1 1, .slice (some ⟨w.heap.size + 1 + 1 + 1 + 1, 0, none⟩) 2 2] 25 j u h)
  have q5 := q 0 _ rfl
  have q6 := q 1 _ rfl
  have q7 := q 2 _ rfl
  have q8 := q 3 _ rfl
  clear hc hW q
  refine bodyPost_ret (v := .agg #[.int .i64 2, .int .i64 2, .slice (some ⟨w.heap.size + 1, 0, none⟩) 1 1, .slice (some ⟨w.heap.size + 1 + 1 + 1 + 1, 0, none⟩) 2 2]) (by simp [results, Try.results37, go_sem, q5, q6, q7, q8]) rfl ?_
  exact ⟨_, _, rfl, hr, hb⟩
end Go.Proofs.Ytimgnbacgdmiiaa
