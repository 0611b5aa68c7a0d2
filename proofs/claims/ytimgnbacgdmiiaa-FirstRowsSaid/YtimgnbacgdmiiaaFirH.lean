/-
  first.grower.grow.
-/
import Derived.Test.YtimgnbacgdmiiaaFirG
import Derived.Test.YtimgnbacgdmiiaaAskB
import Derived.Test.YtimgnbacgdmiiaaRegT
namespace Go.Proofs.Ytimgnbacgdmiiaa
open Go.RowKit PK Go.Maps Go.WideMaps
set_option linter.unusedVariables false
set_option linter.unusedSimpArgs false
attribute [local go_sem ↓] append_appM

theorem bmay_zero {b : Bn} (h : bmay b = 0) : 1 ≤ b.of.length ∧ b.of.length ≤ 500 ∧ 1 ≤ b.l.length ∧ b.l.length ≤ 2000 ∧ (∀ p ∈ b.l, p.right.length ≤ 500) ∧ (∀ p ∈ b.l, prOk b p = true) ∧ b.toks ≤ 60 ∧ 1 ≤ b.toks ∧ 1 ≤ b.look ∧ b.look ≤ 4 := by
  unfold bmay at h
  by_cases h1 : b.toks < 1 ∨ 60 < b.toks ∨ b.of.length < 1 ∨ 500 < b.of.length ∨ b.l.length < 1 ∨ 2000 < b.l.length
  · rw [if_pos h1] at h; cases h
  · rw [if_neg h1] at h
    by_cases h2 : (b.l.any fun p => decide (500 < p.right.length)) = true
    · rw [if_pos h2] at h; cases h
    · rw [if_neg h2] at h
      by_cases h3 : b.look < 1 ∨ 4 < b.look
      · rw [if_pos h3] at h; cases h
      · rw [if_neg h3] at h
        by_cases h4 : b.l.all (prOk b) = true
        · rw [List.all_eq_true] at h4
          refine ⟨by omega, by omega, by omega, by omega, fun p hp => ?_, h4, by omega, by omega, by omega, by omega⟩
          rcases Nat.lt_or_ge 500 p.right.length with h5 | h5
          · exact absurd (List.any_eq_true.2 ⟨p, hp, decide_eq_true h5⟩) h2
          · exact h5
        · rw [if_neg h4] at h; cases h
theorem BoxB.four {w : World} {g B : Nat} {tk lk : Int} {ov lv : Value} {b : Bn} (h : BoxB w g B tk lk ov lv b) : w.cell? ⟨g, 0, none⟩ = some (.int .i64 tk) ∧ w.cell? ⟨g, 1, none⟩ = some (.int .i64 lk) ∧ w.cell? ⟨g, 2, none⟩ = some ov ∧ w.cell? ⟨g, 3, none⟩ = some lv := ⟨h.c0, h.c1, h.c2, h.c3⟩
theorem sym_wide {b : Bn} (h : bmay b = 0) : ∀ p ∈ b.l, ∀ s ∈ p.right, In64 s.n := fun p hp s hs => by
  obtain ⟨_, h2, _, _, _, h6, h7, _, _, _⟩ := bmay_zero h
  have h8 := h6 p hp
  unfold prOk at h8
  simp only [Bool.and_eq_true, List.all_eq_true] at h8
  have h9 := h8.2 s hs
  unfold symOk at h9
  unfold In64
  split at h9
  · simp only [Bool.and_eq_true, decide_eq_true_eq] at h9; omega
  · simp only [Bool.and_eq_true, decide_eq_true_eq] at h9; omega
theorem askl_mem {F : Int → Option (Value × List Int)} {x k : Int} (h : AskG F x k) : x ∈ askl F k := by
  obtain ⟨v, l, h1, h2⟩ := h
  unfold askl; rw [h1]; exact h2
theorem info_strs : (Try.prog.info? 32).map (fun i => (i.zero, i.size, i.bytes)) = some (some (.slice none 0 0), 1, 24) := by kernel_rfl
theorem GSt.lift {W : World} {b : Bn} {k : Int} {most N s0 s1 gb gs gr ge kb g B : Nat} {tk lk : Int} {ov lv : Value} {X : List (Value × List Tx)} {P : Nat → Prop} (h : GSt W b k most N s0 gb gs gr ge kb g B tk lk ov lv X P) (h1 : s0 ≤ s1) (h2 : s1 ≤ W.heap.size) : GSt W b k most N s1 gb gs gr ge kb g B tk lk ov lv X P := by
  obtain ⟨l1, l2, l3, l4, l5, l6, l7, l8⟩ := h.lt
  exact ⟨h.bx, h.sx, h.r0, h.r1, h.ex, h.kx, ⟨by omega, by omega, by omega, by omega, by omega, by omega, by omega, h2⟩, h.ne, h.out, h.len, h.each, fun x hx q e => ⟨(h.ap x hx q e).1, (h.ap x hx q e).2.elim (fun h3 => .inl (by omega)) .inr⟩⟩
theorem mu_le (most : Nat) (S : Sts) : muG most (some S) ≤ 1 + S.length * most := by
  show 1 + _ ≤ _
  have : (S.map fun a => most - a.length).sum ≤ S.length * most := by
    induction S with
    | nil => simp
    | cons a S ih => rw [List.map_cons, List.sum_cons, List.length_cons, Nat.succ_mul]; omega
  omega
theorem inv_start (b : Bn) (k : Int) (most : Nat) : InvS b k most (List.replicate b.of.length []) := by
  have hnil : ∀ a ∈ List.replicate b.of.length ([] : List Tx), a = [] := fun a ha => List.eq_of_mem_replicate ha
  refine ⟨⟨by simp, (fun l hl => by rw [hnil l hl]; exact List.Pairwise.nil), fun n x hx => ?_⟩, (fun a ha x hx => by rw [hnil a ha] at hx; cases hx), (fun a ha => by rw [hnil a ha]; exact Nat.zero_le _)⟩
  unfold stAt at hx
  rw [List.getElem?_replicate] at hx
  split at hx <;> cases hx
/-- What grow answers. -/
def GrowP (w : World) (b : Bn) (k : Int) (most : Nat) (e : Ending) (w' : World) : Prop :=
  ((∃ g S, e = .returned (.tuple #[.slice (some ⟨g, 0, none⟩) b.of.length b.of.length, .int .i64 0]) ∧ InvS b k most S ∧ Closed b k S ∧ (∀ p ∈ b.l, ¬ OverR k most S p.right) ∧ SetsR w' g b.of.length b.of.length S) ∨ (e = .returned (.tuple #[.slice none 0 0, .int .i64 15]) ∧ ∃ S, Sound b k S ∧ Over b k most S)) ∧ Below w.heap.size w w'
set_option maxHeartbeats 4000000 in
set_option maxRecDepth 100000 in
theorem grow_any (b : Bn) (k : Int) (most kb : Nat) (ov lv : Value) (B : Nat) (w : World) (hB : B ≤ w.heap.size) (r : BR w B ov lv b) (h0 : bmay b = 0) (hk : 1 ≤ k ∧ k ≤ 4) (hm : most ≤ 600) (hc : w.cell? ⟨kb, 0, none⟩ = some (.int .i64 k)) (hkb : kb < w.heap.size) :
    Calls Try.prog 35 #[.agg #[.func (.func 60) #[] #[.pointer (some ⟨kb, 0, none⟩)], .int .i64 (most : Nat)], .agg #[.int .i64 b.toks, .int .i64 b.look, ov, lv]] w (GrowP w b k most) := by
  obtain ⟨oa, oc, rfl, ho1, ho2⟩ := r.of.val
  obtain ⟨la, lc, rfl, hl1, hl2⟩ := r.l.val
  obtain ⟨z1, z2, z3, z4, z5, z6, z7, z8, z9, z10⟩ := bmay_zero h0
  have hw64 := sym_wide h0
  have hbr := (Below.refl w.heap.size w).alloc (Nat.le_refl _) (.cells #[.func (.func 60) #[] #[.pointer (some ⟨kb, 0, none⟩)], .int .i64 (most : Nat)] 61)
  have hsr : (w.alloc (.cells #[.func (.func 60) #[] #[.pointer (some ⟨kb, 0, none⟩)], .int .i64 (most : Nat)] 61)).heap.size = w.heap.size + 1 := by simp
  have hr0 : (w.alloc (.cells #[.func (.func 60) #[] #[.pointer (some ⟨kb, 0, none⟩)], .int .i64 (most : Nat)] 61)).cell? ⟨w.heap.size, 0, none⟩ = some (.func (.func 60) #[] #[.pointer (some ⟨kb, 0, none⟩)]) := cell_new w _ _ 0 _ rfl
  have hr1 : (w.alloc (.cells #[.func (.func 60) #[] #[.pointer (some ⟨kb, 0, none⟩)], .int .i64 (most : Nat)] 61)).cell? ⟨w.heap.size, 1, none⟩ = some (.int .i64 (most : Nat)) := cell_new w _ _ 1 _ rfl
  have hbox := BoxB.new b.toks b.look 25 (Nat.le_trans hB hbr.size) (r.below (hbr.mono hB))
  have hb2 := (Below.refl _ (w.alloc (.cells #[.func (.func 60) #[] #[.pointer (some ⟨kb, 0, none⟩)], .int .i64 (most : Nat)] 61))).alloc (Nat.le_refl _) (.cells #[.int .i64 b.toks, .int .i64 b.look, .slice oa b.of.length oc, .slice la b.l.length lc] 25)
  have hs2 : ((w.alloc (.cells #[.func (.func 60) #[] #[.pointer (some ⟨kb, 0, none⟩)], .int .i64 (most : Nat)] 61)).alloc (.cells #[.int .i64 b.toks, .int .i64 b.look, .slice oa b.of.length oc, .slice la b.l.length lc] 25)).heap.size = w.heap.size + 2 := by simp
  have hr02 := (hb2.cell (p := ⟨w.heap.size, 0, none⟩) (by rw [hsr]; exact Nat.lt_succ_self _)).trans hr0
  have hr12 := (hb2.cell (p := ⟨w.heap.size, 1, none⟩) (by rw [hsr]; exact Nat.lt_succ_self _)).trans hr1
  have hB2 := hbr.trans (hb2.mono hbr.size)
  have hk2 := (hB2.cell (p := ⟨kb, 0, none⟩) hkb).trans hc
  rw [hsr] at hbox
  have hL : LookOk b k most b.of.length := ⟨z6, z7, hk, hm, ⟨rfl, z1, z2⟩, z4⟩
  obtain ⟨ol, hol⟩ : ∃ ol, ol = b.of.length := ⟨_, rfl⟩
  obtain ⟨ll, hll⟩ : ∃ ll, ll = b.l.length := ⟨_, rfl⟩
  obtain ⟨tk, htk⟩ : ∃ tk, tk = b.toks := ⟨_, rfl⟩
  obtain ⟨lk, hlk⟩ : ∃ lk, lk = b.look := ⟨_, rfl⟩
  rw [← hol, ← hll, ← htk, ← hlk] at hbox hb2 hs2 hr02 hr12 hB2 hk2
  rw [← hol] at hL
  rw [← hol, ← hll, ← htk, ← hlk]
  obtain ⟨i0, hi, hz0, hz1, hz2⟩ := info_parts info_strs
  have ho500 : ol ≤ 500 := by omega
  have ho1' : 1 ≤ ol := by omega
  have hl2000 : ll ≤ 2000 := by omega
  have Hbox := Lib.hid hbox; have HB2 := Lib.hid hB2; have Hs2 := Lib.hid hs2; have Hr0 := Lib.hid hr02; have Hr1 := Lib.hid hr12; have Hk2 := Lib.hid hk2; have HL := Lib.hid hL; have Hol := Lib.hid hol; have Hll := Lib.hid hll; have Hw := Lib.hid hw64; have HBw := Lib.hid hB; have Hkb := Lib.hid hkb; have Hm := Lib.hid hm
  have Hz := Lib.hid (And.intro z3 (And.intro z4 (And.intro z5 (And.intro z6 (And.intro z1 z2)))))
  clear r hbr hsr hr0 hr1 hbox hb2 hs2 hr02 hr12 hB2 hk2 hL hol hll htk hlk hw64 hB hkb hm hc ho1 ho2 hl1 hl2 z1 z2 z3 z4 z5 z6 z7 z8 z9 z10 h0 hk
  go_enter Try.func35, Try.ntmps35
  go_upto_region 1 with fail
  generalize (w.alloc (.cells #[.func (.func 60) #[] #[.pointer (some ⟨kb, 0, none⟩)], .int .i64 (most : Nat)] 61)).alloc (.cells #[.int .i64 tk, .int .i64 lk, .slice oa ol oc, .slice la ll lc] 25) = w2 at *
  obtain ⟨c0, c1, c2, c3⟩ := Hbox.out.four
  go_upto_region 3 with (at_make; refine wpList_make_full _ rfl _ _ 27 rfl w2.heap.size 32 i0 (.slice none 0 0) 1 Try.underlying27 hi hz0 hz1 .i64 .i64 _ _ ol rfl rfl rfl rfl (by rw [hz2]; omega) (by unfold maxLen; omega) (Nat.le_refl _) ?_; intro wm hown hgrow; have Hown := Lib.hid hown; have Hgrow := Lib.hid hgrow; clear hown hgrow)
  have hbm : Below w2.heap.size w2 wm := (Below.refl w2.heap.size w2).grown Hgrow.out (Nat.le_refl _) (fun k e => by cases e)
  have hrowm : wm.ownsRow w2.heap.size 32 1 (.slice (some ⟨w2.heap.size, 0, none⟩) ol ol) ol (List.replicate ol (.slice none 0 0)) := by
    have e : (madeCells (Value.slice none 0 0).cells (ol * 1)).toList = List.replicate ol (.slice none 0 0) := by
      rw [Nat.mul_one]; show (madeCells #[Value.slice none 0 0] ol).toList = _
      rw [toList_madeCells_one]
    have := Hown.out; rw [e] at this; exact this
  have hgm : w2.heap.size < wm.heap.size := (hrowm.lt _ rfl).2
  have hb4 := (Below.refl wm.heap.size wm).alloc (Nat.le_refl _) (.cells #[.slice (some ⟨w2.heap.size, 0, none⟩) ol ol] 27)
  have hs4 : (wm.alloc (.cells #[.slice (some ⟨w2.heap.size, 0, none⟩) ol ol] 27)).heap.size = wm.heap.size + 1 := by simp
  have hb5 := (Below.refl _ (wm.alloc (.cells #[.slice (some ⟨w2.heap.size, 0, none⟩) ol ol] 27))).alloc (Nat.le_refl _) (.cells #[.int .i64 0] 28)
  have hs5 : ((wm.alloc (.cells #[.slice (some ⟨w2.heap.size, 0, none⟩) ol ol] 27)).alloc (.cells #[.int .i64 0] 28)).heap.size = wm.heap.size + 2 := by simp
  have hbm5 : Below wm.heap.size wm ((wm.alloc (.cells #[.slice (some ⟨w2.heap.size, 0, none⟩) ol ol] 27)).alloc (.cells #[.int .i64 0] 28)) := hb4.trans (hb5.mono hb4.size)
  have hb25 := hbm.trans (hbm5.mono hbm.size)
  have hG5 : GSt ((wm.alloc (.cells #[.slice (some ⟨w2.heap.size, 0, none⟩) ol ol] 27)).alloc (.cells #[.int .i64 0] 28)) b k most ol (wm.heap.size + 2) (w.heap.size + 1) wm.heap.size w.heap.size (wm.heap.size + 1) kb w2.heap.size B tk lk (.slice oa ol oc) (.slice la ll lc) (List.replicate ol (.slice none 0 0, [])) (fun _ => False) := by
    have e2 := Hs2.out
    have e3 := Hkb.out
    have e4 := HBw.out
    refine ⟨Hbox.out.keep hb25, (hb5.cell (p := ⟨wm.heap.size, 0, none⟩) (by rw [hs4]; exact Nat.lt_succ_self _)).trans (cell_new wm _ _ 0 _ rfl), (hb25.cell (p := ⟨w.heap.size, 0, none⟩) (by show w.heap.size < _; omega)).trans Hr0.out, (hb25.cell (p := ⟨w.heap.size, 1, none⟩) (by show w.heap.size < _; omega)).trans Hr1.out, ?_, (hb25.cell (p := ⟨kb, 0, none⟩) (by show kb < _; omega)).trans Hk2.out, ⟨by omega, by omega, by omega, by omega, by omega, by omega, by omega, by rw [hs5]; exact Nat.le_refl _⟩, ⟨by omega, by omega, by omega, by omega, by omega, by omega⟩, ?_, by simp, fun x hx => ?_, fun x hx q e => ?_⟩
    · have h1 : ((wm.alloc (.cells #[.slice (some ⟨w2.heap.size, 0, none⟩) ol ol] 27)).alloc (.cells #[.int .i64 0] 28)).heap[(wm.alloc (.cells #[.slice (some ⟨w2.heap.size, 0, none⟩) ol ol] 27)).heap.size]? = some (.cells #[.int .i64 0] 28 (0, 0)) := Array.getElem?_push_size
      rw [hs4] at h1; exact h1
    · have e : (List.replicate ol ((.slice none 0 0, []) : Value × List Tx)).map (·.1) = List.replicate ol (.slice none 0 0) := by simp
      rw [e]; exact owns_baseP (owns_belowP hrowm hbm5) (Nat.zero_le _)
    · rw [List.eq_of_mem_replicate hx]; exact World.ownsRow_nil _ _ _ _
    · rw [List.eq_of_mem_replicate hx] at e; cases e
  have HG5 := Lib.hid hG5
  have HB5 := Lib.hid (HB2.out.trans (hb25.mono HB2.out.size))
  obtain ⟨gm, hgm2⟩ : ∃ gm, gm = wm.heap.size := ⟨_, rfl⟩
  have Hgm := Lib.hid (show w2.heap.size < gm by omega)
  have Hs5 : Hid (((wm.alloc (.cells #[.slice (some ⟨w2.heap.size, 0, none⟩) ol ol] 27)).alloc (.cells #[.int .i64 0] 28)).heap.size = gm + 2) := Lib.hid (by rw [hs5, hgm2])
  rw [← hgm2] at HG5 ⊢
  clear hbm hrowm hgm hb4 hs4 hb5 hs5 hbm5 hb25 hG5 hgm2 hi hz0 hz1 hz2 Hown Hgrow c0 c1 c2 c3 Hbox Hr0 Hr1 Hk2
  generalize (wm.alloc (.cells #[.slice (some ⟨w2.heap.size, 0, none⟩) ol ol] 27)).alloc (.cells #[.int .i64 0] 28) = w5 at *
  have Hbx : Hid (∀ W, Below w5.heap.size w5 W → W.cell? ⟨w.heap.size + 1, 0, none⟩ = some (.int .i64 tk) ∧ W.cell? ⟨w.heap.size + 1, 1, none⟩ = some (.int .i64 lk) ∧ W.cell? ⟨w.heap.size + 1, 2, none⟩ = some (.slice oa ol oc) ∧ W.cell? ⟨w.heap.size + 1, 3, none⟩ = some (.slice la ll lc)) := Lib.hid fun W hW => (HG5.out.bx.keep hW).four
  refine wp_region_ord 6 [(0, true), (1, true), (2, true), (3, true), (5, true), (4, false), (6, false)] (fun w' => w'.cell? ⟨w.heap.size + 1, 0, none⟩ = some (.int .i64 tk) ∧ w'.cell? ⟨w.heap.size + 1, 1, none⟩ = some (.int .i64 lk) ∧ w'.cell? ⟨w.heap.size + 1, 2, none⟩ = some (.slice oa ol oc) ∧ w'.cell? ⟨w.heap.size + 1, 3, none⟩ = some (.slice la ll lc)) (by kernel_rfl) (by kernel_rfl) (Hbx.out _ (Below.refl _ w5).drew) ?_
  simp only [ordL, List.getElem?_toArray, List.getElem?_cons_succ, List.getElem?_cons_zero]
  iterate 5 (
    refine ordW_read (v := ?_) (by rfl) ?_ (fun _ _ _ h => h) ?_
    rotate_left
    focus (intro w' hS; obtain ⟨s0, s1, s2, s3⟩ := hS; go_simp; (try with_reducible rfl); done)
    try simp only [Act.put, List.setIfInBounds_toArray, List.set_cons_zero, List.set_cons_succ])
  refine ordW_do (by rfl) (fun K' HK => ?_)
  go_simp
  have hd := (Below.refl w5.heap.size w5).drew
  refine (asks_any b tk lk (.slice oa ol oc) (.slice la ll lc) B w5.drew HG5.out.bx.le (HG5.out.bx.r.below (hd.mono HG5.out.bx.le)) Hz.out.2.1 Hz.out.2.2.1 Hw.out).mono ?_
  rintro e w6 ⟨w1, cc, F, rfl, hbw1, hA, hSS, hCC⟩
  have hb56 : Below w5.heap.size w5 w6 := hd.trans ((hbw1.trans (hA.bel.mono hbw1.size)) : Below w5.heap.size w5.drew w6)
  have Hb56 := Lib.hid hb56
  have hg1 : w2.heap.size < w1.heap.size := by have h1 : w5.heap.size ≤ w1.heap.size := hbw1.size; have := Hs5.out; have := Hgm.out; omega
  have hG6 := (HG5.out.below hb56).lift (s1 := w6.heap.size) (by have := hb56.size; have := Hs5.out; omega) (Nat.le_refl _)
  have hL := look_grow b k most (askl F) Hz.out.2.2.2.1 (by have := HL.out.k1; omega) (by have := HL.out.n1; omega) (fun j x hx s hs ht => askl_mem (hCC j (List.getElem?_eq_some_iff.1 hx).1 x hx s hs ht))
  have e0 : (List.replicate ol ((.slice none 0 0, []) : Value × List Tx)).map (·.2) = List.replicate b.of.length [] := by rw [← Hol.out]; simp
  have hset := settle_grow b.l.length (lookG b k most) (muG most) (InvG b k most) (JG b k most ol w6.heap.size (w.heap.size + 1) gm w.heap.size (gm + 1) kb w2.heap.size B tk lk (.slice oa ol oc) (.slice la ll lc))
    (b.l.length + muG most (some (List.replicate b.of.length [])) * b.l.length) (some ⟨w.heap.size + 1, 0, none⟩) (some ⟨gm, 0, none⟩) (some ⟨w.heap.size, 0, none⟩) (some ⟨gm + 1, 0, none⟩) w1 w6 cc w2.heap.size F (some (List.replicate b.of.length [])) (fun _ => False)
    (fun W' => W'.cell? ⟨gm + 1, 0, none⟩ = some (.int .i64 15) ∧ (∃ S, Sound b k S ∧ Over b k most S) ∧ Below w.heap.size w W')
    ⟨Hz.out.1, by have := Hz.out.2.1; omega⟩ (Nat.le_refl _) (by
      have h1 := Hz.out.2.1
      have h2 := mu_le most (List.replicate b.of.length [])
      rw [List.length_replicate] at h2
      have h3 : b.of.length * most ≤ 500 * 600 := Nat.mul_le_mul (by have := HL.out.n1; omega) Hm.out
      have h4 : muG most (some (List.replicate b.of.length [])) * b.l.length ≤ 300001 * 2000 := Nat.mul_le_mul (by omega) h1
      omega) hA hg1 (fun k v l hF x hx => hSS k v l hF x hx) hL (inv_start b k most) ⟨_, e0.symm, hG6⟩ (fun _ h => h.elim)
    (fun W W' st P hJ hkp => by
      cases st with
      | none => exact hJ.elim
      | some S => obtain ⟨X, h1, h2⟩ := hJ; exact ⟨X, h1, h2.keep hkp⟩)
    (fun W st i P hi hI hJ hP hkb => by
      cases st with
      | none => exact hJ.elim
      | some S =>
        obtain ⟨X, rfl, hG⟩ := hJ
        refine (look_any b k most ol w6.heap.size (w.heap.size + 1) gm w.heap.size (gm + 1) kb w2.heap.size B tk lk (.slice oa ol oc) (.slice la ll lc) W X P i hi HL.out hI hG hP).mono ?_
        rintro e W' (h | ⟨x, he, hq1, hq2, hq3, hq4, hq5, hq6, hq7⟩)
        · exact .inl h
        · refine .inr ⟨x, he, hq1, hq2, ?_⟩
          have hb06 : Below w.heap.size w w6 := HB5.out.trans (hb56.mono HB5.out.size)
          have e2 := Hs2.out
          have e3 := Hgm.out
          have hs6 := hb06.size
          exact ⟨hq3.trans (hkb.os.trans hb06.os), hq4.trans (hkb.tape.trans hb06.tape), hq5.trans (hkb.output.trans hb06.output), Nat.le_trans (Nat.le_trans hs6 hkb.size) hq6, fun q hq => (hq7 q (by have := hkb.size; omega) (by omega) (by omega)).trans ((hkb.block q (by omega) (by omega)).trans (hb06.block q hq))⟩)
  rw [← Hll.out] at hset
  have Hset := Lib.hid hset
  refine HK.out _ _ (fun _ => Hbx.out w6 hb56) ?_
  clear HK K' hA hSS hCC hL hG6 hset hb56 hbw1 hd hg1 e0
  try simp only [Act.put, List.setIfInBounds_toArray, List.set_cons_zero, List.set_cons_succ]
  refine ordW_do (by rfl) (fun K' HK => ?_)
  go_simp
  refine (Hset.out).mono ?_
  rintro e w7 ⟨rfl, h7⟩
  refine HK.out _ _ (fun h => absurd rfl h) (ordW_nil ?_)
  clear HK K'
  rcases h7 with ⟨st, P, hI7, hJ7, hk7, hq7⟩ | ⟨hc7, hS7, hb7⟩
  · cases st with
    | none => exact hJ7.elim
    | some S =>
      obtain ⟨X, rfl, hG7⟩ := hJ7
      rw [Hll.out] at hq7
      obtain ⟨hcl, hno⟩ := quiet_grow hI7 Hz.out.2.2.2.1 hq7
      have hsx := hG7.sx
      have hex : w7.cell? ⟨gm + 1, 0, none⟩ = some (.int .i64 0) := by rw [cell_of_row w7 (gm + 1) _ _ _ (0, 0) hG7.ex]; rfl
      have hb07 : Below w.heap.size w w7 := HB5.out.trans ((Hb56.out.mono HB5.out.size).trans (hk7.below (by have := Hs2.out; omega) (by have := (HB5.out.trans (Hb56.out.mono HB5.out.size)).size; omega)))
      have HE : Hid (GrowP w b k most (.returned (.tuple #[.slice (some ⟨w2.heap.size, 0, none⟩) ol ol, .int .i64 0])) w7) := Lib.hid ⟨.inl ⟨w2.heap.size, _, by rw [Hol.out], hI7, hcl, hno, by rw [← Hol.out]; exact hG7.sets ho1'⟩, hb07⟩
      clear hI7 hG7 hk7 hq7 hcl hno hb07 Hset
      go_wp2_with fail
      go_ret2
      exact HE.out
  · have HE : Hid (GrowP w b k most (.returned (.tuple #[.slice none 0 0, .int .i64 15])) w7) := Lib.hid ⟨.inr ⟨rfl, hS7⟩, hb7⟩
    have Hd : Hid (∀ W', Below w7.heap.size w7 W' → GrowP w b k most (.returned (.tuple #[.slice none 0 0, .int .i64 15])) W') := Lib.hid fun W' hW' => ⟨.inr ⟨rfl, hS7⟩, hb7.trans (hW'.mono hb7.size)⟩
    clear hS7 hb7 Hset
    go_wp2_with fail
    go_region
    all_goals
      go_wp2_with fail
      go_ret2
      first | exact HE.out | exact Hd.out _ (Below.refl _ w7).drew
end Go.Proofs.Ytimgnbacgdmiiaa
