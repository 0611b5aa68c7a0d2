/-
  EmptyAgree.
-/
import Derived.Test.YtfmcigodfihlcaaEmpI
import Derived.BigQuiet
namespace Go.Proofs.Ytfmcigodfihlcaa
open Go.RowKit Go.Maps Go.WideMaps
set_option linter.unusedVariables false
set_option linter.unusedSimpArgs false

theorem DerC.pos {L : List Pr} {x m : Int} (h : DerC L x m) : 0 ≤ m := by
  induction h with
  | mk p v hp h1 h2 ih =>
    have : 0 ≤ ((List.range p.right.length).map v).sum := sum_nonneg _ fun y hy => by
      obtain ⟨k, hk, rfl⟩ := List.mem_map.1 hy
      have hk := List.mem_range.1 hk
      cases ht : p.right[k].tok with
      | true => rw [h1 k hk ht]; decide
      | false => exact ih k hk ht
    unfold cap; omega
theorem DerC.ends {L : List Pr} {x m : Int} (h : DerC L x m) : Der L true x := by
  induction h with
  | mk p v hp h1 h2 ih =>
    refine Der.mk p hp (fun _ _ _ => rfl) (fun s hs ht => ?_)
    obtain ⟨k, hk, rfl⟩ := List.getElem_of_mem hs
    exact ih k hk ht
theorem sum_zero (l : List Int) (h : ∀ x ∈ l, 0 ≤ x) (h0 : l.sum = 0) : ∀ x ∈ l, x = 0 := by
  induction l with
  | nil => intro x hx; cases hx
  | cons a r ih =>
    rw [List.sum_cons] at h0
    have h1 := h a List.mem_cons_self
    have h2 := sum_nonneg r fun x hx => h x (List.mem_cons_of_mem _ hx)
    intro x hx
    rcases List.mem_cons.1 hx with rfl | hx
    · omega
    · exact ih (fun y hy => h y (List.mem_cons_of_mem _ hy)) (by omega) x hx
theorem DerC.nothing {L : List Pr} {x m : Int} (h : DerC L x m) : m = 0 → Der L false x := by
  induction h with
  | mk p v hp h1 h2 ih =>
    intro hm
    have hn : ∀ y ∈ (List.range p.right.length).map v, 0 ≤ y := fun y hy => by
      obtain ⟨k, hk, rfl⟩ := List.mem_map.1 hy
      have hk := List.mem_range.1 hk
      cases ht : p.right[k].tok with
      | true => rw [h1 k hk ht]; decide
      | false => exact (h2 k hk ht).pos
    have hz := sum_zero _ hn (by have := sum_nonneg _ hn; unfold cap at hm; omega)
    refine Der.mk p hp (fun s hs ht => ?_) (fun s hs ht => ?_)
    · obtain ⟨k, hk, rfl⟩ := List.getElem_of_mem hs
      have := hz _ (List.mem_map.2 ⟨k, List.mem_range.2 hk, rfl⟩)
      rw [h1 k hk ht] at this; omega
    · obtain ⟨k, hk, rfl⟩ := List.getElem_of_mem hs
      exact ih k hk ht (hz _ (List.mem_map.2 ⟨k, List.mem_range.2 hk, rfl⟩))
theorem FixL.ends {b : Bn} {st : List Int} (h : FixL b st) : Fix b true (st.map fun v => decide (0 ≤ v)) := by
  refine ⟨by rw [List.length_map]; exact h.len, fun x hx => ?_, fun p hp hr => ?_⟩
  · rw [List.getElem?_map] at hx
    cases e : st[x]? with
    | none => rw [e] at hx; cases hx
    | some v =>
      rw [e] at hx; simp at hx
      exact (h.sound x v e hx).ends
  · have h0 : 0 ≤ lenS st p.right := (lenS_nonneg (by
      rw [List.all_eq_true]
      intro s hs
      unfold rowB at hr
      rw [List.all_eq_true] at hr
      have := hr s hs
      unfold goodB at this
      unfold valS
      cases ht : s.tok with
      | true => simp
      | false =>
        rw [ht] at this
        simp only [Bool.false_eq_true, if_false, List.getElem?_map] at this ⊢
        cases e : st[s.n.toNat]? with
        | none => rw [e] at this; simp at this
        | some v => rw [e] at this; simpa using this)).1
    obtain ⟨v, e, h1, _⟩ := h.closed p hp h0
    rw [List.getElem?_map, e]; simp [h1]
theorem FixL.nothing {b : Bn} {st : List Int} (h : FixL b st) : Fix b false (st.map fun v => decide (v = 0)) := by
  refine ⟨by rw [List.length_map]; exact h.len, fun x hx => ?_, fun p hp hr => ?_⟩
  · rw [List.getElem?_map] at hx
    cases e : st[x]? with
    | none => rw [e] at hx; cases hx
    | some v =>
      rw [e] at hx; simp at hx
      exact (h.sound x v e (by omega)).nothing hx
  · have hv : ∀ s ∈ p.right, valS st s = 0 := fun s hs => by
      unfold rowB at hr
      rw [List.all_eq_true] at hr
      have := hr s hs
      unfold goodB at this
      unfold valS
      cases ht : s.tok with
      | true => rw [ht] at this; simp at this
      | false =>
        rw [ht] at this
        simp only [Bool.false_eq_true, if_false, List.getElem?_map] at this ⊢
        cases e : st[s.n.toNat]? with
        | none => rw [e] at this; simp at this
        | some v => rw [e] at this; simpa using this
    have h0 := lenS_nonneg (st := st) (r := p.right) (by
      rw [List.all_eq_true]
      intro s hs
      rw [hv s hs]; rfl)
    have e0 : (p.right.map (valS st)).sum = 0 := by
      have : p.right.map (valS st) = p.right.map (fun _ => (0 : Int)) := List.map_congr_left hv
      rw [this]
      generalize p.right = r
      induction r with
      | nil => rfl
      | cons a r ih => rw [List.map_cons, List.sum_cons, ih]; rfl
    obtain ⟨v, e, h1, h2⟩ := h.closed p hp h0.1
    rw [h0.2, e0] at h2
    rw [List.getElem?_map, e]
    have : v = 0 := by unfold cap at h2; omega
    simp [this]
set_option maxHeartbeats 4000000 in
set_option maxRecDepth 100000 in
theorem emptyAgree_walk (b : Bn) (ov lv : Value) (w : World) (r : BR w w.heap.size ov lv b) :
    Calls Try.prog 5 #[.agg #[.int .i64 b.toks, .int .i64 b.look, ov, lv]] w (BoolB w true) := by
  have hb1 := agg_box w b.toks b.look ov lv 25
  have hr1 := r.below hb1
  have hp1 := box_new w #[.int .i64 b.toks, .int .i64 b.look, ov, lv] 25
  have hfw := fun W n => few10 b b.toks b.look ov lv n W rfl rfl
  obtain ⟨hlen1, hlen2⟩ := fewB_len 40 60 b
  have hsm : (fewB 40 60 b).of.length * (fewB 40 60 b).l.length ≤ 400000 := Nat.le_trans (Nat.mul_le_mul hlen1 hlen2) (by decide)
  obtain ⟨htk, hlk⟩ := fewB_toks 40 60 b
  generalize fewB 40 60 b = B at *
  generalize b.toks = tk at *
  generalize b.look = lk at *
  have hs1 : (w.alloc (.cells #[.int .i64 tk, .int .i64 lk, ov, lv] 25)).heap.size = w.heap.size + 1 := by simp
  have Hfw := Lib.hid hfw; have Hp1 := Lib.hid hp1; have Hb1 := Lib.hid hb1; have Hs1 := Lib.hid hs1; have Hsm := Lib.hid hsm; have Etk := Lib.hid htk; have Elk := Lib.hid hlk; have Hr1 := Lib.hid hr1
  have Hwk := Lib.hid works10_any
  clear hfw hp1 hb1 hs1 hsm hlen1 hlen2 htk hlk r hr1
  go_enter Try.func5, Try.ntmps5
  go_upto_region 1 with fail
  generalize w.alloc (.cells #[.int .i64 tk, .int .i64 lk, ov, lv] 25) = w0 at *
  go_wp2_with fail
  refine (Hwk.out _).mono ?_
  rintro e w1 ⟨rfl, b1⟩
  have hp1 : w1.heap[w.heap.size]? = some (.cells #[.int .i64 tk, .int .i64 lk, ov, lv] 25 (0, 0)) := by rw [b1.block _ (by have := Hs1.out; omega)]; exact Hp1.out
  have Hb1 := Lib.hid (Hb1.out.trans (b1.mono Hb1.out.size))
  have Hfew := Lib.hid (Hfw.out w1 w.heap.size Hb1.out.size (Hr1.out.below (b1.mono (by have := Hs1.out; omega))))
  obtain ⟨y0, y1, y2, y3, _, _, _, _, hlt0⟩ := four_cells hp1
  have Hp1 := Lib.hid hp1
  clear b1 hp1 Hfw Hr1
  go_wp2_with fail
  refine (Hfew.out).mono ?_
  rintro e w2 ⟨o, l, rfl, hbr, hb2⟩
  obtain ⟨oa, oc, rfl, _, _⟩ := (hbr w2 (fun _ _ => rfl) rfl).of.val
  obtain ⟨la, lc, rfl, _, _⟩ := (hbr w2 (fun _ _ => rfl) rfl).l.val
  have hp2 : w2.heap[w.heap.size]? = some (.cells #[.int .i64 tk, .int .i64 lk, ov, lv] 25 (0, 0)) := by rw [hb2.block _ hlt0]; exact Hp1.out
  have hbox := BoxB.put tk lk hp2 (show w.heap.size < w1.heap.size + 2 by omega) hbr
  have HB3 := Lib.hid (below_four (Hb1.out.trans (hb2.mono Hb1.out.size)) (Nat.le_refl w.heap.size) (.int .i64 tk) (.int .i64 lk) (.slice oa B.of.length oc) (.slice la B.l.length lc))
  obtain ⟨x0, x1, x2, x3, f0, f1, f2, f3, hlt2⟩ := four_cells hp2
  have Hbox := Lib.hid hbox
  obtain ⟨ol, hol⟩ : ∃ ol, ol = B.of.length := ⟨_, rfl⟩
  obtain ⟨ll, hll⟩ : ∃ ll, ll = B.l.length := ⟨_, rfl⟩
  rw [← hol, ← hll] at HB3 Hbox ⊢
  have Hol := Lib.hid hol
  clear y0 y1 y2 y3 hlt0 hp2 hbr hb2 hbox Hfew hol hll
  go_upto_region 4 with fail
  generalize (((w2.setCell ⟨w.heap.size, 0, none⟩ (.int .i64 tk)).setCell ⟨w.heap.size, 1, none⟩ (.int .i64 lk)).setCell ⟨w.heap.size, 2, none⟩ (.slice oa ol oc)).setCell ⟨w.heap.size, 3, none⟩ (.slice la ll lc) = w3 at *
  clear x0 x1 x2 x3 f0 f1 f2 f3 hlt2
  obtain ⟨c0, c1, c2, c3⟩ := Hbox.out.four
  have Hl := Lib.hid (nothing10 B tk lk (.slice oa ol oc) (.slice la ll lc) w2.heap.size w3 Etk.out Elk.out Hbox.out.le Hbox.out.r)
  by_cases h0 : bmay B = 0
  · have H0 := Lib.hid h0
    clear h0
    go_wp2_with fail
    refine (Hl.out).mono ?_
    intro e w6 hp
    obtain ⟨a6, d6, st6, rfl, hF6, hR6, hb6⟩ := hp.at0 H0.out
    have HF6 := Lib.hid hF6; have HR6 := Lib.hid hR6
    have HBx6 := Lib.hid (Hbox.out.keep hb6)
    have HB6 := Lib.hid (HB3.out.trans (hb6.mono HB3.out.size))
    have hn6 : st6.length = ol := by rw [hF6.len]; exact Hol.out.symm
    have Hn6 := Lib.hid hn6
    rw [hn6] at HR6 ⊢
    clear hp hF6 hR6 hb6 Hl Hbox HB3 c0 c1 c2 c3 hn6
    obtain ⟨c0, c1, c2, c3⟩ := HBx6.out.four
    have Hl := Lib.hid (ends10 B tk lk (.slice oa ol oc) (.slice la ll lc) w2.heap.size w6 Etk.out Elk.out HBx6.out.le HBx6.out.r)
    go_wp2_with fail
    refine (Hl.out).mono ?_
    intro e w7 hp
    obtain ⟨a7, d7, st7, rfl, hF7, hR7, hb7⟩ := hp.at0 H0.out
    have HF7 := Lib.hid hF7; have HR7 := Lib.hid hR7
    have HBx7 := Lib.hid (HBx6.out.keep hb7)
    have HB7 := Lib.hid (HB6.out.trans (hb7.mono HB6.out.size))
    have HR67 := Lib.hid (HR6.out.below hb7)
    have Hz67 := Lib.hid hb7.size
    have hn7 : st7.length = ol := by rw [hF7.len]; exact Hol.out.symm
    have Hn7 := Lib.hid hn7
    rw [hn7] at HR7 ⊢
    clear hp hF7 hR7 hb7 Hl HBx6 HB6 HR6 c0 c1 c2 c3 hn7
    obtain ⟨c0, c1, c2, c3⟩ := HBx7.out.four
    have Hl := Lib.hid (least10 B tk lk (.slice oa ol oc) (.slice la ll lc) w2.heap.size w7 Etk.out Elk.out HBx7.out.le HBx7.out.r Hsm.out)
    go_wp2_with fail
    refine (Hl.out).mono ?_
    intro e w8 hp
    rcases hp.at with ⟨hne, _⟩ | ⟨_, a8, d8, st8, rfl, hF8, hR8, hb8⟩
    · exact absurd H0.out hne
    have HBx8 := Lib.hid (HBx7.out.keep hb8)
    have HB8 := Lib.hid (HB7.out.trans (hb8.mono HB7.out.size))
    have hn8 : st8.length = ol := by rw [hF8.len]; exact Hol.out.symm
    have e6 := (bmay_zero H0.out).2.2.2.2.2.1
    have e6 := HF6.out.uniq (bmay_zero H0.out).2.2.2.2.2.1 hF8.nothing
    have e7 := HF7.out.uniq (bmay_zero H0.out).2.2.2.2.2.1 hF8.ends
    subst e6 e7
    have Hz6 := Lib.hid (Nat.le_trans Hz67.out hb8.size)
    have Hz7 := Lib.hid hb8.size
    have HR6 := Lib.hid (HR67.out.below (hb8.mono Hz67.out))
    have HR7 := Lib.hid (HR7.out.below hb8)
    have HR8 := Lib.hid hR8
    have Hn8 := Lib.hid hn8
    rw [hn8] at HR8 ⊢
    clear hp hF8 hR8 hb8 Hl HBx7 HB7 c0 c1 c2 c3 hn8 HF6 HF7 Hn6 Hn7 Hz67 HR67
    go_wp2_with fail
    go_loopw [9] (fun iv wr => ∃ k : Nat, k ≤ ol ∧ iv = .int .i64 (k : Nat) ∧ Hid (Below w8.heap.size w8 wr)) (fun iv _ => ol - (intOf iv).toNat)
    case atStart => exact ⟨0, Nat.zero_le _, rfl, Lib.hid (Below.refl _ _)⟩
    case round =>
      obtain ⟨k, hk, rfl, Hb⟩ := hrel
      by_cases hlt : k < ol
      · have hlt' : k < st8.length := by have := Hn8.out; omega
        have r6 := HR6.out.below (Hb.out.mono Hz6.out)
        have r7 := HR7.out.below (Hb.out.mono Hz7.out)
        have r8 := HR8.out.below Hb.out
        obtain ⟨b1, o1, rfl, _, _⟩ := r6.at (by rw [bools_length, List.length_map]; omega)
        obtain ⟨b2, o2, rfl, _, _⟩ := r7.at (by rw [bools_length, List.length_map]; omega)
        obtain ⟨b3, o3, rfl, _, _⟩ := r8.at (by rw [ints_length]; omega)
        have c6 := r6.cell k _ (bools_at _ k (by rw [List.length_map]; exact hlt'))
        have c7 := r7.cell k _ (bools_at _ k (by rw [List.length_map]; exact hlt'))
        have c8 := r8.cell k _ (ints_at _ k hlt')
        simp only [List.getElem_map] at c6 c7
        have hk1 : (k : Int) < (ol : Int) := by omega
        have hk2 : (0 : Int) ≤ (k : Int) := by omega
        have HBn := Lib.hid (fun n => Hb.out.trans ((below_drewsP wr n).mono Hb.out.size))
        have Hlt := Lib.hid hlt
        have hk3 : (k : Int) ≤ 1000 := by have := (bmay_zero H0.out).2.1; have := Hol.out; omega
        generalize st8[k] = z at *
        clear r6 r7 r8 hlt' hlt hk
        rcases Int.lt_trichotomy z 0 with hz | hz | hz
        · rw [decide_eq_false (show ¬ z = 0 by omega)] at c6
          rw [decide_eq_false (show ¬ 0 ≤ z by omega)] at c7
          have q1 : (z == 0) = false := by rw [beq_eq_false_iff_ne]; omega
          have q2 : decide (0 ≤ z) = false := decide_eq_false (by omega)
          clear hz
          go_upto_region 12 with fail
          refine wp_region_quiet_lit (by kernel_rfl) (by kernel_rfl) ?_
          repeat (first | go_big_quiet_step (fail) | quiet_step (fail))
          refine wpQuiet_nil ?_
          intro _ hw'; obtain ⟨nq, hw''⟩ := hw'; subst hw''
          go_wp2_with fail
          go_roundw
          case rel => exact ⟨k + 1, Hlt.out, by go_num, Lib.hid (HBn.out nq)⟩
          case measure => have := Hlt.out; simp [intOf]; omega
        · subst hz
          simp only [decide_true] at c6 c7
          rw [decide_eq_true (show (0 : Int) ≤ 0 by decide)] at c7
          go_upto_region 12 with fail
          refine wp_region_quiet_lit (by kernel_rfl) (by kernel_rfl) ?_
          repeat (first | go_big_quiet_step (fail) | quiet_step (fail))
          refine wpQuiet_nil ?_
          intro _ hw'; obtain ⟨nq, hw''⟩ := hw'; subst hw''
          go_wp2_with fail
          go_roundw
          case rel => exact ⟨k + 1, Hlt.out, by go_num, Lib.hid (HBn.out nq)⟩
          case measure => have := Hlt.out; simp [intOf]; omega
        · rw [decide_eq_false (show ¬ z = 0 by omega)] at c6
          rw [decide_eq_true (show 0 ≤ z by omega)] at c7
          have q1 : (z == 0) = false := by rw [beq_eq_false_iff_ne]; omega
          have q2 : decide (0 ≤ z) = true := decide_eq_true (by omega)
          clear hz
          go_upto_region 12 with fail
          refine wp_region_quiet_lit (by kernel_rfl) (by kernel_rfl) ?_
          repeat (first | go_big_quiet_step (fail) | quiet_step (fail))
          refine wpQuiet_nil ?_
          intro _ hw'; obtain ⟨nq, hw''⟩ := hw'; subst hw''
          go_wp2_with fail
          go_roundw
          case rel => exact ⟨k + 1, Hlt.out, by go_num, Lib.hid (HBn.out nq)⟩
          case measure => have := Hlt.out; simp [intOf]; omega
      · obtain rfl : k = ol := by omega
        obtain ⟨c0, c1, c2, c3⟩ := (HBx8.out.keep Hb.out).four
        clear hlt hk
        go_wp2_with fail
        go_ret
        exact ⟨rfl, HB8.out.trans (Hb.out.mono HB8.out.size)⟩
  · have H0 := Lib.hid h0
    have hq : (bmay B == 0) = false := by rw [beq_eq_false_iff_ne]; exact h0
    obtain ⟨m, hm⟩ : ∃ m, m = bmay B := ⟨_, rfl⟩
    rw [← hm] at hq
    have Hm := Lib.hid hm
    have hq2 : (m != 0) = true := by unfold bne; rw [hq]; rfl
    clear h0 hm
    go_wp2_with fail
    refine (Hl.out).mono ?_
    intro e w6 hp
    obtain ⟨rfl, hb6⟩ := hp.atN H0.out
    rw [← Hm.out]
    have HBx6 := Lib.hid (Hbox.out.keep hb6)
    have HB6 := Lib.hid (HB3.out.trans (hb6.mono HB3.out.size))
    clear hp hb6 Hl Hbox HB3 c0 c1 c2 c3
    obtain ⟨c0, c1, c2, c3⟩ := HBx6.out.four
    have Hl := Lib.hid (ends10 B tk lk (.slice oa ol oc) (.slice la ll lc) w2.heap.size w6 Etk.out Elk.out HBx6.out.le HBx6.out.r)
    go_wp2_with fail
    refine (Hl.out).mono ?_
    intro e w7 hp
    obtain ⟨rfl, hb7⟩ := hp.atN H0.out
    rw [← Hm.out]
    have HBx7 := Lib.hid (HBx6.out.keep hb7)
    have HB7 := Lib.hid (HB6.out.trans (hb7.mono HB6.out.size))
    clear hp hb7 Hl HBx6 HB6 c0 c1 c2 c3
    obtain ⟨c0, c1, c2, c3⟩ := HBx7.out.four
    have Hl := Lib.hid (least10 B tk lk (.slice oa ol oc) (.slice la ll lc) w2.heap.size w7 Etk.out Elk.out HBx7.out.le HBx7.out.r Hsm.out)
    go_wp2_with fail
    refine (Hl.out).mono ?_
    intro e w8 hp
    rcases hp.at with ⟨_, rfl, hb8⟩ | ⟨h0, _⟩
    rotate_left
    · exact absurd h0 H0.out
    rw [← Hm.out]
    have HB8 := Lib.hid (HB7.out.trans (hb8.mono HB7.out.size))
    clear hp hb8 Hl HBx7 HB7 c0 c1 c2 c3
    go_wp2_with fail
    go_ret
    exact ⟨rfl, HB8.out⟩
set_option maxRecDepth 100000 in
theorem emptyAgree_law {H : Type} {base : Nat} (enc : TypeId × Value → H) (W : World)
    (v0 : Value) (d0 : DataW H) (p0 : List MemPlace) (k0 : Value.okWide Try.prog W .any base 25 v0) (h0 : DataW.Trod enc Try.prog W 0 (fun _ => true) true 25 v0 d0 p0) :
    Calls Try.prog 5 #[v0] W fun e w' => e = .returned (.bool true) ∧ Below W.heap.size W w' := by
  obtain ⟨b, o, l, rfl, r, _⟩ := bnfOf k0 h0
  exact emptyAgree_walk b o l W r
end Go.Proofs.Ytfmcigodfihlcaa
