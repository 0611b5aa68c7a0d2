/-
  follow.Of: its walk.
-/
import Derived.Test.YtimgnbacgdmiiaaFolE
import Derived.Deep.DeepCutAuto
namespace Go.Proofs.Ytimgnbacgdmiiaa
open Go.RowKit PK Go.Maps Go.WideMaps
set_option linter.unusedVariables false
set_option linter.unusedSimpArgs false
attribute [local go_sem ↓] append_appM

theorem run_storeF {P : Program} (w : World) (a : Addr) (m : Mode) (f : Nat) (t : Array Value) (c : Array Value) : (store a (.func (.func f) t c) m).run P w = stored P w a (.func (.func f) t c) m := run_store P w a _ m rfl
attribute [local go_sem] run_storeF
set_option maxHeartbeats 8000000 in
set_option maxRecDepth 100000 in
theorem followOf_any (b : Bn) (tk lk : Int) (ov lv : Value) (B : Nat) (w : World) (etk : b.toks = tk) (elk : b.look = lk) (hB : B ≤ w.heap.size) (r : BR w B ov lv b) (hcnt : ∀ S, (stAll b.look S b.l).length ≤ 100000) :
    Calls Try.prog 22 #[.agg #[.int .i64 tk, .int .i64 lk, ov, lv]] w (FolP w b) := by
  obtain ⟨oa, oc, rfl, ho1, ho2⟩ := r.of.val
  obtain ⟨la, lc, rfl, hl1, hl2⟩ := r.l.val
  subst etk elk
  have hbox := BoxB.new b.toks b.look 25 hB r
  have hb1 := (Below.refl w.heap.size w).alloc (Nat.le_refl _) (.cells #[.int .i64 b.toks, .int .i64 b.look, .slice oa b.of.length oc, .slice la b.l.length lc] 25)
  have hs1 : (w.alloc (.cells #[.int .i64 b.toks, .int .i64 b.look, .slice oa b.of.length oc, .slice la b.l.length lc] 25)).heap.size = w.heap.size + 1 := by simp
  have hfi := firstOf_any b b.toks b.look (.slice oa b.of.length oc) (.slice la b.l.length lc) B _ rfl rfl hbox.le hbox.r
  obtain ⟨ol, hol⟩ : ∃ ol, ol = b.of.length := ⟨_, rfl⟩
  obtain ⟨ll, hll⟩ : ∃ ll, ll = b.l.length := ⟨_, rfl⟩
  obtain ⟨tk, htk⟩ : ∃ tk, tk = b.toks := ⟨_, rfl⟩
  obtain ⟨lk, hlk⟩ : ∃ lk, lk = b.look := ⟨_, rfl⟩
  rw [← hol, ← hll, ← htk, ← hlk] at hbox hb1 hs1 hfi
  rw [← hol, ← hll, ← htk, ← hlk]
  have Hbox := Lib.hid hbox; have Hb1 := Lib.hid hb1; have Hs1 := Lib.hid hs1; have Hfi := Lib.hid hfi; have Hol := Lib.hid hol; have Hll := Lib.hid hll; have Hlk := Lib.hid hlk; have Htk := Lib.hid htk; have Hcnt := Lib.hid hcnt
  clear r hbox hb1 hs1 hfi hol hll htk hlk ho1 ho2 hl1 hl2 hB hcnt
  go_enter Try.func22, Try.ntmps22
  go_upto_region 1 with fail
  generalize w.alloc (.cells #[.int .i64 tk, .int .i64 lk, .slice oa ol oc, .slice la ll lc] 25) = w1 at *
  obtain ⟨c0, c1, c2, c3⟩ := Hbox.out.four
  go_wp2_with fail
  refine (Hfi.out).mono ?_
  rintro e w2 ⟨hor, hb2⟩
  have HB2 := Lib.hid (Hb1.out.trans (hb2.mono Hb1.out.size))
  have Hbx2 := Lib.hid (Hbox.out.keep hb2)
  have Hlt2 : Hid (w.heap.size < w2.heap.size) := Lib.hid (by have := Hs1.out; have := hb2.size; omega)
  clear hb2 c0 c1 c2 c3 Hfi
  rcases hor with ⟨h0, rfl⟩ | ⟨h0, ⟨gB, S, rfl, hI, hC, hno, hSR⟩ | ⟨rfl, hov⟩⟩
  · have hx : ∃ x, x = bmay b ∧ (x == 0) = false := ⟨_, rfl, by rw [beq_eq_false_iff_ne]; exact h0⟩
    obtain ⟨x, hxe, hx0⟩ := hx
    have hxf : (x != 0) = true := by simp [bne, hx0]
    rw [← hxe]
    have Hd : Hid (∀ W', Below w2.heap.size w2 W' → FolP w b (.returned (.tuple #[.slice none 0 0, .int .i64 x])) W') := Lib.hid fun W' hW' => ⟨.inl ⟨h0, by rw [hxe]⟩, HB2.out.trans (hW'.mono HB2.out.size)⟩
    have Hal := Lib.hid ((Below.refl w2.heap.size w2).alloc (Nat.le_refl _) (.cells #[.int .i64 x] 28))
    clear h0 hxe
    go_wp2_with fail
    go_region
    all_goals
      go_wp2_with fail
      go_ret2
      exact Hd.out _ (by first | exact Hal.out | exact Hal.out.drew)
  · have hz := bmay_zero h0
    have HS0 := Lib.hid (And.intro h0 (And.intro hI (And.intro hC hno)))
    obtain ⟨w5, hw5, hs5, he5, hk5, hc5, hb5⟩ := alloc3 w2 (.int .i64 0) (.int .i64 lk) (.func (.func 60) #[] #[.pointer (some ⟨w2.heap.size + 1, 0, none⟩)]) 28 3 58
    have hst := stands_any b tk lk (.slice oa b.of.length oc) (.slice la b.l.length lc) B w5 gB b.of.length lk (w2.heap.size + 1) S Htk.out.symm Hlk.out.symm (Hbx2.out.keep hb5).le (by rw [← Hol.out, ← Hll.out]; exact (Hbx2.out.keep hb5).r) h0 (hSR.below hb5) (by rw [Hlk.out]; exact (fun a ha => ⟨hI.sound.set a ha, hI.le a ha, hI.few a ha⟩ : SOk b.look S)) (by rw [Hlk.out]; omega) hk5 (by omega)
    rw [← Hol.out, ← Hll.out] at hst
    rw [← Hol.out]
    have Hst := Lib.hid hst; have Hw5 := Lib.hid (And.intro hs5 (And.intro he5 (And.intro hk5 hc5))); have Hb5 := Lib.hid hb5
    have Hz := Lib.hid hz
    have c1 := (Hbx2.out.keep (show Below w2.heap.size w2 (w2.alloc (.cells #[.int .i64 0] 28)) from (Below.refl _ w2).alloc (Nat.le_refl _) _)).c1
    have Hc := Lib.hid (Hbx2.out.keep hb5).four
    clear h0 hI hC hno hSR hst hs5 he5 hk5 hc5 hb5 hz
    go_wp2_with fail
    refine (mkAhead_any lk _).mono ?_
    rintro e w4 ⟨rfl, hw4⟩
    have e4 : w4.heap.size = w2.heap.size + 2 := by rw [hw4]; simp
    have e5 : w4.alloc (.cells #[.func (.func 60) #[] #[.pointer (some ⟨w2.heap.size + 1, 0, none⟩)]] 58) = w5 := by rw [hw5, hw4]
    have He := Lib.hid (And.intro e4 e5)
    clear c1 e4 e5 hw4 hw5
    go_upto_region 5 with fail
    rw [He.out.2, He.out.1]
    obtain ⟨hs5, he5, hk5, hc5⟩ := Hw5.out
    obtain ⟨c0, c1, c2, c3⟩ := Hc.out
    clear He
    go_wp2_with fail
    refine (Hst.out).mono ?_
    rintro e w6 ⟨hor, hb6⟩
    have HB6 := Lib.hid (HB2.out.trans ((Hb5.out.trans (hb6.mono Hb5.out.size)).mono HB2.out.size))
    have Hb6 := Lib.hid hb6
    have Hs6 : Hid (w2.heap.size + 3 ≤ w6.heap.size) := Lib.hid (by have := hb6.size; omega)
    have HW6 : Hid (w6.heap[w2.heap.size]? = some (.cells #[.int .i64 0] 28 (0, 0)) ∧ w6.cell? ⟨w2.heap.size + 1, 0, none⟩ = some (.int .i64 lk) ∧ w6.cell? ⟨w2.heap.size + 2, 0, none⟩ = some (.func (.func 60) #[] #[.pointer (some ⟨w2.heap.size + 1, 0, none⟩)])) := Lib.hid ⟨(hb6.block _ (by omega)).trans he5, (hb6.cell (p := ⟨w2.heap.size + 1, 0, none⟩) (by show w2.heap.size + 1 < _; omega)).trans hk5, (hb6.cell (p := ⟨w2.heap.size + 2, 0, none⟩) (by show w2.heap.size + 2 < _; omega)).trans hc5⟩
    have HC6 : Hid (∀ W, Below w6.heap.size w6 W → W.cell? ⟨w.heap.size, 0, none⟩ = some (.int .i64 tk) ∧ W.cell? ⟨w.heap.size, 1, none⟩ = some (.int .i64 lk) ∧ W.cell? ⟨w.heap.size, 2, none⟩ = some (.slice oa ol oc) ∧ W.cell? ⟨w.heap.size, 3, none⟩ = some (.slice la ll lc)) := Lib.hid fun W hW => (Hbx2.out.keep (Hb5.out.trans ((hb6.trans (hW.mono hb6.size)).mono Hb5.out.size))).four
    clear hb6 hs5 he5 hk5 hc5 c0 c1 c2 c3 Hst Hw5 Hc
    rcases hor with ⟨hov, rfl⟩ | ⟨hno, la2, lc2, L, rfl, hT, hR, hL⟩
    · have Hd : Hid (∀ W', Below w6.heap.size w6 W' → FolP w b (.returned (.tuple #[.slice none 0 0, .int .i64 15])) W') := Lib.hid fun W' hW' => ⟨.inr ⟨HS0.out.1, .inr ⟨rfl, .inr ⟨S, HS0.out.2, .inl (by rw [← Hlk.out]; exact hov)⟩⟩⟩, HB6.out.trans (hW'.mono HB6.out.size)⟩
      have Hal := Lib.hid ((Below.refl w6.heap.size w6).alloc (Nat.le_refl _) (.cells #[.slice none 0 0] 69))
      clear hov
      go_wp2_with fail
      go_ret2
      exact Hd.out _ (by first | exact Hal.out | exact Hal.out.drew)
    · obtain ⟨i0, hi, hz0, hz1, hz2⟩ := info_parts info_strs
      have ho500 : ol ≤ 500 := by have := Hz.out.2.1; have := Hol.out; omega
      have ho1 : 1 ≤ ol := by have := Hz.out.1; have := Hol.out; omega
      have HT := Lib.hid hT; have HR := Lib.hid hR; have Hno := Lib.hid hno
      have hLn : L.length ≤ 100000 := by
        have h1 := Hcnt.out S
        rw [← Hlk.out, ← hT, List.length_map] at h1; exact h1
      obtain ⟨ln, hln⟩ : ∃ ln, ln = L.length := ⟨_, rfl⟩
      rw [← hln] at HR hLn ⊢
      have Hln := Lib.hid hln
      clear hT hR hno hL hln
      have hb7 := (Below.refl w6.heap.size w6).alloc (Nat.le_refl _) (.cells #[.slice la2 ln lc2] 69)
      have hs7 : (w6.alloc (.cells #[.slice la2 ln lc2] 69)).heap.size = w6.heap.size + 1 := by simp
      have hx7 := cell_new w6 #[.slice la2 ln lc2] 69 0 _ rfl
      obtain ⟨c0, c1, c2, c3⟩ := HC6.out _ hb7
      go_upto_region 8 with fail
      generalize w6.alloc (.cells #[.slice la2 ln lc2] 69) = w7 at *
      go_upto_region 9 with (at_make; refine wpList_make_full _ rfl _ _ 27 rfl w7.heap.size 32 i0 (.slice none 0 0) 1 Try.underlying27 hi hz0 hz1 .i64 .i64 _ _ ol rfl rfl rfl rfl (by rw [hz2]; omega) (by unfold maxLen; omega) (Nat.le_refl _) ?_; intro wm hown hgrow; have Hown := Lib.hid hown; have Hgrow := Lib.hid hgrow; clear hown hgrow)
      have hbm : Below w7.heap.size w7 wm := (Below.refl w7.heap.size w7).grown Hgrow.out (Nat.le_refl _) (fun k e => by cases e)
      have hrowm : wm.ownsRow w7.heap.size 32 1 (.slice (some ⟨w7.heap.size, 0, none⟩) ol ol) ol (List.replicate ol (.slice none 0 0)) := by
        have e : (madeCells (Value.slice none 0 0).cells (ol * 1)).toList = List.replicate ol (.slice none 0 0) := by
          rw [Nat.mul_one]; show (madeCells #[Value.slice none 0 0] ol).toList = _
          rw [toList_madeCells_one]
        have := Hown.out; rw [e] at this; exact this
      have hgm : w7.heap.size < wm.heap.size := (hrowm.lt _ rfl).2
      have hb9 := (Below.refl wm.heap.size wm).alloc (Nat.le_refl _) (.cells #[.slice (some ⟨w7.heap.size, 0, none⟩) ol ol] 27)
      have hs9 : (wm.alloc (.cells #[.slice (some ⟨w7.heap.size, 0, none⟩) ol ol] 27)).heap.size = wm.heap.size + 1 := by simp
      have hx9 := cell_new wm #[.slice (some ⟨w7.heap.size, 0, none⟩) ol ol] 27 0 _ rfl
      have hb69 : Below w6.heap.size w6 (wm.alloc (.cells #[.slice (some ⟨w7.heap.size, 0, none⟩) ol ol] 27)) := hb7.trans ((hbm.trans (hb9.mono hbm.size)).mono hb7.size)
      have hG9 : FSt (wm.alloc (.cells #[.slice (some ⟨w7.heap.size, 0, none⟩) ol ol] 27)) lk ol (wm.heap.size + 1) w6.heap.size wm.heap.size (w2.heap.size + 2) w2.heap.size (w2.heap.size + 1) w7.heap.size w5.heap.size (.slice la2 ln lc2) L (List.replicate ol (.slice none 0 0, [])) (fun _ => False) := by
        have e6 := Hs6.out
        obtain ⟨f0, f1, f2⟩ := HW6.out
        have hR := HR.out
        refine ⟨((hbm.trans (hb9.mono hbm.size)).cell (p := ⟨w6.heap.size, 0, none⟩) (by show w6.heap.size < _; omega)).trans hx7, hx9, (hb69.cell (p := ⟨w2.heap.size + 2, 0, none⟩) (by show w2.heap.size + 2 < _; omega)).trans f2, (hb69.block _ (by omega)).trans f0, (hb69.cell (p := ⟨w2.heap.size + 1, 0, none⟩) (by show w2.heap.size + 1 < _; omega)).trans f1, hR.below hb69, ⟨by omega, by omega, by omega, by omega, by omega, by omega, by rw [hs9]; exact Nat.le_refl _⟩, ⟨by omega, by omega, by omega, by omega, by omega⟩, ⟨fun q hq => ?_, fun x hx h0 q hq => ?_⟩, ?_, by rw [List.length_replicate], fun x hx => ?_, fun x hx q e => ?_⟩
        · have := hR.own.lt q hq; omega
        · have := ((hR.each x hx).2.2 h0 q hq).1; omega
        · have e : (List.replicate ol ((.slice none 0 0, []) : Value × List Tx)).map (·.1) = List.replicate ol (.slice none 0 0) := by simp
          rw [e]; exact owns_baseP (owns_belowP hrowm hb9) (Nat.zero_le _)
        · rw [List.eq_of_mem_replicate hx]; exact World.ownsRow_nil _ _ _ _
        · rw [List.eq_of_mem_replicate hx] at e; cases e
      have hB69 := HB6.out.trans (hb69.mono HB6.out.size)
      obtain ⟨gm, hgm2⟩ : ∃ gm, gm = wm.heap.size := ⟨_, rfl⟩
      have hgmlt : w6.heap.size + 1 < gm := by omega
      have hG9s : (wm.alloc (.cells #[.slice (some ⟨w7.heap.size, 0, none⟩) ol ol] 27)).heap.size = gm + 1 := by rw [hs9, hgm2]
      rw [← hgm2] at hG9 ⊢
      rw [hs7] at hG9 hG9s hB69 hb69
      have HG9 := Lib.hid hG9; have HB9 := Lib.hid hB69; have Hs9 := Lib.hid hG9s; have Hgm := Lib.hid hgmlt
      have HC9 : Hid (∀ W, Below (wm.alloc (.cells #[.slice (some ⟨w6.heap.size + 1, 0, none⟩) ol ol] 27)).heap.size (wm.alloc (.cells #[.slice (some ⟨w6.heap.size + 1, 0, none⟩) ol ol] 27)) W → W.cell? ⟨w.heap.size, 1, none⟩ = some (.int .i64 lk) ∧ W.cell? ⟨gm, 0, none⟩ = some (.slice (some ⟨w6.heap.size + 1, 0, none⟩) ol ol)) := Lib.hid fun W hW => ⟨(HC6.out W (hb69.trans (hW.mono hb69.size))).2.1, (hW.cell (p := ⟨gm, 0, none⟩) (by rw [hG9s]; exact Nat.lt_succ_self _)).trans hG9.sx⟩
      clear hbm hrowm hgm hb9 hs9 hx9 hb69 hG9 hB69 hgm2 hgmlt hG9s hi hz0 hz1 hz2 Hown Hgrow c0 c1 c2 c3 hx7 hb7 hs7
      generalize wm.alloc (.cells #[.slice (some ⟨w6.heap.size + 1, 0, none⟩) ol ol] 27) = w9 at *
      have hlk0 : 1 ≤ lk ∧ lk ≤ 4 := by have := Hz.out.2.2.2.2.2.2.2.2; have := Hlk.out; omega
      obtain ⟨k0, rfl⟩ : ∃ k0 : Nat, lk = (k0 : Int) := ⟨lk.toNat, by omega⟩
      have HL := Lib.hid hlk0
      have hol1 : (1 : Int) ≤ (ol : Int) := by omega
      have hol2 : (0 : Int) < (ol : Int) := by omega
      have hol3 : 0 < ol := by omega
      have hdr := (Below.refl w9.heap.size w9).drew
      have Hrep := Lib.hid (Try.strings_Repeat ⟨#[0]⟩ k0 w9.drew (by omega) (by show 1 * k0 ≤ _; omega))
      have HSd := Lib.hid (HC9.out _ hdr)
      have Hdr := Lib.hid hdr
      clear hlk0 hdr
      refine wp_region_ord 6 [(0, true), (1, true), (2, true), (3, false), (4, false), (5, true), (6, false)] (fun w' => w'.cell? ⟨w.heap.size, 1, none⟩ = some (.int .i64 (k0 : Int)) ∧ w'.cell? ⟨gm, 0, none⟩ = some (.slice (some ⟨w6.heap.size + 1, 0, none⟩) ol ol)) (by kernel_rfl) (by kernel_rfl) HSd.out ?_
      simp only [ordL, List.getElem?_toArray, List.getElem?_cons_succ, List.getElem?_cons_zero]
      iterate 3 (
        refine ordW_read (v := ?_) (by rfl) ?_ (fun _ _ _ h => h) ?_
        rotate_left
        focus (intro w' hS; obtain ⟨s0, s1⟩ := hS; go_simp; (try with_reducible rfl); done)
        try simp only [Act.put, List.setIfInBounds_toArray, List.set_cons_zero, List.set_cons_succ])
      refine ordW_do (by rfl) (fun K' HK2 => ?_)
      go_simp
      refine (Hrep.out).mono ?_
      rintro e w10 ⟨rfl, hb10⟩
      have hb90 : Below w9.heap.size w9 w10 := Hdr.out.trans hb10
      have Hb90 := Lib.hid hb90
      have HS10 := Lib.hid (HC9.out _ hb90)
      refine HK2.out _ _ (fun _ => HS10.out) ?_
      clear HK2 K' hb10 hb90 HSd Hrep Hdr
      have hzt : (⟨(Lib.repeatL (ByteArray.mk #[0]).data.toList k0).toArray⟩ : ByteArray) = ⟨(endT (k0 : Int)).toArray⟩ := by
        have : Lib.repeatL (ByteArray.mk #[0]).data.toList k0 = endT (k0 : Int) := by
          have h1 := Lib.repeatL_replicate (0 : UInt8) 1 k0
          rw [Nat.mul_one] at h1
          unfold endT; rw [Int.toNat_natCast]; exact h1
        rw [this]
      rw [hzt]
      clear hzt
      have hb11 := (Below.refl w10.heap.size w10).alloc (Nat.le_refl _) (.cells #[.string ⟨(endT (k0 : Int)).toArray⟩] 9)
      have hs11 : (w10.alloc (.cells #[.string ⟨(endT (k0 : Int)).toArray⟩] 9)).heap.size = w10.heap.size + 1 := by simp
      have Hb911 := Lib.hid (Hb90.out.trans (hb11.mono Hb90.out.size))
      have Hs11 := Lib.hid hs11
      have HS11 := Lib.hid (HC9.out _ Hb911.out)
      have Hown1 := Lib.hid (owns_oneT w10 (endT (k0 : Int)))
      clear hb11 hs11
      try simp only [Act.put, List.setIfInBounds_toArray, List.set_cons_zero, List.set_cons_succ]
      refine ordW_do (by rfl) (fun K' HK2 => ?_)
      go_simp
      refine HK2.out _ _ (fun _ => HS11.out) ?_
      clear HK2 K' HS10
      generalize hw11 : w10.alloc (.cells #[.string ⟨(endT (k0 : Int)).toArray⟩] 9) = w11 at *
      have hG11 := HG9.out.below (Hb911.out.mono (Nat.le_refl _))
      obtain ⟨a0, d0, hc0, hf0, hgl0, _⟩ := hG11.at_ 0 (by omega)
      have hp := hG11.put 0 (by omega) (.slice (some ⟨w10.heap.size, 0, none⟩) 1 1) [endT (k0 : Int)] w10.heap.size Hown1.out (by have := Hb90.out.size; have := Hgm.out; have := Hs9.out; omega)
      have Hput := Lib.hid hp
      clear hp hG11 hw11
      try simp only [Act.put, List.setIfInBounds_toArray, List.set_cons_zero, List.set_cons_succ]
      refine ordW_read (v := ?_) (by rfl) ?_ (fun _ _ _ h => h) ?_
      rotate_left
      focus (intro w' hS; obtain ⟨s0, s1⟩ := hS; go_simp; (try with_reducible rfl); done)
      try simp only [Act.put, List.setIfInBounds_toArray, List.set_cons_zero, List.set_cons_succ]
      refine ordW_do (by rfl) (fun K' HK2 => ?_)
      go_simp
      refine HK2.out _ _ (fun h => absurd rfl h) (ordW_nil ?_)
      clear HK2 K' HS11
      have hB12 : Below w.heap.size w (w11.setCell ⟨w6.heap.size + 1, 0, none⟩ (.slice (some ⟨w10.heap.size, 0, none⟩) 1 1)) := (HB9.out.trans (Hb911.out.mono HB9.out.size)).setCell (p := ⟨w6.heap.size + 1, 0, none⟩) (by have := HB6.out.size; show w.heap.size ≤ w6.heap.size + 1; omega) _
      have hsz12 : (w11.setCell ⟨w6.heap.size + 1, 0, none⟩ (.slice (some ⟨w10.heap.size, 0, none⟩) 1 1)).heap.size = w11.heap.size := by simp [World.setCell]
      have hG12 := Hput.out.lift (s1 := (w11.setCell ⟨w6.heap.size + 1, 0, none⟩ (.slice (some ⟨w10.heap.size, 0, none⟩) 1 1)).heap.size) (by rw [hsz12]; have := Hb911.out.size; have := Hs9.out; omega) (Nat.le_refl _) (fun q hq => by
        rw [hsz12]
        rcases hq with h1 | h1
        · exact h1.elim
        · have h2 : w10.heap.size = q := by have := Option.some.inj h1; exact this
          have := Hs11.out; omega)
      obtain ⟨X, hX⟩ : ∃ X, X = (List.replicate ol ((.slice none 0 0, []) : Value × List Tx)).set 0 (.slice (some ⟨w10.heap.size, 0, none⟩) 1 1, [endT (k0 : Int)]) := ⟨_, rfl⟩
      have hXm : X.map (·.2) = [endT (k0 : Int)] :: List.replicate (ol - 1) [] := by
        obtain ⟨o', rfl⟩ : ∃ o', ol = o' + 1 := ⟨ol - 1, by omega⟩
        rw [hX, List.replicate_succ, List.set_cons_zero, List.map_cons, List.map_replicate]; rfl
      rw [← hX] at hG12
      have HXm := Lib.hid hXm; have HG12 := Lib.hid hG12; have HB12 := Lib.hid hB12; have Hsz12 : Hid (w11.heap.size ≤ (w11.setCell ⟨w6.heap.size + 1, 0, none⟩ (.slice (some ⟨w10.heap.size, 0, none⟩) 1 1)).heap.size) := Lib.hid (by rw [hsz12]; exact Nat.le_refl _)
      clear hB12 hsz12 hG12 hX hXm Hput hc0 hf0 hgl0 Hown1 HG9 HC9
      generalize w11.setCell ⟨w6.heap.size + 1, 0, none⟩ (.slice (some ⟨w10.heap.size, 0, none⟩) 1 1) = w12 at *
      have HA0 := Lib.hid (AskI.made w12)
      have hmm := @run_makeMap Try.prog
      have hx13 := (HG12.out.below ((Below.refl w12.heap.size w12).alloc (Nat.le_refl _) (.map #[] 0))).lx
      have hln63 : ln ≤ 9223372036854775807 := by omega
      have HLn := Lib.hid hLn
      clear hLn
      go_wp2_with fail
      go_loopw [46] (fun iv wr => ∃ (i : Nat) (F : Int → Option (Value × List Int)) (cc : Nat), i ≤ ln ∧ iv = .int .i64 (i : Nat) ∧ Hid (cc ≤ i) ∧ Hid (AskI w12 wr cc F) ∧ Hid (AskN ln F) ∧ Hid (AskT (L.map Sd.tri) F i)) (fun iv _ => ln - (intOf iv).toNat)
      case atStart => exact ⟨0, _, 0, Nat.zero_le _, rfl, Lib.hid (Nat.zero_le _), HA0, Lib.hid (fun k v l h => by cases h), Lib.hid (fun p hp => by omega)⟩
      case round =>
        clear HA0 hx13
        obtain ⟨i, F, cc, hi, rfl, Hcc, HA, HN, HT2⟩ := hrel
        by_cases hlt : i < ln
        · have hG := HG12.out.below HA.out.bel
          have hiL : i < L.length := by have := Hln.out; omega
          obtain ⟨lb, va, vc, hla, hlb, e0, e1, e2, rb⟩ := (show SdR wr w5.heap.size (.slice la2 L.length lc2) L from Hln.out ▸ hG.sd).get i hiL
          subst hla
          have HtT : Hid ((L.map Sd.tri)[i]? = some L[i].tri) := Lib.hid (by rw [List.getElem?_map, List.getElem?_eq_getElem hiL]; rfl)
          have hin : In64 L[i].left := by
            have h1 := (stand_ok (b := b) (k := (k0 : Int)) (S := S) HL.out HS0.out.1 (by rw [Hlk.out]; exact (fun a ha => ⟨HS0.out.2.1.sound.set a ha, HS0.out.2.1.le a ha, HS0.out.2.1.few a ha⟩ : SOk b.look S)) Hno.out).ok L[i].tri (by rw [← HT.out]; exact List.mem_map.2 ⟨_, List.getElem_mem hiL, rfl⟩)
            have h2 : (0 ≤ L[i].left ∧ L[i].left < b.of.length) := h1.1
            have := Hz.out.2.1
            unfold In64; omega
          generalize L[i] = y at *
          obtain ⟨lf, n, bv, bb⟩ := y
          simp only at e0 e1 e2 hin
          obtain ⟨v, l, hr⟩ := hasRow F lf
          have Hr := Lib.hid hr; have Hin := Lib.hid hin
          obtain ⟨bl, hbl⟩ : ∃ bl, bl = bb.length := ⟨_, rfl⟩
          rw [← hbl] at e2
          have hb8 := (Below.refl wr.heap.size wr).alloc (Nat.le_refl _) (.cells #[.int .i64 lf, .int .i64 n, .slice va bl vc] 75)
          have hA8 := HA.out.keep hb8
          have Hlook : Hid (∀ W, Below (wr.alloc (.cells #[.int .i64 lf, .int .i64 n, .slice va bl vc] 75)).heap.size (wr.alloc (.cells #[.int .i64 lf, .int .i64 n, .slice va bl vc] 75)) W → (Instr.lookup 73 (.map (some w12.heap.size)) (.int .i64 lf) false).run Try.prog W = .ok v W) := Lib.hid fun W hW => (hA8.keep hW).look hin hr
          obtain ⟨hown, hlc⟩ := hA8.row hr
          obtain ⟨a9, c9, w9', w10', happ, hkept, hup, ha4⟩ := hA8.push (by have := Hcc.out; have := HLn.out; omega) hin hr (i : Int)
          have Hst9 := Lib.hid (hA8.still (by have := Hcc.out; have := HLn.out; omega) hin hr (i : Int) happ)
          have Hoff : Hid (v.ownBlock ≠ some wr.heap.size) := Lib.hid fun e => by have := ((HA.out.row hr).1.lt _ e).2; omega
          have Hkept := Lib.hid hkept
          have hx0 := cell_new wr #[.int .i64 lf, .int .i64 n, .slice va bl vc] 75 0 _ rfl
          have hsz8 : wr.heap.size < (wr.alloc (.cells #[.int .i64 lf, .int .i64 n, .slice va bl vc] 75)).heap.size := by simp
          obtain ⟨oa', oc', rfl, hv1, hv2⟩ := owns_valP hown
          unfold maxLen at hv2
          obtain ⟨lm, hlm⟩ : ∃ lm, lm = l.length := ⟨_, rfl⟩
          rw [← hlm] at Hlook happ hup hv1 hlc Hst9
          have HA4 := Lib.hid ha4
          have HN4 := Lib.hid (HN.out.push hr (.slice a9 (l.length + 1) c9) i hlt)
          have HT4 := Lib.hid (HT2.out.push HtT.out hr (.slice a9 (l.length + 1) c9))
          have Hc4 : Hid (cc + 1 ≤ i + 1) := Lib.hid (by have := Hcc.out; omega)
          have hi1 : (i : Int) < (ln : Int) := by omega
          have hi2 : (0 : Int) ≤ (i : Int) := by omega
          have Hlt := Lib.hid hlt
          have Hup := Lib.hid hup; have Happ := Lib.hid happ
          clear hG hiL rb hin hr hb8 hA8 hown hlc ha4 hbl hlt hlm hup happ hkept
          go_upto_region 14 with fail
          generalize hw8 : wr.alloc (.cells #[.int .i64 lf, .int .i64 n, .slice va bl vc] 75) = w8 at *
          clear e0 e1 e2 hw8
          have Hx := Lib.hid (show w8.drew.cell? ⟨wr.heap.size, 0, none⟩ = some (.int .i64 lf) from hx0)
          have Hsz8 := Lib.hid hsz8
          clear hx0
          refine wp_region_ord2 10 [(0, 0), (1, 0), (2, 0), (3, 0), (4, 0), (5, 0), (6, 0), (7, 0), (8, 1), (9, 1), (10, 2)] (fun w' : World => w'.cell? ⟨wr.heap.size, 0, none⟩ = some (.int .i64 lf) ∧ (Instr.lookup 73 (.map (some w12.heap.size)) (.int .i64 lf) false).run Try.prog w' = .ok (.slice oa' lm oc') w') (by kernel_rfl) (by kernel_rfl) ⟨Hx.out, Hlook.out _ (Below.refl _ w8).drew⟩ ?_
          simp only [ordL2, List.getElem?_toArray, List.getElem?_cons_succ, List.getElem?_cons_zero]
          iterate 8 (
            refine ordV_read (v := ?_) (by rfl) ?_ (fun _ _ _ h => h) ?_
            rotate_left
            focus (intro w' hS; obtain ⟨s0, s1⟩ := hS; go_simp; (try with_reducible rfl); done)
            try simp only [Act.put, List.setIfInBounds_toArray, List.set_cons_zero, List.set_cons_succ])
          refine ordV_do (by rfl) (fun K' HK5 => ?_)
          go_simp
          have hba : Below w8.heap.size w8 (w8.alloc (.cells #[.int .i64 (i : Int)] 3)).drew := ((Below.refl w8.heap.size w8).alloc (Nat.le_refl _) (.cells #[.int .i64 (i : Int)] 3)).drew
          refine HK5.out _ _ ⟨(hba.cell (p := ⟨wr.heap.size, 0, none⟩) Hsz8.out).trans Hx.out, Hlook.out _ hba⟩ ?_
          clear HK5 K' hba
          try simp only [Act.put, List.setIfInBounds_toArray, List.set_cons_zero, List.set_cons_succ]
          have happ := Happ.out
          refine ordV_do (by rfl) (fun K' HK5 => ?_)
          go_simp
          have hx9 := (cell_eq (p := ⟨wr.heap.size, 0, none⟩) (Hkept.out wr.heap.size Hsz8.out Hoff.out)).trans Hx.out
          refine HK5.out _ _ ⟨hx9, Hst9.out⟩ ?_
          clear HK5 K' hx9 happ
          have hup := Hup.out
          try simp only [Act.put, List.setIfInBounds_toArray, List.set_cons_zero, List.set_cons_succ]
          refine ordV_end (by rfl) (fun K' HK5 => ?_)
          go_simp
          refine HK5.out _ _ (ordV_nil ?_)
          clear HK5 K' hup Hup Happ Hst9 Hkept Hlook
          go_wp2_with fail
          go_roundw
          case rel => exact ⟨i + 1, _, cc + 1, Hlt.out, by go_num, Hc4, HA4, HN4, HT4⟩
          case measure => have := Hlt.out; simp [intOf]; omega
        · obtain rfl : i = ln := by omega
          have hx13 := (HG12.out.below HA.out.bel).lx
          have hTl : (L.map Sd.tri).length = i := by rw [List.length_map]; exact Hln.out.symm
          have hO : StandOk (L.map Sd.tri) (k0 : Int) (endT (k0 : Int)) ol := by
            have h1 := stand_ok (b := b) (k := (k0 : Int)) (S := S) HL.out HS0.out.1 (by rw [Hlk.out]; exact (fun a ha => ⟨HS0.out.2.1.sound.set a ha, HS0.out.2.1.le a ha, HS0.out.2.1.few a ha⟩ : SOk b.look S)) Hno.out
            rw [← HT.out, ← Hol.out] at h1; exact h1
          have hinv : InvF (L.map Sd.tri) (k0 : Int) 600 (endT (k0 : Int)) ol (X.map (·.2)) := by
            rw [HXm.out]; exact inv_startF _ _ _ _ _ ho1 (by rw [endT_len (by omega)]; exact Int.le_refl _) (by omega)
          have hGr := (HG12.out.below HA.out.bel).lift (s1 := wr.heap.size) HA.out.bel.size (Nat.le_refl _) (fun _ h => h.elim)
          have HBr := Lib.hid (HB12.out.trans (HA.out.bel.mono HB12.out.size))
          have hset : Calls Try.prog 46 #[.int .i64 (i : Nat), .map (some w12.heap.size), .func (.func 47) #[] #[.pointer (some ⟨w6.heap.size, 0, none⟩), .pointer (some ⟨gm, 0, none⟩), .pointer (some ⟨w2.heap.size + 2, 0, none⟩), .pointer (some ⟨w2.heap.size, 0, none⟩)]] wr fun e w' => e = .returned (.tuple #[]) ∧ ((∃ X', FSt w' (k0 : Int) ol wr.heap.size w6.heap.size gm (w2.heap.size + 2) w2.heap.size (w2.heap.size + 1) (w6.heap.size + 1) w5.heap.size (.slice la2 i lc2) L X' (fun q => q < w'.heap.size) ∧ InvF (L.map Sd.tri) (k0 : Int) 600 (endT (k0 : Int)) ol (X'.map (·.2)) ∧ ClosedF (L.map Sd.tri) (k0 : Int) (endT (k0 : Int)) (X'.map (·.2)) ∧ Below w.heap.size w w') ∨ (w'.cell? ⟨w2.heap.size, 0, none⟩ = some (.int .i64 15) ∧ (∃ F, SoundF (L.map Sd.tri) (k0 : Int) (endT (k0 : Int)) ol F ∧ OverF (L.map Sd.tri) (k0 : Int) 600 F) ∧ Below w.heap.size w w')) := by
            rcases Nat.eq_zero_or_pos i with h0 | h0
            · subst h0
              refine (settle_zero _ _ wr).mono ?_
              rintro e w' ⟨rfl, hb⟩
              have hG' := hGr.below hb
              refine ⟨rfl, .inl ⟨X, ?_, hinv, ?_, HBr.out.trans (hb.mono HBr.out.size)⟩⟩
              · exact ⟨hG'.lx, hG'.sx, hG'.cx, hG'.ex, hG'.kx, hG'.sd, hG'.lt, hG'.ne, hG'.lo, hG'.out, hG'.len, hG'.each, fun x hx q e => ⟨(hG'.ap x hx q e).1, .inl ((hG'.ap x hx q e).2.elim id False.elim)⟩⟩
              · refine ⟨hinv.zero, fun t ht => ?_⟩
                rw [List.length_eq_zero_iff.1 hTl] at ht; cases ht
            · have hL := look_follow (L.map Sd.tri) (k0 : Int) 600 (endT (k0 : Int)) ol (askl F) hO.ok (by omega) ho500 (fun j t ht => askl_mem (HT2.out j (by have := (List.getElem?_eq_some_iff.1 ht).1; omega) t ht))
              rw [hTl] at hL
              refine (settle_follow i (lookF (L.map Sd.tri) (k0 : Int) 600) (muG 600) (InvFG (L.map Sd.tri) (k0 : Int) 600 (endT (k0 : Int)) ol) (JF (k0 : Int) ol wr.heap.size w6.heap.size gm (w2.heap.size + 2) w2.heap.size (w2.heap.size + 1) (w6.heap.size + 1) w5.heap.size (.slice la2 i lc2) L)
                (i + muG 600 (some (X.map (·.2))) * i) (some ⟨w6.heap.size, 0, none⟩) (some ⟨gm, 0, none⟩) (some ⟨w2.heap.size + 2, 0, none⟩) (some ⟨w2.heap.size, 0, none⟩) w12 wr cc (w6.heap.size + 1) F (some (List.map (fun x : Value × List Tx => x.2) X)) (fun _ => False)
                (fun W' => W'.cell? ⟨w2.heap.size, 0, none⟩ = some (.int .i64 15) ∧ (∃ F, SoundF (L.map Sd.tri) (k0 : Int) (endT (k0 : Int)) ol F ∧ OverF (L.map Sd.tri) (k0 : Int) 600 F) ∧ Below w.heap.size w W')
                ⟨h0, HLn.out⟩ (Nat.le_refl _) (by
                  have h1 := HLn.out
                  have h2 := mu_le 600 (X.map (·.2))
                  have h3 : (X.map (·.2)).length * 600 ≤ 500 * 600 := Nat.mul_le_mul (by rw [hinv.sound.len]; exact ho500) (Nat.le_refl _)
                  have h4 : muG 600 (some (X.map (·.2))) * i ≤ 300001 * 100000 := Nat.mul_le_mul (by omega) h1
                  omega) HA.out (by have := HG12.out.lt; omega) HN.out hL (show InvFG (L.map Sd.tri) (k0 : Int) 600 (endT (k0 : Int)) ol (some (List.map (fun x : Value × List Tx => x.2) X)) from hinv) ⟨X, rfl, hGr⟩ (fun _ h => h.elim)
                (fun W W' st P hJ hkp => by
                  cases st with
                  | none => exact hJ.elim
                  | some S => obtain ⟨X, h1, h2⟩ := hJ; exact ⟨X, h1, h2.keep hkp⟩)
                (fun W st j P hj hI hJ hP hkb => by
                  cases st with
                  | none => exact hJ.elim
                  | some S =>
                    obtain ⟨X, rfl, hG⟩ := hJ
                    refine (lookF_any (L.map Sd.tri) (k0 : Int) (endT (k0 : Int)) ol wr.heap.size w6.heap.size gm (w2.heap.size + 2) w2.heap.size (w2.heap.size + 1) (w6.heap.size + 1) w5.heap.size la2 lc2 i L W X P j hj Hln.out (by have := HLn.out; omega) rfl hO hI hG hP).mono ?_
                    rintro e W' (h | ⟨x, he, hq1, hq2, hq3, hq4, hq5, hq6, hq7⟩)
                    · exact .inl h
                    · refine .inr ⟨x, he, hq1, hq2, ?_⟩
                      have hsr := HBr.out.size
                      have e2 := Hs6.out
                      have e3 := Hlt2.out
                      exact ⟨hq3.trans (hkb.os.trans HBr.out.os), hq4.trans (hkb.tape.trans HBr.out.tape), hq5.trans (hkb.output.trans HBr.out.output), Nat.le_trans (Nat.le_trans hsr hkb.size) hq6, fun q hq => (hq7 q (by have := hkb.size; omega) (by omega) (by omega)).trans ((hkb.block q (by omega) (by omega)).trans (HBr.out.block q hq))⟩)).mono ?_
              rintro e w' ⟨rfl, h7⟩
              refine ⟨rfl, ?_⟩
              rcases h7 with ⟨st, P, hI7, hJ7, hk7, hq7⟩ | h7
              · cases st with
                | none => exact hJ7.elim
                | some S7 =>
                  obtain ⟨X', rfl, hG'⟩ := hJ7
                  refine .inl ⟨X', ?_, hI7, quiet_follow hI7 hO.ok (by rw [hTl]; exact hq7), HBr.out.trans (hk7.below (by have := Hs6.out; have := Hlt2.out; omega) HBr.out.size)⟩
                  exact ⟨hG'.lx, hG'.sx, hG'.cx, hG'.ex, hG'.kx, hG'.sd, hG'.lt, hG'.ne, hG'.lo, hG'.out, hG'.len, hG'.each, fun x hx q e => ⟨(hG'.ap x hx q e).1, .inr ((hG'.each x hx).lt q e).2⟩⟩
              · exact .inr h7
          have Hset := Lib.hid hset
          clear hTl hO hinv hGr hset
          go_wp2_with fail
          refine (Hset.out).mono ?_
          rintro e w14 ⟨rfl, h7⟩
          clear Hset hx13
          rcases h7 with ⟨X', hG', hI', hC', hb'⟩ | ⟨hc', hS', hb'⟩
          · have hsx := hG'.sx
            have hex : w14.cell? ⟨w2.heap.size, 0, none⟩ = some (.int .i64 0) := by rw [cell_of_row w14 w2.heap.size _ _ _ (0, 0) hG'.ex]; rfl
            have HE : Hid (FolP w b (.returned (.tuple #[.slice (some ⟨w6.heap.size + 1, 0, none⟩) ol ol, .int .i64 0])) w14) := Lib.hid ⟨.inr ⟨HS0.out.1, .inl ⟨w6.heap.size + 1, _, S, by rw [Hol.out], HS0.out.2, by rw [← Hlk.out]; exact Hno.out, by rw [← Hlk.out, ← HT.out, ← Hol.out]; exact hI', by rw [← Hlk.out, ← HT.out]; exact hC', by rw [← Hol.out]; exact hG'.sets⟩⟩, hb'⟩
            clear hG' hI' hC' hb'
            go_wp2_with fail
            go_ret2
            exact HE.out
          · have Hd : Hid (∀ W', Below w14.heap.size w14 W' → FolP w b (.returned (.tuple #[.slice none 0 0, .int .i64 15])) W') := Lib.hid fun W' hW' => ⟨.inr ⟨HS0.out.1, .inr ⟨rfl, .inr ⟨S, HS0.out.2, .inr (by rw [← Hlk.out, ← HT.out, ← Hol.out]; exact hS')⟩⟩⟩, hb'.trans (hW'.mono hb'.size)⟩
            clear hS' hb'
            go_wp2_with fail
            go_region
            all_goals
              go_wp2_with fail
              go_ret2
              first | exact Hd.out _ (Below.refl _ w14) | exact Hd.out _ (Below.refl _ w14).drew
  · have Hd : Hid (∀ W', Below w2.heap.size w2 W' → FolP w b (.returned (.tuple #[.slice none 0 0, .int .i64 15])) W') := Lib.hid fun W' hW' => ⟨.inr ⟨h0, .inr ⟨rfl, .inl hov⟩⟩, HB2.out.trans (hW'.mono HB2.out.size)⟩
    have Hal := Lib.hid ((Below.refl w2.heap.size w2).alloc (Nat.le_refl _) (.cells #[.int .i64 15] 28))
    clear h0 hov
    go_wp2_with fail
    go_region
    all_goals
      go_wp2_with fail
      go_ret2
      exact Hd.out _ (by first | exact Hal.out | exact Hal.out.drew)
end Go.Proofs.Ytimgnbacgdmiiaa
