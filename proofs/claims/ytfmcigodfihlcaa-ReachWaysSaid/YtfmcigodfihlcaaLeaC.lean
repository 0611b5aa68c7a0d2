/-
  empty.Least.
-/
import Derived.Test.YtfmcigodfihlcaaLeaB
import Derived.Test.YtfmcigodfihlcaaEmpC
namespace Go.Proofs.Ytfmcigodfihlcaa
open Go.RowKit Go.Maps Go.WideMaps
set_option linter.unusedVariables false
set_option linter.unusedSimpArgs false

theorem start_setG {α : Type} (x y : α) (i n : Nat) (h : i < n) : (List.replicate i x ++ List.replicate (n - i) y).set i x = List.replicate (i + 1) x ++ List.replicate (n - (i + 1)) y := by
  apply List.ext_getElem?
  intro j
  rw [List.getElem?_set]
  simp only [List.getElem?_append, List.length_replicate, List.getElem?_replicate, List.length_append]
  by_cases e : i = j
  · subst e; simp; omega
  · by_cases h1 : j < i
    · simp [e, h1, show j < i + 1 by omega]
    · simp [e, h1, show ¬ j < i + 1 by omega]
      by_cases h2 : j - i < n - i
      · simp [h2, show j - (i + 1) < n - (i + 1) by omega]
      · simp [h2, show ¬ j - (i + 1) < n - (i + 1) by omega]
theorem muL_none (n : Nat) : muL (List.replicate n (-1)) = n * 1000001 := by
  unfold muL
  rw [List.map_replicate]
  simp [wei]
theorem linv_none (b : Bn) (n : Nat) (h : n = b.of.length) : LInv b (List.replicate n (-1)) :=
  ⟨by rw [List.length_replicate]; exact h, fun x hx => by rw [(List.mem_replicate.1 hx).2]; unfold cap; omega, fun x v hx hv => by
    rw [List.getElem?_replicate] at hx
    split at hx
    · cases hx; omega
    · cases hx⟩
/-- What empty.Least answers. -/
def LeastP (w : World) (b : Bn) (e : Ending) (w' : World) : Prop :=
  ((bmay b ≠ 0 ∧ e = .returned (.tuple #[.slice none 0 0, .int .i64 (bmay b)])) ∨ (bmay b = 0 ∧ ∃ v st, e = .returned (.tuple #[v, .int .i64 0]) ∧ FixL b st ∧ w'.ownsRow w.heap.size 3 1 v st.length (ints st))) ∧ Below w.heap.size w w'

set_option maxHeartbeats 4000000 in
set_option maxRecDepth 100000 in
theorem least_any (b : Bn) (ov lv : Value) (B : Nat) (w : World) (hB : B ≤ w.heap.size) (r : BR w B ov lv b) (hsm : b.of.length * b.l.length ≤ 400000) :
    Calls Try.prog 20 #[.agg #[.int .i64 b.toks, .int .i64 b.look, ov, lv]] w (LeastP w b) := by
  obtain ⟨oa, oc, rfl, ho1, ho2⟩ := r.of.val
  obtain ⟨la, lc, rfl, hl1, hl2⟩ := r.l.val
  have hbox := BoxB.new b.toks b.look 25 hB r
  have hb1 := (Below.refl w.heap.size w).alloc (Nat.le_refl _) (.cells #[.int .i64 b.toks, .int .i64 b.look, .slice oa b.of.length oc, .slice la b.l.length lc] 25)
  have hs2 : (w.alloc (.cells #[.int .i64 b.toks, .int .i64 b.look, .slice oa b.of.length oc, .slice la b.l.length lc] 25)).heap.size = w.heap.size + 1 := by simp
  have hmay := bnfMay_any b (.slice oa b.of.length oc) (.slice la b.l.length lc) B _ hbox.le hbox.r
  obtain ⟨ol, hol⟩ : ∃ ol, ol = b.of.length := ⟨_, rfl⟩
  obtain ⟨ll, hll⟩ : ∃ ll, ll = b.l.length := ⟨_, rfl⟩
  obtain ⟨tk, htk⟩ : ∃ tk, tk = b.toks := ⟨_, rfl⟩
  obtain ⟨lk, hlk⟩ : ∃ lk, lk = b.look := ⟨_, rfl⟩
  rw [← hol, ← hll, ← htk, ← hlk] at hbox hb1 hs2 hmay ⊢
  rw [← hol, ← hll] at hsm
  obtain ⟨i0, hi, hz0, hz1, hz2⟩ := info_parts info_intT
  have Hbox := Lib.hid hbox; have Hbel := Lib.hid hb1; have Hs2 := Lib.hid hs2; have Hmay := Lib.hid hmay; have Hol := Lib.hid hol; have Hll := Lib.hid hll; have HB := Lib.hid hB; have Hsm := Lib.hid hsm
  clear r hbox hb1 hs2 hmay hol hll htk hlk ho1 ho2 hl1 hl2 hB hsm
  go_enter Try.func20, Try.ntmps20
  go_upto_region 1 with fail
  generalize w.alloc (.cells #[.int .i64 tk, .int .i64 lk, .slice oa ol oc, .slice la ll lc] 25) = w2 at *
  obtain ⟨c0, c1, c2, c3, _, _, _⟩ := Hbox.out
  go_wp2_with fail
  refine (Hmay.out).mono ?_
  rintro e w3 ⟨rfl, b3⟩
  have Hb3 := Lib.hid b3
  have Hbox3 := Lib.hid (Hbox.out.keep b3)
  have HB3 := Lib.hid (Hbel.out.trans (b3.mono Hbel.out.size))
  clear b3 c0 c1 c2 c3 Hmay
  by_cases hE : bmay b = 0
  · obtain ⟨z1, z2, z3, z4, z5, z6, z7, z8, z9, z10⟩ := bmay_zero hE
    have Hw := Lib.hid (sym_wide hE)
    have HE := Lib.hid hE
    rw [hE]
    obtain ⟨c0, c1, c2, c3, _, _, _⟩ := Hbox3.out
    have ho500 : ol ≤ 500 := by have := Hol.out; omega
    have hl2000 : ll ≤ 2000 := by have := Hll.out; omega
    have Hz := Lib.hid (And.intro z1 (And.intro z2 (And.intro z3 (And.intro z4 (And.intro z5 z6)))))
    clear z1 z2 z3 z4 z5 z6 z7 z8 z9 z10 hE
    go_wp2_with (at_make; refine wpList_make_full _ rfl _ _ 22 rfl w3.heap.size 3 i0 (.int .i64 0) 1 Try.underlying22 hi hz0 hz1 .i64 .i64 _ _ ol rfl rfl rfl rfl (by rw [hz2]; omega) (by unfold maxLen; omega) (Nat.le_refl _) ?_; intro wm hown hgrow; have Hown := Lib.hid hown; have Hgrow := Lib.hid hgrow; clear hown hgrow)
    have hbm : Below w3.heap.size w3 wm := (Below.refl w3.heap.size w3).grown Hgrow.out (Nat.le_refl _) (fun k e => by cases e)
    have hrowm : wm.ownsRow w3.heap.size 3 1 (.slice (some ⟨w3.heap.size, 0, none⟩) ol ol) ol (ints (List.replicate 0 (-1) ++ List.replicate (ol - 0) 0)) := by
      have e : (madeCells (Value.int .i64 0).cells (ol * 1)).toList = ints (List.replicate ol 0) := by
        rw [Nat.mul_one]; show (madeCells #[Value.int .i64 0] ol).toList = _
        rw [toList_madeCells_one]; simp [ints]
      have := Hown.out; rw [e] at this; simpa using this
    have hgm : w3.heap.size < wm.heap.size := (hrowm.lt w3.heap.size rfl).2
    have hb5 := (Below.refl wm.heap.size wm).alloc (Nat.le_refl _) (.cells #[.slice (some ⟨w3.heap.size, 0, none⟩) ol ol] 22)
    have hw3 : w.heap.size + 1 ≤ w3.heap.size := by have := Hs2.out; have := Hb3.out.size; omega
    have hjm : JL (wm.alloc (.cells #[.slice (some ⟨w3.heap.size, 0, none⟩) ol ol] 22)) w.heap.size wm.heap.size w3.heap.size ol B w3.heap.size tk lk (.slice oa ol oc) (.slice la ll lc) b (List.replicate 0 (-1) ++ List.replicate (ol - 0) 0) :=
      ⟨(Hbox3.out.keep hbm).keep hb5, cell_new wm _ _ 0 _ rfl, hrowm.alloc _, by simp, ⟨by omega, by omega, by have := HB.out; omega⟩⟩
    have HB5 := Lib.hid (hbm.trans (hb5.mono hbm.size))
    have HJ5 := Lib.hid hjm
    have Hgm := Lib.hid hgm; have Hw3 := Lib.hid hw3
    clear c0 c1 c2 c3 hbm hrowm hb5 hi hz0 hz1 hz2 Hown Hgrow hgm hw3 hl2000
    go_upto_region 5 with fail
    have i5 := hjm.is
    clear hjm
    generalize wm.alloc (.cells #[.slice (some ⟨w3.heap.size, 0, none⟩) ol ol] 22) = w5 at *
    go_wp2_with fail
    clear i5
    go_loopw [18] (fun iv wr => ∃ k : Nat, k ≤ ol ∧ iv = .int .i64 (k : Nat) ∧ Hid (JL wr w.heap.size wm.heap.size w3.heap.size ol B w3.heap.size tk lk (.slice oa ol oc) (.slice la ll lc) b (List.replicate k (-1) ++ List.replicate (ol - k) 0)) ∧ Hid (Below w3.heap.size w3 wr)) (fun iv _ => ol - (intOf iv).toNat)
    case atStart => exact ⟨0, Nat.zero_le _, rfl, HJ5, HB5⟩
    case round =>
      obtain ⟨k, hk, rfl, HJ, HBr⟩ := hrel
      clear HJ5 HB5
      have i5 := HJ.out.is
      by_cases hlt : k < ol
      · have hcf := HJ.out.cell k (by rw [HJ.out.len]; exact hlt)
        obtain ⟨x0, cc⟩ : ∃ x0, wr.cell? ⟨w3.heap.size, k, none⟩ = some (.int .i64 x0) := ⟨_, hcf.1⟩
        have ff := hcf.2
        clear hcf
        have hset := HJ.out.set k hlt (-1)
        rw [start_setG _ _ _ _ hlt] at hset
        have Hset := Lib.hid hset
        have HB6 := Lib.hid (HBr.out.setCell (p := ⟨w3.heap.size, k, none⟩) (Nat.le_refl _) (.int .i64 (-1)))
        have hk1 : (k : Int) < (ol : Int) := by omega
        have hk2 : (0 : Int) ≤ (k : Int) := by omega
        have Hlt := Lib.hid hlt
        clear hset hlt hk
        go_wp2_with fail
        go_roundw
        case rel => exact ⟨k + 1, Hlt.out, by go_num, Hset, HB6⟩
        case measure => have := Hlt.out; simp [intOf]; omega
      · obtain rfl : k = ol := by omega
        rw [Nat.sub_self, List.replicate_zero, List.append_nil] at HJ
        go_upto_region 10 with fail
        clear i5
        have HB5 := Lib.hid (HB3.out.trans (HBr.out.mono HB3.out.size))
        have Hbx : Hid (∀ W, Below wr.heap.size wr W → W.cell? ⟨w.heap.size, 0, none⟩ = some (.int .i64 tk) ∧ W.cell? ⟨w.heap.size, 1, none⟩ = some (.int .i64 lk) ∧ W.cell? ⟨w.heap.size, 2, none⟩ = some (.slice oa k oc) ∧ W.cell? ⟨w.heap.size, 3, none⟩ = some (.slice la ll lc)) := Lib.hid fun W hW =>
          have h := HJ.out.box.keep hW
          ⟨h.c0, h.c1, h.c2, h.c3⟩
        refine wp_region_ord 6 [(0, true), (1, true), (2, true), (3, true), (5, true), (4, false), (6, false)] (fun w' => w'.cell? ⟨w.heap.size, 0, none⟩ = some (.int .i64 tk) ∧ w'.cell? ⟨w.heap.size, 1, none⟩ = some (.int .i64 lk) ∧ w'.cell? ⟨w.heap.size, 2, none⟩ = some (.slice oa k oc) ∧ w'.cell? ⟨w.heap.size, 3, none⟩ = some (.slice la ll lc)) (by kernel_rfl) (by kernel_rfl) (Hbx.out _ (Below.refl _ wr).drew) ?_
        simp only [ordL, List.getElem?_toArray, List.getElem?_cons_succ, List.getElem?_cons_zero]
        iterate 5 (
          refine ordW_read (v := ?_) (by rfl) ?_ (fun _ _ _ h => h) ?_
          rotate_left
          focus (intro w' hS; obtain ⟨s0, s1, s2, s3⟩ := hS; go_simp; (try with_reducible rfl); done)
          try simp only [Act.put, List.setIfInBounds_toArray, List.set_cons_zero, List.set_cons_succ])
        refine ordW_do (by rfl) (fun K' HK => ?_)
        go_simp
        have hd := (Below.refl wr.heap.size wr).drew
        refine (asks_any b tk lk (.slice oa k oc) (.slice la ll lc) B wr.drew HJ.out.box.le (HJ.out.box.r.below (hd.mono HJ.out.box.le)) (by have := Hz.out.2.2.2.1; omega) Hz.out.2.2.2.2.1 Hw.out).mono ?_
        rintro e w6 ⟨w1, cc, F, rfl, hbw1, hA, hSS, hCC⟩
        have hb56 : Below wr.heap.size wr w6 := hd.trans ((hbw1.trans (hA.bel.mono hbw1.size)) : Below wr.heap.size wr.drew w6)
        have Hb56 := Lib.hid hb56
        have hg1 : w3.heap.size < w1.heap.size := by have h1 : wr.heap.size ≤ w1.heap.size := hbw1.size; have h2 : w3.heap.size < wr.heap.size := (HJ.out.row.lt _ rfl).2; omega
        have hJ6 := HJ.out.up hb56
        have hL := look_least b (askl F) Hz.out.2.2.2.2.2 Hz.out.2.1 (fun j x hx s hs ht => askl_mem (hCC j (List.getElem?_eq_some_iff.1 hx).1 x hx s hs ht))
        have hset := settle_least b.l.length (lookL b) muL (LInv b) (fun W st => JL W w.heap.size wm.heap.size w3.heap.size k B w3.heap.size tk lk (.slice oa k oc) (.slice la ll lc) b st)
          (b.l.length + muL (List.replicate k (-1)) * b.l.length) (some ⟨w.heap.size, 0, none⟩) (some ⟨wm.heap.size, 0, none⟩) w1 w6 cc w3.heap.size F (List.replicate k (-1))
          ⟨Hz.out.2.2.1, by have := Hz.out.2.2.2.1; omega⟩ (Nat.le_refl _) (by
            have h1 := Hz.out.2.2.2.1
            rw [muL_none, show k * 1000001 * b.l.length = 1000001 * (k * b.l.length) by rw [Nat.mul_comm k, Nat.mul_assoc]]
            have h2 := Hsm.out
            rw [Hll.out] at h2
            omega) hA hg1 (fun k v l hF x hx => hSS k v l hF x hx) hL (linv_none b k Hol.out) hJ6
          (fun W W' st hJ hb => hJ.keep hb (by have h1 := HJ.out.box.lt; have h2 := hb56.size; omega) (by have h1 := HJ.out.ils; have h2 := hb56.size; omega) (by have h1 : w3.heap.size < wr.heap.size := (HJ.out.row.lt _ rfl).2; have h2 := hb56.size; omega) (by have h1 := HJ.out.box.le; have h2 := hb56.size; omega))
          (fun W st i hi hI hJ _ => look_leastW b w.heap.size wm.heap.size w3.heap.size k B w3.heap.size tk lk (.slice oa k oc) (.slice la ll lc) st i W hi Hz.out.2.2.2.2.2 Hol.out.symm (by have := Hz.out.2.1; have := Hol.out; omega) (by rw [hI.len]; exact Hol.out.symm) hI.low hJ)
        rw [← Hll.out] at hset
        have Hset := Lib.hid hset
        refine HK.out _ _ (fun _ => Hbx.out w6 hb56) ?_
        clear HK K' hA hSS hCC hL hJ6 hset hb56 hbw1 hd hg1
        try simp only [Act.put, List.setIfInBounds_toArray, List.set_cons_zero, List.set_cons_succ]
        refine ordW_do (by rfl) (fun K' HK => ?_)
        go_simp
        refine (Hset.out).mono ?_
        rintro e w7 ⟨rfl, st, hI7, hJ7, hk7, hq7⟩
        have HF := Lib.hid (fixL_of_quiet Hz.out.2.2.2.2.2 hI7 (by rw [← Hll.out]; exact hq7))
        have HJ7 := Lib.hid hJ7
        have HB7 : Hid (Below w.heap.size w w7) := Lib.hid (HB5.out.trans ((Hb56.out.mono HB5.out.size).trans (hk7.below (by have := Hw3.out; omega) (by have h1 := HB5.out.size; have h2 := Hb56.out.size; omega))))
        have i7 := hJ7.is
        refine HK.out _ _ (fun h => absurd rfl h) (ordW_nil ?_)
        clear HK K' hI7 hJ7 hk7 hq7
        go_wp2_with fail
        go_ret2
        refine ⟨.inr ⟨HE.out, _, st, rfl, HF.out, ?_⟩, HB7.out⟩
        have h1 := HF.out.len
        rw [← Hol.out] at h1
        rw [h1]
        exact owns_baseP HJ7.out.row (by have := Hw3.out; omega)
  · have Hne := Lib.hid hE
    have hq : ((bmay b : Int) == 0) = false := by rw [beq_eq_false_iff_ne]; exact hE
    clear hE
    generalize hm : bmay b = m at *
    go_wp2_with fail
    go_ret2
    exact ⟨.inl ⟨by rw [hm]; exact Hne.out, by rw [hm]; rfl⟩, HB3.out⟩
end Go.Proofs.Ytfmcigodfihlcaa
