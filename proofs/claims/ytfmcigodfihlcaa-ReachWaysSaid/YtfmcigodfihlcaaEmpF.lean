/-
  The document's Row.
-/
import Derived.Test.YtfmcigodfihlcaaEmpE
import Derived.Test.YtfmcigodfihlcaaRegT
namespace Go.Proofs.Ytfmcigodfihlcaa
open Go.RowKit
set_option linter.unusedVariables false
set_option linter.unusedSimpArgs false

theorem rowS_split (b : Bn) (st : List Bool) (l : List Sy) : l.all (rowS b st) = (l.all (fun s => !s.tok && decide (0 ≤ s.n) && decide (s.n < b.of.length)) && rowB false st l) := by
  unfold rowB
  induction l with
  | nil => rfl
  | cons s r ih =>
    rw [List.all_cons, List.all_cons, List.all_cons, ih]
    have : rowS b st s = ((!s.tok && decide (0 ≤ s.n) && decide (s.n < b.of.length)) && goodB false st s) := by
      unfold rowS goodB
      cases s.tok <;> simp
    rw [this]
    generalize (!s.tok && decide (0 ≤ s.n) && decide (s.n < b.of.length)) = x
    generalize goodB false st s = y
    generalize r.all _ = z
    generalize r.all _ = u
    cases x <;> cases y <;> cases z <;> cases u <;> rfl
set_option maxHeartbeats 4000000 in
set_option maxRecDepth 100000 in
theorem refRow2_any (b : Bn) (ov lv sv : Value) (l : List Sy) (B B2 : Nat) (w : World) (hB : B ≤ w.heap.size) (r : BR w B ov lv b) (hB2 : B2 ≤ w.heap.size) (rs : SR w B2 sv l) :
    Calls Try.prog 14 #[.agg #[.int .i64 b.toks, .int .i64 b.look, ov, lv], sv] w (RowP w b l) := by
  obtain ⟨oa, oc, rfl, _, _⟩ := r.of.val
  obtain ⟨la, lc, rfl, _, _⟩ := r.l.val
  obtain ⟨sa, sc, rfl, hs1, hs2⟩ := Row.val rs
  unfold maxLen at hs2
  have hl63 : l.length ≤ 9223372036854775807 := by omega
  have hbox := BoxB.new b.toks b.look 25 hB r
  have hb := agg_box w b.toks b.look (.slice oa b.of.length oc) (.slice la b.l.length lc) 25
  have H := Lib.hid (refMay_any b (.slice oa b.of.length oc) (.slice la b.l.length lc) B _ hbox.le hbox.r)
  have Hno := Lib.hid fun (W : World) (hW : B ≤ W.heap.size) (hr : BR W B (.slice oa b.of.length oc) (.slice la b.l.length lc) b) (h0 : bmay b = 0) => refNothing_any b (.slice oa b.of.length oc) (.slice la b.l.length lc) B W hW hr h0
  obtain ⟨ol, hol⟩ : ∃ ol, ol = b.of.length := ⟨_, rfl⟩
  obtain ⟨ll, hll⟩ : ∃ ll, ll = b.l.length := ⟨_, rfl⟩
  obtain ⟨tk, htk⟩ : ∃ tk, tk = b.toks := ⟨_, rfl⟩
  obtain ⟨lk, hlk⟩ : ∃ lk, lk = b.look := ⟨_, rfl⟩
  rw [← hol, ← hll, ← htk, ← hlk] at hbox hb H Hno
  rw [← hol, ← hll, ← htk, ← hlk]
  have Hb := Lib.hid hb; have Hrs := Lib.hid rs; have HB2 := Lib.hid hB2; have Hbox := Lib.hid hbox; have Hol := Lib.hid hol
  clear r hB hb hs1 hs2 rs hB2 hbox hol hll htk hlk
  go_enter Try.func14, Try.ntmps14
  go_upto_region 1 with fail
  generalize w.alloc (.cells #[.int .i64 tk, .int .i64 lk, .slice oa ol oc, .slice la ll lc] 25) = w0 at *
  obtain ⟨c0, c1, c2, c3, _, _, _⟩ := Hbox.out
  go_wp2_with fail
  refine (H.out).mono ?_
  rintro e w1 ⟨rfl, hb1⟩
  have HB1 := Lib.hid (Hb.out.trans (hb1.mono Hb.out.size))
  have Hbox1 := Lib.hid (Hbox.out.keep hb1)
  clear c0 c1 c2 c3 hb1 H Hbox
  by_cases hE : bmay b = 0
  · have HE := Lib.hid hE
    have ho5 : ol ≤ 500 := by have := (bmay_zero hE).2.1; have := Hol.out; omega
    rw [hE]
    clear hE
    have hg : ∀ s : Sy, (!s.tok && decide (0 ≤ s.n) && decide (s.n < b.of.length)) = (fun s : Sy => !s.tok && decide (0 ≤ s.n) && decide (s.n < b.of.length)) s := fun s => rfl
    obtain ⟨f, hf⟩ : ∃ f : Sy → Bool, f = fun s : Sy => !s.tok && decide (0 ≤ s.n) && decide (s.n < (b.of.length : Int)) := ⟨_, rfl⟩
    have hfs : ∀ s, f s = (!s.tok && decide (0 ≤ s.n) && decide (s.n < (ol : Int))) := fun s => by rw [hf, Hol.out]
    have Hf := Lib.hid hf; have Hfs := Lib.hid hfs
    have Hend : Hid (∀ W, l.all f = false → Below w.heap.size w W → RowP w b l (.returned (.bool false)) W) := Lib.hid fun W hx hW => by
      refine ⟨.inr ⟨HE.out, false, rfl, fun st hF => ?_⟩, hW⟩
      rw [rowS_split, ← hf, hx]; rfl
    clear hg hf hfs
    go_wp2_with fail
    go_loopw [5] (fun iv wr => ∃ k : Nat, k ≤ l.length ∧ iv = .int .i64 (k : Nat) ∧ Hid ((l.take k).all f = true) ∧ Hid (Below w1.heap.size w1 wr)) (fun iv _ => l.length - (intOf iv).toNat)
    case atStart => exact ⟨0, Nat.zero_le _, rfl, Lib.hid rfl, Lib.hid (Below.refl _ _)⟩
    case round =>
      obtain ⟨k, hk, rfl, Hal, Hbr⟩ := hrel
      have Hbx := Lib.hid (Hbox1.out.keep Hbr.out)
      by_cases hlt : k < l.length
      · obtain ⟨b6, o6, hao, hb6, f0, f1⟩ := SR.get (Row.below Hrs.out ((HB1.out.trans (Hbr.out.mono HB1.out.size)).mono HB2.out) : SR wr B2 (.slice sa l.length sc) l) k hlt
        subst hao
        have Hyes := Lib.hid (all_step l f k hlt Hal.out)
        have Hno2 := Lib.hid (all_no l f k hlt)
        have hv := Hfs.out l[k]
        have hk1 : (k : Int) < (l.length : Int) := by omega
        have hk2 : (0 : Int) ≤ (k : Int) := by omega
        have Hlt := Lib.hid hlt
        have c2 := Hbx.out.c2
        generalize l[k] = s at *
        obtain ⟨t, n⟩ := s
        simp only at f0 f1 hv
        have HB4 := Lib.hid (Hbr.out.drew)
        have HB5 := Lib.hid (HB1.out.trans (Hbr.out.drew.mono HB1.out.size))
        clear hlt hk hb6
        cases t with
        | true =>
          have HY := Lib.hid (Hno2.out (by rw [hv]; rfl))
          clear hv Hyes Hno2
          go_upto_region 6 with fail
          refine wp_region_ord 23 [(0, true), (1, true), (2, true), (3, true), (4, true), (5, true), (6, true), (7, true), (8, true), (9, true), (10, true), (11, true), (12, true), (13, true), (14, true), (15, true), (16, true), (17, true), (18, true), (19, true), (20, true), (21, true), (22, true), (23, false)] (fun w' => w'.cell? ⟨b6, o6 + k * 2, none⟩ = some (.bool true) ∧ w'.cell? ⟨b6, o6 + k * 2 + 1, none⟩ = some (.int .i64 n) ∧ w'.cell? ⟨w.heap.size, 2, none⟩ = some (.slice oa ol oc)) (by kernel_rfl) (by kernel_rfl) ⟨f0, f1, c2⟩ ?_
          simp only [ordL, List.getElem?_toArray, List.getElem?_cons_succ, List.getElem?_cons_zero]
          clear f0 f1 c2
          iterate 23 (first
            | (refine ordW_read (v := ?_) (by rfl) ?_ (fun _ _ _ h => h) ?_
               rotate_left
               focus (intro w' hS; obtain ⟨s0, s1, s2⟩ := hS; go_simp; (try with_reducible rfl); done)
               try simp only [Act.put, List.setIfInBounds_toArray, List.set_cons_zero, List.set_cons_succ])
            | (refine ordW_skip (by rfl) (fun _ _ _ h => h) ?_
               try simp only [Act.put, List.setIfInBounds_toArray, List.set_cons_zero, List.set_cons_succ]))
          refine ordW_do (by rfl) (fun K' HK => ?_)
          go_simp
          refine HK.out _ _ (fun h => absurd rfl h) (ordW_nil ?_)
          clear HK K'
          go_wp2_with fail
          go_ret
          exact Hend.out _ HY.out HB5.out
        | false =>
          by_cases h1 : n < 0
          · have q1 : decide (n < 0) = true := decide_eq_true h1
            have HY := Lib.hid (Hno2.out (by rw [hv, decide_eq_false (show ¬ 0 ≤ n by omega)]; rfl))
            clear hv h1 Hyes Hno2
            go_upto_region 6 with fail
            refine wp_region_ord 23 [(0, true), (1, true), (2, true), (3, true), (4, true), (5, true), (6, true), (7, true), (8, true), (9, true), (10, true), (11, true), (12, true), (13, true), (14, true), (15, true), (16, true), (17, true), (18, true), (19, true), (20, true), (21, true), (22, true), (23, false)] (fun w' => w'.cell? ⟨b6, o6 + k * 2, none⟩ = some (.bool false) ∧ w'.cell? ⟨b6, o6 + k * 2 + 1, none⟩ = some (.int .i64 n) ∧ w'.cell? ⟨w.heap.size, 2, none⟩ = some (.slice oa ol oc)) (by kernel_rfl) (by kernel_rfl) ⟨f0, f1, c2⟩ ?_
            simp only [ordL, List.getElem?_toArray, List.getElem?_cons_succ, List.getElem?_cons_zero]
            clear f0 f1 c2
            iterate 23 (first
              | (refine ordW_read (v := ?_) (by rfl) ?_ (fun _ _ _ h => h) ?_
                 rotate_left
                 focus (intro w' hS; obtain ⟨s0, s1, s2⟩ := hS; go_simp; (try with_reducible rfl); done)
                 try simp only [Act.put, List.setIfInBounds_toArray, List.set_cons_zero, List.set_cons_succ])
              | (refine ordW_skip (by rfl) (fun _ _ _ h => h) ?_
                 try simp only [Act.put, List.setIfInBounds_toArray, List.set_cons_zero, List.set_cons_succ]))
            refine ordW_do (by rfl) (fun K' HK => ?_)
            go_simp
            refine HK.out _ _ (fun h => absurd rfl h) (ordW_nil ?_)
            clear HK K'
            go_wp2_with fail
            go_ret
            exact Hend.out _ HY.out HB5.out
          have q1 : decide (n < 0) = false := decide_eq_false h1
          by_cases h2 : (ol : Int) ≤ n
          · have q2 : decide ((ol : Int) ≤ n) = true := decide_eq_true h2
            have HY := Lib.hid (Hno2.out (by rw [hv, decide_eq_false (show ¬ n < (ol : Int) by omega)]; simp))
            clear hv h1 h2 Hyes Hno2
            go_upto_region 6 with fail
            refine wp_region_ord 23 [(0, true), (1, true), (2, true), (3, true), (4, true), (5, true), (6, true), (7, true), (8, true), (9, true), (10, true), (11, true), (12, true), (13, true), (14, true), (15, true), (16, true), (17, true), (18, true), (19, true), (20, true), (21, true), (22, true), (23, false)] (fun w' => w'.cell? ⟨b6, o6 + k * 2, none⟩ = some (.bool false) ∧ w'.cell? ⟨b6, o6 + k * 2 + 1, none⟩ = some (.int .i64 n) ∧ w'.cell? ⟨w.heap.size, 2, none⟩ = some (.slice oa ol oc)) (by kernel_rfl) (by kernel_rfl) ⟨f0, f1, c2⟩ ?_
            simp only [ordL, List.getElem?_toArray, List.getElem?_cons_succ, List.getElem?_cons_zero]
            clear f0 f1 c2
            iterate 23 (first
              | (refine ordW_read (v := ?_) (by rfl) ?_ (fun _ _ _ h => h) ?_
                 rotate_left
                 focus (intro w' hS; obtain ⟨s0, s1, s2⟩ := hS; go_simp; (try with_reducible rfl); done)
                 try simp only [Act.put, List.setIfInBounds_toArray, List.set_cons_zero, List.set_cons_succ])
              | (refine ordW_skip (by rfl) (fun _ _ _ h => h) ?_
                 try simp only [Act.put, List.setIfInBounds_toArray, List.set_cons_zero, List.set_cons_succ]))
            refine ordW_do (by rfl) (fun K' HK => ?_)
            go_simp
            refine HK.out _ _ (fun h => absurd rfl h) (ordW_nil ?_)
            clear HK K'
            go_wp2_with fail
            go_ret
            exact Hend.out _ HY.out HB5.out
          have q2 : decide ((ol : Int) ≤ n) = false := decide_eq_false h2
          have HY := Lib.hid (Hyes.out (by rw [hv, decide_eq_true (show 0 ≤ n by omega), decide_eq_true (show n < (ol : Int) by omega)]; rfl))
          clear hv h1 h2 Hyes Hno2
          go_upto_region 6 with fail
          refine wp_region_ord 23 [(0, true), (1, true), (2, true), (3, true), (4, true), (5, true), (6, true), (7, true), (8, true), (9, true), (10, true), (11, true), (12, true), (13, true), (14, true), (15, true), (16, true), (17, true), (18, true), (19, true), (20, true), (21, true), (22, true), (23, false)] (fun w' => w'.cell? ⟨b6, o6 + k * 2, none⟩ = some (.bool false) ∧ w'.cell? ⟨b6, o6 + k * 2 + 1, none⟩ = some (.int .i64 n) ∧ w'.cell? ⟨w.heap.size, 2, none⟩ = some (.slice oa ol oc)) (by kernel_rfl) (by kernel_rfl) ⟨f0, f1, c2⟩ ?_
          simp only [ordL, List.getElem?_toArray, List.getElem?_cons_succ, List.getElem?_cons_zero]
          clear f0 f1 c2
          iterate 23 (first
            | (refine ordW_read (v := ?_) (by rfl) ?_ (fun _ _ _ h => h) ?_
               rotate_left
               focus (intro w' hS; obtain ⟨s0, s1, s2⟩ := hS; go_simp; (try with_reducible rfl); done)
               try simp only [Act.put, List.setIfInBounds_toArray, List.set_cons_zero, List.set_cons_succ])
            | (refine ordW_skip (by rfl) (fun _ _ _ h => h) ?_
               try simp only [Act.put, List.setIfInBounds_toArray, List.set_cons_zero, List.set_cons_succ]))
          refine ordW_do (by rfl) (fun K' HK => ?_)
          go_simp
          refine HK.out _ _ (fun h => absurd rfl h) (ordW_nil ?_)
          clear HK K'
          go_wp2_with fail
          go_roundw
          case rel => exact ⟨k + 1, Hlt.out, by go_num, HY, HB4⟩
          case measure => have := Hlt.out; simp [intOf]; omega
      · obtain rfl : k = l.length := by omega
        have HY : Hid (l.all f = true) := Lib.hid (by have := Hal.out; rw [List.take_length] at this; exact this)
        have Hn2 := Lib.hid (Hno.out wr Hbx.out.le Hbx.out.r HE.out)
        obtain ⟨c0, c1, c2, c3, _, _, _⟩ := Hbx.out
        have HB5 := Lib.hid (HB1.out.trans (Hbr.out.mono HB1.out.size))
        clear Hno
        go_wp2_with fail
        refine (Hn2.out).mono ?_
        rintro e w5 ⟨v, st, rfl, hF, ho, hb5⟩
        have hlen := hF.len
        obtain ⟨g, c, hv, hg2, hcl⟩ := (by
          obtain ⟨a, c, rfl, _, _⟩ := owns_valP ho
          have hz := (bmay_zero HE.out).1
          obtain ⟨g, rfl, q1, q2, q3, q4⟩ := owns_cellN ho (by omega)
          exact ⟨g, c, rfl, q2, q3⟩ : ∃ g c, v = .slice (some ⟨g, 0, none⟩) st.length c ∧ g < w5.heap.size ∧ (∀ j u, (bools st)[j]? = some u → w5.cell? ⟨g, j, none⟩ = some u))
        subst hv
        have HF := Lib.hid hF
        have HB6 := Lib.hid (HB5.out.trans (hb5.mono HB5.out.size))
        have hok : ∀ s ∈ l, 0 ≤ s.n ∧ s.n < (b.of.length : Nat) := fun s hs => by
          have h1 := HY.out
          rw [List.all_eq_true] at h1
          have h2 := h1 s hs
          rw [Hfs.out s] at h2
          simp only [Bool.and_eq_true, decide_eq_true_eq] at h2
          have := Hol.out; omega
        have Hrow := Lib.hid (refRow_any false st l (.slice sa l.length sc) g st.length c B2 w5 (Nat.le_trans HB2.out HB6.out.size) (Row.below Hrs.out (HB6.out.mono HB2.out)) rfl (by have := (bmay_zero HE.out).2.1; omega) (fun j hj => hcl j _ (bools_at st j hj)) (fun s hs _ => by have := hok s hs; omega))
        clear hF ho hb5 hlen hcl hg2 hok c0 c1 c2 c3
        go_wp2_with fail
        refine (Hrow.out).mono ?_
        rintro e w6 ⟨rfl, rfl⟩
        go_wp2_with fail
        go_ret
        refine ⟨.inr ⟨HE.out, _, rfl, fun st2 hF2 => ?_⟩, HB6.out⟩
        rw [← HF.out.uniq (bmay_zero HE.out).2.2.2.2.2.1 hF2, rowS_split, ← Hf.out, HY.out, Bool.true_and]
  · have Hne := Lib.hid hE
    have hq : ((bmay b : Int) == 0) = false := by rw [beq_eq_false_iff_ne]; exact hE
    clear hE
    generalize hm : bmay b = m at *
    go_wp2_with fail
    go_ret
    exact ⟨.inl ⟨by rw [hm]; exact Hne.out, rfl⟩, HB1.out⟩
end Go.Proofs.Ytfmcigodfihlcaa
