/-
  FollowOf.
-/
import Derived.Test.YtimgnbacgdmiiaaFolI
import Derived.BigQuiet
namespace Go.Proofs.Ytimgnbacgdmiiaa
open Go.RowKit PK
set_option linter.unusedVariables false
set_option linter.unusedSimpArgs false
attribute [local go_sem ↓] append_appM

theorem stOne_len (k : Int) (S : Sts) (p : Pr) (i : Nat) : (stOne k S p i).length ≤ 1 := by
  unfold stOne
  split
  · split <;> simp
  · simp
theorem stPr_len (k : Int) (S : Sts) (p : Pr) (m : Nat) : (stPr k S p m).length ≤ m := by
  induction m with
  | zero => exact Nat.le_refl _
  | succ m ih => rw [stPr_succ, List.length_append]; have := stOne_len k S p m; omega
theorem stAll_len (k : Int) (S : Sts) (c : Nat) : ∀ l : List Pr, (∀ p ∈ l, p.right.length ≤ c) → (stAll k S l).length ≤ l.length * c
  | [], _ => Nat.zero_le _
  | p :: l, h => by
    have h1 := stAll_len k S c l fun q hq => h q (List.mem_cons_of_mem _ hq)
    have h2 : stAll k S (p :: l) = stPr k S p p.right.length ++ stAll k S l := by unfold stAll; rw [List.flatMap_cons]
    have h3 := stPr_len k S p p.right.length
    have h4 := h p List.mem_cons_self
    rw [h2, List.length_append, List.length_cons, Nat.succ_mul]; omega
theorem few_cnt (b : Bn) (k : Int) (S : Sts) : (stAll k S (few14B b).l).length ≤ 100000 := by
  have h1 : (few14B b).l.length ≤ 14 := by
    show (((b.l.take 14).map cutP).map cut4).length ≤ 14
    rw [List.length_map, List.length_map, List.length_take]; omega
  have h2 := stAll_len k S 4 (few14B b).l fun p hp => by
    obtain ⟨q, _, rfl⟩ := List.mem_map.1 (show p ∈ ((b.l.take 14).map cutP).map cut4 from hp)
    show (q.right.take 4).length ≤ 4
    rw [List.length_take]; omega
  omega
set_option maxHeartbeats 4000000 in
set_option maxRecDepth 100000 in
theorem followOf_walk (b : Bn) (n : Int) (ov lv : Value) (w : World) (r : BR w w.heap.size ov lv b) (hn64 : -9223372036854775808 ≤ n ∧ n ≤ 9223372036854775807) :
    Calls Try.prog 7 #[.agg #[.int .i64 b.toks, .int .i64 b.look, ov, lv], .int .i64 n] w (BoolB w true) := by
  have hb1 := agg_box14 w b.toks b.look ov lv
  have hbx := BoxB.new b.toks b.look 25 (Nat.le_refl w.heap.size) r
  have hp1 : (w.alloc (.cells #[.int .i64 b.toks, .int .i64 b.look, ov, lv] 25)).heap[w.heap.size]? = some (.cells #[.int .i64 b.toks, .int .i64 b.look, ov, lv] 25 (0, 0)) := Array.getElem?_push_size
  have hfw := few15_any b b.toks b.look ov lv _ _ rfl rfl hbx.le hbx.r
  have h2 := few14_twice b
  have hcnt := fun k S => few_cnt b k S
  obtain ⟨htk, hlk⟩ := few14_toks b
  generalize few14B b = B at *
  generalize b.toks = tk at *
  generalize b.look = lk at *
  have hfew2 : ∀ o l W BW, BW ≤ W.heap.size → BR W BW o l B → Calls Try.prog 21 #[.agg #[.int .i64 tk, .int .i64 lk, o, l]] W (Few14P W tk lk B) := fun o l W BW hBW hr => by
    have := few15_any B tk lk o l BW W htk hlk hBW hr
    rw [h2] at this; exact this
  have hof : ∀ o l W BW, BW ≤ W.heap.size → BR W BW o l B → Calls Try.prog 22 #[.agg #[.int .i64 tk, .int .i64 lk, o, l]] W (FolP W B) := fun o l W BW hBW hr => followOf_any B tk lk o l BW W htk hlk hBW hr (fun S => hcnt _ S)
  have hbe : ∀ o l W BW, BW ≤ W.heap.size → BR W BW o l B → Calls Try.prog 23 #[.agg #[.int .i64 tk, .int .i64 lk, o, l], .int .i64 n] W (BehP W B n) := fun o l W BW hBW hr => behind_any B n tk lk o l BW W htk hlk hBW hr (fun S => hcnt _ S) hn64
  have hrf : ∀ o l W BW, BW ≤ W.heap.size → BR W BW o l B → Calls Try.prog 24 #[.agg #[.int .i64 tk, .int .i64 lk, o, l]] W (RFolP W B) := fun o l W BW hBW hr => refOf15_any B tk lk o l BW W htk hlk hBW hr
  have Hfw := Lib.hid hfw; have Hp1 := Lib.hid hp1; have Hb1 := Lib.hid hb1; have Hbx := Lib.hid hbx
  have Hfew2 := Lib.hid hfew2; have Hof := Lib.hid hof; have Hrf := Lib.hid hrf; have Hbe := Lib.hid hbe; have Hn64 := Lib.hid hn64
  have Hwk := Lib.hid works15_any
  clear hfw hp1 hb1 htk hlk r hbx hfew2 hof hrf h2 hbe hcnt
  go_enter Try.func7, Try.ntmps7
  go_upto_region 1 with fail
  generalize w.alloc (.cells #[.int .i64 tk, .int .i64 lk, ov, lv] 25) = w1 at *
  obtain ⟨y0, y1, y2, y3, _, _, _, _, hlt0⟩ := four_cells Hp1.out
  go_wp2_with fail
  refine (Hfw.out).mono ?_
  rintro e w3 ⟨o, l, rfl, hbr, hb3⟩
  obtain ⟨oa, oc, rfl, _, _⟩ := (hbr w3 (fun _ _ => rfl) rfl).of.val
  obtain ⟨la, lc, rfl, _, _⟩ := (hbr w3 (fun _ _ => rfl) rfl).l.val
  have hp3 : w3.heap[w.heap.size]? = some (.cells #[.int .i64 tk, .int .i64 lk, ov, lv] 25 (0, 0)) := by rw [hb3.block _ hlt0]; exact Hp1.out
  have hbox := BoxB.put tk lk hp3 (show w.heap.size < w1.heap.size + 2 by omega) hbr
  have HB4 := Lib.hid (below_four (Hb1.out.trans (hb3.mono Hb1.out.size)) (Nat.le_refl w.heap.size) (.int .i64 tk) (.int .i64 lk) (.slice oa B.of.length oc) (.slice la B.l.length lc))
  obtain ⟨x0, x1, x2, x3, f0, f1, f2, f3, hlt2⟩ := four_cells hp3
  have Hbox := Lib.hid hbox
  clear y0 y1 y2 y3 hlt0 hp3 hbr hb3 hbox Hfw Hbx Hp1
  go_upto_region 2 with fail
  generalize hw4 : (((w3.setCell ⟨w.heap.size, 0, none⟩ (.int .i64 tk)).setCell ⟨w.heap.size, 1, none⟩ (.int .i64 lk)).setCell ⟨w.heap.size, 2, none⟩ (.slice oa B.of.length oc)).setCell ⟨w.heap.size, 3, none⟩ (.slice la B.l.length lc) = w4 at *
  clear x0 x1 x2 x3 f0 f1 f2 f3 hlt2 hw4
  have Hq := Lib.hid (Hfew2.out _ _ w4 _ Hbox.out.le Hbox.out.r)
  obtain ⟨c0, c1, c2, c3⟩ := Hbox.out.four
  go_wp2_with fail
  refine (Hq.out).mono ?_
  rintro e w5 ⟨o5, l5, rfl, hbr5, hb5⟩
  have Hof5 := Lib.hid (Hof.out o5 l5 w5 _ (Nat.le_refl _) (hbr5 w5 (fun _ _ => rfl) rfl))
  have HB5 := Lib.hid (HB4.out.trans (hb5.mono HB4.out.size))
  have Hbox5 := Lib.hid (Hbox.out.keep hb5)
  clear Hq Hbox hbr5 hb5 Hof c0 c1 c2 c3
  go_wp2_with fail
  refine (Hof5.out).mono ?_
  intro e w6 hp6
  obtain ⟨⟨a1, d1, x, F, rfl, hV, hS⟩, hb6⟩ := hp6.a
  have HV := Lib.hid hV
  have HB6 := Lib.hid (HB5.out.trans (hb6.mono HB5.out.size))
  have Hbox6 := Lib.hid (Hbox5.out.keep hb6)
  have Hq := Lib.hid (Hfew2.out _ _ w6 _ Hbox6.out.le Hbox6.out.r)
  have HS6 := Lib.hid hS
  obtain ⟨c0, c1, c2, c3⟩ := Hbox6.out.four
  clear Hof5 Hbox5 hp6 hV hS hb6 Hfew2
  obtain ⟨fl, hfl⟩ : ∃ fl, fl = F.length := ⟨_, rfl⟩
  have Hfl := Lib.hid hfl
  have hfl5 : fl ≤ 500 := by have := HV.out.len.1; omega
  rw [← hfl]
  clear hfl
  go_wp2_with fail
  refine (Hq.out).mono ?_
  rintro e w7 ⟨o7, l7, rfl, hbr7, hb7⟩
  have Hbe7 := Lib.hid (Hbe.out o7 l7 w7 _ (Nat.le_refl _) (hbr7 w7 (fun _ _ => rfl) rfl))
  have HB7 := Lib.hid (HB6.out.trans (hb7.mono HB6.out.size))
  have Hbox7 := Lib.hid (Hbox6.out.keep hb7)
  have HS7 := Lib.hid (HS6.out.below hb7)
  clear Hq Hbox6 hbr7 hb7 Hbe c0 c1 c2 c3 HS6
  go_wp2_with fail
  refine (Hbe7.out).mono ?_
  rintro e w8 ⟨⟨v8, x8, y8, F8, rfl, hV8, hc8⟩, hb8⟩
  obtain ⟨hy8, hF8⟩ := hV8.uniq HV.out
  subst hy8 hF8
  have HB8 := Lib.hid (HB7.out.trans (hb8.mono HB7.out.size))
  have Hbox8 := Lib.hid (Hbox7.out.keep hb8)
  have HS8 := Lib.hid (HS7.out.below hb8)
  have Hc8 := Lib.hid hc8
  have Hq := Lib.hid (Hrf.out _ _ w8 _ Hbox8.out.le Hbox8.out.r)
  obtain ⟨c0, c1, c2, c3⟩ := Hbox8.out.four
  clear Hbe7 Hbox7 hb8 hV8 hc8 Hrf HS7
  go_wp2_with fail
  refine (Hq.out).mono ?_
  intro e w9 hp9
  obtain ⟨⟨a2, d2, x2, F2, rfl, hV2, hS2⟩, hb9⟩ := hp9.a
  obtain ⟨hy2, hF2⟩ := hV2.uniq HV.out
  subst hy2 hF2
  have HB9 := Lib.hid (HB8.out.trans (hb9.mono HB8.out.size))
  have HS9 := Lib.hid (HS8.out.below hb9)
  have HT9 := Lib.hid hS2
  rw [← Hfl.out]
  have hv8 : ∃ va vn vc, v8 = .slice va vn vc := by
    rcases Hc8.out with ⟨_, _, rfl⟩ | ⟨_, _, _, rfl⟩ | ⟨_, _, _, _, hr⟩
    · exact ⟨_, _, _, rfl⟩
    · exact ⟨_, _, _, rfl⟩
    · obtain ⟨va, vc, rfl, _⟩ := hr.val
      exact ⟨_, _, _, rfl⟩
  obtain ⟨va, vn, vc, rfl⟩ := hv8
  have Hc9 : Hid ((x2 ≠ 0 ∧ x8 = x2 ∧ Value.slice va vn vc = .slice none 0 0) ∨ (x2 = 0 ∧ ¬ (0 ≤ n ∧ n < F2.length) ∧ x8 = 3 ∧ Value.slice va vn vc = .slice none 0 0) ∨ (x2 = 0 ∧ 0 ≤ n ∧ x8 = 0 ∧ ∃ h : n.toNat < F2.length, Row w9 w9.heap.size 1 (.slice va vn vc) F2[n.toNat].length (svt F2[n.toNat]))) := Lib.hid (by
    rcases Hc8.out with h | h | ⟨h1, h2, h3, h4, h5⟩
    · exact .inl h
    · exact .inr (.inl h)
    · exact .inr (.inr ⟨h1, h2, h3, h4, (h5.below hb9).mono hb9.size⟩))
  clear Hq hp9 hV2 hS2 hb9 Hbox8 HS8 Hc8 c0 c1 c2 c3 HB8 HB7 HB6 HB5 HB4
  go_wp2_with fail
  go_loopw [11] (fun iv wr => ∃ k : Nat, k ≤ fl ∧ iv = .int .i64 (k : Nat) ∧ Hid (Below w9.heap.size w9 wr)) (fun iv _ => fl - (intOf iv).toNat)
  case atStart => exact ⟨0, Nat.zero_le _, rfl, Lib.hid (Below.refl _ _)⟩
  case round =>
    obtain ⟨k, hk, rfl, HBk⟩ := hrel
    by_cases hlt : k < fl
    · have hkF : k < F2.length := by have := Hfl.out; omega
      obtain ⟨g1, v1, rfl, q1, q3, q5⟩ := (HS9.out.below HBk.out) k hkF
      obtain ⟨g2, v2, rfl, q2, q4, q6⟩ := (HT9.out.below HBk.out) k hkF
      obtain ⟨t1, s1, rfl, _, _⟩ := q3.val
      obtain ⟨t2, s2, rfl, _, _⟩ := q4.val
      generalize F2[k] = T at *
      have Hq := Lib.hid (sameTexts_any (.slice t1 T.length s1) (.slice t2 T.length s2) T T _ _ wr.drew (Nat.le_refl _) (Nat.le_refl _) q3 q4)
      simp only [decide_true] at Hq
      have HS5 := Lib.hid (And.intro (show wr.drew.cell? ⟨g1, k, none⟩ = some _ from q1) (show wr.drew.cell? ⟨g2, k, none⟩ = some _ from q2))
      have hk1 : (k : Int) < (fl : Int) := by omega
      have hk2 : (0 : Int) ≤ (k : Int) := by omega
      have hk3 : (k : Int) ≤ 500 := by omega
      have Hlt := Lib.hid hlt; have Q5 := Lib.hid q5; have Q6 := Lib.hid q6
      clear hlt hk q1 q2 q3 q4 q5 q6 hkF
      go_upto_region 10 with fail
      refine wp_region_ord 9 [(0, true), (1, true), (2, true), (3, true), (4, true), (5, true), (6, true), (7, true), (8, false), (9, false)] (fun w' => w'.cell? ⟨g1, k, none⟩ = some (.slice t1 T.length s1) ∧ w'.cell? ⟨g2, k, none⟩ = some (.slice t2 T.length s2)) (by kernel_rfl) (by kernel_rfl) HS5.out ?_
      simp only [ordL, List.getElem?_toArray, List.getElem?_cons_succ, List.getElem?_cons_zero]
      iterate 8 (
        refine ordW_read (v := ?_) (by rfl) ?_ (fun _ _ _ h => h) ?_
        rotate_left
        focus (intro w' hS; obtain ⟨s0, s1⟩ := hS; go_simp; (try with_reducible rfl); done)
        try simp only [Act.put, List.setIfInBounds_toArray, List.set_cons_zero, List.set_cons_succ])
      refine ordW_do (by rfl) (fun K' HK => ?_)
      go_simp
      refine (Hq.out).mono ?_
      rintro e wb ⟨rfl, hb8⟩
      have hb8' : Below wr.heap.size wr wb := (Below.refl wr.heap.size wr).drew.trans (hb8 : Below wr.heap.size wr.drew wb)
      have HB8 := Lib.hid (HBk.out.trans (hb8'.mono HBk.out.size))
      have HS6 := Lib.hid (And.intro ((hb8.cell (p := ⟨g1, k, none⟩) Q5.out).trans HS5.out.1) ((hb8.cell (p := ⟨g2, k, none⟩) Q6.out).trans HS5.out.2))
      refine HK.out _ _ (fun _ => HS6.out) ?_
      clear HK K' hb8 hb8'
      try simp only [Act.put, List.setIfInBounds_toArray, List.set_cons_zero, List.set_cons_succ]
      refine ordW_do (by rfl) (fun K' HK => ?_)
      go_simp
      refine HK.out _ _ (fun h => absurd rfl h) (ordW_nil ?_)
      clear HK K'
      go_wp2_with fail
      go_roundw
      case rel => exact ⟨k + 1, Hlt.out, by go_num, HB8⟩
      case measure => have := Hlt.out; simp [intOf]; omega
    · have hk0 : decide (k < fl) = false := decide_eq_false hlt
      have HBe := Lib.hid (HB9.out.trans (HBk.out.mono HB9.out.size))
      rcases Hc9.out with ⟨hx, rfl, hv⟩ | ⟨rfl, hn, rfl, hv⟩ | ⟨rfl, hn0, rfl, hnF, hr⟩
      · simp only [Value.slice.injEq] at hv
        obtain ⟨rfl, rfl, rfl⟩ := hv
        have q1 : (x8 == 0) = false := by rw [beq_eq_false_iff_ne]; exact hx
        have q2 : (x8 != 0) = true := by rw [bne_iff_ne]; exact hx
        have Hw := Lib.hid (Hwk.out wr)
        clear hlt hk Hwk hx Hc9
        go_wp2_with fail
        refine (Hw.out).mono ?_
        rintro e wc ⟨rfl, hb9⟩
        have HBf := Lib.hid (HBe.out.trans (hb9.mono HBe.out.size))
        clear hb9 Hw
        go_wp2_with fail
        go_ret
        exact ⟨rfl, HBf.out⟩
      · simp only [Value.slice.injEq] at hv
        obtain ⟨rfl, rfl, rfl⟩ := hv
        have hn' : n < 0 ∨ (fl : Int) ≤ n := by have := Hfl.out; omega
        have Hw := Lib.hid (Hwk.out wr)
        clear hlt hk Hwk hn Hc9
        rcases hn' with h1 | h1
        · have q1 : decide (n < 0) = true := decide_eq_true h1
          clear h1
          go_wp2_with fail
          refine (Hw.out).mono ?_
          rintro e wc ⟨rfl, hb9⟩
          have HBf := Lib.hid (HBe.out.trans (hb9.mono HBe.out.size))
          clear hb9 Hw
          go_wp2_with fail
          go_ret
          exact ⟨rfl, HBf.out⟩
        · have q1 : decide (n < 0) = false := decide_eq_false (by omega)
          have q2 : decide ((fl : Int) ≤ n) = true := decide_eq_true h1
          have q3 : decide (n < (fl : Int)) = false := decide_eq_false (by omega)
          clear h1
          go_wp2_with fail
          refine (Hw.out).mono ?_
          rintro e wc ⟨rfl, hb9⟩
          have HBf := Lib.hid (HBe.out.trans (hb9.mono HBe.out.size))
          clear hb9 Hw
          go_wp2_with fail
          go_ret
          exact ⟨rfl, HBf.out⟩
      · obtain ⟨n', rfl⟩ : ∃ n' : Nat, n = (n' : Int) := ⟨n.toNat, by omega⟩
        simp only [Int.toNat_natCast] at hr hnF
        obtain ⟨g2, v2, rfl, q2, q4, q6⟩ := (HT9.out.below HBk.out) n' hnF
        obtain ⟨t2, s2, rfl, _, _⟩ := q4.val
        have hr' := (hr.below HBk.out).mono HBk.out.size
        obtain ⟨va', vc', hve, _, _⟩ := hr.val
        simp only [Value.slice.injEq] at hve
        obtain ⟨rfl, rfl, rfl⟩ := hve
        have Hq := Lib.hid (sameTexts_any (.slice va F2[n'].length vc) (.slice t2 F2[n'].length s2) F2[n'] F2[n'] _ _ wr (Nat.le_refl _) (Nat.le_refl _) hr' q4)
        simp only [decide_true] at Hq
        have h1 : (n' : Int) < (fl : Int) := by have := Hfl.out; omega
        have h2 : (0 : Int) ≤ (n' : Int) := by omega
        have h3 : (n' : Int) ≤ 500 := by omega
        have h4 : decide (n' < fl) = true := decide_eq_true (by omega)
        have h5 : decide (fl ≤ n') = false := decide_eq_false (by omega)
        clear hlt hk Hc9 hr hr' q4 q6 hn64 Hn64 hn0
        generalize F2[n'].length = tn at *
        go_wp2_with fail
        refine (Hq.out).mono ?_
        rintro e wb ⟨rfl, hb8⟩
        have HBg := Lib.hid (HBe.out.trans (hb8.mono HBe.out.size))
        have Hw := Lib.hid (Hwk.out wb)
        clear hb8 Hq Hwk
        go_wp2_with fail
        refine (Hw.out).mono ?_
        rintro e wc ⟨rfl, hb9⟩
        have HBf := Lib.hid (HBg.out.trans (hb9.mono HBg.out.size))
        clear hb9 Hw
        go_wp2_with fail
        go_ret
        exact ⟨rfl, HBf.out⟩
set_option maxRecDepth 100000 in
theorem followOf_law {H : Type} {base : Nat} (enc : TypeId × Value → H) (W : World)
    (v0 : Value) (d0 : DataW H) (p0 : List MemPlace) (k0 : Value.okWide Try.prog W .any base 25 v0) (h0 : DataW.Trod enc Try.prog W 0 (fun _ => true) true 25 v0 d0 p0) (n : Int) (hn : (Lit.int .i64 n).wf = true) :
    Calls Try.prog 7 #[v0, .int .i64 n] W fun e w' => e = .returned (.bool true) ∧ Below W.heap.size W w' := by
  obtain ⟨b, o, l, rfl, r, _⟩ := bnfOf k0 h0
  exact followOf_walk b n o l W r (by
    have h := hn
    simp only [Lit.wf, Bool.and_eq_true, decide_eq_true_eq] at h
    exact ⟨h.1, h.2⟩)
end Go.Proofs.Ytimgnbacgdmiiaa
