/-
  FirstRows: the beginnings of a row.
-/
import Derived.Test.YtimgnbacgdmiiaaFirQ
import Derived.Test.YtimgnbacgdmiiaaFirR
import Derived.BigQuiet
namespace Go.Proofs.Ytimgnbacgdmiiaa
open Go.RowKit PK
set_option linter.unusedVariables false
set_option linter.unusedSimpArgs false
attribute [local go_sem ↓] append_appM

theorem FRes.val {w : World} {b : Bn} {l : List Sy} {v : Value} {x : Int} (h : FRes w b l v x) : ∃ a n c, v = .slice a n c := by
  rcases h with ⟨_, h, _⟩ | ⟨_, _, h, _⟩ | ⟨_, S, _, ⟨_, h, _⟩ | ⟨_, _, h, _⟩ | ⟨_, _, _, h⟩⟩
  · exact ⟨_, _, _, h⟩
  · exact ⟨_, _, _, h⟩
  · exact ⟨_, _, _, h⟩
  · exact ⟨_, _, _, h⟩
  · obtain ⟨a, c, h, _⟩ := h.val; exact ⟨_, _, _, h⟩
/-- Both answers side by side. -/
theorem rows14 {w2 w3 : World} {b : Bn} {l : List Sy} {v : Value} {x : Int} {a2 : Option Addr} {N2 c2 : Nat} {x2 : Int} (h1 : FRes w2 b l v x) (h2 : ROfP w2 b (.returned (.tuple #[.slice a2 N2 c2, .int .i64 x2])) w3) :
    (x2 ≠ 0 ∧ x = x2 ∧ v = .slice none 0 0) ∨ (x2 = 0 ∧ bmay b = 0 ∧ ∃ g S, a2 = some ⟨g, 0, none⟩ ∧ N2 = b.of.length ∧ GoodS b S ∧ SetsR w3 g N2 c2 S ∧ ((l.all (symOk b) = false ∧ v = .slice none 0 0 ∧ x = 4) ∨ (l.all (symOk b) = true ∧ OverR b.look 600 S l ∧ v = .slice none 0 0 ∧ x = 15) ∨ (l.all (symOk b) = true ∧ ¬ OverR b.look 600 S l ∧ x = 0 ∧ Row w2 w2.heap.size 1 v (rowS b.look S l).length (svt (rowS b.look S l))))) := by
  rcases h2.1 with ⟨z2, e2⟩ | ⟨z2, ⟨g2, cc, S2, e2, I2, C2, O2, R2⟩ | ⟨e2, S2, s2, o2⟩⟩
  · simp only [Ending.returned.injEq, Value.tuple.injEq, Array.mk.injEq, List.cons.injEq, Value.slice.injEq, Value.int.injEq, and_true, true_and] at e2
    obtain ⟨⟨rfl, rfl, rfl⟩, rfl⟩ := e2
    rcases h1 with ⟨_, h, h'⟩ | ⟨h, _⟩ | ⟨h, _⟩
    · exact .inl ⟨z2, h', h⟩
    · exact absurd h z2
    · exact absurd h z2
  · simp only [Ending.returned.injEq, Value.tuple.injEq, Array.mk.injEq, List.cons.injEq, Value.slice.injEq, Value.int.injEq, and_true, true_and] at e2
    obtain ⟨⟨rfl, rfl, rfl⟩, rfl⟩ := e2
    obtain ⟨_, _, _, _, _, hok, _⟩ := bmay_zero z2
    rcases h1 with ⟨h, _⟩ | ⟨_, ⟨S1, s1, o1⟩, _⟩ | ⟨_, S, ⟨I1, C1, O1⟩, h⟩
    · exact absurd z2 h
    · exact (o1.not (Sound.sub hok s1 C2) I2.sound.set C2 O2 fun n => stAt_few n I2.few).elim
    · have e3 := Sound.uniq hok I1.sound I2.sound C1 C2
      subst e3
      exact .inr ⟨rfl, z2, g2, S, rfl, rfl, ⟨I1, C1, O1⟩, R2, h⟩
  · simp only [Ending.returned.injEq, Value.tuple.injEq, Array.mk.injEq, List.cons.injEq, Value.slice.injEq, Value.int.injEq, and_true, true_and] at e2
    obtain ⟨⟨rfl, rfl, rfl⟩, rfl⟩ := e2
    obtain ⟨_, _, _, _, _, hok, _⟩ := bmay_zero z2
    rcases h1 with ⟨h, _⟩ | ⟨_, _, h, h'⟩ | ⟨_, S, ⟨I1, C1, O1⟩, h⟩
    · exact absurd z2 h
    · exact .inl ⟨by omega, h', h⟩
    · exact (o2.not (Sound.sub hok s2 C1) I1.sound.set C1 O1 fun n => stAt_few n I1.few).elim
set_option maxHeartbeats 4000000 in
set_option maxRecDepth 100000 in
theorem firstRows_walk (b : Bn) (l : List Sy) (ov bv lv : Value) (w : World) (r : BR w w.heap.size ov bv b) (rl : SR w w.heap.size lv l) :
    Calls Try.prog 4 #[.agg #[.int .i64 b.toks, .int .i64 b.look, ov, bv], lv] w (BoolB w true) := by
  obtain ⟨ra, rc, rfl, hr1, hr2⟩ := Row.val rl
  have hb1 := agg_box14 w b.toks b.look ov bv
  have hbx := BoxB.new b.toks b.look 25 (Nat.le_refl w.heap.size) r
  have hp1 : (w.alloc (.cells #[.int .i64 b.toks, .int .i64 b.look, ov, bv] 25)).heap[w.heap.size]? = some (.cells #[.int .i64 b.toks, .int .i64 b.look, ov, bv] 25 (0, 0)) := Array.getElem?_push_size
  have hfw := few14_any b b.toks b.look ov bv _ _ rfl rfl hbx.le hbx.r
  have h2 := few14_twice b
  obtain ⟨htk, hlk⟩ := few14_toks b
  generalize few14B b = B at *
  generalize b.toks = tk at *
  generalize b.look = lk at *
  have hfew2 : ∀ o l W BW, BW ≤ W.heap.size → BR W BW o l B → Calls Try.prog 10 #[.agg #[.int .i64 tk, .int .i64 lk, o, l]] W (Few14P W tk lk B) := fun o l W BW hBW hr => by
    have := few14_any B tk lk o l BW W htk hlk hBW hr
    rw [h2] at this; exact this
  have hof : ∀ o bv W BW l lv BL, BW ≤ W.heap.size → BR W BW o bv B → BL ≤ W.heap.size → SR W BL lv l → Calls Try.prog 15 #[.agg #[.int .i64 tk, .int .i64 lk, o, bv], lv] W (FRowP W B l) := fun o bv W BW l lv BL hBW hr hBL hl => firstRow_any B l tk lk o bv lv BW BL W htk hlk hBW hr hBL hl
  have hrf : ∀ o l W BW, BW ≤ W.heap.size → BR W BW o l B → Calls Try.prog 12 #[.agg #[.int .i64 tk, .int .i64 lk, o, l]] W (ROfP W B) := fun o l W BW hBW hr => refOf14_any B tk lk o l BW W htk hlk hBW hr
  have Hfw := Lib.hid hfw; have Hp1 := Lib.hid hp1; have Hb1 := Lib.hid hb1; have Hbx := Lib.hid hbx
  have Hfew2 := Lib.hid hfew2; have Hof := Lib.hid hof; have Hrf := Lib.hid hrf
  have Htk := Lib.hid htk; have Hlk := Lib.hid hlk
  have Hwk := Lib.hid works14_any
  obtain ⟨rn, hrn⟩ : ∃ rn, rn = l.length := ⟨_, rfl⟩
  have Hrl := Lib.hid rl
  have Hrn := Lib.hid hrn
  rw [← hrn] at Hrl hr1 ⊢
  clear hfw hp1 hb1 htk hlk r hbx hfew2 hof hrf h2 rl hrn
  go_enter Try.func4, Try.ntmps4
  go_upto_region 1 with fail
  generalize w.alloc (.cells #[.int .i64 tk, .int .i64 lk, ov, bv] 25) = w1 at *
  obtain ⟨y0, y1, y2, y3, _, _, _, _, hlt0⟩ := four_cells Hp1.out
  go_wp2_with fail
  refine (Hfw.out).mono ?_
  rintro e w3 ⟨o, l3, rfl, hbr, hb3⟩
  obtain ⟨oa, oc, rfl, _, _⟩ := (hbr w3 (fun _ _ => rfl) rfl).of.val
  obtain ⟨la, lc, rfl, _, _⟩ := (hbr w3 (fun _ _ => rfl) rfl).l.val
  have hp3 : w3.heap[w.heap.size]? = some (.cells #[.int .i64 tk, .int .i64 lk, ov, bv] 25 (0, 0)) := by rw [hb3.block _ hlt0]; exact Hp1.out
  have hbox := BoxB.put tk lk hp3 (show w.heap.size < w1.heap.size + 2 by omega) hbr
  have HB4 := Lib.hid (below_four (Hb1.out.trans (hb3.mono Hb1.out.size)) (Nat.le_refl w.heap.size) (.int .i64 tk) (.int .i64 lk) (.slice oa B.of.length oc) (.slice la B.l.length lc))
  obtain ⟨x0, x1, x2, x3, f0, f1, f2, f3, hlt2⟩ := four_cells hp3
  have Hbox := Lib.hid hbox
  clear y0 y1 y2 y3 hlt0 hp3 hbr hb3 hbox Hfw Hbx Hp1
  go_upto_region 2 with fail
  generalize hw4 : (((w3.setCell ⟨w.heap.size, 0, none⟩ (.int .i64 tk)).setCell ⟨w.heap.size, 1, none⟩ (.int .i64 lk)).setCell ⟨w.heap.size, 2, none⟩ (.slice oa B.of.length oc)).setCell ⟨w.heap.size, 3, none⟩ (.slice la B.l.length lc) = w4 at *
  clear x0 x1 x2 x3 f0 f1 f2 f3 hlt2 hw4
  unfold maxLen at hr2
  have hrn63 : (rn : Int) ≤ 9223372036854775807 := by omega
  have Hr1 := Lib.hid hr1
  have qa : (0 : Int) ≤ min (rn : Int) 4 := by omega
  have qb : min (rn : Int) 4 ≤ (rc : Int) := by omega
  obtain ⟨l4, hl4⟩ : ∃ l4, l4 = l.take (min (rn : Int) 4).toNat := ⟨_, rfl⟩
  have hl4n : l4.length = (min (rn : Int) 4).toNat := by rw [hl4, List.length_take]; have := Hrn.out; omega
  have hsr4 : SR w w.heap.size (.slice ra (min (rn : Int) 4).toNat rc) l4 := by
    have h1 := Row.take (show Row w w.heap.size 2 (.slice ra l.length rc) l.length (symC l) by have := Hrl.out; rw [Hrn.out] at this; exact this) (min (rn : Int) 4).toNat (by have := Hrn.out; omega)
    rw [symC_take, ← hl4] at h1
    unfold SR; rw [hl4n]; exact h1
  obtain ⟨a5, c5, w5, happ5, own5, b5⟩ := sym_copy w4 ra (min (rn : Int) 4).toNat rc l4 w.heap.size (Nat.le_trans (Nat.le_refl _) HB4.out.size) (Row.below hsr4 HB4.out) (by rw [hl4n]; omega)
  have HB5 := Lib.hid (HB4.out.trans (b5.mono HB4.out.size))
  have Hbox5 := Lib.hid (Hbox.out.keep b5)
  have hl4m : l4.length ≤ 4 := by rw [hl4n]; omega
  have Hl4m := Lib.hid hl4m
  have Ho5 := Lib.hid own5
  clear hr1 hr2 hl4 hl4n hsr4 Hrl Hrn own5 b5 hl4m Hbox
  go_upto_region 3 with fail
  clear qa qb happ5
  obtain ⟨ln, hln⟩ : ∃ ln, ln = l4.length := ⟨_, rfl⟩
  have Hln := Lib.hid hln
  have Hr5 := Lib.hid (Row.of_owns Ho5.out)
  rw [← hln] at Hr5 ⊢
  have hln4 : (ln : Int) ≤ 4 := by have := Hl4m.out; omega
  have Hq := Lib.hid (Hfew2.out _ _ w5 _ Hbox5.out.le Hbox5.out.r)
  obtain ⟨c0, c1, c2, c3⟩ := Hbox5.out.four
  clear hln Ho5
  go_wp2_with fail
  refine (Hq.out).mono ?_
  rintro e w6 ⟨o6, l6, rfl, hbr6, hb6⟩
  have Hbr6 := Lib.hid (hbr6 w6 (fun _ _ => rfl) rfl)
  have HB6 := Lib.hid (HB5.out.trans (hb6.mono HB5.out.size))
  have Hbox6 := Lib.hid (Hbox5.out.keep hb6)
  have Hr6 := Lib.hid ((Hr5.out.below hb6).mono hb6.size)
  obtain ⟨a7, c7, w7, happ7, own7, b7⟩ := sym_copy w6 a5 ln c5 l4 _ (Nat.le_refl _) (show SR w6 w6.heap.size (.slice a5 ln c5) l4 by unfold SR; rw [← Hln.out]; exact Hr6.out) (by have := Hl4m.out; omega)
  rw [← Hln.out] at happ7
  have HB7 := Lib.hid (HB6.out.trans (b7.mono HB6.out.size))
  have Hbox7 := Lib.hid (Hbox6.out.keep b7)
  have Hr7 := Lib.hid ((Hr6.out.below b7).mono b7.size)
  have Hq7 := Lib.hid (Hof.out o6 l6 w7 _ l4 (.slice a7 ln c7) _ b7.size (Hbr6.out.below b7) (Nat.le_refl _) (show SR w7 w7.heap.size (.slice a7 ln c7) l4 by unfold SR; rw [Hln.out]; exact Row.of_owns own7))
  clear hbr6 hb6 Hq Hfew2 Hbox5 Hr5 c0 c1 c2 c3 b7 own7 Hof Hbr6
  go_wp2_with fail
  refine (Hq7.out).mono ?_
  rintro e w8 ⟨⟨v8, x8, rfl, hf8⟩, hb8⟩
  obtain ⟨va, vn, vc, rfl⟩ := hf8.val
  have Hf8 := Lib.hid hf8
  have HB8 := Lib.hid (HB7.out.trans (hb8.mono HB7.out.size))
  have Hbox8 := Lib.hid (Hbox7.out.keep hb8)
  have Hr8 := Lib.hid ((Hr7.out.below hb8).mono hb8.size)
  have Hq := Lib.hid (Hrf.out _ _ w8 _ Hbox8.out.le Hbox8.out.r)
  obtain ⟨c0, c1, c2, c3⟩ := Hbox8.out.four
  clear hf8 hb8 Hq7 happ7 Hbox6 Hbox7 Hr6 Hr7 Hrf
  go_wp2_with fail
  refine (Hq.out).mono ?_
  intro e w9 hp9
  obtain ⟨a2, N2, d2, er2, rfl⟩ := hp9.form
  have HB9 := Lib.hid (HB8.out.trans (hp9.2.mono HB8.out.size))
  have Hbox9 := Lib.hid (Hbox8.out.keep hp9.2)
  have Hr9 := Lib.hid ((Hr8.out.below hp9.2).mono hp9.2.size)
  have hb9 := hp9.2
  rcases rows14 Hf8.out hp9 with ⟨hne, rfl, hv⟩ | ⟨rfl, hm0, g, S, rfl, rfl, hgood, hst, halt⟩
  · simp only [Value.slice.injEq] at hv
    obtain ⟨rfl, rfl, rfl⟩ := hv
    have hq : ((x8 : Int) == 0) = false := by rw [beq_eq_false_iff_ne]; exact hne
    have hq2 : ((x8 : Int) != 0) = true := by rw [bne_iff_ne]; exact hne
    have Hw := Lib.hid (Hwk.out w9)
    clear hne hb9 hp9 Hq c0 c1 c2 c3 Hf8 Hbox8 Hr8
    go_wp2_with fail
    refine (Hw.out).mono ?_
    rintro e w10 ⟨rfl, hb10⟩
    have HBe := Lib.hid (HB9.out.trans (hb10.mono HB9.out.size))
    clear hb10 Hw
    go_wp2_with fail
    go_ret
    exact ⟨rfl, HBe.out⟩
  · have Hst := Lib.hid hst; have Hgood := Lib.hid hgood; have Halt := Lib.hid halt; have H0 := Lib.hid hm0
    have hf : ∀ s : Sy, symOk B s = if s.tok then decide (1 ≤ s.n) && decide (s.n ≤ B.toks) else decide (0 ≤ s.n) && decide (s.n < B.of.length) := fun s => rfl
    have hwide : ∀ s, symOk B s = true → (s.tok = true → 0 ≤ s.n ∧ s.n ≤ 255) ∧ (s.tok = false → 0 ≤ s.n ∧ s.n < B.of.length) := fun s h => symOk_wide hm0 h
    have hN : B.of.length ≤ 1000 := by have := (bmay_zero hm0).2.1; omega
    have hk4 : 1 ≤ lk ∧ lk ≤ 4 := by have := (bmay_zero hm0).2.2.2.2.2.2.2.2; have := Hlk.out; omega
    rw [Htk.out] at hf
    have HN := Lib.hid hN; have Hk4 := Lib.hid hk4
    have Hwide := Lib.hid hwide
    have HSo := Lib.hid hgood.1.ok
    rw [Hlk.out] at HSo Halt
    obtain ⟨f, hfe⟩ : ∃ f, f = symOk B := ⟨_, rfl⟩
    rw [← hfe] at hf Halt Hwide
    obtain ⟨ol, hol⟩ : ∃ ol, ol = B.of.length := ⟨_, rfl⟩
    rw [← hol] at hf Hst HN Hwide ⊢
    rw [← hol] at Hbox9
    have Hok := Lib.hid hf
    have Hwb := Lib.hid hb9
    have Hf8r : Hid (∀ W v n, Below w8.heap.size w8 W → Row w8 w8.heap.size 1 v n (svt (rowS lk S l4)) → Row W W.heap.size 1 v n (svt (rowS lk S l4))) := Lib.hid fun W v n hW h => (h.below hW).mono hW.size
    clear hst hgood halt hm0 hf hwide hN hk4 hfe hol hb9 hp9 Hq c0 c1 c2 c3 Hf8 Hbox8 Hr8 Hgood
    go_wp2_with fail
    go_loopw [9] (fun iv wr => ∃ i : Nat, i ≤ ln ∧ iv = .int .i64 (i : Nat) ∧ Hid ((l4.take i).all f = true) ∧ Hid (Below w9.heap.size w9 wr)) (fun iv _ => ln - (intOf iv).toNat)
    case atStart => exact ⟨0, Nat.zero_le _, rfl, Lib.hid rfl, Lib.hid (Below.refl _ _)⟩
    case round =>
      obtain ⟨i, hi, rfl, Hai, HB⟩ := hrel
      have HBe := Lib.hid (HB9.out.trans (HB.out.mono HB9.out.size))
      obtain ⟨c0, c1, c2, c3⟩ := (Hbox9.out.keep HB.out).four
      by_cases hli : i < ln
      · have hli' : i < l4.length := by have := Hln.out; omega
        obtain ⟨b6, o6, hao, hb6, e0, e1⟩ := SR.get (show SR wr w9.heap.size (.slice a5 l4.length c5) l4 by have := Hr9.out.below HB.out; rw [Hln.out] at this; exact this) i hli'
        subst hao
        have Hsy := Lib.hid (all_step l4 f i hli' Hai.out)
        have Hsn := Lib.hid (all_no l4 f i hli')
        have hk0 : (i : Int) < (ln : Int) := by omega
        have hk1 : (0 : Int) ≤ (i : Int) := by omega
        have hok := Hok.out l4[i]
        have Hli := Lib.hid hli
        generalize l4[i] = s at *
        obtain ⟨t, n⟩ := s
        simp only at e0 e1 hok
        have Hbad : Hid (f ⟨t, n⟩ = false → Value.slice va vn vc = .slice none 0 0 ∧ x8 = 4) := Lib.hid fun h => by
          have h2 := Hsn.out h
          rcases Halt.out with ⟨_, h3, h4⟩ | ⟨h3, _⟩ | ⟨h3, _⟩
          · exact ⟨h3, h4⟩
          · rw [h2] at h3; cases h3
          · rw [h2] at h3; cases h3
        clear hli hi hli' hb6 c1 c3
        go_upto_region 10 with fail
        cases t with
        | true =>
          simp only [if_true] at hok
          by_cases h1 : n < 1
          · have q1 : decide (n < 1) = true := decide_eq_true h1
            have HY := Lib.hid (Hbad.out (by rw [hok, decide_eq_false (by omega)]; rfl))
            obtain ⟨hv, hx⟩ := HY.out
            simp only [Value.slice.injEq] at hv
            obtain ⟨rfl, rfl, rfl⟩ := hv
            subst hx
            have hbq : ∀ nq, Below w.heap.size w (wr.drewN nq) := fun nq => HBe.out.trans ((below_drewsP wr nq).mono HBe.out.size)
            have HBq := Lib.hid hbq
            clear hok h1 Hsy Hsn Hbad HY hbq
            refine wp_region_quiet_lit (by kernel_rfl) (by kernel_rfl) ?_
            repeat (first | go_big_quiet_step (fail) | quiet_step (fail))
            refine wpQuiet_nil ?_
            intro _ hw'
            obtain ⟨nq, hw''⟩ := hw'
            subst hw''
            clear c0 c2 e0 e1 q1
            have Hw := Lib.hid (Hwk.out (wr.drewN nq))
            have HBn := Lib.hid (HBq.out nq)
            go_wp2_with fail
            refine (Hw.out).mono ?_
            rintro e w10 ⟨rfl, hb10⟩
            have HBz := Lib.hid (HBn.out.trans (hb10.mono HBn.out.size))
            clear hb10 Hw
            go_wp2_with fail
            go_ret
            exact ⟨rfl, HBz.out⟩
          have q1 : decide (n < 1) = false := decide_eq_false h1
          by_cases h2 : tk < n
          · have q2 : decide (tk < n) = true := decide_eq_true h2
            have HY := Lib.hid (Hbad.out (by rw [hok, decide_eq_false (show ¬ n ≤ tk by omega), Bool.and_false]))
            obtain ⟨hv, hx⟩ := HY.out
            simp only [Value.slice.injEq] at hv
            obtain ⟨rfl, rfl, rfl⟩ := hv
            subst hx
            have hbq : ∀ nq, Below w.heap.size w (wr.drewN nq) := fun nq => HBe.out.trans ((below_drewsP wr nq).mono HBe.out.size)
            have HBq := Lib.hid hbq
            clear hok h1 h2 Hsy Hsn Hbad HY hbq
            refine wp_region_quiet_lit (by kernel_rfl) (by kernel_rfl) ?_
            repeat (first | go_big_quiet_step (fail) | quiet_step (fail))
            refine wpQuiet_nil ?_
            intro _ hw'
            obtain ⟨nq, hw''⟩ := hw'
            subst hw''
            clear c0 c2 e0 e1 q1 q2
            have Hw := Lib.hid (Hwk.out (wr.drewN nq))
            have HBn := Lib.hid (HBq.out nq)
            go_wp2_with fail
            refine (Hw.out).mono ?_
            rintro e w10 ⟨rfl, hb10⟩
            have HBz := Lib.hid (HBn.out.trans (hb10.mono HBn.out.size))
            clear hb10 Hw
            go_wp2_with fail
            go_ret
            exact ⟨rfl, HBz.out⟩
          have q2 : decide (tk < n) = false := decide_eq_false h2
          have HY := Lib.hid (Hsy.out (by rw [hok, decide_eq_true (show 1 ≤ n by omega), decide_eq_true (show n ≤ tk by omega)]; rfl))
          have HBq := Lib.hid (fun nq => HB.out.trans ((below_drewsP wr nq).mono HB.out.size))
          clear hok h1 h2 Hsy Hsn Hbad
          refine wp_region_quiet_lit (by kernel_rfl) (by kernel_rfl) ?_
          repeat (first | go_big_quiet_step (fail) | quiet_step (fail))
          refine wpQuiet_nil ?_
          intro _ hw'
          obtain ⟨nq, hw''⟩ := hw'
          subst hw''
          clear c0 c2 e0 e1 q1 q2
          have HBn := Lib.hid (HBq.out nq)
          go_wp2_with fail
          go_roundw
          case rel => exact ⟨i + 1, Hli.out, by go_num, HY, HBn⟩
          case measure => have := Hli.out; simp [intOf]; omega
        | false =>
          simp only [Bool.false_eq_true, if_false] at hok
          by_cases h1 : n < 0
          · have q1 : decide (n < 0) = true := decide_eq_true h1
            have HY := Lib.hid (Hbad.out (by rw [hok, decide_eq_false (by omega)]; rfl))
            obtain ⟨hv, hx⟩ := HY.out
            simp only [Value.slice.injEq] at hv
            obtain ⟨rfl, rfl, rfl⟩ := hv
            subst hx
            have hbq : ∀ nq, Below w.heap.size w (wr.drewN nq) := fun nq => HBe.out.trans ((below_drewsP wr nq).mono HBe.out.size)
            have HBq := Lib.hid hbq
            clear hok h1 Hsy Hsn Hbad HY hbq
            refine wp_region_quiet_lit (by kernel_rfl) (by kernel_rfl) ?_
            repeat (first | go_big_quiet_step (fail) | quiet_step (fail))
            refine wpQuiet_nil ?_
            intro _ hw'
            obtain ⟨nq, hw''⟩ := hw'
            subst hw''
            clear c0 c2 e0 e1 q1
            have Hw := Lib.hid (Hwk.out (wr.drewN nq))
            have HBn := Lib.hid (HBq.out nq)
            go_wp2_with fail
            refine (Hw.out).mono ?_
            rintro e w10 ⟨rfl, hb10⟩
            have HBz := Lib.hid (HBn.out.trans (hb10.mono HBn.out.size))
            clear hb10 Hw
            go_wp2_with fail
            go_ret
            exact ⟨rfl, HBz.out⟩
          have q1 : decide (n < 0) = false := decide_eq_false h1
          by_cases h2 : (ol : Int) ≤ n
          · have q2 : decide ((ol : Int) ≤ n) = true := decide_eq_true h2
            have HY := Lib.hid (Hbad.out (by rw [hok, decide_eq_false (show ¬ n < (ol : Int) by omega), Bool.and_false]))
            obtain ⟨hv, hx⟩ := HY.out
            simp only [Value.slice.injEq] at hv
            obtain ⟨rfl, rfl, rfl⟩ := hv
            subst hx
            have hbq : ∀ nq, Below w.heap.size w (wr.drewN nq) := fun nq => HBe.out.trans ((below_drewsP wr nq).mono HBe.out.size)
            have HBq := Lib.hid hbq
            clear hok h1 h2 Hsy Hsn Hbad HY hbq
            refine wp_region_quiet_lit (by kernel_rfl) (by kernel_rfl) ?_
            repeat (first | go_big_quiet_step (fail) | quiet_step (fail))
            refine wpQuiet_nil ?_
            intro _ hw'
            obtain ⟨nq, hw''⟩ := hw'
            subst hw''
            clear c0 c2 e0 e1 q1 q2
            have Hw := Lib.hid (Hwk.out (wr.drewN nq))
            have HBn := Lib.hid (HBq.out nq)
            go_wp2_with fail
            refine (Hw.out).mono ?_
            rintro e w10 ⟨rfl, hb10⟩
            have HBz := Lib.hid (HBn.out.trans (hb10.mono HBn.out.size))
            clear hb10 Hw
            go_wp2_with fail
            go_ret
            exact ⟨rfl, HBz.out⟩
          have q2 : decide ((ol : Int) ≤ n) = false := decide_eq_false h2
          have HY := Lib.hid (Hsy.out (by rw [hok, decide_eq_true (show 0 ≤ n by omega), decide_eq_true (show n < (ol : Int) by omega)]; rfl))
          have HBq := Lib.hid (fun nq => HB.out.trans ((below_drewsP wr nq).mono HB.out.size))
          clear hok h1 h2 Hsy Hsn Hbad
          refine wp_region_quiet_lit (by kernel_rfl) (by kernel_rfl) ?_
          repeat (first | go_big_quiet_step (fail) | quiet_step (fail))
          refine wpQuiet_nil ?_
          intro _ hw'
          obtain ⟨nq, hw''⟩ := hw'
          subst hw''
          clear c0 c2 e0 e1 q1 q2
          have HBn := Lib.hid (HBq.out nq)
          go_wp2_with fail
          go_roundw
          case rel => exact ⟨i + 1, Hli.out, by go_num, HY, HBn⟩
          case measure => have := Hli.out; simp [intOf]; omega
      · have hall : l4.all f = true := by
          have := Hai.out
          rw [List.take_of_length_le (by have := Hln.out; omega)] at this; exact this
        have hk0 : decide (i < ln) = false := decide_eq_false hli
        have hsw : ∀ s ∈ l4, (s.tok = true → 0 ≤ s.n ∧ s.n ≤ 255) ∧ (s.tok = false → 0 ≤ s.n ∧ s.n < ol) := fun s hs => Hwide.out s (List.all_eq_true.1 hall s hs)
        have Hrow := Lib.hid (refRow14_any l4 (.slice a5 ln c5) lk g ol d2 600 S _ wr (show SR wr w9.heap.size (.slice a5 ln c5) l4 by have := Hr9.out.below HB.out; unfold SR; rw [← Hln.out]; exact this) HB.out.size (Hst.out.below HB.out) Hk4.out (Nat.le_refl _) HSo.out hsw HN.out)
        have halt : (OverR lk 600 S l4 ∧ Value.slice va vn vc = .slice none 0 0 ∧ x8 = 15) ∨ (¬ OverR lk 600 S l4 ∧ x8 = 0 ∧ Row w8 w8.heap.size 1 (.slice va vn vc) (rowS lk S l4).length (svt (rowS lk S l4))) := by
          rcases Halt.out with ⟨h3, _⟩ | ⟨_, h4⟩ | ⟨_, h4⟩
          · rw [hall] at h3; cases h3
          · exact .inl h4
          · exact .inr h4
        have Ht := Lib.hid halt
        clear hall hsw halt hli hi c0 c2 c3 Hwide Hst Halt Hok
        go_wp2_with fail
        refine (Hrow.out).mono ?_
        rintro e w10 ⟨h10, hb10⟩
        have HB10 := Lib.hid (HBe.out.trans (hb10.mono HBe.out.size))
        have HB8w := Lib.hid (Hwb.out.trans ((HB.out.trans (hb10.mono HB.out.size)).mono Hwb.out.size))
        clear hb10 Hrow c1
        rcases h10 with ⟨hn, v, rfl, hrow⟩ | ⟨ho, rfl⟩
        · rcases Ht.out with ⟨ho, _⟩ | ⟨_, rfl, hr8⟩
          · exact absurd ho hn
          · obtain ⟨ya, yc, rfl, _, _⟩ := hrow.val
            obtain rfl : vn = (rowS lk S l4).length := by
              obtain ⟨_, _, hv, _⟩ := hr8.val
              simp only [Value.slice.injEq] at hv; exact hv.2.1
            have Hq := Lib.hid (sameTexts_any (.slice va (rowS lk S l4).length vc) (.slice ya (rowS lk S l4).length yc) (rowS lk S l4) (rowS lk S l4) _ _ w10 (Nat.le_refl _) (Nat.le_refl _) (Hf8r.out _ _ _ HB8w.out hr8) hrow)
            simp only [decide_true] at Hq
            generalize (rowS lk S l4).length = zn at *
            clear hr8 hrow hn Ht
            go_wp2_with fail
            refine (Hq.out).mono ?_
            rintro e w11 ⟨rfl, hb11⟩
            have HB11 := Lib.hid (HB10.out.trans (hb11.mono HB10.out.size))
            have Hw := Lib.hid (Hwk.out w11)
            clear hb11 Hq
            go_wp2_with fail
            refine (Hw.out).mono ?_
            rintro e w12 ⟨rfl, hb12⟩
            have HBz := Lib.hid (HB11.out.trans (hb12.mono HB11.out.size))
            clear hb12 Hw
            go_wp2_with fail
            go_ret
            exact ⟨rfl, HBz.out⟩
        · rcases Ht.out with ⟨_, hv, rfl⟩ | ⟨hn, _⟩
          · simp only [Value.slice.injEq] at hv
            obtain ⟨rfl, rfl, rfl⟩ := hv
            have Hw := Lib.hid (Hwk.out w10)
            clear ho Ht
            go_wp2_with fail
            refine (Hw.out).mono ?_
            rintro e w12 ⟨rfl, hb12⟩
            have HBz := Lib.hid (HB10.out.trans (hb12.mono HB10.out.size))
            clear hb12 Hw
            go_wp2_with fail
            go_ret
            exact ⟨rfl, HBz.out⟩
          · exact absurd ho hn
set_option maxRecDepth 100000 in
theorem firstRows_law {H : Type} {base : Nat} (enc : TypeId × Value → H) (W : World)
    (v0 : Value) (d0 : DataW H) (p0 : List MemPlace) (k0 : Value.okWide Try.prog W .any base 25 v0) (h0 : DataW.Trod enc Try.prog W 0 (fun _ => true) true 25 v0 d0 p0)
    (v1 : Value) (d1 : DataW H) (p1 : List MemPlace) (k1 : Value.okWide Try.prog W .any base 35 v1) (h1 : DataW.Trod enc Try.prog W 0 (fun _ => true) true 35 v1 d1 p1) :
    Calls Try.prog 4 #[v0, v1] W fun e w' => e = .returned (.bool true) ∧ Below W.heap.size W w' := by
  obtain ⟨b, o, l, rfl, r, _⟩ := bnfOf k0 h0
  obtain ⟨L, rl, _⟩ := symsOf (Go.WideShapes.okWide_slice Try.underlying35 k1) h1
  exact firstRows_walk b L o l v1 W r rl
end Go.Proofs.Ytimgnbacgdmiiaa
