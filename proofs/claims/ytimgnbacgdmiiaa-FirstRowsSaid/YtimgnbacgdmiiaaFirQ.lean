/-
  FirstOf: both functions find the same beginnings.
-/
import Derived.Test.YtimgnbacgdmiiaaFirP
namespace Go.Proofs.Ytimgnbacgdmiiaa
open Go.RowKit PK
set_option linter.unusedVariables false
set_option linter.unusedSimpArgs false
attribute [local go_sem ↓] append_appM

theorem cut_pr (p : Pr) : cut4 (cutP (cut4 (cutP p))) = cut4 (cutP p) := by
  simp [cut4, cutP, List.take_take]
theorem few14_twice (b : Bn) : few14B (few14B b) = few14B b := by
  simp only [few14B, fewB, Bn.mk.injEq, List.take_take, ← List.map_take, List.map_map, Nat.min_self, true_and]
  exact List.map_congr_left fun p _ => cut_pr p
theorem few14_toks (b : Bn) : (few14B b).toks = b.toks ∧ (few14B b).look = b.look := ⟨rfl, rfl⟩
theorem OfP.form {w w' : World} {b : Bn} {e : Ending} (h : OfP w b e w') : ∃ a N c x, e = .returned (.tuple #[.slice a N c, .int .i64 x]) := by
  rcases h.1 with ⟨_, h1⟩ | ⟨_, ⟨g, S, h1, _⟩ | ⟨h1, _⟩⟩
  · exact ⟨_, _, _, _, h1⟩
  · exact ⟨_, _, _, _, h1⟩
  · exact ⟨_, _, _, _, h1⟩
theorem ROfP.form {w w' : World} {b : Bn} {e : Ending} (h : ROfP w b e w') : ∃ a N c x, e = .returned (.tuple #[.slice a N c, .int .i64 x]) := by
  rcases h.1 with ⟨_, h1⟩ | ⟨_, ⟨g, c, S, h1, _⟩ | ⟨h1, _⟩⟩
  · exact ⟨_, _, _, _, h1⟩
  · exact ⟨_, _, _, _, h1⟩
  · exact ⟨_, _, _, _, h1⟩
/-- What both answer, side by side. -/
structure Both (w : World) (N : Nat) (a1 : Option Addr) (a2 : Option Addr) (S : Sts) : Prop where
  len : S.length = N
  at_ : ∀ j (hj : j < S.length), ∃ g1 g2 v1 v2, a1 = some ⟨g1, 0, none⟩ ∧ a2 = some ⟨g2, 0, none⟩ ∧ w.cell? ⟨g1, j, none⟩ = some v1 ∧ w.cell? ⟨g2, j, none⟩ = some v2 ∧ Row w w.heap.size 1 v1 S[j].length (svt S[j]) ∧ Row w w.heap.size 1 v2 S[j].length (svt S[j]) ∧ g1 < w.heap.size ∧ g2 < w.heap.size
theorem same14 {w1 w2 w3 : World} {b : Bn} {a1 a2 : Option Addr} {N1 N2 c1 c2 : Nat} {x1 x2 : Int} (h1 : OfP w1 b (.returned (.tuple #[.slice a1 N1 c1, .int .i64 x1])) w2) (h2 : ROfP w2 b (.returned (.tuple #[.slice a2 N2 c2, .int .i64 x2])) w3) :
    x2 = x1 ∧ N2 = N1 ∧ N1 ≤ 500 ∧ N1 ≤ c1 + 0 * c2 ∧ ∃ S, Both w3 N1 a1 a2 S := by
  have hb := h2.2
  rcases h1.1 with ⟨z1, e1⟩ | ⟨z1, ⟨g1, S1, e1, I1, C1, O1, R1⟩ | ⟨e1, S1, s1, o1⟩⟩
  · rcases h2.1 with ⟨z2, e2⟩ | ⟨z2, _⟩
    · simp only [Ending.returned.injEq, Value.tuple.injEq, Array.mk.injEq, List.cons.injEq, Value.slice.injEq, Value.int.injEq, and_true, true_and] at e1 e2
      obtain ⟨⟨rfl, rfl, rfl⟩, rfl⟩ := e1
      obtain ⟨⟨rfl, rfl, rfl⟩, rfl⟩ := e2
      exact ⟨rfl, rfl, by omega, by omega, [], rfl, fun j hj => by simp at hj⟩
    · exact absurd z2 z1
  · obtain ⟨_, hN, _, _, _, hok, _⟩ := bmay_zero z1
    rcases h2.1 with ⟨z2, _⟩ | ⟨_, ⟨g2, cc, S2, e2, I2, C2, O2, R2⟩ | ⟨_, S2, s2, o2⟩⟩
    · exact absurd z1 z2
    · simp only [Ending.returned.injEq, Value.tuple.injEq, Array.mk.injEq, List.cons.injEq, Value.slice.injEq, Value.int.injEq, and_true, true_and] at e1 e2
      obtain ⟨⟨rfl, rfl, rfl⟩, rfl⟩ := e1
      obtain ⟨⟨rfl, rfl, rfl⟩, rfl⟩ := e2
      have e3 := Sound.uniq hok I2.sound I1.sound C2 C1
      subst e3
      refine ⟨rfl, rfl, hN, by omega, S2, R2.len, fun j hj => ?_⟩
      obtain ⟨v1, q1, q2⟩ := (R1.below hb).at_ j hj
      obtain ⟨v2, q3, q4⟩ := R2.at_ j hj
      exact ⟨g1, g2, v1, v2, rfl, rfl, q1, q3, q2, q4, (R1.below hb).lt, R2.lt⟩
    · exact (o2.not (Sound.sub hok s2 C1) I1.sound.set C1 O1 fun n => stAt_few n I1.few).elim
  · obtain ⟨_, hN, _, _, _, hok, _⟩ := bmay_zero z1
    rcases h2.1 with ⟨z2, _⟩ | ⟨_, ⟨g2, cc, S2, e2, I2, C2, O2, R2⟩ | ⟨e2, S2, s2, o2⟩⟩
    · exact absurd z1 z2
    · exact (o1.not (Sound.sub hok s1 C2) I2.sound.set C2 O2 fun n => stAt_few n I2.few).elim
    · simp only [Ending.returned.injEq, Value.tuple.injEq, Array.mk.injEq, List.cons.injEq, Value.slice.injEq, Value.int.injEq, and_true, true_and] at e1 e2
      obtain ⟨⟨rfl, rfl, rfl⟩, rfl⟩ := e1
      obtain ⟨⟨rfl, rfl, rfl⟩, rfl⟩ := e2
      exact ⟨rfl, rfl, by omega, by omega, [], rfl, fun j hj => by simp at hj⟩
theorem Both.below {w w' : World} {N : Nat} {a1 a2 : Option Addr} {S : Sts} (h : Both w N a1 a2 S) (hb : Below w.heap.size w w') : Both w' N a1 a2 S :=
  ⟨h.len, fun j hj => by
    obtain ⟨g1, g2, v1, v2, h1, h2, h3, h4, h5, h6, h7, h8⟩ := h.at_ j hj
    exact ⟨g1, g2, v1, v2, h1, h2, (hb.cell (p := ⟨g1, j, none⟩) h7).trans h3, (hb.cell (p := ⟨g2, j, none⟩) h8).trans h4, (h5.below hb).mono hb.size, (h6.below hb).mono hb.size, Nat.lt_of_lt_of_le h7 hb.size, Nat.lt_of_lt_of_le h8 hb.size⟩⟩
set_option maxHeartbeats 4000000 in
set_option maxRecDepth 100000 in
theorem firstOf_walk (b : Bn) (ov lv : Value) (w : World) (r : BR w w.heap.size ov lv b) :
    Calls Try.prog 3 #[.agg #[.int .i64 b.toks, .int .i64 b.look, ov, lv]] w (BoolB w true) := by
  have hb1 := agg_box14 w b.toks b.look ov lv
  have hbx := BoxB.new b.toks b.look 25 (Nat.le_refl w.heap.size) r
  have hp1 : (w.alloc (.cells #[.int .i64 b.toks, .int .i64 b.look, ov, lv] 25)).heap[w.heap.size]? = some (.cells #[.int .i64 b.toks, .int .i64 b.look, ov, lv] 25 (0, 0)) := Array.getElem?_push_size
  have hfw := few14_any b b.toks b.look ov lv _ _ rfl rfl hbx.le hbx.r
  have h2 := few14_twice b
  obtain ⟨htk, hlk⟩ := few14_toks b
  generalize few14B b = B at *
  generalize b.toks = tk at *
  generalize b.look = lk at *
  have hfew2 : ∀ o l W BW, BW ≤ W.heap.size → BR W BW o l B → Calls Try.prog 10 #[.agg #[.int .i64 tk, .int .i64 lk, o, l]] W (Few14P W tk lk B) := fun o l W BW hBW hr => by
    have := few14_any B tk lk o l BW W htk hlk hBW hr
    rw [h2] at this; exact this
  have hof : ∀ o l W BW, BW ≤ W.heap.size → BR W BW o l B → Calls Try.prog 11 #[.agg #[.int .i64 tk, .int .i64 lk, o, l]] W (OfP W B) := fun o l W BW hBW hr => firstOf_any B tk lk o l BW W htk hlk hBW hr
  have hrf : ∀ o l W BW, BW ≤ W.heap.size → BR W BW o l B → Calls Try.prog 12 #[.agg #[.int .i64 tk, .int .i64 lk, o, l]] W (ROfP W B) := fun o l W BW hBW hr => refOf14_any B tk lk o l BW W htk hlk hBW hr
  have Hfw := Lib.hid hfw; have Hp1 := Lib.hid hp1; have Hb1 := Lib.hid hb1; have Hbx := Lib.hid hbx
  have Hfew2 := Lib.hid hfew2; have Hof := Lib.hid hof; have Hrf := Lib.hid hrf
  have Hwk := Lib.hid works14_any
  clear hfw hp1 hb1 htk hlk r hbx hfew2 hof hrf h2
  go_enter Try.func3, Try.ntmps3
  go_upto_region 1 with fail
  generalize w.alloc (.cells #[.int .i64 tk, .int .i64 lk, ov, lv] 25) = w1 at *
  obtain ⟨y0, y1, y2, y3, _, _, _, _, hlt0⟩ := four_cells Hp1.out
  go_wp2_with fail
  refine (Hfw.out).mono ?_
  rintro e w3 ⟨o, l, rfl, hbr, hb3⟩
  obtain ⟨oa, oc, rfl, _, _⟩ := (hbr w3 (fun _ _ => rfl) rfl).of.val
  obtain ⟨la, lc, rfl, _, _⟩ := (hbr w3 (fun _ _ => rfl) rfl).l.val
  have hp3 : w3.heap[w.heap.size]? = some (.cells #[.int .i64 tk, .int .i64 lk, ov, lv] 25 (0, 0)) := by rw [hb3.block _ hlt0]; exact Hp1.out
  have hbox := BoxB.put tk lk hp3 (show w.heap.size < w1.heap.size + 2 by omega) hbr
  have HB4 := Lib.hid (below_four (Hb1.out.trans (hb3.mono Hb1.out.size)) (Nat.le_refl w.heap.size) (.int .i64 tk) (.int .i64 lk) (.slice oa B.of.length oc) (.slice la B.l.length lc))
  obtain ⟨x0, x1, x2, x3, f0, f1, f2, f3, hlt2⟩ := four_cells hp3
  have Hbox := Lib.hid hbox
  clear y0 y1 y2 y3 hlt0 hp3 hbr hb3 hbox Hfw Hbx Hp1
  go_upto_region 2 with fail
  generalize hw4 : (((w3.setCell ⟨w.heap.size, 0, none⟩ (.int .i64 tk)).setCell ⟨w.heap.size, 1, none⟩ (.int .i64 lk)).setCell ⟨w.heap.size, 2, none⟩ (.slice oa B.of.length oc)).setCell ⟨w.heap.size, 3, none⟩ (.slice la B.l.length lc) = w4 at *
  clear x0 x1 x2 x3 f0 f1 f2 f3 hlt2 hw4
  have Hq := Lib.hid (Hfew2.out _ _ w4 _ Hbox.out.le Hbox.out.r)
  obtain ⟨c0, c1, c2, c3⟩ := Hbox.out.four
  go_wp2_with fail
  refine (Hq.out).mono ?_
  rintro e w5 ⟨o5, l5, rfl, hbr5, hb5⟩
  have Hof5 := Lib.hid (Hof.out o5 l5 w5 _ (Nat.le_refl _) (hbr5 w5 (fun _ _ => rfl) rfl))
  have HB5 := Lib.hid (HB4.out.trans (hb5.mono HB4.out.size))
  have Hbox5 := Lib.hid (Hbox.out.keep hb5)
  clear Hq Hbox hbr5 hb5 Hof Hfew2 c0 c1 c2 c3
  go_wp2_with fail
  refine (Hof5.out).mono ?_
  intro e w6 hp6
  obtain ⟨a1, N1, d1, er1, rfl⟩ := hp6.form
  have HP6 := Lib.hid hp6
  have HB6 := Lib.hid (HB5.out.trans (hp6.2.mono HB5.out.size))
  have Hbox6 := Lib.hid (Hbox5.out.keep hp6.2)
  have Hq := Lib.hid (Hrf.out _ _ w6 _ Hbox6.out.le Hbox6.out.r)
  obtain ⟨c0, c1, c2, c3⟩ := Hbox6.out.four
  clear Hof5 Hbox5 hp6 Hrf
  go_wp2_with fail
  refine (Hq.out).mono ?_
  intro e w7 hp7
  obtain ⟨a2, N2, d2, er2, rfl⟩ := hp7.form
  obtain ⟨hx, hN, hN5, hd, S, hS⟩ := same14 HP6.out hp7
  subst hx hN
  have HB7 := Lib.hid (HB6.out.trans (hp7.2.mono HB6.out.size))
  have HS := Lib.hid hS
  clear HP6 Hq hp7 hS c0 c1 c2 c3 Hbox6
  go_wp2_with fail
  go_loopw [7] (fun iv wr => ∃ k : Nat, k ≤ N2 ∧ iv = .int .i64 (k : Nat) ∧ Hid (Below w7.heap.size w7 wr)) (fun iv _ => N2 - (intOf iv).toNat)
  case atStart => exact ⟨0, Nat.zero_le _, rfl, Lib.hid (Below.refl _ _)⟩
  case round =>
    obtain ⟨k, hk, rfl, HBk⟩ := hrel
    by_cases hlt : k < N2
    · obtain ⟨g1, g2, v1, v2, rfl, rfl, q1, q2, q3, q4, q5, q6⟩ := (HS.out.below HBk.out).at_ k (by rw [HS.out.len]; exact hlt)
      obtain ⟨t1, s1, rfl, _, _⟩ := q3.val
      obtain ⟨t2, s2, rfl, _, _⟩ := q4.val
      generalize S[k]'(by rw [HS.out.len]; exact hlt) = T at *
      have Hd0 := Lib.hid (HBk.out.drew)
      have Hq := Lib.hid (sameTexts_any (.slice t1 T.length s1) (.slice t2 T.length s2) T T _ _ wr.drew (Nat.le_refl _) (Nat.le_refl _) q3 q4)
      simp only [decide_true] at Hq
      have HS5 := Lib.hid (And.intro (show wr.drew.cell? ⟨g1, k, none⟩ = some _ from q1) (show wr.drew.cell? ⟨g2, k, none⟩ = some _ from q2))
      have hk1 : (k : Int) < (N2 : Int) := by omega
      have hk2 : (0 : Int) ≤ (k : Int) := by omega
      have hk3 : (k : Int) ≤ 500 := by omega
      have Hlt := Lib.hid hlt; have Q5 := Lib.hid q5; have Q6 := Lib.hid q6
      clear hlt hk q1 q2 q3 q4 q5 q6
      go_upto_region 9 with fail
      refine wp_region_ord 9 [(0, true), (1, true), (2, true), (3, true), (4, true), (5, true), (6, true), (7, true), (8, false), (9, false)] (fun w' => w'.cell? ⟨g1, k, none⟩ = some (.slice t1 T.length s1) ∧ w'.cell? ⟨g2, k, none⟩ = some (.slice t2 T.length s2)) (by kernel_rfl) (by kernel_rfl) HS5.out ?_
      simp only [ordL, List.getElem?_toArray, List.getElem?_cons_succ, List.getElem?_cons_zero]
      iterate 8 (
        refine ordW_read (v := ?_) (by rfl) ?_ (fun _ _ _ h => h) ?_
        rotate_left
        focus (intro w' hS; obtain ⟨s0, s1⟩ := hS; go_simp; (try with_reducible rfl); done)
        try simp only [Act.put, List.setIfInBounds_toArray, List.set_cons_zero, List.set_cons_succ])
      refine ordW_do (by rfl) (fun K' HK => ?_)
      go_simp
      refine (Hq.out).mono ?_
      rintro e w8 ⟨rfl, hb8⟩
      have hb8' : Below wr.heap.size wr w8 := (Below.refl wr.heap.size wr).drew.trans (hb8 : Below wr.heap.size wr.drew w8)
      have HB8 := Lib.hid (HBk.out.trans (hb8'.mono HBk.out.size))
      have HS6 := Lib.hid (And.intro ((hb8.cell (p := ⟨g1, k, none⟩) Q5.out).trans HS5.out.1) ((hb8.cell (p := ⟨g2, k, none⟩) Q6.out).trans HS5.out.2))
      refine HK.out _ _ (fun _ => HS6.out) ?_
      clear HK K' hb8 hb8'
      try simp only [Act.put, List.setIfInBounds_toArray, List.set_cons_zero, List.set_cons_succ]
      refine ordW_do (by rfl) (fun K' HK => ?_)
      go_simp
      refine HK.out _ _ (fun h => absurd rfl h) (ordW_nil ?_)
      clear HK K'
      go_wp2_with fail
      go_roundw
      case rel => exact ⟨k + 1, Hlt.out, by go_num, HB8⟩
      case measure => have := Hlt.out; simp [intOf]; omega
    · have hk0 : decide (k < N2) = false := decide_eq_false hlt
      have HBe := Lib.hid (HB7.out.trans (HBk.out.mono HB7.out.size))
      have Hw := Lib.hid (Hwk.out wr)
      clear hlt hk Hwk
      go_wp2_with fail
      refine (Hw.out).mono ?_
      rintro e w9 ⟨rfl, hb9⟩
      have HB9 := Lib.hid (HBe.out.trans (hb9.mono HBe.out.size))
      clear hb9 Hw
      go_wp2_with fail
      go_ret
      exact ⟨rfl, HB9.out⟩
set_option maxRecDepth 100000 in
theorem firstOf_law {H : Type} {base : Nat} (enc : TypeId × Value → H) (W : World)
    (v0 : Value) (d0 : DataW H) (p0 : List MemPlace) (k0 : Value.okWide Try.prog W .any base 25 v0) (h0 : DataW.Trod enc Try.prog W 0 (fun _ => true) true 25 v0 d0 p0) :
    Calls Try.prog 3 #[v0] W fun e w' => e = .returned (.bool true) ∧ Below W.heap.size W w' := by
  obtain ⟨b, o, l, rfl, r, _⟩ := bnfOf k0 h0
  exact firstOf_walk b o l W r
end Go.Proofs.Ytimgnbacgdmiiaa
