/-
  The laws of stage 15: few, works, Behind.
-/
import Derived.Test.YtimgnbacgdmiiaaFolH
namespace Go.Proofs.Ytimgnbacgdmiiaa
open Go.RowKit PK
set_option linter.unusedVariables false
set_option linter.unusedSimpArgs false
attribute [local go_sem ↓] append_appM

set_option maxHeartbeats 4000000 in
set_option maxRecDepth 100000 in
theorem few15_any (b : Bn) (tk lk : Int) (ov lv : Value) (B : Nat) (w : World) (etk : b.toks = tk) (elk : b.look = lk) (hB : B ≤ w.heap.size) (r : BR w B ov lv b) :
    Calls Try.prog 21 #[.agg #[.int .i64 tk, .int .i64 lk, ov, lv]] w (Few14P w tk lk (few14B b)) := by
  have hb1 := agg_box14 w tk lk ov lv
  have hb2 := (Below.refl _ (w.alloc (.cells #[.int .i64 tk, .int .i64 lk, ov, lv] 25))).alloc (Nat.le_refl _) (.cells #[.int .i64 0, .int .i64 0, .slice none 0 0, .slice none 0 0] 25)
  have hb12 := hb1.trans (hb2.mono hb1.size)
  have hs1 : (w.alloc (.cells #[.int .i64 tk, .int .i64 lk, ov, lv] 25)).heap.size = w.heap.size + 1 := by simp
  have hs2 : ((w.alloc (.cells #[.int .i64 tk, .int .i64 lk, ov, lv] 25)).alloc (.cells #[.int .i64 0, .int .i64 0, .slice none 0 0, .slice none 0 0] 25)).heap.size = w.heap.size + 2 := by simp
  have hp : ((w.alloc (.cells #[.int .i64 tk, .int .i64 lk, ov, lv] 25)).alloc (.cells #[.int .i64 0, .int .i64 0, .slice none 0 0, .slice none 0 0] 25)).heap[(w.alloc (.cells #[.int .i64 tk, .int .i64 lk, ov, lv] 25)).heap.size]? = some (.cells #[.int .i64 0, .int .i64 0, .slice none 0 0, .slice none 0 0] 25 (0, 0)) := Array.getElem?_push_size
  rw [hs1] at hp
  have hfew := few_prs b ov lv 8 14 (by decide) (by decide) B _ (Nat.le_trans hB hb12.size) (r.below (hb12.mono hB))
  rw [etk, elk] at hfew
  have q0 := fun j u h => (hb2.cell (p := ⟨w.heap.size, j, none⟩) (show w.heap.size < _ by rw [hs1]; omega)).trans (cell_new w #[.int .i64 tk, .int .i64 lk, ov, lv] 25 j u h)
  have c0 := q0 0 _ rfl
  have c1 := q0 1 _ rfl
  have c2 := q0 2 _ rfl
  have c3 := q0 3 _ rfl
  have Hfew := Lib.hid hfew; have Hb := Lib.hid hb12; have Hp := Lib.hid hp; have Hs2 := Lib.hid hs2
  clear hfew hb1 hb2 hb12 hp hs1 hs2 q0 r
  go_enter Try.func21, Try.ntmps21
  go_upto_region 1 with fail
  generalize (w.alloc (.cells #[.int .i64 tk, .int .i64 lk, ov, lv] 25)).alloc (.cells #[.int .i64 0, .int .i64 0, .slice none 0 0, .slice none 0 0] 25) = w2 at *
  go_wp2_with fail
  refine (Hfew.out).mono ?_
  rintro e w3 ⟨o3, l3, rfl, ⟨X, ofs, hX, hO⟩, hb3⟩
  have hF := FS.made (tk := tk) (lk := lk) (hO w3 (fun _ _ => rfl) rfl)
  have hb4 := hb3.trans (((Below.refl w3.heap.size w3).alloc (Nat.le_refl _) (.cells #[.int .i64 tk, .int .i64 lk, o3, l3] 25)).mono hb3.size)
  have hbt : Below w.heap.size w _ := Hb.out.trans (hb4.mono Hb.out.size)
  have hp4 := (hb4.block _ (show w.heap.size + 1 < w2.heap.size by have := Hs2.out; omega)).trans Hp.out
  have hXl : X.length = ((b.l.take 14).map cutP).length := by
    have := congrArg (fun c => c.l.length) hX
    simpa [prsOf_len, fewB] using this
  have hn14 : X.length ≤ 14 := by rw [hXl, List.length_map, List.length_take]; omega
  obtain ⟨n, hn⟩ : ∃ n, n = X.length := ⟨_, rfl⟩
  have hlv : ∃ a c, l3 = .slice a n c := by
    rcases hF.row with ⟨rfl, h1⟩ | ⟨g, c, h1, _⟩
    · obtain ⟨a, c, h2, _⟩ := owns_valP h1.out; exact ⟨a, c, by rw [hn]; exact h2⟩
    · exact ⟨_, c, by rw [hn]; exact h1⟩
  obtain ⟨la, lc, rfl⟩ := hlv
  obtain ⟨oa, oc, rfl, _, _⟩ := owns_valP hF.of
  obtain ⟨n0, hn0⟩ : ∃ n0, n0 = w2.heap.size + 2 := ⟨_, rfl⟩
  rw [← hn0] at hF
  have hq := hF.cell
  have hn3 : n0 ≤ w3.heap.size + 2 := by have := hb3.size; omega
  have HF := Lib.hid hF; have Hbt := Lib.hid hbt; have Hp4 := Lib.hid hp4; have HX := Lib.hid hX; have Hn := Lib.hid hn; have Hn0 := Lib.hid hn0; have Hb3 := Lib.hid hb3
  clear hF hb3 hb4 hbt hp4 hX hXl hn0 hO
  clear Hb Hp Hfew hB hq hn
  go_wp2_with fail
  go_loopw [4] (fun iv wr => ∃ (i : Nat) (X' : List Cp), i ≤ n ∧ iv = .int .i64 (i : Nat) ∧ Hid (FS wr n0 w3.heap.size tk lk (.slice oa ofs.length oc) (.slice la n lc) ofs X') ∧ Hid (prsOf X' = ((prsOf X).take i).map cut4 ++ (prsOf X).drop i) ∧ Hid (Below n0 (w3.alloc (.cells #[.int .i64 tk, .int .i64 lk, .slice oa ofs.length oc, .slice la n lc] 25)) wr)) (fun iv _ => n - (intOf iv).toNat)
  case atStart => exact ⟨0, X, Nat.zero_le _, rfl, HF, Lib.hid (by simp), Lib.hid (Below.refl _ _)⟩
  case round =>
    obtain ⟨i, X', hi, rfl, HFr, HX', HBr⟩ := hrel
    obtain ⟨c0, c1, c2, c3⟩ := HFr.out.cell
    have hl' : X'.length = n := by
      have h1 := congrArg List.length HX'.out
      rw [prsOf_len] at h1
      simp [prsOf_len] at h1
      have := Hn.out; omega
    by_cases hlt : i < n
    · obtain ⟨g, c, a, d, hls, hrv, hd1, hd2, hg, hgn, hcell, hfr, hF2, hB2⟩ := HFr.out.round i (by omega)
      simp only [Value.slice.injEq] at hls
      obtain ⟨rfl, hls', rfl⟩ := hls
      clear hls'
      have hX2 : prsOf (X'.set i (cutCp X'[i] (.slice a (X'[i].right.take 4).length d))) = ((prsOf X).take (i + 1)).map cut4 ++ (prsOf X).drop (i + 1) := by
        rw [prsOf_set X' i X'[i] _ (List.getElem?_eq_getElem (by omega)), HX'.out]
        have hix : i < (prsOf X).length := by rw [prsOf_len]; have := Hn.out; omega
        have e0 : (⟨X'[i].left, X'[i].right⟩ : Pr) = (prsOf X)[i] := by
          have h1 : (prsOf X')[i]? = some ⟨X'[i].left, X'[i].right⟩ := by simp [prsOf, show i < X'.length by omega]
          rw [HX'.out, List.getElem?_append_right (by simp; omega)] at h1
          simp [List.length_take, Nat.min_eq_left (Nat.le_of_lt hix)] at h1
          have h2 := List.getElem?_eq_getElem hix
          rw [h2] at h1
          exact (Option.some.inj h1).symm
        rw [e0, List.set_append_right _ _ (by simp; omega), List.take_succ_eq_append_getElem hix, List.map_append, List.append_assoc]
        congr 1
        simp only [List.length_map, List.length_take, Nat.min_eq_left (Nat.le_of_lt hix), Nat.sub_self]
        rw [List.drop_eq_getElem_cons hix]
        simp only [List.set_cons_zero, List.map_cons, List.map_nil, List.cons_append, List.nil_append]
      generalize X'.set i (cutCp X'[i] (.slice a (X'[i].right.take 4).length d)) = X2 at hF2 hX2
      have HF2 := Lib.hid hF2; have HX2 := Lib.hid hX2; have HB2 := Lib.hid (HBr.out.trans hB2)
      have hmin : (X'[i].right.take 4).length = min X'[i].right.length 4 := by rw [List.length_take, Nat.min_comm]
      generalize (X'[i].right.take 4).length = m4 at *
      generalize X'[i].right.length = m at *
      have q4 : m4 ≤ d := by omega
      have q5 : min (m : Int) 4 = (m4 : Int) := by omega
      have Q5 := Lib.hid q5
      clear q5 hmin
      have q2 : (m4 : Int) ≤ (d : Int) := by omega
      have hin : (i : Int) < (n : Int) := by omega
      have hi0 : (0 : Int) ≤ (i : Int) := by omega
      have hi9 : (i : Int) ≤ 14 := by have := Hn.out; omega
      have Hlt := Lib.hid hlt; have Hl' := Lib.hid hl'
      clear hF2 hX2 hB2 hrv hlt hl' hi
      go_upto_region 6 with fail
      have HS5 := Lib.hid (And.intro c3 (And.intro hcell hfr))
      refine wp_region_ord 10 [(0, true), (1, true), (2, true), (3, true), (4, true), (5, true), (6, true), (7, true), (8, true), (9, true), (10, false)] (fun w' => w'.cell? ⟨w3.heap.size, 3, none⟩ = some (.slice (some ⟨g, 0, none⟩) n lc) ∧ w'.cell? ⟨g, i * 2 + 1, none⟩ = some (.slice a m d) ∧ w'.frozen? ⟨g, i * 2 + 1, none⟩ = false) (by kernel_rfl) (by kernel_rfl) HS5.out ?_
      simp only [ordL, List.getElem?_toArray, List.getElem?_cons_succ, List.getElem?_cons_zero]
      iterate 10 (
        refine ordW_read (v := ?_) (by rfl) ?_ (fun _ _ _ h => h) ?_
        rotate_left
        focus (intro w' hS; obtain ⟨s0, s1, s2⟩ := hS; go_simp; (try rw [Q5.out]); (try with_reducible rfl); done)
        try simp only [Act.put, List.setIfInBounds_toArray, List.set_cons_zero, List.set_cons_succ])
      refine ordW_do (by rfl) (fun K' HK => ?_)
      go_simp
      refine HK.out _ _ (fun h => absurd rfl h) (ordW_nil ?_)
      clear HK K'
      go_wp2_with fail
      go_roundw
      case rel => exact ⟨i + 1, X2, Hlt.out, by go_num, Lib.hid (HF2.out.same (by rfl)), HX2, Lib.hid (by first | exact HB2.out.drew | exact (HBr.out.drew).setCell hgn _)⟩
      case measure => have := Hlt.out; simp [intOf]; omega
    · have hk0 : decide (i < n) = false := decide_eq_false hlt
      have hk1 : ¬ (i : Int) < (n : Int) := by omega
      have hX2 : (⟨tk, lk, ofs, prsOf X'⟩ : Bn) = few14B b := by
        have h1 : i = n := by omega
        have h2 := HX'.out
        rw [h1, Hn.out, List.take_of_length_le (by rw [prsOf_len]; exact Nat.le_refl _), List.drop_of_length_le (by rw [prsOf_len]; exact Nat.le_refl _), List.append_nil] at h2
        show _ = (⟨(fewB 8 14 b).toks, (fewB 8 14 b).look, (fewB 8 14 b).of, (fewB 8 14 b).l.map cut4⟩ : Bn)
        rw [← HX.out, h2]
      have hb5 : Below w.heap.size w wr := Hbt.out.trans (HBr.out.mono (by have := Hn0.out; have := Hs2.out; omega))
      have hpr := (HBr.out.block _ (show w.heap.size + 1 < n0 by have := Hn0.out; have := Hs2.out; omega)).trans Hp4.out
      have hn02 : w.heap.size + 2 ≤ n0 := by have := Hn0.out; have := Hs2.out; omega
      have Hfin : ∀ W' : World, (∀ k, w.heap.size + 2 ≤ k → W'.heap[k]? = ((((wr.setCell ⟨w.heap.size + 1, 0, none⟩ (.int .i64 tk)).setCell ⟨w.heap.size + 1, 1, none⟩ (.int .i64 lk)).setCell ⟨w.heap.size + 1, 2, none⟩ (.slice oa ofs.length oc)).setCell ⟨w.heap.size + 1, 3, none⟩ (.slice la n lc)).heap[k]?) → W'.heap.size = wr.heap.size → BR W' wr.heap.size (.slice oa ofs.length oc) (.slice la n lc) ⟨tk, lk, ofs, prsOf X'⟩ := fun W' hk hs => HFr.out.br (fun k h2 => by
        rw [hk k (by omega), four_far _ _ _ _ (by omega)]) hs
      have Hb4 := Lib.hid (below_four hb5 (show w.heap.size ≤ w.heap.size + 1 by omega) (.int .i64 tk) (.int .i64 lk) (.slice oa ofs.length oc) (.slice la n lc))
      have hqs : ((((wr.setCell ⟨w.heap.size + 1, 0, none⟩ (.int .i64 tk)).setCell ⟨w.heap.size + 1, 1, none⟩ (.int .i64 lk)).setCell ⟨w.heap.size + 1, 2, none⟩ (.slice oa ofs.length oc)).setCell ⟨w.heap.size + 1, 3, none⟩ (.slice la n lc)).heap.size = wr.heap.size := by simp [World.setCell]
      obtain ⟨p0, p1, p2, p3, q5, q6, q7, q8, _⟩ := four_cells hpr
      obtain ⟨r5, r6, r7, r8, _⟩ := four_cells (four_set hpr (.int .i64 tk) (.int .i64 lk) (.slice oa ofs.length oc) (.slice la n lc))
      have HX2 := Lib.hid hX2; have HFin := Lib.hid Hfin; have Hqs := Lib.hid hqs
      clear hX2 hb5 hpr hn02 Hfin hqs hlt hi hl'
      go_wp2_with fail
      refine bodyPost_ret (v := .agg #[.int .i64 tk, .int .i64 lk, .slice oa ofs.length oc, .slice la n lc]) (by simp [results, Try.results21, go_sem, r5, r6, r7, r8]) rfl ?_
      refine ⟨_, _, rfl, ?_, Hb4.out⟩
      rw [Hqs.out, ← HX2.out]; exact HFin.out

theorem fol_smp15 (o l : Value) (B : Nat) (w : World) (hB : B ≤ w.heap.size) (r : BR w B o l smp15) :
    Calls Try.prog 22 #[.agg #[.int .i64 2, .int .i64 1, o, l]] w fun e w' => ∃ g v1 v2, e = .returned (.tuple #[.slice (some ⟨g, 0, none⟩) 2 2, .int .i64 0]) ∧ w'.cell? ⟨g, 0, none⟩ = some v1 ∧ w'.cell? ⟨g, 1, none⟩ = some v2 ∧ g < w'.heap.size ∧ Row w' w'.heap.size 1 v1 1 (svt [[0]]) ∧ Row w' w'.heap.size 1 v2 1 (svt [[1]]) ∧ Below w.heap.size w w' :=
  (followOf_any smp15 2 1 o l B w rfl rfl hB r (fun S => by
    have h : (stAll smp15.look S smp15.l).length = 1 := rfl
    omega)).mono fun e w' h => by
    obtain ⟨h, hb⟩ := h
    have hT : ∀ S, GoodSt smp15 S → S = sol15 := fun S hS => sol_uniq15 S hS.1.sound hS.2.1
    have hz : endT smp15.look = [0] := rfl
    rcases h with ⟨h0, _⟩ | ⟨_, ⟨g, F, S, he, hS, _, hI, hc, hR⟩ | ⟨_, ⟨S, h1, h2⟩ | ⟨S, hS, h3⟩⟩⟩
    · exact absurd may_smp15 h0
    · have e1 := hT S hS
      subst e1
      have e2 : F = fol15 := SoundF.uniq (show SoundF T15 1 [0] 2 F by rw [← st15]; exact hI.sound) soundF15 (show ClosedF T15 1 [0] F by rw [← st15]; exact hc) closedF15
      subst e2
      obtain ⟨v1, h3, h4⟩ := hR.at_ 0 (by decide)
      obtain ⟨v2, h5, h6⟩ := hR.at_ 1 (by decide)
      exact ⟨g, v1, v2, he, h3, h5, hR.lt, h4, h6, hb⟩
    · exact absurd h2 (not_over15 S h1)
    · have e1 := hT S hS
      subst e1
      rcases h3 with h3 | ⟨F, h4, h5⟩
      · exact absurd h3 no_st15
      · exact (OverF.not (show OverF T15 1 600 F by rw [← st15]; exact h5) (SoundF.sub (show SoundF T15 1 [0] 2 F by rw [← st15]; exact h4) closedF15) soundF15.set closedF15 few15F).elim
set_option maxHeartbeats 4000000 in
set_option maxRecDepth 100000 in
theorem works15_any (w : World) : Calls Try.prog 25 #[] w (BoolB w true) := by
  have Hs := Lib.hid any_smp15
  go_enter Try.func25, Try.ntmps25
  go_wp2_with fail
  refine (Hs.out _).mono ?_
  rintro e w1 ⟨o1, l1, rfl, r1, b1⟩
  have Hn := Lib.hid (fol_smp15 o1 l1 _ w1 (Nat.le_refl _) r1)
  have B1 := Lib.hid b1
  clear r1 b1
  go_wp2_with fail
  refine (Hn.out).mono ?_
  rintro e w2 ⟨g, v1, v2, rfl, hc1, hc2, hg, r2, r3, b2⟩
  obtain ⟨va, vc, rfl, _⟩ := r2.val
  obtain ⟨vb, vd, rfl, _⟩ := r3.val
  have B2 := Lib.hid (B1.out.trans (b2.mono B1.out.size))
  have b3 := (Below.refl w2.heap.size w2).alloc (Nat.le_refl _) (.cells (svt [[0]]).toArray 9)
  have Hc := Lib.hid (sameTexts_any (.slice va 1 vc) (.slice (some ⟨w2.heap.size, 0, none⟩) 1 1) [[0]] [[0]] _ _ (w2.alloc (.cells (svt [[0]]).toArray 9)) b3.size (by simp) (r2.below b3) (row_cellsB w2 (svt [[0]]) 1 1 1 9 rfl (Nat.le_refl _) (by unfold maxLen; omega)))
  have B3 := Lib.hid (B2.out.trans (b3.mono B2.out.size))
  have Hb3 := Lib.hid b3; have Hr3 := Lib.hid r3; have Hc2 := Lib.hid hc2; have Hg := Lib.hid hg
  clear b2 b3 r2 r3 Hn hc2
  have esv : (svt [[0]]).toArray = #[.string ⟨#[0]⟩] := rfl
  rw [esv] at Hc B3 Hb3
  simp only [decide_true] at Hc
  go_wp2_with fail
  refine (Hc.out).mono ?_
  rintro e w4 ⟨rfl, b4⟩
  have B4 := Lib.hid (B3.out.trans (b4.mono B3.out.size))
  have b24 := Hb3.out.trans (b4.mono Hb3.out.size)
  have hc4 := (b24.cell (p := ⟨g, 1, none⟩) Hg.out).trans Hc2.out
  have b5 := (Below.refl w4.heap.size w4).alloc (Nat.le_refl _) (.cells (svt [[1]]).toArray 9)
  have Hd := Lib.hid (sameTexts_any (.slice vb 1 vd) (.slice (some ⟨w4.heap.size, 0, none⟩) 1 1) [[1]] [[1]] _ _ (w4.alloc (.cells (svt [[1]]).toArray 9)) b5.size (by simp) (((Hr3.out.below b24).mono b24.size).below b5) (row_cellsB w4 (svt [[1]]) 1 1 1 9 rfl (Nat.le_refl _) (by unfold maxLen; omega)))
  have esv2 : (svt [[1]]).toArray = #[.string ⟨#[1]⟩] := rfl
  have B5 := Lib.hid (B4.out.trans (b5.mono B4.out.size))
  rw [esv2] at Hd B5
  simp only [decide_true] at Hd
  clear b4 Hc b24 b5 hc1 hg
  go_wp2_with fail
  refine (Hd.out).mono ?_
  rintro e w6 ⟨rfl, b6⟩
  have B6 := Lib.hid (B5.out.trans (b6.mono B5.out.size))
  clear b6 Hd
  go_wp2_with fail
  go_ret
  exact ⟨rfl, B6.out⟩
/-- What is to be answered. -/
def FolV (b : Bn) (x : Int) (F : Sts) : Prop := (bmay b ≠ 0 ∧ x = bmay b ∧ F = []) ∨ (bmay b = 0 ∧ ((x = 0 ∧ F.length = b.of.length ∧ ∃ S, GoodSt b S ∧ ¬ OverSt b b.look S ∧ InvF (stAll b.look S b.l) b.look 600 (endT b.look) b.of.length F ∧ ClosedF (stAll b.look S b.l) b.look (endT b.look) F) ∨ (x = 15 ∧ F = [] ∧ ((∃ S, Sound b b.look S ∧ Over b b.look 600 S) ∨ ∃ S, GoodSt b S ∧ (OverSt b b.look S ∨ ∃ F, SoundF (stAll b.look S b.l) b.look (endT b.look) b.of.length F ∧ OverF (stAll b.look S b.l) b.look 600 F)))))
theorem good_uniq {b : Bn} (h0 : bmay b = 0) {S S' : Sts} (h : GoodSt b S) (h' : GoodSt b S') : S = S' := by
  obtain ⟨_, _, _, _, _, hok, _⟩ := bmay_zero h0
  exact Sound.uniq hok h.1.sound h'.1.sound h.2.1 h'.2.1
theorem fol_fine {b : Bn} {x : Int} {F G : Sts} (h0 : bmay b = 0) {S : Sts} (hS : GoodSt b S) (hn : ¬ OverSt b b.look S) (hI : InvF (stAll b.look S b.l) b.look 600 (endT b.look) b.of.length F) (hC : ClosedF (stAll b.look S b.l) b.look (endT b.look) F) : ¬ ((∃ S, Sound b b.look S ∧ Over b b.look 600 S) ∨ ∃ S, GoodSt b S ∧ (OverSt b b.look S ∨ ∃ F, SoundF (stAll b.look S b.l) b.look (endT b.look) b.of.length F ∧ OverF (stAll b.look S b.l) b.look 600 F)) := by
  obtain ⟨_, _, _, _, _, hok, _⟩ := bmay_zero h0
  rintro (⟨S', s', o'⟩ | ⟨S', g', h'⟩)
  · exact o'.not (Sound.sub hok s' hS.2.1) hS.1.sound.set hS.2.1 hS.2.2 fun n => stAt_few n hS.1.few
  · have e := good_uniq h0 g' hS
    subst e
    rcases h' with h' | ⟨F', s', o'⟩
    · exact hn h'
    · exact o'.not (SoundF.sub s' hC) hI.sound.set hC fun n => stAt_few n hI.few
theorem FolV.uniq {b : Bn} {x y : Int} {F G : Sts} (h : FolV b x F) (h' : FolV b y G) : x = y ∧ F = G := by
  rcases h with ⟨a1, rfl, rfl⟩ | ⟨a1, h⟩
  · rcases h' with ⟨_, rfl, rfl⟩ | ⟨a2, _⟩
    · exact ⟨rfl, rfl⟩
    · exact absurd a2 a1
  · rcases h' with ⟨a2, _⟩ | ⟨_, h'⟩
    · exact absurd a1 a2
    · rcases h with ⟨rfl, _, S, g1, n1, i1, c1⟩ | ⟨rfl, rfl, o1⟩
      · rcases h' with ⟨rfl, _, S', g2, n2, i2, c2⟩ | ⟨_, _, o2⟩
        · have e := good_uniq a1 g2 g1
          subst e
          exact ⟨rfl, SoundF.uniq i1.sound i2.sound c1 c2⟩
        · exact absurd o2 (fol_fine (x := 0) (G := []) a1 g1 n1 i1 c1)
      · rcases h' with ⟨_, _, S', g2, n2, i2, c2⟩ | ⟨rfl, rfl, _⟩
        · exact absurd o1 (fol_fine (x := 0) (G := []) a1 g2 n2 i2 c2)
        · exact ⟨rfl, rfl⟩
theorem FolV.len {b : Bn} {x : Int} {F : Sts} (h : FolV b x F) : F.length ≤ 500 ∧ (x ≠ 0 → F = []) := by
  rcases h with ⟨_, _, rfl⟩ | ⟨a1, ⟨rfl, h1, _⟩ | ⟨_, rfl, _⟩⟩
  · exact ⟨by simp, fun _ => rfl⟩
  · exact ⟨by have := (bmay_zero a1).2.1; omega, fun h => absurd rfl h⟩
  · exact ⟨by simp, fun _ => rfl⟩
/-- Sets in memory, by their address. -/
def SetV (w : World) (a : Option Addr) (F : Sts) : Prop := ∀ j (hj : j < F.length), ∃ g v, a = some ⟨g, 0, none⟩ ∧ w.cell? ⟨g, j, none⟩ = some v ∧ Row w w.heap.size 1 v F[j].length (svt F[j]) ∧ g < w.heap.size
theorem SetV.below {w w' : World} {a : Option Addr} {F : Sts} (h : SetV w a F) (hb : Below w.heap.size w w') : SetV w' a F := fun j hj => by
  obtain ⟨g, v, h1, h2, h3, h4⟩ := h j hj
  exact ⟨g, v, h1, (hb.cell (p := ⟨g, j, none⟩) h4).trans h2, (h3.below hb).mono hb.size, Nat.lt_of_lt_of_le h4 hb.size⟩
theorem SetsR.v {w : World} {g N c : Nat} {F : Sts} (h : SetsR w g N c F) : SetV w (some ⟨g, 0, none⟩) F := fun j hj => by
  obtain ⟨v, h1, h2⟩ := h.at_ j hj
  exact ⟨g, v, rfl, h1, h2, h.lt⟩
def FolA (w : World) (b : Bn) (e : Ending) (w' : World) : Prop := (∃ a c x F, e = .returned (.tuple #[.slice a (List.length F) c, .int .i64 x]) ∧ FolV b x F ∧ SetV w' a F) ∧ Below w.heap.size w w'
theorem SetV.nil (w : World) (a : Option Addr) : SetV w a [] := fun j hj => by simp at hj
theorem FolP.a {w w' : World} {b : Bn} {e : Ending} (h : FolP w b e w') : FolA w b e w' := by
  refine ⟨?_, h.2⟩
  rcases h.1 with ⟨h0, rfl⟩ | ⟨h0, ⟨g, F, S, rfl, hS, hn, hI, hC, hR⟩ | ⟨rfl, ho⟩⟩
  · exact ⟨none, 0, _, [], rfl, .inl ⟨h0, rfl, rfl⟩, SetV.nil _ _⟩
  · exact ⟨_, _, _, F, by rw [hR.len], .inr ⟨h0, .inl ⟨rfl, hR.len, S, hS, hn, hI, hC⟩⟩, hR.v⟩
  · exact ⟨none, 0, _, [], rfl, .inr ⟨h0, .inr ⟨rfl, rfl, ho⟩⟩, SetV.nil _ _⟩
theorem RFolP.a {w w' : World} {b : Bn} {e : Ending} (h : RFolP w b e w') : FolA w b e w' := by
  refine ⟨?_, h.2⟩
  rcases h.1 with ⟨h0, rfl⟩ | ⟨h0, ⟨g, c, F, S, rfl, hS, hn, hI, hC, hR⟩ | ⟨rfl, ho⟩⟩
  · exact ⟨none, 0, _, [], rfl, .inl ⟨h0, rfl, rfl⟩, SetV.nil _ _⟩
  · exact ⟨_, c, _, F, by rw [hR.len], .inr ⟨h0, .inl ⟨rfl, hR.len, S, hS, hn, hI, hC⟩⟩, hR.v⟩
  · exact ⟨none, 0, _, [], rfl, .inr ⟨h0, .inr ⟨rfl, rfl, ho⟩⟩, SetV.nil _ _⟩
/-- What follow.Behind answers. -/
def BehP (w : World) (b : Bn) (n : Int) (e : Ending) (w' : World) : Prop := (∃ v x y F, e = .returned (.tuple #[v, .int .i64 x]) ∧ FolV b y F ∧ ((y ≠ 0 ∧ x = y ∧ v = .slice none 0 0) ∨ (y = 0 ∧ ¬ (0 ≤ n ∧ n < F.length) ∧ x = 3 ∧ v = .slice none 0 0) ∨ (y = 0 ∧ 0 ≤ n ∧ x = 0 ∧ ∃ h : n.toNat < F.length, Row w' w'.heap.size 1 v F[n.toNat].length (svt F[n.toNat])))) ∧ Below w.heap.size w w'
set_option maxHeartbeats 4000000 in
set_option maxRecDepth 100000 in
theorem behind_any (b : Bn) (n : Int) (tk lk : Int) (ov lv : Value) (B : Nat) (w : World) (etk : b.toks = tk) (elk : b.look = lk) (hB : B ≤ w.heap.size) (r : BR w B ov lv b) (hcnt : ∀ S, (stAll b.look S b.l).length ≤ 100000) (hn64 : -9223372036854775808 ≤ n ∧ n ≤ 9223372036854775807) :
    Calls Try.prog 23 #[.agg #[.int .i64 tk, .int .i64 lk, ov, lv], .int .i64 n] w (BehP w b n) := by
  have hbox := BoxB.new tk lk 25 hB r
  have hb1 := (Below.refl w.heap.size w).alloc (Nat.le_refl _) (.cells #[.int .i64 tk, .int .i64 lk, ov, lv] 25)
  have hfi := followOf_any b tk lk ov lv B _ etk elk hbox.le hbox.r hcnt
  have Hbox := Lib.hid hbox; have Hb1 := Lib.hid hb1; have Hfi := Lib.hid hfi
  clear hbox hb1 hfi r hB etk elk hcnt
  go_enter Try.func23, Try.ntmps23
  go_upto_region 1 with fail
  generalize w.alloc (.cells #[.int .i64 tk, .int .i64 lk, ov, lv] 25) = w1 at *
  obtain ⟨c0, c1, c2, c3⟩ := Hbox.out.four
  go_wp2_with fail
  refine (Hfi.out).mono ?_
  intro e w2 hp
  obtain ⟨⟨a, c, x, F, rfl, hV, hS⟩, hb2⟩ := hp.a
  have HB2 := Lib.hid (Hb1.out.trans (hb2.mono Hb1.out.size))
  obtain ⟨hl5, hx0⟩ := hV.len
  have HV := Lib.hid hV; have HS := Lib.hid hS; have Hx0 := Lib.hid hx0
  obtain ⟨fl, hfl⟩ : ∃ fl, fl = F.length := ⟨_, rfl⟩
  rw [← hfl] at hl5 ⊢
  have Hfl := Lib.hid hfl
  clear hp hb2 hV hS hx0 hfl c0 c1 c2 c3 Hfi Hbox
  by_cases hx : x = 0
  · subst hx
    by_cases h1 : n < 0
    · have q1 : decide (n < 0) = true := decide_eq_true h1
      have HE : Hid (BehP w b n (.returned (.tuple #[.slice none 0 0, .int .i64 3])) w2) := Lib.hid ⟨⟨_, _, _, F, rfl, HV.out, .inr (.inl ⟨rfl, fun h => by omega, rfl, rfl⟩)⟩, HB2.out⟩
      clear h1
      go_wp2_with fail
      go_ret2
      exact HE.out
    · have q1 : decide (n < 0) = false := decide_eq_false h1
      by_cases h2 : n < (fl : Int)
      · obtain ⟨n', rfl⟩ : ∃ n' : Nat, n = (n' : Int) := ⟨n.toNat, by omega⟩
        have hnf : n' < F.length := by have := Hfl.out; omega
        obtain ⟨g, v, rfl, hc, hr, hg⟩ := HS.out n' hnf
        have h3 : (0 : Int) ≤ (n' : Int) := by omega
        have q2 : decide (n' < fl) = true := decide_eq_true (by omega)
        have HE : Hid (BehP w b (n' : Int) (.returned (.tuple #[v, .int .i64 0])) w2) := Lib.hid ⟨⟨_, _, _, F, rfl, HV.out, .inr (.inr ⟨rfl, h3, rfl, by rw [Int.toNat_natCast]; exact ⟨hnf, hr⟩⟩)⟩, HB2.out⟩
        clear hr h1 hnf
        go_wp2_with fail
        go_ret2
        exact HE.out
      · have q2 : decide (n < (fl : Int)) = false := decide_eq_false h2
        have q3 : decide ((fl : Int) ≤ n) = true := decide_eq_true (by omega)
        have HE : Hid (BehP w b n (.returned (.tuple #[.slice none 0 0, .int .i64 3])) w2) := Lib.hid ⟨⟨_, _, _, F, rfl, HV.out, .inr (.inl ⟨rfl, fun h => by have := Hfl.out; omega, rfl, rfl⟩)⟩, HB2.out⟩
        clear h2
        go_wp2_with fail
        go_ret2
        exact HE.out
  · have q1 : (x == 0) = false := by rw [beq_eq_false_iff_ne]; exact hx
    have q2 : (x != 0) = true := by rw [bne_iff_ne]; exact hx
    have HE : Hid (BehP w b n (.returned (.tuple #[.slice none 0 0, .int .i64 x])) w2) := Lib.hid ⟨⟨_, _, _, F, rfl, HV.out, .inl ⟨hx, rfl, rfl⟩⟩, HB2.out⟩
    clear hx
    go_wp2_with fail
    go_ret2
    exact HE.out
end Go.Proofs.Ytimgnbacgdmiiaa
