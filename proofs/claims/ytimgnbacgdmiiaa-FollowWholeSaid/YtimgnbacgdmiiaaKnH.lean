/-
  follow.stands: what it answers.
-/
import Derived.Test.YtimgnbacgdmiiaaKnG
namespace Go.Proofs.Ytimgnbacgdmiiaa
open Go.RowKit PK Go.Maps Go.WideMaps
set_option linter.unusedVariables false
set_option linter.unusedSimpArgs false
attribute [local go_sem ↓] append_appM

/-- What stands answers. -/
def StandsP (w : World) (b : Bn) (k : Int) (S : Sts) (e : Ending) (w' : World) : Prop :=
  ((OverSt b k S ∧ e = .returned (.tuple #[.slice none 0 0, .bool false])) ∨ (¬ OverSt b k S ∧ ∃ la lc L, e = .returned (.tuple #[.slice la (List.length L) lc, .bool true]) ∧ L.map Sd.tri = stAll k S b.l ∧ SdR w' w.heap.size (.slice la L.length lc) L ∧ L.length ≤ 1100000)) ∧ Below w.heap.size w w'
set_option maxHeartbeats 8000000 in
set_option maxRecDepth 100000 in
theorem stands_any (b : Bn) (tk lk : Int) (ov lv : Value) (B : Nat) (w : World) (g c : Nat) (k : Int) (kk : Nat) (S : Sts) (etk : b.toks = tk) (elk : b.look = lk) (hB : B ≤ w.heap.size) (r : BR w B ov lv b) (h0 : bmay b = 0) (h : SetsR w g b.of.length c S) (hS : SOk k S) (hk : 1 ≤ k ∧ k ≤ 4) (hkx : w.cell? ⟨kk, 0, none⟩ = some (.int .i64 k)) (hkk : kk < w.heap.size) :
    Calls Try.prog 44 #[.agg #[.int .i64 tk, .int .i64 lk, ov, lv], .slice (some ⟨g, 0, none⟩) b.of.length c, .func (.func 60) #[] #[.pointer (some ⟨kk, 0, none⟩)]] w (StandsP w b k S) := by
  obtain ⟨oa, oc, rfl, ho1, ho2⟩ := r.of.val
  obtain ⟨la, lc, rfl, hl1, hl2⟩ := r.l.val
  subst etk elk
  obtain ⟨z1, z2, z3, z4, z5, z6, z7, z8, z9, z10⟩ := bmay_zero h0
  have hbox := BoxB.new b.toks b.look 25 hB r
  have hb1 := (Below.refl w.heap.size w).alloc (Nat.le_refl _) (.cells #[.int .i64 b.toks, .int .i64 b.look, .slice oa b.of.length oc, .slice la b.l.length lc] 25)
  have hkn := know_any (w.alloc (.cells #[.int .i64 b.toks, .int .i64 b.look, .slice oa b.of.length oc, .slice la b.l.length lc] 25)) g b.of.length c k kk S (h.below hb1) hk ((hb1.cell (p := ⟨kk, 0, none⟩) hkk).trans hkx) (Nat.lt_of_lt_of_le hkk hb1.size)
  have hwide : ∀ p ∈ b.l, (0 ≤ p.left ∧ p.left < b.of.length) ∧ ∀ s ∈ p.right, (s.tok = true → 0 ≤ s.n ∧ s.n ≤ 255) ∧ (s.tok = false → 0 ≤ s.n ∧ s.n < b.of.length) := fun p hp => ⟨by have := prOk_left (z6 p hp); omega, fun s hs => ⟨fun ht => by have := prOk_tok (z6 p hp) hs ht; omega, fun ht => prOk_sym (z6 p hp) hs ht⟩⟩
  obtain ⟨ol, hol⟩ : ∃ ol, ol = b.of.length := ⟨_, rfl⟩
  obtain ⟨ll, hll⟩ : ∃ ll, ll = b.l.length := ⟨_, rfl⟩
  obtain ⟨tk, htk⟩ : ∃ tk, tk = b.toks := ⟨_, rfl⟩
  obtain ⟨lk, hlk⟩ : ∃ lk, lk = b.look := ⟨_, rfl⟩
  rw [← hol, ← hll, ← htk, ← hlk] at hbox hb1 hkn
  rw [← hol] at hwide
  rw [← hol, ← hll, ← htk, ← hlk]
  have Hbox := Lib.hid hbox; have Hb1 := Lib.hid hb1; have Hkn := Lib.hid hkn; have Hwide := Lib.hid hwide; have Hll := Lib.hid hll; have HS := Lib.hid hS; have Hk := Lib.hid hk
  have Hr5 := Lib.hid z5
  have hl2000 : ll ≤ 2000 := by omega
  have ho500 : ol ≤ 500 := by omega
  clear r hbox hb1 hkn hwide hol hll htk hlk ho1 ho2 hl1 hl2 hB h hS hk hkx hkk z1 z2 z3 z4 z5 z6 z7 z8 z9 z10 h0
  go_enter Try.func44, Try.ntmps44
  go_upto_region 1 with fail
  generalize w.alloc (.cells #[.int .i64 tk, .int .i64 lk, .slice oa ol oc, .slice la ll lc] 25) = w1 at *
  go_wp2_with fail
  refine (Hkn.out).mono ?_
  rintro e w2 ⟨kb, am, nm, cv, C, rfl, hK, hC0, hb2⟩
  have HI0 := Lib.hid (StI.start (W := w1) hK hC0 hb2)
  have HB2 : Hid (Below w1.heap.size w1 w2) := Lib.hid hb2
  have HLo : Hid (w.heap.size ≤ w1.heap.size) := Lib.hid Hb1.out.size
  have Hbx : Hid (∀ W', Below w1.heap.size w1 W' → W'.cell? ⟨w.heap.size, 3, none⟩ = some (.slice la ll lc)) := Lib.hid fun W' hW => (Hbox.out.keep hW).c3
  have c3 := Hbx.out _ hb2
  clear hK hC0 hb2 Hkn
  go_wp2_with fail
  clear c3
  go_loopw [8, 22] (fun lv iv wr => ∃ (i1 ln : Nat) (xa : Option Addr) (xc : Nat), i1 ≤ ll ∧ ln ≤ 1100000 ∧ iv = .int .i64 (i1 : Nat) ∧ lv = .slice xa ln xc ∧ Hid (StI w1 w1.heap.size kb am nm g ol c k kk S (500 * i1) [] [] (stAll k S (b.l.take i1)) wr lv ln) ∧ Hid (∀ p ∈ b.l.take i1, ∀ i, ¬ OverAt k S p i)) (fun _ iv _ => ll - (intOf iv).toNat)
  case atStart => exact ⟨0, 0, none, 0, Nat.zero_le _, Nat.zero_le _, rfl, rfl, HI0, Lib.hid (fun p hp => by cases hp)⟩
  case round =>
    clear HI0
    obtain ⟨i1, ln, xa, xc, hi, hln, rfl, rfl, HI, HNo⟩ := hrel
    by_cases hlt : i1 < ll
    · have hlt' : i1 < b.l.length := by have := Hll.out; omega
      obtain ⟨b1, o1, a1, d1, hao, hbb, e0, e1, rk, m1, m2⟩ := Hbox.out.r.l.get i1 hlt'
      subst hao
      have hpm := List.getElem_mem hlt'
      have hr5 := Hr5.out _ hpm
      have hsu := stAll_succ k S b.l i1 hlt'
      have htk : b.l.take (i1 + 1) = b.l.take i1 ++ [b.l[i1]] := List.take_succ_eq_append_getElem hlt'
      obtain ⟨hpl, hps⟩ := Hwide.out _ hpm
      generalize b.l[i1] = p at *
      obtain ⟨x, rt⟩ := p
      simp only at e0 e1 rk m1 hpl hps hr5
      have hlow := HI.out.bel
      have hb1l : b1 < w1.heap.size := Nat.lt_of_lt_of_le hbb Hbox.out.le
      have f0 := (hlow.cell (p := ⟨b1, o1 + i1 * 2, none⟩) hb1l).trans e0
      have f1 := (hlow.cell (p := ⟨b1, o1 + i1 * 2 + 1, none⟩) hb1l).trans e1
      have hrk := Lib.hid (fun W' (hW : Below w1.heap.size w1 W') => (show SR W' B (.slice a1 rt.length d1) rt from Row.below rk (hW.mono Hbox.out.le)))
      have hI2 := HI.out.add (.cells #[.int .i64 x, .slice a1 rt.length d1] 57)
      have y0 : (wr.alloc (.cells #[.int .i64 x, .slice a1 rt.length d1] 57)).cell? ⟨wr.heap.size, 1, none⟩ = some (.slice a1 rt.length d1) := cell_new wr _ _ 1 _ rfl
      obtain ⟨rn, hrn⟩ : ∃ rn, rn = rt.length := ⟨_, rfl⟩
      rw [← hrn] at f1 hrk hI2 y0 hr5
      have HI2 := Lib.hid hI2
      have Hrn := Lib.hid hrn; have Hps := Lib.hid hps; have Hpm := Lib.hid hpm; have Hsu := Lib.hid hsu; have Htk := Lib.hid htk
      have hi1 : (i1 : Int) < (ll : Int) := by omega
      have hi2 : (0 : Int) ≤ (i1 : Int) := by omega
      have Hlt := Lib.hid hlt
      clear hI2 rk e0 e1 hlow hrn hps hpm hsu htk hlt' hlt hi m1 m2 hpl hbb hb1l
      go_upto_region 6 with fail
      generalize hwp : wr.alloc (.cells #[.int .i64 x, .slice a1 rn d1] 57) = wp at *
      clear hwp f0 f1
      obtain ⟨pb, hpb⟩ : ∃ pb, pb = wr.heap.size := ⟨_, rfl⟩
      rw [← hpb] at HI2 y0 ⊢
      clear hpb
      have HI3 : Hid (StI w1 w1.heap.size kb am nm g ol c k kk S (500 * i1 + 0) [(pb, .cells #[.int .i64 x, .slice a1 rn d1] 57 (0, 0))] [] (stAll k S (b.l.take i1) ++ stPr k S ⟨x, rt⟩ 0) wp (.slice xa ln xc) ln) := Lib.hid (by
        have e1 : stPr k S ⟨x, rt⟩ 0 = [] := rfl
        rw [e1, List.append_nil]; exact HI2.out)
      have hln0 : ln ≤ 500 * i1 + 0 := by
        obtain ⟨L, _, _, _, _, _, h3, _, h5, _⟩ := HI2.out
        simp at h5; omega
      clear HI2 HI
      go_wp2_with fail
      clear y0 hln
      go_loopw [8, 29] (fun lv iv wx => ∃ (i2 ln : Nat) (xa : Option Addr) (xc : Nat), i2 ≤ rn ∧ ln ≤ 500 * i1 + i2 ∧ iv = .int .i64 (i2 : Nat) ∧ lv = .slice xa ln xc ∧ Hid (StI w1 w1.heap.size kb am nm g ol c k kk S (500 * i1 + i2) [(pb, .cells #[.int .i64 x, .slice a1 rn d1] 57 (0, 0))] [] (stAll k S (b.l.take i1) ++ stPr k S ⟨x, rt⟩ i2) wx lv ln) ∧ Hid (∀ i, i < i2 → ¬ OverAt k S ⟨x, rt⟩ i)) (fun _ iv _ => rn - (intOf iv).toNat)
      case atStart => exact ⟨0, ln, xa, xc, Nat.zero_le _, hln0, rfl, rfl, HI3, Lib.hid (fun i hi => by omega)⟩
      case round =>
        clear HI3 hln0
        obtain ⟨i2, ln, xa, xc, hi, hln, rfl, rfl, HI, HNo2⟩ := hrel
        have hln9 : ln ≤ 1100000 := by omega
        have hI0 := HI.out
        have hpbx := hI0.gets (List.mem_singleton.2 rfl)
        have p0 : wr.cell? ⟨pb, 0, none⟩ = some (.int .i64 x) := by rw [cell_of_row wr pb _ _ _ (0, 0) hpbx]; rfl
        have p1 : wr.cell? ⟨pb, 1, none⟩ = some (.slice a1 rn d1) := by rw [cell_of_row wr pb _ _ _ (0, 0) hpbx]; rfl
        by_cases hlt2 : i2 < rn
        · have hir : i2 < rt.length := by have := Hrn.out; omega
          obtain ⟨b6, o6, hao, hb6, g0, g1⟩ := SR.get (show SR wr B (.slice a1 rt.length d1) rt by have := hrk.out wr HI.out.bel; rw [Hrn.out] at this; exact this) i2 hir
          subst hao
          have hsn := Hps.out rt[i2] (List.getElem_mem hir)
          have hat : rt[i2]? = some rt[i2] := List.getElem?_eq_getElem hir
          generalize rt[i2] = s at *
          obtain ⟨t, n⟩ := s
          simp only at g0 g1 hsn
          have hI4 := HI.out.add (.cells #[.bool t, .int .i64 n] 39)
          have HI4 := Lib.hid hI4
          have y0 : (wr.alloc (.cells #[.bool t, .int .i64 n] 39)).cell? ⟨wr.heap.size, 0, none⟩ = some (.bool t) := cell_new wr _ _ 0 _ rfl
          have Hat := Lib.hid hat
          have hi21 : (i2 : Int) < (rn : Int) := by omega
          have hi20 : (0 : Int) ≤ (i2 : Int) := by omega
          have hi29 : (i2 : Int) ≤ 500 := by omega
          have Hlt2 := Lib.hid hlt2
          have Hsucc : Hid (stPr k S ⟨x, rt⟩ (i2 + 1) = stPr k S ⟨x, rt⟩ i2 ++ stOne k S ⟨x, rt⟩ i2) := Lib.hid (stPr_succ _ _ _ _)
          clear hI4 hI0 hpbx hat hlt2 hi hir hb6
          cases t with
          | true =>
            have HI5 : Hid (StI w1 w1.heap.size kb am nm g ol c k kk S (500 * i1 + (i2 + 1)) [(pb, .cells #[.int .i64 x, .slice (some ⟨b6, o6, none⟩) rn d1] 57 (0, 0))] [] (stAll k S (b.l.take i1) ++ stPr k S ⟨x, rt⟩ (i2 + 1)) (wr.alloc (.cells #[.bool true, .int .i64 n] 39)) (.slice xa ln xc) ln) := Lib.hid (by
              have e1 : stOne k S ⟨x, rt⟩ i2 = [] := by unfold stOne; simp only [Hat.out, if_true]
              rw [Hsucc.out, e1, List.append_nil]
              exact (HI4.out.more (by omega)).drop (fun y hy => List.mem_cons_of_mem _ hy))
            have HN3 : Hid (∀ i, i < i2 + 1 → ¬ OverAt k S ⟨x, rt⟩ i) := Lib.hid fun i hi ho => by
              rcases Nat.lt_or_ge i i2 with h1 | h1
              · exact HNo2.out i h1 ho
              · obtain rfl : i = i2 := by omega
                obtain ⟨s, h2, h3, _⟩ := ho
                rw [show (Pr.mk x rt).right[i]? = _ from Hat.out] at h2
                rw [← Option.some.inj h2] at h3
                cases h3
            clear HI4 p0 p1 HI HNo2
            go_wp2_with fail
            go_roundw
            case rel => exact ⟨i2 + 1, ln, xa, xc, Hlt2.out, by omega, by go_num, rfl, HI5, HN3⟩
            case measure => have := Hlt2.out; simp [intOf]; omega
          | false =>
            go_upto_region 10 with fail
            obtain ⟨ws, hws⟩ : ∃ ws, ws = wr.alloc (.cells #[.bool false, .int .i64 n] 39) := ⟨_, rfl⟩
            obtain ⟨sb, hsb⟩ : ∃ sb, sb = wr.heap.size := ⟨_, rfl⟩
            rw [← hws] at HI4 y0 ⊢
            rw [← hsb] at HI4 y0 ⊢
            clear hws hsb p0 p1
            have hpb2 := HI4.out.gets (List.mem_cons_of_mem _ (List.mem_singleton.2 rfl))
            have p0 : ws.cell? ⟨pb, 0, none⟩ = some (.int .i64 x) := by rw [cell_of_row ws pb _ _ _ (0, 0) hpb2]; rfl
            have p1 : ws.cell? ⟨pb, 1, none⟩ = some (.slice (some ⟨b6, o6, none⟩) rn d1) := by rw [cell_of_row ws pb _ _ _ (0, 0) hpb2]; rfl
            have hd1 : (rn : Int) ≤ (d1 : Int) := by
              obtain ⟨_, _, e, h1, _⟩ := Row.val (hrk.out ws HI4.out.bel)
              cases e
              have := Hrn.out; omega
            have hrow : ∀ sv, SR ws B sv (rt.drop (i2 + 1)) → _ := fun sv hsv => HI4.out.row (rt.drop (i2 + 1)) sv B hsv Hbox.out.le (fun s hs => Hps.out s (List.mem_of_mem_drop hs)) Hk.out (by omega) HS.out (by rw [List.length_drop]; have := Hrn.out; omega) (by omega) x n
            have Hrow := Lib.hid hrow
            have Hsr1 : Hid (SR ws B (.slice (some ⟨b6, o6 + (i2 + 1) * 2, none⟩) (rn - (i2 + 1)) (d1 - (i2 + 1))) (rt.drop (i2 + 1))) := Lib.hid (by
              have h1 := row_dropB (show Row ws B 2 (.slice (some ⟨b6, o6, none⟩) rt.length d1) rt.length (symC rt) by have := hrk.out ws HI4.out.bel; rw [Hrn.out] at this; exact this) (i2 + 1) (by have := Hrn.out; have := Hlt2.out; omega)
              rw [symC_drop, ← Hrn.out] at h1
              unfold SR; rw [List.length_drop, ← Hrn.out]; exact h1)
            have Hsr2 : d1 = i2 + 1 → SR ws B (.slice (some ⟨b6, o6, none⟩) (rn - (i2 + 1)) 0) (rt.drop (i2 + 1)) := fun hd => by
              have e1 : rn - (i2 + 1) = 0 := by omega
              have e2 : rt.drop (i2 + 1) = [] := List.drop_eq_nil_of_le (by have := Hrn.out; omega)
              rw [e1, e2]
              refine ⟨rfl, Nat.zero_le _, .inr ⟨_, 0, rfl, Nat.le_refl _, Nat.zero_le _, .inl rfl, fun j u hu => by cases hu⟩⟩
            have HSr2 := Lib.hid Hsr2
            have Hatt : Hid (∀ r, r = rowS k S (rt.drop (i2 + 1)) → stOne k S ⟨x, rt⟩ i2 = [(x, n, r)]) := Lib.hid fun r hr => by
              unfold stOne
              rw [show (Pr.mk x rt).right[i2]? = _ from Hat.out]
              simp only [Bool.false_eq_true, if_false]
              rw [hr]
            clear hpb2 hrow Hsr2
            go_wp2_with fail
            · subst h
              have hsv := Lib.hid (Hrow.out _ (HSr2.out rfl))
              clear Hrow Hsr1 HSr2
              generalize Value.slice (some ⟨b6, o6, none⟩) (rn - (i2 + 1)) 0 = sv at *
              refine (hsv.out).mono ?_
              rintro e w6 (⟨hov, rfl, hb6⟩ | ⟨hno, va, vc, rfl, hI6⟩)
              · have HE : Hid (StandsP w b k S (.returned (.tuple #[.slice none 0 0, .bool false])) w6) := Lib.hid ⟨.inl ⟨⟨_, Hpm.out, i2, _, Hat.out, rfl, hov⟩, rfl⟩, Hb1.out.trans (hb6.mono HLo.out)⟩
                clear hov hb6 hsv
                go_wp2_with fail
                go_ret2
                exact HE.out
              · have Hone := Lib.hid (Hatt.out _ rfl)
                obtain ⟨R, hR⟩ : ∃ R, R = rowS k S (rt.drop (i2 + 1)) := ⟨_, rfl⟩
                rw [← hR] at hI6 Hone ⊢
                clear hR
                have Hno := Lib.hid hno
                obtain ⟨yn, hyn⟩ : ∃ yn, yn = R.length := ⟨_, rfl⟩
                have hpb2 := hI6.gets (List.mem_cons_of_mem _ (List.mem_singleton.2 rfl))
                have hsb2 := hI6.gets List.mem_cons_self
                have p0 : w6.cell? ⟨pb, 0, none⟩ = some (.int .i64 x) := by rw [cell_of_row w6 pb _ _ _ (0, 0) hpb2]; rfl
                have s1 : w6.cell? ⟨sb, 1, none⟩ = some (.int .i64 n) := by rw [cell_of_row w6 sb _ _ _ (0, 0) hsb2]; rfl
                obtain ⟨a7, c7, w7, happ, hI7⟩ := hI6.push (by omega)
                rw [← hyn] at happ ⊢
                have HI8 : Hid (StI w1 w1.heap.size kb am nm g ol c k kk S (500 * i1 + (i2 + 1)) [(pb, .cells #[.int .i64 x, .slice (some ⟨b6, o6, none⟩) rn (i2 + 1)] 57 (0, 0))] [] (stAll k S (b.l.take i1) ++ stPr k S ⟨x, rt⟩ (i2 + 1)) w7 (.slice a7 (ln + 1) c7) (ln + 1)) := Lib.hid (by
                  rw [Hsucc.out, Hone.out, ← List.append_assoc]
                  exact hI7.drop (fun y hy => List.mem_cons_of_mem _ hy))
                have HN3 : Hid (∀ i, i < i2 + 1 → ¬ OverAt k S ⟨x, rt⟩ i) := Lib.hid fun i hi ho => by
                  rcases Nat.lt_or_ge i i2 with h1 | h1
                  · exact HNo2.out i h1 ho
                  · obtain rfl : i = i2 := by omega
                    obtain ⟨s, _, _, h4⟩ := ho
                    exact Hno.out h4
                clear hpb2 hsb2 hI6 hI7 hno hyn hsv HI4 HI HNo2
                go_wp2_with fail
                go_roundw
                case rel => exact ⟨i2 + 1, ln + 1, a7, c7, Hlt2.out, by omega, by go_num, rfl, HI8, HN3⟩
                case measure => have := Hlt2.out; simp [intOf]; omega
            · have hsv := Lib.hid (Hrow.out _ Hsr1.out)
              clear Hrow Hsr1 HSr2 h
              generalize Value.slice (some ⟨b6, o6 + (i2 + 1) * 2, none⟩) (rn - (i2 + 1)) (d1 - (i2 + 1)) = sv at *
              refine (hsv.out).mono ?_
              rintro e w6 (⟨hov, rfl, hb6⟩ | ⟨hno, va, vc, rfl, hI6⟩)
              · have HE : Hid (StandsP w b k S (.returned (.tuple #[.slice none 0 0, .bool false])) w6) := Lib.hid ⟨.inl ⟨⟨_, Hpm.out, i2, _, Hat.out, rfl, hov⟩, rfl⟩, Hb1.out.trans (hb6.mono HLo.out)⟩
                clear hov hb6 hsv
                go_wp2_with fail
                go_ret2
                exact HE.out
              · have Hone := Lib.hid (Hatt.out _ rfl)
                obtain ⟨R, hR⟩ : ∃ R, R = rowS k S (rt.drop (i2 + 1)) := ⟨_, rfl⟩
                rw [← hR] at hI6 Hone ⊢
                clear hR
                have Hno := Lib.hid hno
                obtain ⟨yn, hyn⟩ : ∃ yn, yn = R.length := ⟨_, rfl⟩
                have hpb2 := hI6.gets (List.mem_cons_of_mem _ (List.mem_singleton.2 rfl))
                have hsb2 := hI6.gets List.mem_cons_self
                have p0 : w6.cell? ⟨pb, 0, none⟩ = some (.int .i64 x) := by rw [cell_of_row w6 pb _ _ _ (0, 0) hpb2]; rfl
                have s1 : w6.cell? ⟨sb, 1, none⟩ = some (.int .i64 n) := by rw [cell_of_row w6 sb _ _ _ (0, 0) hsb2]; rfl
                obtain ⟨a7, c7, w7, happ, hI7⟩ := hI6.push (by omega)
                rw [← hyn] at happ ⊢
                have HI8 : Hid (StI w1 w1.heap.size kb am nm g ol c k kk S (500 * i1 + (i2 + 1)) [(pb, .cells #[.int .i64 x, .slice (some ⟨b6, o6, none⟩) rn d1] 57 (0, 0))] [] (stAll k S (b.l.take i1) ++ stPr k S ⟨x, rt⟩ (i2 + 1)) w7 (.slice a7 (ln + 1) c7) (ln + 1)) := Lib.hid (by
                  rw [Hsucc.out, Hone.out, ← List.append_assoc]
                  exact hI7.drop (fun y hy => List.mem_cons_of_mem _ hy))
                have HN3 : Hid (∀ i, i < i2 + 1 → ¬ OverAt k S ⟨x, rt⟩ i) := Lib.hid fun i hi ho => by
                  rcases Nat.lt_or_ge i i2 with h1 | h1
                  · exact HNo2.out i h1 ho
                  · obtain rfl : i = i2 := by omega
                    obtain ⟨s, _, _, h4⟩ := ho
                    exact Hno.out h4
                clear hpb2 hsb2 hI6 hI7 hno hyn hsv HI4 HI HNo2
                go_wp2_with fail
                go_roundw
                case rel => exact ⟨i2 + 1, ln + 1, a7, c7, Hlt2.out, by omega, by go_num, rfl, HI8, HN3⟩
                case measure => have := Hlt2.out; simp [intOf]; omega
        · obtain rfl : i2 = rn := by omega
          have hi0 : decide (i2 < i2) = false := by simp
          have HI9 : Hid (StI w1 w1.heap.size kb am nm g ol c k kk S (500 * (i1 + 1)) [] [] (stAll k S (b.l.take (i1 + 1))) wr (.slice xa ln xc) ln) := Lib.hid (by
            have h1 := Hsu.out
            rw [h1, ← Hrn.out]
            exact (HI.out.more (by omega)).drop (fun y hy => by cases hy))
          have HN9 : Hid (∀ p ∈ b.l.take (i1 + 1), ∀ i, ¬ OverAt k S p i) := Lib.hid fun p hp i ho => by
            rw [Htk.out] at hp
            rcases List.mem_append.1 hp with h1 | h1
            · exact HNo.out p h1 i ho
            · rw [List.mem_singleton.1 h1] at ho
              refine HNo2.out i ?_ ho
              obtain ⟨s, h2, _⟩ := ho
              have h3 : i < rt.length := (List.getElem?_eq_some_iff.1 h2).1
              have := Hrn.out; omega
          clear HI hlt2 hi HNo2 hI0 hpbx p0 p1
          go_wp2_with fail
          go_roundw
          case rel => exact ⟨i1 + 1, ln, xa, xc, Hlt.out, hln9, by go_num, rfl, HI9, HN9⟩
          case measure => have := Hlt.out; simp [intOf]; omega
    · obtain rfl : i1 = ll := by omega
      have hi0 : decide (i1 < i1) = false := by simp
      have hE : b.l.take i1 = b.l := List.take_of_length_le (by have := Hll.out; omega)
      have hI := HI.out
      have hN := HNo.out
      rw [hE] at hI hN
      obtain ⟨L, cv9, C9, _, _, hS9, rfl, hM, _, hB9, _⟩ := hI
      have HE : Hid (StandsP w b k S (.returned (.tuple #[.slice xa L.length xc, .bool true])) wr) := Lib.hid ⟨.inr ⟨fun ⟨p, hp, i, ho⟩ => hN p hp i ho, xa, xc, L, rfl, hM, ⟨owns_basePK hS9.own HLo.out, hS9.each⟩, hln⟩, Hb1.out.trans (hB9.mono HLo.out)⟩
      generalize L.length = ln at *
      clear hN hS9 hM hB9 hE HI HNo hlt hi
      go_wp2_with fail
      go_ret2
      exact HE.out
end Go.Proofs.Ytimgnbacgdmiiaa
