/-
  FirstAll: words begin with beginnings.
-/
import Derived.Test.YtimgnbacgdmiiaaFwK
namespace Go.Proofs.Ytimgnbacgdmiiaa
open Go.RowKit PK
set_option linter.unusedVariables false
set_option linter.unusedSimpArgs false
attribute [local go_sem ↓] append_appM

set_option maxHeartbeats 1000000 in
theorem refIn_any (v : Value) (a : List Tx) (t : Tx) (B : Nat) (w : World) (hown : Row w B 1 v a.length (svt a)) (ha : IsSet a) (hl : a.length ≤ 900000000000) (s : ByteArray) (hs : s = ⟨t.toArray⟩) :
    Calls Try.prog 20 #[v, .string s] w fun e w' => e = .returned (.bool (decide (t ∈ a))) ∧ w' = w := by
  subst hs
  have R := Lib.hid hown
  have Ha := Lib.hid ha
  obtain ⟨ao, c, rfl, hc1, hc2⟩ := hown.val
  clear hown ha
  have hl63 : a.length ≤ 9223372036854775807 := by omega
  go_enter Try.func20, Try.ntmps20
  go_wp2_with fail
  go_loop [5, 6, 7] (fun i j _ => ∃ lo hi : Nat, i = .int .i64 lo ∧ j = .int .i64 hi ∧ CutAt a t lo hi) (fun i j _ => (intOf j).toNat - (intOf i).toNat)
  case atStart => exact ⟨0, a.length, rfl, rfl, CutAt.start a t⟩
  case round =>
    obtain ⟨lo, hi, rfl, rfl, hcut⟩ := hrel
    have hle := hcut.le; have hhi := hcut.bnd
    have Hcut := Lib.hid hcut; clear hcut
    by_cases hlt : lo < hi
    · obtain ⟨m, hm⟩ : ∃ m, m = (lo + hi) / 2 := ⟨_, rfl⟩
      have hm1 : lo ≤ m := by omega
      have hm2 : m < hi := by omega
      have hhalf : ((lo : Int) + (hi : Int)) / 2 = (m : Int) := by omega
      have hma : m < a.length := by omega
      obtain ⟨b1, o1, rfl, hb1, _⟩ := R.out.at (by rw [svt_length]; omega)
      have c10 := R.out.cell m _ (svt_at a m hma)
      have Hup := Lib.hid (Hcut.out.up Ha.out m hma hm1 hm2)
      have Hdn := Lib.hid (Hcut.out.down Ha.out m hma hm1 hm2)
      have hm0 : (0 : Int) ≤ (m : Int) := by omega
      have hm3 : (m : Int) < (a.length : Int) := by omega
      have Hm := Lib.hid hm
      clear Hcut hm
      go_upto_region 4 with fail
      rw [hhalf]
      clear hhalf
      have hless := bytesLess_eq a[m] t
      generalize a[m] = x at *
      by_cases hxt : x < t
      · rw [decide_eq_true hxt] at hless
        replace Hup := Lib.hid (Hup.out hxt)
        clear hxt Hdn
        go_wp2_with fail
        go_round
        case rel => exact ⟨m + 1, hi, by go_num, rfl, Hup.out⟩
        case measure => simp [intOf]; omega
      · rw [decide_eq_false hxt] at hless
        replace Hdn := Lib.hid (Hdn.out hxt)
        clear hxt Hup
        go_wp2_with fail
        go_round
        case rel => exact ⟨lo, m, rfl, rfl, Hdn.out⟩
        case measure => simp [intOf]; omega
    · obtain rfl : lo = hi := by omega
      clear hle hlt
      by_cases hin : t ∈ a
      · have H : Hid (decide (t ∈ a) = true) := Lib.hid (decide_eq_true hin)
        obtain ⟨hk, hat⟩ : ∃ hk : lo < a.length, a[lo] = t := by
          refine Classical.byContradiction fun hn => Hcut.out.notin Ha.out (fun hk e => hn ⟨hk, e⟩) hin
        obtain ⟨b1, o1, rfl, hb1, _⟩ := R.out.at (by rw [svt_length]; omega)
        have c10 := R.out.cell lo _ (svt_at a lo hk)
        rw [hat] at c10
        have hk0 : (lo : Int) < (a.length : Int) := by omega
        have hk1 : (0 : Int) ≤ (lo : Int) := by omega
        clear hat hin Hcut
        go_wp2_with fail
        go_ret
        exact ⟨by simp [H.out], rfl⟩
      · have H : Hid (decide (t ∈ a) = false) := Lib.hid (decide_eq_false hin)
        have hne : ∀ hk : lo < a.length, a[lo] ≠ t := fun hk e => hin (e ▸ List.getElem_mem hk)
        clear hin Hcut
        by_cases hk : lo < a.length
        · obtain ⟨b1, o1, rfl, hb1, _⟩ := R.out.at (by rw [svt_length]; omega)
          have c10 := R.out.cell lo _ (svt_at a lo hk)
          have hq : (a[lo] == t) = false := by simpa using hne hk
          have hk0 : (lo : Int) < (a.length : Int) := by omega
          have hk1 : (0 : Int) ≤ (lo : Int) := by omega
          generalize a[lo] = x at *
          go_wp2_with fail
          go_ret
          exact ⟨by simp [H.out], rfl⟩
        · have hk0 : decide (lo < a.length) = false := decide_eq_false hk
          have hk1 : decide ((lo : Int) < (a.length : Int)) = false := decide_eq_false (by omega)
          go_wp2_with fail
          go_ret
          exact ⟨by simp [H.out], rfl⟩
theorem extract_take (x : Tx) (m : Nat) : (⟨x.toArray⟩ : ByteArray).extract 0 m = ⟨(x.take m).toArray⟩ := by
  apply ByteArray.ext
  simp [ByteArray.data_extract]
theorem take_min (x : Tx) (k : Int) : x.take (min (x.length : Int) k).toNat = x.take k.toNat := by
  rcases Int.le_total (x.length : Int) k with h | h
  · rw [Int.min_eq_left h, List.take_of_length_le (by omega), List.take_of_length_le (by omega)]
  · rw [Int.min_eq_right h]
theorem take_cat (x y : Tx) (K : Nat) : (x.take K ++ y.take K).take K = (x ++ y).take K := by
  rw [List.take_append, List.take_append, List.take_take, List.take_take, List.length_take, Nat.min_self]
  congr 2
  omega
theorem take_cat1 (x y : Tx) (K : Nat) : (x.take K ++ y).take K = (x ++ y).take K := by
  rw [← take_cat (x.take K) y, List.take_take, Nat.min_self, take_cat]
/-- A word's first tokens are derived, cut. -/
theorem FDW.cut {b : Bn} {k : Int} (K : Int) {l : List Sy} {x : Tx} (h : FDW b k l x) : FD b K l (x.take K.toNat) := by
  induction h with
  | nil => rw [List.take_nil]; exact .nil
  | @tok l x s h1 ht hk ih =>
    have := FD.tok ih ht
    unfold catT at this
    rw [take_cat1] at this; exact this
  | @non l x y s p h1 ht hp hl h2 hk ih1 ih2 =>
    have := FD.non ih1 ht hp hl ih2
    unfold catT at this
    rw [take_cat] at this; exact this
theorem catT_short {x y : Tx} {K : Int} (h : ((catT x y K).length : Int) < K) : catT x y K = x ++ y ∧ (x.length : Int) < K ∧ (y.length : Int) < K ∧ ((x ++ y).length : Int) < K := by
  unfold catT at h ⊢
  rw [List.length_take] at h
  have h1 : (x ++ y).length < K.toNat := by omega
  rw [List.take_of_length_le (by omega)]
  rw [List.length_append] at h1 ⊢
  exact ⟨rfl, by omega, by omega, by omega⟩
/-- What is shorter than what is looked ahead is a word. -/
theorem FD.word {b : Bn} {K k : Int} (hK : K ≤ k) {l : List Sy} {x : Tx} (h : FD b K l x) : (x.length : Int) < K → FDW b k l x := by
  induction h with
  | nil => exact fun _ => .nil
  | @tok l x s h1 ht ih =>
    intro hl
    obtain ⟨e, h2, _, h3⟩ := catT_short hl
    rw [e]
    exact .tok (ih h2) ht (by omega)
  | @non l x y s p h1 ht hp hl' h2 ih1 ih2 =>
    intro hl
    obtain ⟨e, h3, h4, h5⟩ := catT_short hl
    rw [e]
    exact .non (ih1 h3) ht hp hl' (ih2 h4) (by omega)
theorem words_begin {b : Bn} {K k : Int} {S T : Sts} (hS : Closed b K S) (hT : SoundW b k T) (n : Int) (x : Tx) (hx : x ∈ stAt T n) : x.take K.toNat ∈ stAt S n := by
  obtain ⟨p, hp, hl, hd⟩ := hT.der n x hx
  have h1 := hS p hp _ (hS.der (hd.cut K))
  have e : stAt S p.left = stAt S n := by unfold stAt; rw [hl]
  rwa [e] at h1
theorem begin_words {b : Bn} {K k : Int} {S T : Sts} (hK : K ≤ k) (hS : Sound b K S) (hT : ClosedW b k T) (n : Int) (x : Tx) (hx : x ∈ stAt S n) (hl : (x.length : Int) < K) : x ∈ stAt T n := by
  obtain ⟨p, hp, hl', hd⟩ := hS.der n x hx
  have h1 := hT p hp _ (hT.der (hd.word hK hl))
  have e : stAt T p.left = stAt T n := by unfold stAt; rw [hl']
  rwa [e] at h1
/-- What first.Of tells, by cases. -/
theorem of_case {w w' : World} {b : Bn} {x : Int} {a : Option Addr} {N c : Nat} (h : OfP w b (.returned (.tuple #[.slice a N c, .int .i64 x])) w') :
    (x ≠ 0 ∧ Value.slice a N c = .slice none 0 0) ∨ (x = 0 ∧ bmay b = 0 ∧ N = b.of.length ∧ N = c ∧ ∃ g S, a = some ⟨g, 0, none⟩ ∧ InvS b b.look 600 S ∧ Closed b b.look S ∧ SetsR w' g N N S) := by
  rcases h.1 with ⟨h0, h1⟩ | ⟨h0, ⟨g, S, h1, hI, hc, hno, hr⟩ | ⟨h1, hS⟩⟩
  · simp only [Ending.returned.injEq, Value.tuple.injEq, Array.mk.injEq, List.cons.injEq, Value.int.injEq, and_true, true_and] at h1
    exact .inl ⟨by rw [h1.2]; exact h0, h1.1⟩
  · simp only [Ending.returned.injEq, Value.tuple.injEq, Array.mk.injEq, List.cons.injEq, Value.int.injEq, Value.slice.injEq, and_true, true_and] at h1
    obtain ⟨⟨rfl, rfl, rfl⟩, rfl⟩ := h1
    exact .inr ⟨rfl, h0, rfl, rfl, g, S, rfl, hI, hc, hr⟩
  · simp only [Ending.returned.injEq, Value.tuple.injEq, Array.mk.injEq, List.cons.injEq, Value.int.injEq, and_true, true_and] at h1
    exact .inl ⟨by rw [h1.2]; decide, h1.1⟩
set_option maxHeartbeats 4000000 in
set_option maxRecDepth 100000 in
theorem firstAll_walk (b : Bn) (ov lv : Value) (w : World) (r : BR w w.heap.size ov lv b) :
    Calls Try.prog 6 #[.agg #[.int .i64 b.toks, .int .i64 b.look, ov, lv]] w (BoolB w true) := by
  have hb1 := agg_box14 w b.toks b.look ov lv
  have hbx := BoxB.new b.toks b.look 25 (Nat.le_refl w.heap.size) r
  have hp1 : (w.alloc (.cells #[.int .i64 b.toks, .int .i64 b.look, ov, lv] 25)).heap[w.heap.size]? = some (.cells #[.int .i64 b.toks, .int .i64 b.look, ov, lv] 25 (0, 0)) := Array.getElem?_push_size
  have hfw : ∀ W BW, BW ≤ W.heap.size → BR W BW ov lv b → Calls Try.prog 10 #[.agg #[.int .i64 b.toks, .int .i64 b.look, ov, lv]] W (Few14P W b.toks b.look (few14B b)) := fun W BW hBW hr => few14_any b b.toks b.look ov lv BW W rfl rfl hBW hr
  obtain ⟨htk, hlk⟩ := few14_toks b
  have hov := r.of.val
  have hlv := r.l.val
  generalize few14B b = B at *
  generalize b.toks = tk at *
  generalize b.look = lk at *
  have hwd : ∀ o l W BW n, BW ≤ W.heap.size → BR W BW o l B → Calls Try.prog 17 #[.agg #[.int .i64 tk, .int .i64 lk, o, l], .int .i64 n, .int .i64 3] W (WordsP W B 3 n) := fun o l W BW n hBW hr => firstWords_any B tk lk 3 n 3 o l BW W htk hlk hBW hr (by omega) (by decide)
  have hof : ∀ o l W BW, BW ≤ W.heap.size → BR W BW o l B → Calls Try.prog 11 #[.agg #[.int .i64 tk, .int .i64 lk, o, l]] W (OfP W B) := fun o l W BW hBW hr => firstOf_any B tk lk o l BW W htk hlk hBW hr
  have Hfw := Lib.hid hfw; have Hp1 := Lib.hid hp1; have Hb1 := Lib.hid hb1; have Hbx := Lib.hid hbx
  have Hwd := Lib.hid hwd; have Hof := Lib.hid hof; have Htk := Lib.hid htk; have Hlk := Lib.hid hlk
  have Hwk := Lib.hid works14_any
  clear hfw hp1 hb1 htk hlk r hbx hwd hof
  go_enter Try.func6, Try.ntmps6
  go_upto_region 1 with fail
  generalize w.alloc (.cells #[.int .i64 tk, .int .i64 lk, ov, lv] 25) = w1 at *
  have Hw := Lib.hid (Hwk.out w1)
  clear Hwk
  go_wp2_with fail
  refine (Hw.out).mono ?_
  rintro e w2 ⟨rfl, hb2⟩
  have hlt1 : w.heap.size < w1.heap.size := (Array.getElem?_eq_some_iff.1 Hp1.out).1
  have hp2 : w2.heap[w.heap.size]? = some (.cells #[.int .i64 tk, .int .i64 lk, ov, lv] 25 (0, 0)) := (hb2.block _ hlt1).trans Hp1.out
  have Hbx2 := Lib.hid (Hbx.out.keep hb2)
  have HB2 := Lib.hid (Hb1.out.trans (hb2.mono Hb1.out.size))
  have Hf := Lib.hid (Hfw.out w2 _ Hbx2.out.le Hbx2.out.r)
  have Hp2 := Lib.hid hp2
  clear hb2 hlt1 hp2 Hp1 Hbx Hw Hfw
  obtain ⟨y0, y1, y2, y3, _, _, _, _, hlt0⟩ := four_cells Hp2.out
  go_wp2_with fail
  refine (Hf.out).mono ?_
  rintro e w3 ⟨o, l, rfl, hbr, hb3⟩
  obtain ⟨oa, oc, rfl, _, _⟩ := (hbr w3 (fun _ _ => rfl) rfl).of.val
  obtain ⟨la, lc, rfl, _, _⟩ := (hbr w3 (fun _ _ => rfl) rfl).l.val
  have hp3 : w3.heap[w.heap.size]? = some (.cells #[.int .i64 tk, .int .i64 lk, ov, lv] 25 (0, 0)) := by rw [hb3.block _ hlt0]; exact Hp2.out
  have hbox := BoxB.put tk lk hp3 (show w.heap.size < w2.heap.size + 2 by omega) hbr
  have HB4 := Lib.hid (below_four (HB2.out.trans (hb3.mono HB2.out.size)) (Nat.le_refl w.heap.size) (.int .i64 tk) (.int .i64 lk) (.slice oa B.of.length oc) (.slice la B.l.length lc))
  obtain ⟨x0, x1, x2, x3, f0, f1, f2, f3, hlt2⟩ := four_cells hp3
  have Hbox := Lib.hid hbox
  clear y0 y1 y2 y3 hlt0 hp3 hbr hb3 hbox Hf Hbx2 Hp2 hov hlv
  go_upto_region 4 with fail
  generalize hw4 : (((w3.setCell ⟨w.heap.size, 0, none⟩ (.int .i64 tk)).setCell ⟨w.heap.size, 1, none⟩ (.int .i64 lk)).setCell ⟨w.heap.size, 2, none⟩ (.slice oa B.of.length oc)).setCell ⟨w.heap.size, 3, none⟩ (.slice la B.l.length lc) = w4 at *
  clear x0 x1 x2 x3 f0 f1 f2 f3 hlt2 hw4
  have Hq := Lib.hid (Hof.out _ _ w4 _ Hbox.out.le Hbox.out.r)
  obtain ⟨c0, c1, c2, c3⟩ := Hbox.out.four
  go_wp2_with fail
  refine (Hq.out).mono ?_
  intro e w6 hp6
  obtain ⟨a1, N1, d1, er1, rfl⟩ := hp6.form
  have HP6 := Lib.hid (of_case hp6)
  have HB6 := Lib.hid (HB4.out.trans (hp6.2.mono HB4.out.size))
  have Hbox6 := Lib.hid (Hbox.out.keep hp6.2)
  obtain ⟨d0', d1', d2', d3'⟩ := Hbox6.out.four
  clear Hq Hbox hp6 Hof c0 c1 c2 c3
  rcases HP6.out with ⟨hne, hv⟩ | ⟨rfl, h0, hN, rfl, g, S, rfl, hI, hcl, hst⟩
  · simp only [Value.slice.injEq] at hv
    obtain ⟨rfl, rfl, rfl⟩ := hv
    have hq : ((er1 : Int) == 0) = false := by rw [beq_eq_false_iff_ne]; exact hne
    have hq2 : ((er1 : Int) != 0) = true := by rw [bne_iff_ne]; exact hne
    clear hne HP6
    go_wp2_with fail
    go_ret
    exact ⟨rfl, HB6.out⟩
  · by_cases hl3 : 3 < lk
    · have q1 : decide (3 < lk) = true := decide_eq_true hl3
      clear hl3 HP6
      go_wp2_with fail
      go_ret
      exact ⟨rfl, HB6.out⟩
    · have q1 : decide (3 < lk) = false := decide_eq_false hl3
      have hI2 := hI
      have HS := Lib.hid (And.intro hI.sound hcl)
      have HSt := Lib.hid hst
      have Hlk4 : Hid (1 ≤ lk ∧ lk ≤ 3) := Lib.hid (by have := bmay_zero h0; have := Hlk.out; omega)
      have HN5 : Hid (N1 ≤ 500 ∧ N1 = B.of.length) := Lib.hid (by have := bmay_zero h0; omega)
      have Hfew : Hid (∀ n, (stAt S n).length ≤ 600 ∧ IsSet (stAt S n)) := Lib.hid fun n => ⟨stAt_few n hI.few, stAt_set S n hI.sound.set⟩
      have Hle : Hid (∀ n x, x ∈ stAt S n → (x.length : Int) ≤ 4) := Lib.hid fun n x hx => by
        unfold stAt at hx
        cases e : S[n.toNat]? with
        | none => rw [e] at hx; cases hx
        | some c => rw [e] at hx; have := hI.le c (List.mem_of_getElem? e) x hx; have := Hlk4.out; have := Hlk.out; omega
      have H0 := Lib.hid h0
      rw [← HN5.out.2] at Hbox6 ⊢
      have hN63 : (N1 : Int) ≤ 1000 := by have := HN5.out; omega
      clear hI hcl hst hI2 HP6 h0 hN hl3
      rw [← HN5.out.2] at d2'
      go_wp2_with fail
      clear d0' d1' d2' d3'
      go_loopw [5] (fun iv wr => ∃ n : Nat, n ≤ N1 ∧ iv = .int .i64 (n : Nat) ∧ Hid (Below w6.heap.size w6 wr)) (fun iv _ => N1 - (intOf iv).toNat)
      case atStart => exact ⟨0, Nat.zero_le _, rfl, Lib.hid (Below.refl _ _)⟩
      case round =>
        obtain ⟨n, hn, rfl, HBr⟩ := hrel
        have HBe := Lib.hid (HB6.out.trans (HBr.out.mono HB6.out.size))
        by_cases hlt : n < N1
        · have hn1 : (n : Int) < (N1 : Int) := by omega
          have hn2 : (0 : Int) ≤ (n : Int) := by omega
          have HbR := Lib.hid (Hbox6.out.keep HBr.out)
          obtain ⟨c0, c1, c2, c3⟩ := HbR.out.four
          have Hq := Lib.hid (Hwd.out _ _ wr _ (n : Int) HbR.out.le HbR.out.r)
          have Hlt := Lib.hid hlt
          clear hlt hn
          go_wp2_with fail
          refine (Hq.out).mono ?_
          intro e w7 hp7
          obtain ⟨a2, N2, d2, er2, rfl⟩ := hp7.form
          have hcs := words_case hp7
          have HB7 := Lib.hid (HBr.out.trans (hp7.2.mono HBr.out.size))
          have HB7e := Lib.hid (HBe.out.trans (hp7.2.mono HBe.out.size))
          clear hp7 Hq c0 c1 c2 c3 HbR
          have hcs2 : (er2 = 0 ∧ ∃ T, InvSW B 3 10000 T ∧ ClosedW B 3 T ∧ N2 = (stAt T (n : Int)).length ∧ Row w7 w7.heap.size 1 (.slice a2 N2 d2) N2 (svt (stAt T (n : Int)))) ∨ er2 = 15 := by
            rcases hcs with ⟨h1, _⟩ | ⟨_, h1, _⟩ | ⟨_, _, _, ⟨h1, T, hI, hc, _, hN, hr⟩ | ⟨h1, _⟩⟩
            · exact absurd H0.out h1
            · exact absurd (by have := HN5.out; omega) h1
            · exact .inl ⟨h1, T, hI, hc, hN, hr⟩
            · exact .inr h1
          clear hcs
          rcases hcs2 with ⟨rfl, T, hI, hc, hN2, hr⟩ | rfl
          · have hfT := stAt_few (n : Int) hI.few
            have hsT := stAt_set T (n : Int) hI.sound.set
            have HT1 := Lib.hid (fun x hx => words_begin (K := lk) (k := 3) (by rw [← Hlk.out]; exact HS.out.2) hI.sound (n : Int) x hx)
            have HT2 := Lib.hid (fun x hx hl => begin_words (K := lk) (k := 3) Hlk4.out.2 (by rw [← Hlk.out]; exact HS.out.1) hc (n : Int) x hx hl)
            have HTl : Hid (∀ x, x ∈ stAt T (n : Int) → (x.length : Int) ≤ 3) := Lib.hid fun x hx => by
              unfold stAt at hx
              cases e : T[(n : Int).toNat]? with
              | none => rw [e] at hx; cases hx
              | some c => rw [e] at hx; exact hI.le c (List.mem_of_getElem? e) x hx
            obtain ⟨vS, hvS, hrS⟩ := (HSt.out.below HB7.out).at_ n (by rw [HSt.out.len]; exact Hlt.out)
            have eS : S[n]'(by rw [HSt.out.len]; exact Hlt.out) = stAt S (n : Int) := (stAt_nat S n _).symm
            rw [eS] at hrS
            obtain ⟨sa, sc, rfl, _, _⟩ := hrS.val
            have hgl := (HSt.out.below HB7.out).lt
            obtain ⟨hfS, hsS⟩ := Hfew.out (n : Int)
            have HleS := Lib.hid (Hle.out (n : Int))
            generalize stAt S (n : Int) = Y at *
            generalize stAt T (n : Int) = X at *
            have Hr := Lib.hid hr; have HrS := Lib.hid hrS; have HsT := Lib.hid hsT; have HsS := Lib.hid hsS; have HN2 := Lib.hid hN2
            have Hgl := Lib.hid hgl
            have HvS := Lib.hid hvS
            have Hbx7 := Lib.hid (Hbox6.out.keep HB7.out)
            have hN2l : N2 ≤ 10000 := by omega
            obtain ⟨yn, hyn⟩ : ∃ yn, yn = Y.length := ⟨_, rfl⟩
            rw [← hyn] at HrS HvS hfS
            have Hyn := Lib.hid hyn
            clear hI hc hfT hsT hr hrS eS hsS hN2 hgl hvS hyn
            go_wp2_with fail
            go_loopw [8] (fun iv wx => ∃ i : Nat, i ≤ N2 ∧ iv = .int .i64 (i : Nat) ∧ Hid (Below w7.heap.size w7 wx)) (fun iv _ => N2 - (intOf iv).toNat)
            case atStart => exact ⟨0, Nat.zero_le _, rfl, Lib.hid (Below.refl _ _)⟩
            case round =>
              obtain ⟨i, hi, rfl, HBx⟩ := hrel
              by_cases hlt : i < N2
              · have hiX : i < X.length := by have := HN2.out; omega
                have a1 := Hr.out.below HBx.out
                obtain ⟨b1, o1, hbo, hb1, _⟩ := a1.at (by rw [svt_length]; omega)
                subst hbo
                have cX := a1.cell i _ (svt_at X i hiX)
                have hxm := List.getElem_mem hiX
                have HxT := Lib.hid (HT1.out _ hxm)
                have hxl := HTl.out _ hxm
                generalize X[i] = x at *
                have cS := (HBx.out.cell (p := ⟨g, n, none⟩) Hgl.out).trans HvS.out
                obtain ⟨c0, c1, c2, c3⟩ := (Hbx7.out.keep HBx.out).four
                have hi1 : (i : Int) < (N2 : Int) := by omega
                have hi2 : (0 : Int) ≤ (i : Int) := by omega
                have hi3 : (i : Int) ≤ 10000 := by omega
                have hx0 : (0 : Int) ≤ (x.length : Int) := by omega
                obtain ⟨hk1, hk3⟩ := Hlk4.out
                have HIn : Hid (∀ nq : Nat, Calls Try.prog 20 #[.slice sa yn sc, .string ((⟨x.toArray⟩ : ByteArray).extract 0 (min (x.length : Int) lk).toNat)] (wr.drewN nq) fun e w' => e = .returned (.bool true) ∧ w' = wr.drewN nq) := Lib.hid fun nq => by
                  have h1 := HrS.out.below HBx.out
                  have := refIn_any (.slice sa yn sc) Y (x.take lk.toNat) _ (wr.drewN nq) (by rw [← Hyn.out]; exact h1.below (below_drewsP wr nq |>.mono HBx.out.size)) HsS.out (by have := Hyn.out; omega) ((⟨x.toArray⟩ : ByteArray).extract 0 (min (x.length : Int) lk).toNat) (by rw [extract_take, take_min])
                  rw [decide_eq_true HxT.out] at this
                  exact this
                have Hlt2 := Lib.hid hlt
                clear a1 hb1 hiX hxm hlt hi c0 c2 c3
                go_wp2_with fail
                go_quiet ((go_at_call 20; exact Calls.quiet_of_same (HIn.out _)))
                generalize hwq : wr.drewN _ = wq at *
                have Hq3 : Hid (Below w7.heap.size w7 wq) := Lib.hid (by rw [← hwq]; exact HBx.out.trans ((below_drewsP wr _).mono HBx.out.size))
                clear hwq HIn cX cS c1
                go_wp2_with fail
                go_roundw
                case rel => exact ⟨i + 1, Hlt2.out, by go_num, Hq3⟩
                case measure => have := Hlt2.out; simp [intOf]; omega
              · have hi0 : decide (i < N2) = false := decide_eq_false hlt
                clear hlt hi
                obtain ⟨wo, rfl⟩ : ∃ wo : World, wo = wr := ⟨_, rfl⟩
                go_wp2_with fail
                go_loopw [9] (fun iv wx => ∃ i : Nat, i ≤ yn ∧ iv = .int .i64 (i : Nat) ∧ Hid (Below w7.heap.size w7 wx)) (fun iv _ => yn - (intOf iv).toNat)
                case atStart => exact ⟨0, Nat.zero_le _, rfl, HBx⟩
                case round =>
                  clear HBx
                  obtain ⟨i, hi, rfl, HBx⟩ := hrel
                  have cS := (HBx.out.cell (p := ⟨g, n, none⟩) Hgl.out).trans HvS.out
                  by_cases hlt : i < yn
                  · have hiY : i < Y.length := by have := Hyn.out; omega
                    have a1 := (HrS.out.below HBx.out).mono HBx.out.size
                    have a1' := a1
                    obtain ⟨b1, o1, hbo, hb1, _⟩ := a1.at (by rw [svt_length]; omega)
                    subst hbo
                    have cY := a1.cell i _ (svt_at Y i hiY)
                    have hym := List.getElem_mem hiY
                    have HyT := Lib.hid (HT2.out _ hym)
                    have hyl := HleS.out _ hym
                    generalize Y[i] = y at *
                    obtain ⟨c0, c1, c2, c3⟩ := (Hbx7.out.keep HBx.out).four
                    have hi1 : (i : Int) < (yn : Int) := by omega
                    have hi2 : (0 : Int) ≤ (i : Int) := by omega
                    have hi3 : (i : Int) ≤ 10000 := by omega
                    have hy0 : (0 : Int) ≤ (y.length : Int) := by omega
                    have Hlt2 := Lib.hid hlt
                    have HQ := Lib.hid (fun nq : Nat => HBx.out.trans ((below_drewsP wr nq).mono HBx.out.size))
                    by_cases hsh : (y.length : Int) < lk
                    · have q2 : decide ((y.length : Int) < lk) = true := decide_eq_true hsh
                      have HIn : Hid (∀ nq : Nat, Calls Try.prog 20 #[.slice a2 N2 d2, .string ⟨y.toArray⟩] (wr.drewN nq) fun e w' => e = .returned (.bool true) ∧ w' = wr.drewN nq) := Lib.hid fun nq => by
                        have h1 := Hr.out.below HBx.out
                        have := refIn_any (.slice a2 N2 d2) X y _ (wr.drewN nq) (by rw [← HN2.out]; exact h1.below (below_drewsP wr nq |>.mono HBx.out.size)) HsT.out (by have := HN2.out; omega) ⟨y.toArray⟩ rfl
                        rw [decide_eq_true (HyT.out hsh)] at this
                        exact this
                      clear a1 a1' hb1 hiY hym hlt hi c0 c2 c3 hsh hyl
                      go_wp2_with fail
                      refine wp_region_quiet_lit (by kernel_rfl) (by kernel_rfl) ?_
                      repeat (first | go_big_quiet_step ((go_at_call 20; exact Calls.quiet_of_same (HIn.out _))) | quiet_step ((go_at_call 20; exact Calls.quiet_of_same (HIn.out _))))
                      refine wpQuiet_nil ?_
                      intro _ hw'
                      obtain ⟨nq, hw''⟩ := hw'
                      subst hw''
                      clear HIn cY cS c1
                      have HBq := Lib.hid (HQ.out nq)
                      go_wp2_with fail
                      go_roundw
                      case rel => exact ⟨i + 1, Hlt2.out, by go_num, HBq⟩
                      case measure => have := Hlt2.out; simp [intOf]; omega
                    · have q2 : decide ((y.length : Int) < lk) = false := decide_eq_false hsh
                      clear a1 a1' hb1 hiY hym hlt hi c0 c2 c3 hsh hyl
                      go_wp2_with fail
                      refine wp_region_quiet_lit (by kernel_rfl) (by kernel_rfl) ?_
                      repeat (first | go_big_quiet_step (fail) | quiet_step (fail))
                      refine wpQuiet_nil ?_
                      intro _ hw'
                      obtain ⟨nq, hw''⟩ := hw'
                      subst hw''
                      clear cY cS c1
                      have HBq := Lib.hid (HQ.out nq)
                      go_wp2_with fail
                      go_roundw
                      case rel => exact ⟨i + 1, Hlt2.out, by go_num, HBq⟩
                      case measure => have := Hlt2.out; simp [intOf]; omega
                  · have hi0 : decide (i < yn) = false := decide_eq_false hlt
                    have hi1 : decide ((i : Int) < (yn : Int)) = false := decide_eq_false (by omega)
                    have Hb9 := Lib.hid (HB7.out.trans (HBx.out.mono HB7.out.size))
                    have hn9 : (n : Int) ≤ 1000 := by omega
                    clear hlt hi
                    go_wp2_with fail
                    go_roundw
                    case rel => exact ⟨n + 1, Hlt.out, by go_num, Hb9⟩
                    case measure => have := Hlt.out; simp [intOf]; omega
          · clear HBr HB7
            go_wp2_with fail
            go_ret
            exact ⟨rfl, HB7e.out⟩
        · have hk0 : decide (n < N1) = false := decide_eq_false hlt
          clear hlt hn
          go_wp2_with fail
          go_ret
          exact ⟨rfl, HBe.out⟩
set_option maxRecDepth 100000 in
theorem firstAll_law {H : Type} {base : Nat} (enc : TypeId × Value → H) (W : World)
    (v0 : Value) (d0 : DataW H) (p0 : List MemPlace) (k0 : Value.okWide Try.prog W .any base 25 v0) (h0 : DataW.Trod enc Try.prog W 0 (fun _ => true) true 25 v0 d0 p0) :
    Calls Try.prog 6 #[v0] W fun e w' => e = .returned (.bool true) ∧ Below W.heap.size W w' := by
  obtain ⟨b, o, l, rfl, r, _⟩ := bnfOf k0 h0
  exact firstAll_walk b o l W r
end Go.Proofs.Ytimgnbacgdmiiaa
