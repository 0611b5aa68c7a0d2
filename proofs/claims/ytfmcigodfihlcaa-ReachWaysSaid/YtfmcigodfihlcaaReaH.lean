/-
  reach.begun, Begins, Left, Dead.
-/
import Derived.Test.YtfmcigodfihlcaaReaG
namespace Go.Proofs.Ytfmcigodfihlcaa
open Go.RowKit PK
set_option linter.unusedVariables false
set_option linter.unusedSimpArgs false
attribute [local go_sem ↓] append_appM

theorem own_push {w : World} {n : Nat} {lv : Value} {L : List Int} (hn : n ≤ w.heap.size) (h : w.ownsRow n 3 1 lv L.length (ints L)) (x : Int) (hl : L.length + 1 ≤ 10000000) :
    ∃ a c w3, Sem.run Try.prog (appM #[22, 22] 22 #[lv, .slice (some ⟨w.heap.size, 0, none⟩) 1 1]) (w.alloc (.cells #[.int .i64 x] 3)) = .ok (.slice a (L.length + 1) c) w3 ∧ w3.ownsRow n 3 1 (.slice a (L.length + 1) c) (L ++ [x]).length (ints (L ++ [x])) ∧ Below n w w3 := by
  obtain ⟨i0, hi0, hz0, hz1, hz2⟩ := info_parts info_intT
  have rt : Row (w.alloc (.cells #[.int .i64 x] 3)) (w.heap.size + 1) 1 (.slice (some ⟨w.heap.size, 0, none⟩) 1 1) 1 (ints [x]) := row_cellsB w (ints [x]) 1 1 1 _ rfl (Nat.le_refl _) (by unfold maxLen; omega)
  obtain ⟨v', w2, h1, h2, h3, h4⟩ := run_append_row (P := Try.prog) (w.alloc (.cells #[.int .i64 x] 3)) 22 22 n 3 i0 (.int .i64 0) 1 8 Try.underlying22 hi0 hz0 hz1 hz2 rfl (by decide) lv L.length (ints L) (h.alloc _) (w.heap.size + 1) _ 1 (ints [x]) rt (ints_oneT _) (by unfold maxLen; omega) (by omega) (by simp; omega)
  obtain ⟨a, c, rfl, _, _⟩ := owns_valP h2
  exact ⟨a, c, w2, h1, by rw [List.length_append]; simpa [ints] using h2, ((Below.refl n w).alloc hn _).grown h3 (by simp; omega) fun k e => (h.lt k e).1⟩
theorem SomeP.own0 {w w' : World} {b : Bn} {tk : Bool} {e : Ending} (h : SomeP w b tk e w') (h0 : bmay b = 0) : ∃ g c st, e = .returned (.tuple #[.slice (some ⟨g, 0, none⟩) st.length c, .int .i64 0]) ∧ Fix b tk st ∧ (∀ j (hj : j < st.length), w'.cell? ⟨g, j, none⟩ = some (.bool st[j])) ∧ g < w'.heap.size ∧ Below w.heap.size w w' := by
  rcases h with ⟨⟨h1, h2⟩ | ⟨h1, v, st, h2, h3, h4⟩, hb⟩
  · exact absurd h0 h1
  · obtain ⟨a, c, rfl, _, _⟩ := owns_valP h4
    obtain ⟨g, rfl, _, hg, hc, _⟩ := owns_cellN h4 (by have := h3.len; have := (bmay_zero h0).1; omega)
    exact ⟨g, c, st, h2, h3, fun j hj => hc j _ (bools_at st j hj), hg, hb⟩
/-- What may be gone by, as the document says, when rules may be. -/
def FN (b : Bn) (st : List Bool) : Int → List Int := nextI b (goneF false st)
def BegunP (w : World) (b : Bn) (e : Ending) (w' : World) : Prop :=
  ((bmay b ≠ 0 ∧ e = .returned (.tuple #[.nilFunc, .int .i64 (bmay b)])) ∨ (bmay b = 0 ∧ ∃ n2 g vo X st, e = .returned (.tuple #[.func (.func 64) #[] #[.pointer (some ⟨g, 0, none⟩)], .int .i64 0]) ∧ Fix b false st ∧ Ofs w' n2 g vo X ∧ X.length = b.of.length ∧ (∀ (j : Nat) x, X[j]? = some x → x.2 = FN b st (j : Int)))) ∧ Below w.heap.size w w'
set_option maxHeartbeats 1000000 in
set_option maxRecDepth 100000 in
theorem begun_any (b : Bn) (tk lk : Int) (ov lv : Value) (B : Nat) (w : World) (etk : b.toks = tk) (elk : b.look = lk) (hB : B ≤ w.heap.size) (r : BR w B ov lv b) :
    Calls Try.prog 54 #[.agg #[.int .i64 tk, .int .i64 lk, ov, lv]] w (BegunP w b) := by
  obtain ⟨oa, oc, rfl, ho1, ho2⟩ := r.of.val
  obtain ⟨la, lc, rfl, hl1, hl2⟩ := r.l.val
  subst etk elk
  have hbox := BoxB.new b.toks b.look 25 hB r
  have hb1 := agg_box w b.toks b.look (.slice oa b.of.length oc) (.slice la b.l.length lc) 25
  have hno := nothing_any b (.slice oa b.of.length oc) (.slice la b.l.length lc) B _ hbox.le hbox.r
  obtain ⟨ol, hol⟩ : ∃ ol, ol = b.of.length := ⟨_, rfl⟩
  obtain ⟨ll, hll⟩ : ∃ ll, ll = b.l.length := ⟨_, rfl⟩
  obtain ⟨tk, htk⟩ : ∃ tk, tk = b.toks := ⟨_, rfl⟩
  obtain ⟨lk, hlk⟩ : ∃ lk, lk = b.look := ⟨_, rfl⟩
  have Hpa := Lib.hid (fun W cp f hBW hr h0 hg => parts_begun b (.slice oa b.of.length oc) (.slice la b.l.length lc) B W cp f hBW hr h0 hg)
  rw [← hol, ← hll, ← htk, ← hlk] at hbox hb1 hno Hpa
  rw [← hol, ← hll, ← htk, ← hlk]
  have Hbox := Lib.hid hbox; have Hb1 := Lib.hid hb1; have Hno := Lib.hid hno; have Hol := Lib.hid hol
  clear r hbox hb1 hno hol hll htk hlk ho1 ho2 hl1 hl2 hB
  go_enter Try.func54, Try.ntmps54
  go_upto_region 1 with fail
  generalize w.alloc (.cells #[.int .i64 tk, .int .i64 lk, .slice oa ol oc, .slice la ll lc] 25) = w1 at *
  obtain ⟨c0, c1, c2, c3⟩ := Hbox.out.four
  go_wp2_with fail
  refine (Hno.out).mono ?_
  intro e w2 hp
  by_cases h0 : bmay b = 0
  · obtain ⟨g2, d2, st, rfl, hF, hcl, hg2, hb2⟩ := hp.own0 h0
    have hlen := hF.len
    obtain ⟨z1, z2, _, _, _, z6, _⟩ := bmay_zero h0
    have hb3 := (Below.refl w2.heap.size w2).alloc (Nat.le_refl _) (.cells #[.slice (some ⟨g2, 0, none⟩) st.length d2] 28)
    have hc3 := cell_new w2 #[.slice (some ⟨g2, 0, none⟩) st.length d2] 28 0 _ rfl
    have hs3 : w2.heap.size < (w2.alloc (.cells #[.slice (some ⟨g2, 0, none⟩) st.length d2] 28)).heap.size := by simp
    have hb13 := hb2.trans (hb3.mono hb2.size)
    have HF := Lib.hid hF; have H0 := Lib.hid h0
    have Hcl := Lib.hid (fun W (hW : Below w2.heap.size w2 W) j hj => (hW.cell (p := ⟨g2, j, none⟩) hg2).trans (hcl j hj))
    have Hc3 := Lib.hid hc3; have Hs3 := Lib.hid hs3; have Hb3 := Lib.hid hb3; have Hb13 := Lib.hid hb13; have Hg2 := Lib.hid hg2
    have Hz := Lib.hid (And.intro hlen z2)
    obtain ⟨sl, hsl⟩ : ∃ sl, sl = st.length := ⟨_, rfl⟩
    rw [← hsl] at Hc3 Hs3 Hb3 Hb13 ⊢
    have Hsl := Lib.hid hsl
    clear hp hF hlen hcl hg2 hb2 hb3 hc3 hs3 hb13 h0 z1 z2 z6 c0 c1 c2 c3 hsl Hno
    go_upto_region 2 with fail
    generalize w2.alloc (.cells #[.slice (some ⟨g2, 0, none⟩) sl d2] 28) = w3 at *
    obtain ⟨c0, c1, c2, c3⟩ := (Hbox.out.keep Hb13.out).four
    have Hp := Lib.hid (Hpa.out w3 (some ⟨w2.heap.size, 0, none⟩) (goneF false st) (Hbox.out.keep Hb13.out).le (Hbox.out.keep Hb13.out).r H0.out (fun W s hW hs => gone_begun st w2.heap.size g2 sl d2 s W ((hW.cell (p := ⟨w2.heap.size, 0, none⟩) Hs3.out).trans Hc3.out) (Nat.lt_of_lt_of_le Hs3.out hW.size) Hsl.out.symm (by have := Hz.out.1; have := Hz.out.2; have := Hsl.out; omega) (fun j hj => Hcl.out W (Hb3.out.trans (hW.mono Hb3.out.size)) j hj) (Nat.lt_of_lt_of_le Hg2.out (Hb3.out.trans (hW.mono Hb3.out.size)).size) (fun ht => by have := hs ht; have := Hz.out.1; have := Hsl.out; have := Hol.out; omega)))
    go_wp2_with fail
    refine (Hp.out).mono ?_
    rintro e w4 ⟨g, vo, X, rfl, hO, hX, hFx, hb4⟩
    have HB4 := Lib.hid (Hb1.out.trans ((Hb13.out.trans (hb4.mono Hb13.out.size)).mono Hb1.out.size))
    have HO := Lib.hid hO; have HX := Lib.hid hX; have HFx := Lib.hid hFx
    clear hO hX hFx hb4 Hp c0 c1 c2 c3
    go_wp2_with fail
    go_ret2
    exact ⟨.inr ⟨H0.out, _, g, vo, X, st, rfl, HF.out, HO.out, HX.out, HFx.out⟩, HB4.out⟩
  · obtain ⟨rfl, hb2⟩ := hp.atN h0
    have Hne := Lib.hid h0
    have HB := Lib.hid (Hb1.out.trans (hb2.mono Hb1.out.size))
    have hq : ((bmay b : Int) == 0) = false := by rw [beq_eq_false_iff_ne]; exact h0
    clear h0 hp hb2
    generalize hm : bmay b = m at *
    go_wp2_with fail
    go_ret2
    exact ⟨.inl ⟨by rw [hm]; exact Hne.out, by rw [hm]; rfl⟩, HB.out.alloc HB.out.size _⟩
/-- What reach.Begins answers. -/
def BeginsP (w : World) (b : Bn) (n m : Int) (e : Ending) (w' : World) : Prop :=
  ((bmay b ≠ 0 ∧ e = .returned (.bool false)) ∨ (bmay b = 0 ∧ ∃ x st, e = .returned (.bool x) ∧ Fix b false st ∧ (x = true ↔ (0 ≤ n ∧ n < b.of.length) ∧ (0 ≤ m ∧ m < b.of.length) ∧ Rc (FN b st) (FN b st n) m))) ∧ Below w.heap.size w w'
theorem FN_range {b : Bn} (hok : ∀ p ∈ b.l, prOk b p = true) {st : List Bool} {n y : Int} (h : y ∈ FN b st n) : 0 ≤ y ∧ y < b.of.length := nextI_range hok h
set_option maxHeartbeats 2000000 in
set_option maxRecDepth 100000 in
theorem begins_any (b : Bn) (tk lk n m : Int) (ov lv : Value) (B : Nat) (w : World) (etk : b.toks = tk) (elk : b.look = lk) (hB : B ≤ w.heap.size) (r : BR w B ov lv b) :
    Calls Try.prog 30 #[.agg #[.int .i64 tk, .int .i64 lk, ov, lv], .int .i64 n, .int .i64 m] w (BeginsP w b n m) := by
  obtain ⟨oa, oc, rfl, ho1, ho2⟩ := r.of.val
  obtain ⟨la, lc, rfl, hl1, hl2⟩ := r.l.val
  subst etk elk
  have hbox := BoxB.new b.toks b.look 25 hB r
  have hb1 := agg_box w b.toks b.look (.slice oa b.of.length oc) (.slice la b.l.length lc) 25
  have hno := begun_any b b.toks b.look (.slice oa b.of.length oc) (.slice la b.l.length lc) B _ rfl rfl hbox.le hbox.r
  obtain ⟨ol, hol⟩ : ∃ ol, ol = b.of.length := ⟨_, rfl⟩
  obtain ⟨ll, hll⟩ : ∃ ll, ll = b.l.length := ⟨_, rfl⟩
  obtain ⟨tk, htk⟩ : ∃ tk, tk = b.toks := ⟨_, rfl⟩
  obtain ⟨lk, hlk⟩ : ∃ lk, lk = b.look := ⟨_, rfl⟩
  unfold maxLen at ho2
  have ho63 : (ol : Int) ≤ 9223372036854775807 := by omega
  rw [← hol, ← hll, ← htk, ← hlk] at hbox hb1 hno
  rw [← hol, ← hll, ← htk, ← hlk]
  have Hbox := Lib.hid hbox; have Hb1 := Lib.hid hb1; have Hno := Lib.hid hno; have Hol := Lib.hid hol
  clear r hbox hb1 hno hol hll htk hlk ho1 ho2 hl1 hl2 hB
  go_enter Try.func30, Try.ntmps30
  go_upto_region 1 with fail
  generalize w.alloc (.cells #[.int .i64 tk, .int .i64 lk, .slice oa ol oc, .slice la ll lc] 25) = w1 at *
  obtain ⟨c0, c1, c2, c3⟩ := Hbox.out.four
  go_wp2_with fail
  refine (Hno.out).mono ?_
  rintro e w2 ⟨h2, hb2⟩
  have Hbx2 := Lib.hid (Hbox.out.keep hb2)
  have HB2 := Lib.hid (Hb1.out.trans (hb2.mono Hb1.out.size))
  clear hb2 c0 c1 c2 c3 Hno
  rcases h2 with ⟨hne, rfl⟩ | ⟨h0, n2, g, vo, X, st, rfl, hF, hO, hX, hFx⟩
  · have Hne := Lib.hid hne
    have hq : ((bmay b : Int) != 0) = true := by rw [bne_iff_ne]; exact hne
    have hq2 : ((bmay b : Int) == 0) = false := by rw [beq_eq_false_iff_ne]; exact hne
    clear hne
    generalize hm : bmay b = mm at *
    have HE : Hid (BeginsP w b n m (.returned (.bool false)) w2) := Lib.hid ⟨.inl ⟨by rw [hm]; exact Hne.out, rfl⟩, HB2.out⟩
    go_wp2_with fail
    go_ret
    exact HE.out
  · obtain ⟨z1, z2, _, _, _, z6, _⟩ := bmay_zero h0
    have HO := Lib.hid hO; have HX := Lib.hid hX; have HFx := Lib.hid hFx; have HF := Lib.hid hF; have H0 := Lib.hid h0
    have Hz := Lib.hid (And.intro z1 (And.intro z2 z6))
    obtain ⟨c0, c1, c2, c3⟩ := Hbx2.out.four
    have Hout : Hid (¬ ((0 ≤ n ∧ n < (ol : Int)) ∧ (0 ≤ m ∧ m < (ol : Int))) → BeginsP w b n m (.returned (.bool false)) w2) := Lib.hid fun h => ⟨.inr ⟨H0.out, false, st, rfl, HF.out, by
      constructor
      · intro h1; cases h1
      · rintro ⟨h1, h2, _⟩; exact absurd ⟨by have := Hol.out; omega, by have := Hol.out; omega⟩ h⟩, HB2.out⟩
    clear hO hX hFx hF h0 z1 z2 z6
    by_cases n0 : n < 0
    · have q1 : decide (n < 0) = true := decide_eq_true n0
      have HE := Lib.hid (Hout.out (by omega))
      clear n0 Hout
      go_wp2_with fail
      go_ret
      exact HE.out
    have q1 : decide (n < 0) = false := decide_eq_false n0
    by_cases n1 : (ol : Int) ≤ n
    · have q2 : decide ((ol : Int) ≤ n) = true := decide_eq_true n1
      have HE := Lib.hid (Hout.out (by omega))
      clear n0 n1 Hout
      go_wp2_with fail
      go_ret
      exact HE.out
    have q2 : decide ((ol : Int) ≤ n) = false := decide_eq_false n1
    by_cases m0 : m < 0
    · have q3 : decide (m < 0) = true := decide_eq_true m0
      have HE := Lib.hid (Hout.out (by omega))
      clear n0 n1 m0 Hout
      go_wp2_with fail
      go_ret
      exact HE.out
    have q3 : decide (m < 0) = false := decide_eq_false m0
    by_cases m1 : (ol : Int) ≤ m
    · have q4 : decide ((ol : Int) ≤ m) = true := decide_eq_true m1
      have HE := Lib.hid (Hout.out (by omega))
      clear n0 n1 m0 m1 Hout
      go_wp2_with fail
      go_ret
      exact HE.out
    have q4 : decide ((ol : Int) ≤ m) = false := decide_eq_false m1
    obtain ⟨q, rfl⟩ : ∃ q : Nat, n = (q : Int) := ⟨n.toNat, by omega⟩
    obtain ⟨p, rfl⟩ : ∃ p : Nat, m = (p : Int) := ⟨m.toNat, by omega⟩
    have Hqp := Lib.hid (show q < ol ∧ p < ol by omega)
    have q5 : decide (ol ≤ q) = false := decide_eq_false (by omega)
    have q6 : decide (ol ≤ p) = false := decide_eq_false (by omega)
    clear n0 n1 m0 m1 Hout q2 q4
    have hqX : q < X.length := by have := HX.out; have := Hqp.out; have := Hol.out; omega
    obtain ⟨x, hx⟩ : ∃ x, X[q]? = some x := ⟨_, List.getElem?_eq_getElem hqX⟩
    have hxe := HFx.out q x hx
    have hown := HO.out.each _ (List.mem_of_getElem? hx)
    have Hnext := Lib.hid (fun W (hW : Below w2.heap.size w2 W) => next_any W n2 g X.length vo X (HO.out.below hW) rfl (by have := HX.out; have := Hz.out.2.1; omega) q x hx)
    have Hcome := Lib.hid (fun W (hW : Below w2.heap.size w2 W) => come_any W n2 g ol vo x.1 X (FN b st) (FN b st (q : Int)) (HO.out.below hW) (by rw [HX.out]; exact Hol.out.symm) (by have := Hz.out.1; have := Hz.out.2.1; have := Hol.out; omega) HFx.out (fun x y hy => by have := FN_range Hz.out.2.2 hy; have := Hol.out; omega) (by rw [← hxe]; exact ((Row.of_owns hown).below hW).mono hW.size) (fun y hy => by have := FN_range Hz.out.2.2 hy; have := Hol.out; omega))
    obtain ⟨xa, xc, hxv, _, _⟩ := owns_valP hown
    rw [hxv] at Hnext Hcome
    clear hqX hx hxe hown hxv
    generalize x.2.length = xn at *
    go_upto_region 4 with fail
    have Hbx : Hid (∀ W, Below w2.heap.size w2 W → W.cell? ⟨w.heap.size, 2, none⟩ = some (.slice oa ol oc)) := Lib.hid fun W hW => (Hbx2.out.keep hW).c2
    have hd := (Below.refl w2.heap.size w2).drew
    refine wp_region_ord 11 [(0, true), (1, true), (2, true), (3, true), (4, true), (6, true), (8, true), (5, false), (7, false), (9, true), (10, false), (11, false)] (fun w' => w'.cell? ⟨w.heap.size, 2, none⟩ = some (.slice oa ol oc)) (by kernel_rfl) (by kernel_rfl) (Hbx.out _ hd) ?_
    simp only [ordL, List.getElem?_toArray, List.getElem?_cons_succ, List.getElem?_cons_zero]
    iterate 7 (
      refine ordW_read (v := ?_) (by rfl) ?_ (fun _ _ _ h => h) ?_
      rotate_left
      focus (intro w' hS; go_simp; (try with_reducible rfl); done)
      try simp only [Act.put, List.setIfInBounds_toArray, List.set_cons_zero, List.set_cons_succ])
    refine ordW_do (by rfl) (fun K' HK => ?_)
    go_simp
    refine (Hnext.out _ hd).mono ?_
    rintro e w3 ⟨rfl, rfl⟩
    refine HK.out _ _ (fun _ => Hbx.out _ hd) ?_
    clear HK K'
    try simp only [Act.put, List.setIfInBounds_toArray, List.set_cons_zero, List.set_cons_succ]
    refine ordW_do (by rfl) (fun K' HK => ?_)
    go_simp
    refine (Hcome.out _ hd).mono ?_
    rintro e w4 ⟨a4, c4, st4, rfl, hR4, hl4, hm4, hb4⟩
    have hb24 : Below w2.heap.size w2 w4 := hd.trans (hb4 : Below w2.heap.size w2.drew w4)
    obtain ⟨b5, o5, rfl, _, _⟩ := hR4.at (by rw [bools_length]; have := Hqp.out; omega)
    have hpl : p < st4.length := by rw [hl4]; exact Hqp.out.2
    have c9 := hR4.cell p _ (bools_at st4 p hpl)
    have hm5 := hm4 p Hqp.out.2
    rw [List.getElem?_eq_getElem hpl] at hm5
    refine HK.out _ _ (fun _ => Hbx.out _ hb24) ?_
    clear HK K'
    generalize st4[p] = y at *
    have HE : Hid (BeginsP w b (q : Int) (p : Int) (.returned (.bool y)) w4) := Lib.hid ⟨.inr ⟨H0.out, y, st, rfl, HF.out, by
      have h1 := Hqp.out; have h2 := Hol.out
      constructor
      · intro hy; subst hy; exact ⟨⟨by omega, by omega⟩, ⟨by omega, by omega⟩, hm5.1 rfl⟩
      · rintro ⟨_, _, h3⟩; exact Option.some.inj (hm5.2 h3)⟩, HB2.out.trans (hb24.mono HB2.out.size)⟩
    have hp4 : (p : Int) < (ol : Int) := by have := Hqp.out.2; omega
    have hp5 : (0 : Int) ≤ (p : Int) := by omega
    have HS := Lib.hid (Hbx.out _ hb24)
    clear hm5 hm4 hR4 hl4 hb4 hpl hd
    try simp only [Act.put, List.setIfInBounds_toArray, List.set_cons_zero, List.set_cons_succ]
    iterate 1 (
      refine ordW_read (v := ?_) (by rfl) ?_ (fun _ _ _ h => h) ?_
      rotate_left
      focus (intro w' hS; go_simp; (try with_reducible rfl); done)
      try simp only [Act.put, List.setIfInBounds_toArray, List.set_cons_zero, List.set_cons_succ])
    refine ordW_do (by rfl) (fun K' HK => ?_)
    go_simp
    refine HK.out _ _ (fun _ => HS.out) ?_
    clear HK K'
    try simp only [Act.put, List.setIfInBounds_toArray, List.set_cons_zero, List.set_cons_succ]
    refine ordW_do (by rfl) (fun K' HK => ?_)
    go_simp
    refine HK.out _ _ (fun h => absurd rfl h) (ordW_nil ?_)
    clear HK K'
    go_wp2_with fail
    go_ret
    exact HE.out
end Go.Proofs.Ytfmcigodfihlcaa
