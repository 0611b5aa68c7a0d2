/-
  reach.Reached, and the document's Reached.
-/
import Derived.Test.YtfmcigodfihlcaaReaL
import Derived.Deep.RegionHeld3
namespace Go.Proofs.Ytfmcigodfihlcaa
open Go.RowKit PK
set_option linter.unusedVariables false
set_option linter.unusedSimpArgs false
attribute [local go_sem ↓] append_appM

theorem bools_oneT (l : List Bool) : ∀ u ∈ bools l, u.oneCell' = true := by
  intro u hu; simp only [bools, List.mem_map] at hu; obtain ⟨x, _, rfl⟩ := hu; rfl
theorem own_pushB {w : World} {n : Nat} {lv : Value} {L : List Bool} (hn : n ≤ w.heap.size) (h : w.ownsRow n 4 1 lv L.length (bools L)) (x : Bool) (hl : L.length + 1 ≤ 10000000) :
    ∃ a c w3, Sem.run Try.prog (appM #[28, 28] 28 #[lv, .slice (some ⟨w.heap.size, 0, none⟩) 1 1]) (w.alloc (.cells #[.bool x] 4)) = .ok (.slice a (L.length + 1) c) w3 ∧ w3.ownsRow n 4 1 (.slice a (L.length + 1) c) (L ++ [x]).length (bools (L ++ [x])) ∧ Below n w w3 := by
  obtain ⟨i0, hi0, hz0, hz1, hz2⟩ := info_parts info_boolT
  have rt : Row (w.alloc (.cells #[.bool x] 4)) (w.heap.size + 1) 1 (.slice (some ⟨w.heap.size, 0, none⟩) 1 1) 1 (bools [x]) := row_cellsB w (bools [x]) 1 1 1 _ rfl (Nat.le_refl _) (by unfold maxLen; omega)
  obtain ⟨v', w2, h1, h2, h3, h4⟩ := run_append_row (P := Try.prog) (w.alloc (.cells #[.bool x] 4)) 28 28 n 4 i0 (.bool false) 1 1 Try.underlying28 hi0 hz0 hz1 hz2 rfl (by decide) lv L.length (bools L) (h.alloc _) (w.heap.size + 1) _ 1 (bools [x]) rt (bools_oneT _) (by unfold maxLen; omega) (by omega) (by simp; omega)
  obtain ⟨a, c, rfl, _, _⟩ := owns_valP h2
  exact ⟨a, c, w2, h1, by rw [List.length_append]; simpa [bools] using h2, ((Below.refl n w).alloc hn _).grown h3 (by simp; omega) fun k e => (h.lt k e).1⟩
theorem marksL_succ (k : Nat) (L : List Int) : marksL (k + 1) L = marksL k L ++ [decide ((k : Int) ∈ L)] := by
  unfold marksL; rw [List.range_succ, List.map_append]; rfl
/-- What the document's Reached answers. -/
def RReachedP (w : World) (b : Bn) (e : Ending) (w' : World) : Prop := ∃ v st, e = .returned v ∧ st.length = b.of.length ∧ (∀ j : Nat, j < b.of.length → (st[j]? = some true ↔ Rc (nextI b fun _ => true) [0] (j : Int))) ∧ w'.ownsRow w.heap.size 4 1 v st.length (bools st) ∧ Below w.heap.size w w'
set_option maxHeartbeats 4000000 in
set_option maxRecDepth 100000 in
theorem refReached_any (b : Bn) (ov lv : Value) (B : Nat) (w : World) (hB : B ≤ w.heap.size) (r : BR w B ov lv b) (h0 : bmay b = 0) :
    Calls Try.prog 27 #[.agg #[.int .i64 b.toks, .int .i64 b.look, ov, lv]] w (RReachedP w b) := by
  obtain ⟨oa, oc, rfl, ho1, ho2⟩ := r.of.val
  obtain ⟨la, lc, rfl, hl1, hl2⟩ := r.l.val
  obtain ⟨z1, z2, z3, z4, z5, z6, _⟩ := bmay_zero h0
  obtain ⟨st, hst⟩ := fix_exists b false z6
  have hbox := BoxB.new b.toks b.look 25 hB r
  have hb1 := (Below.refl w.heap.size w).alloc (Nat.le_refl _) (.cells #[.int .i64 b.toks, .int .i64 b.look, .slice oa b.of.length oc, .slice la b.l.length lc] 25)
  have hfr : ∀ sv W BW BS, BW ≤ W.heap.size → BR W BW (.slice oa b.of.length oc) (.slice la b.l.length lc) b → BS ≤ W.heap.size → Row W BS 1 sv 1 (ints [0]) → Calls Try.prog 52 #[.agg #[.int .i64 b.toks, .int .i64 b.look, .slice oa b.of.length oc, .slice la b.l.length lc], sv, .bool true] W (FromP W (nextI b fun _ => true) [0]) :=
    fun sv W BW BS hBW hr hBS rs => refFrom_any true [0] sv st b (.slice oa b.of.length oc) (.slice la b.l.length lc) BW BS W hBW hr h0 hst hBS rs (fun x hx => by rw [List.mem_singleton] at hx; omega) (by simp)
  obtain ⟨ol, hol⟩ : ∃ ol, ol = b.of.length := ⟨_, rfl⟩
  obtain ⟨ll, hll⟩ : ∃ ll, ll = b.l.length := ⟨_, rfl⟩
  obtain ⟨tk, htk⟩ : ∃ tk, tk = b.toks := ⟨_, rfl⟩
  obtain ⟨lk, hlk⟩ : ∃ lk, lk = b.look := ⟨_, rfl⟩
  rw [← hol, ← hll, ← htk, ← hlk] at hbox hb1 hfr
  rw [← hol, ← hll, ← htk, ← hlk]
  have ho500 : ol ≤ 500 := by omega
  have Hbox := Lib.hid hbox; have Hb1 := Lib.hid hb1; have Hfr := Lib.hid hfr; have Hol := Lib.hid hol
  clear r hbox hb1 hol hll htk hlk ho1 ho2 hl1 hl2 hB z1 z2 z3 z4 z5 z6 h0 hst hfr
  go_enter Try.func27, Try.ntmps27
  go_upto_region 1 with fail
  generalize w.alloc (.cells #[.int .i64 tk, .int .i64 lk, .slice oa ol oc, .slice la ll lc] 25) = w1 at *
  obtain ⟨c0, c1, c2, c3⟩ := Hbox.out.four
  have hb2 := (Below.refl w1.heap.size w1).alloc (Nat.le_refl _) (.cells #[.int .i64 0] 3)
  have Hr0 : Hid (Row (w1.alloc (.cells #[.int .i64 0] 3)) (w1.heap.size + 1) 1 (.slice (some ⟨w1.heap.size, 0, none⟩) 1 1) 1 (ints [0])) := Lib.hid (row_cellsB w1 (ints [0]) 1 1 1 _ rfl (Nat.le_refl _) (by unfold maxLen; omega))
  have Hf := Lib.hid (Hfr.out _ (w1.alloc (.cells #[.int .i64 0] 3)) B (w1.heap.size + 1) (Hbox.out.keep hb2).le (Hbox.out.keep hb2).r (by simp) Hr0.out)
  have Hb2 := Lib.hid hb2
  clear hb2 Hfr Hr0
  go_wp2_with fail
  refine (Hf.out).mono ?_
  rintro e w3 ⟨L, v3, rfl, hL, hown3, hb3⟩
  have Hb3 := Lib.hid (Hb2.out.trans (hb3.mono Hb2.out.size))
  have Hrow3 := Lib.hid (Row.of_owns hown3)
  have HL := Lib.hid hL
  obtain ⟨la3, lc3, rfl, _, _⟩ := owns_valP hown3
  have hown0 := World.ownsRow_made (base := w3.heap.size) (e := 4) (size := 1) w3 #[] 0 (Nat.le_refl _) (Nat.zero_le _) rfl
  have Hown0 := Lib.hid hown0
  have Hbx3 := Lib.hid (Hbox.out.keep Hb3.out)
  have Hc : Hid (∀ W, Below w3.heap.size w3 W → W.cell? ⟨w.heap.size, 2, none⟩ = some (.slice oa ol oc)) := Lib.hid fun W hW => (Hbx3.out.keep hW).c2
  have HB3 := Lib.hid (Hb1.out.trans (Hb3.out.mono Hb1.out.size))
  clear hown0 hL hb3 hown3 Hf Hbox Hb1 Hb2 Hb3 c0 c1 c2 c3
  go_wp2_with fail
  go_loopw [4, 5] (fun xv iv wr => ∃ (k : Nat), k ≤ ol ∧ iv = .int .i64 (k : Nat) ∧ Hid (wr.ownsRow w3.heap.size 4 1 xv (marksL k L).length (bools (marksL k L))) ∧ Hid (Below w3.heap.size w3 wr)) (fun _ iv _ => ol - (intOf iv).toNat)
  case atStart => exact ⟨0, Nat.zero_le _, rfl, Hown0, Lib.hid ((Below.refl _ w3).alloc (Nat.le_refl _) _)⟩
  case round =>
    clear Hown0
    obtain ⟨q, hk, rfl, HM, HB⟩ := hrel
    have c2 := Hc.out _ HB.out
    obtain ⟨va, vc, rfl, _, _⟩ := owns_valP HM.out
    have hml := marksL_len q L
    by_cases hlt : q < ol
    · have hq1 : (q : Int) < (ol : Int) := by omega
      have hq3 : (q : Int) ≤ 1000 := by omega
      have Hlt := Lib.hid hlt
      have Hhas := Lib.hid (hasInt_any (.slice la3 L.length lc3) L (q : Int) w3.heap.size wr HB.out.size (Hrow3.out.below HB.out))
      have Hms := Lib.hid (marksL_succ q L)
      rw [hml] at HM ⊢
      have Hml := Lib.hid hml
      clear hml hlt hk
      go_wp2_with fail
      refine (Hhas.out).mono ?_
      rintro e w4 ⟨rfl, hb4⟩
      have HM4 := owns_belowP HM.out hb4
      have Hb4 := Lib.hid (HB.out.trans (hb4.mono HB.out.size))
      obtain ⟨a5, d5, w5, happ, hown5, hb5⟩ := own_pushB (L := marksL q L) Hb4.out.size (by rw [Hml.out]; exact HM4) (decide ((q : Int) ∈ L)) (by have := Hml.out; have := Hlt.out; omega)
      rw [← Hms.out] at hown5
      rw [Hml.out] at happ hown5
      have Hown5 := Lib.hid hown5
      have Hb5 := Lib.hid (Hb4.out.trans hb5)
      clear hown5 hb5 hb4 HM4 Hhas
      generalize decide ((q : Int) ∈ L) = y at *
      go_wp2_with fail
      go_roundw
      case rel => exact ⟨q + 1, Hlt.out, by go_num, Hown5, Hb5⟩
      case measure => have := Hlt.out; simp [intOf]; omega
    · obtain rfl : q = ol := by omega
      have HE : Hid (RReachedP w b (.returned (.slice va (marksL q L).length vc)) wr) := Lib.hid ⟨_, marksL q L, rfl, hml.trans Hol.out, fun j hj => by
        rw [marksL_at _ _ _ (by rw [Hol.out]; exact hj), ← HL.out]; simp, owns_baseP HM.out HB3.out.size, HB3.out.trans (HB.out.mono HB3.out.size)⟩
      have hq0 : decide (q < q) = false := by simp
      rw [hml] at HE ⊢
      clear hlt hml hk
      go_wp2_with fail
      go_ret
      exact HE.out
/-- What reach.Reached answers. -/
def ReachedP (w : World) (b : Bn) (e : Ending) (w' : World) : Prop :=
  ((bmay b ≠ 0 ∧ e = .returned (.tuple #[.slice none 0 0, .int .i64 (bmay b)])) ∨ (bmay b = 0 ∧ ∃ v st, e = .returned (.tuple #[v, .int .i64 0]) ∧ st.length = b.of.length ∧ (∀ j : Nat, j < b.of.length → (st[j]? = some true ↔ Rc (nextI b fun _ => true) [0] (j : Int))) ∧ Row w' w'.heap.size 1 v st.length (bools st))) ∧ Below w.heap.size w w'
set_option maxHeartbeats 4000000 in
set_option maxRecDepth 100000 in
theorem reached_any (b : Bn) (tk lk : Int) (ov lv : Value) (B : Nat) (w : World) (etk : b.toks = tk) (elk : b.look = lk) (hB : B ≤ w.heap.size) (r : BR w B ov lv b) :
    Calls Try.prog 24 #[.agg #[.int .i64 tk, .int .i64 lk, ov, lv]] w (ReachedP w b) := by
  obtain ⟨oa, oc, rfl, ho1, ho2⟩ := r.of.val
  obtain ⟨la, lc, rfl, hl1, hl2⟩ := r.l.val
  subst etk elk
  have hbox := BoxB.new b.toks b.look 25 hB r
  have hb1 := agg_box w b.toks b.look (.slice oa b.of.length oc) (.slice la b.l.length lc) 25
  have hno := bnfMay_any b (.slice oa b.of.length oc) (.slice la b.l.length lc) B _ hbox.le hbox.r
  have hpa := fun (h0 : bmay b = 0) W BW hBW hr => parts_all b (.slice oa b.of.length oc) (.slice la b.l.length lc) BW W (fun _ => true) hBW hr h0 (fun W' s _ _ => gone_all s W')
  obtain ⟨ol, hol⟩ : ∃ ol, ol = b.of.length := ⟨_, rfl⟩
  obtain ⟨ll, hll⟩ : ∃ ll, ll = b.l.length := ⟨_, rfl⟩
  obtain ⟨tk, htk⟩ : ∃ tk, tk = b.toks := ⟨_, rfl⟩
  obtain ⟨lk, hlk⟩ : ∃ lk, lk = b.look := ⟨_, rfl⟩
  rw [← hol, ← hll, ← htk, ← hlk] at hbox hb1 hno hpa
  rw [← hol, ← hll, ← htk, ← hlk]
  have Hbox := Lib.hid hbox; have Hb1 := Lib.hid hb1; have Hno := Lib.hid hno; have Hol := Lib.hid hol; have Hpa := Lib.hid hpa
  clear r hbox hb1 hno hol hll htk hlk ho1 ho2 hl1 hl2 hB hpa
  go_enter Try.func24, Try.ntmps24
  go_upto_region 1 with fail
  generalize w.alloc (.cells #[.int .i64 tk, .int .i64 lk, .slice oa ol oc, .slice la ll lc] 25) = w1 at *
  obtain ⟨c0, c1, c2, c3⟩ := Hbox.out.four
  go_wp2_with fail
  refine (Hno.out).mono ?_
  rintro e w2 ⟨rfl, hb2⟩
  have Hbx2 := Lib.hid (Hbox.out.keep hb2)
  have HB2 := Lib.hid (Hb1.out.trans (hb2.mono Hb1.out.size))
  clear hb2 c0 c1 c2 c3 Hno Hbox
  by_cases h0 : bmay b = 0
  · obtain ⟨z1, z2, _, _, _, z6, _⟩ := bmay_zero h0
    have ho500 : ol ≤ 500 := by have := Hol.out; omega
    have ho1 : 1 ≤ ol := by have := Hol.out; omega
    have hHcm := fun (W : World) (n2 g : Nat) (vo sv : Value) (X : List (Value × List Int)) (hO : Ofs W n2 g vo X) (hX : X.length = b.of.length) (hF : ∀ (j : Nat) x, X[j]? = some x → x.2 = nextI b (fun _ => true) (j : Int)) (rs : Row W W.heap.size 1 sv 1 (ints [0])) =>
      come_any W n2 g ol vo sv X (nextI b fun _ => true) [0] hO (hX.trans Hol.out.symm) ⟨ho1, by omega⟩ hF (fun x y hy => by have := nextI_range z6 hy; have := Hol.out; omega) rs (fun x hx => by rw [List.mem_singleton] at hx; omega)
    have Hcm := Lib.hid hHcm
    have H0 := Lib.hid h0
    have Hpa0 := Lib.hid (fun W (hW : Below w2.heap.size w2 W) => Hpa.out h0 W B (Hbx2.out.keep hW).le (Hbx2.out.keep hW).r)
    have Hd : Hid (Below w2.heap.size w2 w2.drew) := Lib.hid (Below.refl w2.heap.size w2).drew
    have Ha : Hid (Below w2.heap.size w2 (w2.alloc (.cells #[.int .i64 0] 3)).drew) := Lib.hid ((Below.refl w2.heap.size w2).alloc (Nat.le_refl _) _).drew
    have Hof : Hid (∀ W, Below w2.heap.size w2 W → W.cell? ⟨w.heap.size, 0, none⟩ = some (.int .i64 tk) ∧ W.cell? ⟨w.heap.size, 1, none⟩ = some (.int .i64 lk) ∧ W.cell? ⟨w.heap.size, 2, none⟩ = some (.slice oa ol oc) ∧ W.cell? ⟨w.heap.size, 3, none⟩ = some (.slice la ll lc)) := Lib.hid fun W hW => (Hbx2.out.keep hW).four
    rw [h0]
    clear h0 hHcm z1 z2 z6 Hpa
    have hr0 : Row (w2.alloc (.cells #[.int .i64 0] 3)) (w2.heap.size + 1) 1 (.slice (some ⟨w2.heap.size, 0, none⟩) 1 1) 1 (ints [0]) := row_cellsB w2 (ints [0]) 1 1 1 _ rfl (Nat.le_refl _) (by unfold maxLen; omega)
    have hr0' : Row (w2.alloc (.cells #[.int .i64 0] 3)).drew (w2.heap.size + 1) 1 (.slice (some ⟨w2.heap.size, 0, none⟩) 1 1) 1 (ints [0]) := hr0
    have Hr0 := Lib.hid hr0'
    clear hr0 hr0'
    obtain ⟨c0, c1, c2, c3⟩ := Hof.out w2 (Below.refl _ _)
    go_upto_region 4 with fail
    go_cut [5] (fun p wx => ∃ (a : Option Addr) (c : Nat) (st : List Bool), p = .slice a ol c ∧ Hid (Row wx wx.heap.size 1 (.slice a ol c) ol (bools st)) ∧ Hid (st.length = ol) ∧ Hid (∀ j : Nat, j < ol → (st[j]? = some true ↔ Rc (nextI b fun _ => true) [0] (j : Int))) ∧ Hid (Below w2.heap.size w2 wx))
    case first =>
      clear c0 c1 c2 c3
      obtain ⟨g0, g1, g2, g3⟩ := Hof.out _ Hd.out
      obtain ⟨g4, g5, g6, g7⟩ := Hof.out _ Ha.out
      go_region_held3 (fun w' => w'.cell? ⟨w.heap.size, 0, none⟩ = some (.int .i64 tk) ∧ w'.cell? ⟨w.heap.size, 1, none⟩ = some (.int .i64 lk) ∧ w'.cell? ⟨w.heap.size, 2, none⟩ = some (.slice oa ol oc) ∧ w'.cell? ⟨w.heap.size, 3, none⟩ = some (.slice la ll lc)) (go_keep) (first
        | (go_at_call 49; ((with_reducible refine (Hpa0.out w2.drew Hd.out).mono ?_); rintro e w3 ⟨g3, vo3, X3, rfl, hO3, hX3, hF3, hb3⟩; (have hb23 : Below w2.heap.size w2 w3 := Hd.out.trans (hb3.mono Hd.out.size)); (have hb34 := (Below.refl w3.heap.size w3).alloc (Nat.le_refl _) (.cells #[.int .i64 0] 3)); (have hb24 := hb23.trans (hb34.mono hb23.size)); (have hr4 : Row (w3.alloc (.cells #[.int .i64 0] 3)) (w3.alloc (.cells #[.int .i64 0] 3)).heap.size 1 (.slice (some ⟨w3.heap.size, 0, none⟩) 1 1) 1 (ints [0]) := (row_cellsB w3 (ints [0]) 1 1 1 _ rfl (Nat.le_refl _) (by unfold maxLen; omega)).mono (by simp)); (have HC := Lib.hid (Hcm.out _ _ g3 vo3 _ X3 (hO3.below hb34) hX3 hF3 hr4)); (have HB24 := Lib.hid hb24); (obtain ⟨h0, h1, h2, h3⟩ := Hof.out w3 hb23); (obtain ⟨h4, h5, h6, h7⟩ := Hof.out _ hb24); clear hO3 hX3 hF3 hb3 hb23 hb34 hb24 hr4))
        | (go_at_call 49; ((with_reducible refine (Hpa0.out (w2.alloc (.cells #[.int .i64 0] 3)).drew Ha.out).mono ?_); rintro e w3 ⟨g3, vo3, X3, rfl, hO3, hX3, hF3, hb3⟩; (have hb23 : Below w2.heap.size w2 w3 := Ha.out.trans (hb3.mono Ha.out.size)); (have hr4 : Row w3 w3.heap.size 1 (.slice (some ⟨w2.heap.size, 0, none⟩) 1 1) 1 (ints [0]) := (Row.below Hr0.out (hb3.mono (by simp))).mono (by have := hb3.size; simp at this; omega)); (have HC := Lib.hid (Hcm.out w3 _ g3 vo3 _ X3 hO3 hX3 hF3 hr4)); (have HB24 := Lib.hid hb23); (obtain ⟨h0, h1, h2, h3⟩ := Hof.out w3 hb23); clear hO3 hX3 hF3 hb3 hb23 hr4))
        | (go_at_call 48; ((with_reducible refine (HC.out).mono ?_); rintro e w4 ⟨a4, c4, st4, rfl, hR4, hl4, hm4, hb4⟩; (obtain ⟨k0, k1, k2, k3⟩ := Hof.out w4 (HB24.out.trans (hb4.mono HB24.out.size))); (have HE4 := Lib.hid (And.intro hR4 (And.intro hl4 (And.intro hm4 (HB24.out.trans (hb4.mono HB24.out.size)))))); clear hR4 hl4 hm4 hb4)))
      all_goals
        go_wp2_with fail
        go_meet
        case rel => exact ⟨_, _, st4, rfl, Lib.hid HE4.out.1, Lib.hid HE4.out.2.1, Lib.hid HE4.out.2.2.1, Lib.hid HE4.out.2.2.2⟩
    case rest =>
    obtain ⟨a4, c4, st4, rfl, HR4, Hl4, Hm4, Hb4⟩ := hcut
    have HE : Hid (ReachedP w b (.returned (.tuple #[.slice a4 ol c4, .int .i64 0])) _) := Lib.hid ⟨.inr ⟨H0.out, _, st4, rfl, Hl4.out.trans Hol.out, fun j hj => Hm4.out j (by have := Hol.out; omega), by rw [Hl4.out]; exact HR4.out⟩, HB2.out.trans (Hb4.out.mono HB2.out.size)⟩
    go_wp2_with fail
    go_ret2
    exact HE.out
  · have Hne := Lib.hid h0
    have hq : ((bmay b : Int) == 0) = false := by rw [beq_eq_false_iff_ne]; exact h0
    have hq2 : ((bmay b : Int) != 0) = true := by rw [bne_iff_ne]; exact h0
    clear h0
    generalize hm : bmay b = m at *
    have HE : Hid (ReachedP w b (.returned (.tuple #[.slice none 0 0, .int .i64 m])) w2) := Lib.hid ⟨.inl ⟨by rw [hm]; exact Hne.out, by rw [hm]⟩, HB2.out⟩
    go_wp2_with fail
    go_ret2
    exact HE.out
end Go.Proofs.Ytfmcigodfihlcaa
