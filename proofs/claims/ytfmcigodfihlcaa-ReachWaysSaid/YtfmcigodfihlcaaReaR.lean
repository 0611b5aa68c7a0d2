/-
  Stage 11's few; the statement that what begins with what goes over.
-/
import Derived.Test.YtfmcigodfihlcaaReaQ
namespace Go.Proofs.Ytfmcigodfihlcaa
open Go.RowKit PK
set_option linter.unusedVariables false
set_option linter.unusedSimpArgs false
attribute [local go_sem ↓] append_appM

set_option maxHeartbeats 1000000 in
theorem few11_any (b : Bn) (tk lk : Int) (o l : Value) (n : Nat) (w : World) (h1 : b.toks = tk) (h2 : b.look = lk) (hB : n ≤ w.heap.size) (r : BR w n o l b) :
    Calls Try.prog 23 #[.agg #[.int .i64 tk, .int .i64 lk, o, l]] w (Few10 w tk lk (fewB 10 20 b)) := by
  have hb1 := agg_box w tk lk o l 25
  have hb2 := (Below.refl _ (w.alloc (.cells #[.int .i64 tk, .int .i64 lk, o, l] 25))).alloc (Nat.le_refl _) (.cells #[.int .i64 0, .int .i64 0, .slice none 0 0, .slice none 0 0] 25)
  have hb12 := hb1.trans (hb2.mono hb1.size)
  have hs1 : (w.alloc (.cells #[.int .i64 tk, .int .i64 lk, o, l] 25)).heap.size = w.heap.size + 1 := by simp
  have hs2 : ((w.alloc (.cells #[.int .i64 tk, .int .i64 lk, o, l] 25)).alloc (.cells #[.int .i64 0, .int .i64 0, .slice none 0 0, .slice none 0 0] 25)).heap.size = w.heap.size + 2 := by simp
  have hp := box_new (w.alloc (.cells #[.int .i64 tk, .int .i64 lk, o, l] 25)) #[.int .i64 0, .int .i64 0, .slice none 0 0, .slice none 0 0] 25
  rw [hs1] at hp
  have hfew := few_any11 b tk lk o l n _ h1 h2 (Nat.le_trans hB hb12.size) (r.below (hb12.mono hB))
  have q0 := fun j u h => (hb2.cell (p := ⟨w.heap.size, j, none⟩) (show w.heap.size < _ by rw [hs1]; omega)).trans (cell_new w #[.int .i64 tk, .int .i64 lk, o, l] 25 j u h)
  have c0 := q0 0 _ rfl
  have c1 := q0 1 _ rfl
  have c2 := q0 2 _ rfl
  have c3 := q0 3 _ rfl
  have Hfew := Lib.hid hfew; have Hb := Lib.hid hb12; have Hp := Lib.hid hp; have Hs2 := Lib.hid hs2
  clear hfew hb1 hb2 hb12 hp hs1 hs2 q0 r
  go_enter Try.func23, Try.ntmps23
  go_upto_region 1 with fail
  generalize (w.alloc (.cells #[.int .i64 tk, .int .i64 lk, o, l] 25)).alloc (.cells #[.int .i64 0, .int .i64 0, .slice none 0 0, .slice none 0 0] 25) = w2 at *
  have hsz2 := Hs2.out
  go_wp2_with fail
  refine (Hfew.out).mono ?_
  rintro e w3 ⟨o3, l3, rfl, hbr, hb3⟩
  generalize fewB 10 20 b = B at *
  obtain ⟨oa, oc, rfl, _, _⟩ := (hbr w3 (fun _ _ => rfl) rfl).of.val
  obtain ⟨la, lc, rfl, _, _⟩ := (hbr w3 (fun _ _ => rfl) rfl).l.val
  have hp3 : w3.heap[w.heap.size + 1]? = some (.cells #[.int .i64 0, .int .i64 0, .slice none 0 0, .slice none 0 0] 25 (0, 0)) := by rw [hb3.block _ (by omega)]; exact Hp.out
  obtain ⟨x0, x1, x2, x3, f0, f1, f2, f3, hlt3⟩ := four_cells hp3
  have HB3 := Lib.hid (below_four (Hb.out.trans (hb3.mono Hb.out.size)) (show w.heap.size ≤ w.heap.size + 1 by omega) (.int .i64 tk) (.int .i64 lk) (.slice oa B.of.length oc) (.slice la B.l.length lc))
  obtain ⟨y0, y1, y2, y3, _, _, _, _, hlt4⟩ := four_cells (four_set hp3 (.int .i64 tk) (.int .i64 lk) (.slice oa B.of.length oc) (.slice la B.l.length lc))
  have hs4 : ((((w3.setCell ⟨w.heap.size + 1, 0, none⟩ (.int .i64 tk)).setCell ⟨w.heap.size + 1, 1, none⟩ (.int .i64 lk)).setCell ⟨w.heap.size + 1, 2, none⟩ (.slice oa B.of.length oc)).setCell ⟨w.heap.size + 1, 3, none⟩ (.slice la B.l.length lc)).heap.size = w3.heap.size := by simp [World.setCell]
  have hk4 : ∀ k, w2.heap.size + 2 ≤ k → ((((w3.setCell ⟨w.heap.size + 1, 0, none⟩ (.int .i64 tk)).setCell ⟨w.heap.size + 1, 1, none⟩ (.int .i64 lk)).setCell ⟨w.heap.size + 1, 2, none⟩ (.slice oa B.of.length oc)).setCell ⟨w.heap.size + 1, 3, none⟩ (.slice la B.l.length lc)).heap[k]? = w3.heap[k]? := fun k hk => by
    have hne : ∀ j : Nat, k ≠ (⟨w.heap.size + 1, j, none⟩ : Addr).block := fun j e => by
      have e' : k = w.heap.size + 1 := e
      omega
    rw [Below.heap_setCell _ _ _ _ (hne 3), Below.heap_setCell _ _ _ _ (hne 2), Below.heap_setCell _ _ _ _ (hne 1), Below.heap_setCell _ _ _ _ (hne 0)]
  have HP : Hid (Few10 w tk lk B (.returned (.agg #[.int .i64 tk, .int .i64 lk, .slice oa B.of.length oc, .slice la B.l.length lc])) ((((w3.setCell ⟨w.heap.size + 1, 0, none⟩ (.int .i64 tk)).setCell ⟨w.heap.size + 1, 1, none⟩ (.int .i64 lk)).setCell ⟨w.heap.size + 1, 2, none⟩ (.slice oa B.of.length oc)).setCell ⟨w.heap.size + 1, 3, none⟩ (.slice la B.l.length lc))) := Lib.hid
    ⟨_, _, rfl, fun W' hk hs => by
      rw [hs4] at hs ⊢
      exact hbr W' (fun k hk2 => (hk k (by omega)).trans (hk4 k hk2)) hs, HB3.out⟩
  clear hbr hb3 hp3 hk4 hs4 HB3 c0 c1 c2 c3 hsz2 Hfew
  obtain ⟨ol, hol⟩ : ∃ ol, ol = B.of.length := ⟨_, rfl⟩
  obtain ⟨ll, hll⟩ : ∃ ll, ll = B.l.length := ⟨_, rfl⟩
  rw [← hol, ← hll] at HP y0 y1 y2 y3 ⊢
  clear hol hll
  go_wp2_with fail
  generalize (((w3.setCell ⟨w.heap.size + 1, 0, none⟩ (.int .i64 tk)).setCell ⟨w.heap.size + 1, 1, none⟩ (.int .i64 lk)).setCell ⟨w.heap.size + 1, 2, none⟩ (.slice oa ol oc)).setCell ⟨w.heap.size + 1, 3, none⟩ (.slice la ll lc) = w4 at *
  refine bodyPost_ret (v := .agg #[.int .i64 tk, .int .i64 lk, .slice oa ol oc, .slice la ll lc]) (by simp [results, Try.results23, go_sem, y0, y1, y2, y3]) rfl ?_
  exact HP.out
theorem Rc.over {F : Int → List Int} {S : List Int} {y z : Int} (h : Rc F S y) (k : Rc F (F y) z) : Rc F S z := by
  induction k with
  | base h1 => exact .step h h1
  | step _ h1 ih => exact .step ih h1
/-- What Begins says. -/
def BegB (b : Bn) (n m : Int) : Prop := bmay b = 0 ∧ (0 ≤ n ∧ n < b.of.length) ∧ (0 ≤ m ∧ m < b.of.length) ∧ ∃ st, Fix b false st ∧ Rc (FN b st) (FN b st n) m
theorem BegB.trans {b : Bn} {x y z : Int} (h : BegB b x y) (k : BegB b y z) : BegB b x z := by
  obtain ⟨h0, h1, h2, st, hF, hR⟩ := h
  obtain ⟨_, _, k2, st2, kF, kR⟩ := k
  obtain rfl := Fix.uniq (bmay_zero h0).2.2.2.2.2.1 hF kF
  exact ⟨h0, h1, k2, st, hF, hR.over kR⟩
theorem BeginsP.val {w w' : World} {b : Bn} {n m : Int} {e : Ending} (h : BeginsP w b n m e w') : ∃ x, e = .returned (.bool x) ∧ (x = true ↔ BegB b n m) ∧ Below w.heap.size w w' := by
  rcases h with ⟨⟨h1, rfl⟩ | ⟨h1, x, st, rfl, hF, hx⟩, hb⟩
  · exact ⟨false, rfl, ⟨(fun h => by cases h), fun h => absurd h.1 h1⟩, hb⟩
  · refine ⟨x, rfl, hx.trans ⟨fun h => ⟨h1, h.1, h.2.1, st, hF, h.2.2⟩, fun h => ?_⟩, hb⟩
    obtain ⟨_, a1, a2, st2, kF, kR⟩ := h
    obtain rfl := Fix.uniq (bmay_zero h1).2.2.2.2.2.1 hF kF
    exact ⟨a1, a2, kR⟩
theorem WayP.list {w w' : World} {b : Bn} {n : Int} {e : Ending} (h : WayP w b n e w') : ∃ W v, e = .returned v ∧ w'.ownsRow w.heap.size 3 1 v W.length (ints W) ∧ (∀ x ∈ W, BegB b x x) ∧ W.length ≤ 1000 ∧ Below w.heap.size w w' := by
  rcases h with ⟨⟨_, rfl⟩ | ⟨h0, hn, st, hF, ⟨_, rfl⟩ | ⟨W, s, v, hW, hl, hr, rfl, ho⟩⟩, hb⟩
  · exact ⟨[], _, rfl, World.ownsRow_nil _ _ _ _, (fun x hx => by cases hx), (by simp), hb⟩
  · exact ⟨[], _, rfl, World.ownsRow_nil _ _ _ _, (fun x hx => by cases hx), (by simp), hb⟩
  · refine ⟨W, v, rfl, ho, fun x hx => ?_, hl, hb⟩
    obtain ⟨i, hi⟩ := List.getElem?_of_mem hx
    exact ⟨h0, hr x hx, hr x hx, st, hF, hW.own hi⟩
set_option maxHeartbeats 4000000 in
set_option maxRecDepth 100000 in
theorem reachOver_walk (b : Bn) (ov lv : Value) (x y z : Int) (w : World) (r : BR w w.heap.size ov lv b) :
    Calls Try.prog 9 #[.agg #[.int .i64 b.toks, .int .i64 b.look, ov, lv], .int .i64 x, .int .i64 y, .int .i64 z] w (BoolB w true) := by
  have hb1 := agg_box w b.toks b.look ov lv 25
  have hbx := BoxB.new b.toks b.look 25 (Nat.le_refl w.heap.size) r
  have hp1 := box_new w #[.int .i64 b.toks, .int .i64 b.look, ov, lv] 25
  have hfw : ∀ W BW, BW ≤ W.heap.size → BR W BW ov lv b → Calls Try.prog 23 #[.agg #[.int .i64 b.toks, .int .i64 b.look, ov, lv]] W (Few10 W b.toks b.look (fewB 10 20 b)) := fun W BW hBW hr => few11_any b b.toks b.look ov lv BW W rfl rfl hBW hr
  obtain ⟨htk, hlk⟩ := fewB_toks 10 20 b
  generalize fewB 10 20 b = B at *
  generalize b.toks = tk at *
  generalize b.look = lk at *
  have Hfw := Lib.hid hfw; have Hp1 := Lib.hid hp1; have Hb1 := Lib.hid hb1; have Etk := Lib.hid htk; have Elk := Lib.hid hlk; have Hbx := Lib.hid hbx
  have Hwk := Lib.hid works11_any
  clear hfw hp1 hb1 htk hlk r hbx
  go_enter Try.func9, Try.ntmps9
  go_upto_region 1 with fail
  generalize w.alloc (.cells #[.int .i64 tk, .int .i64 lk, ov, lv] 25) = w1 at *
  go_wp2_with fail
  refine (Hwk.out _).mono ?_
  rintro e w2 ⟨rfl, hb2⟩
  have hlt1 : w.heap.size < w1.heap.size := Hbx.out.lt
  have hp2 : w2.heap[w.heap.size]? = some (.cells #[.int .i64 tk, .int .i64 lk, ov, lv] 25 (0, 0)) := by rw [hb2.block _ hlt1]; exact Hp1.out
  have Hbx2 := Lib.hid (Hbx.out.keep hb2)
  have HB2 := Lib.hid (Hb1.out.trans (hb2.mono Hb1.out.size))
  have Hp2 := Lib.hid hp2
  have Hfew := Lib.hid (Hfw.out w2 _ Hbx2.out.le Hbx2.out.r)
  obtain ⟨y0, y1, y2, y3, _, _, _, _, hlt0⟩ := four_cells hp2
  clear hb2 hp2 hlt1 Hfw Hbx Hp1
  go_wp2_with fail
  refine (Hfew.out).mono ?_
  rintro e w3 ⟨o, l, rfl, hbr, hb3⟩
  obtain ⟨oa, oc, rfl, _, _⟩ := (hbr w3 (fun _ _ => rfl) rfl).of.val
  obtain ⟨la, lc, rfl, _, _⟩ := (hbr w3 (fun _ _ => rfl) rfl).l.val
  have hp3 : w3.heap[w.heap.size]? = some (.cells #[.int .i64 tk, .int .i64 lk, ov, lv] 25 (0, 0)) := by rw [hb3.block _ hlt0]; exact Hp2.out
  have hbox := BoxB.put tk lk hp3 (show w.heap.size < w2.heap.size + 2 by omega) hbr
  have HB4 := Lib.hid (below_four (HB2.out.trans (hb3.mono HB2.out.size)) (Nat.le_refl w.heap.size) (.int .i64 tk) (.int .i64 lk) (.slice oa B.of.length oc) (.slice la B.l.length lc))
  obtain ⟨x0, x1, x2, x3, f0, f1, f2, f3, hlt2⟩ := four_cells hp3
  have Hbox := Lib.hid hbox
  obtain ⟨ol, hol⟩ : ∃ ol, ol = B.of.length := ⟨_, rfl⟩
  obtain ⟨ll, hll⟩ : ∃ ll, ll = B.l.length := ⟨_, rfl⟩
  have hbeg : ∀ n m W BW, BW ≤ W.heap.size → BR W BW (.slice oa B.of.length oc) (.slice la B.l.length lc) B → Calls Try.prog 30 #[.agg #[.int .i64 tk, .int .i64 lk, .slice oa B.of.length oc, .slice la B.l.length lc], .int .i64 n, .int .i64 m] W (BeginsP W B n m) := fun n m W BW hBW hr => begins_any B tk lk n m _ _ BW W Etk.out Elk.out hBW hr
  have hway : ∀ n W BW, BW ≤ W.heap.size → BR W BW (.slice oa B.of.length oc) (.slice la B.l.length lc) B → Calls Try.prog 33 #[.agg #[.int .i64 tk, .int .i64 lk, .slice oa B.of.length oc, .slice la B.l.length lc], .int .i64 n] W (WayP W B n) := fun n W BW hBW hr => way_any B tk lk n _ _ BW W Etk.out Elk.out hBW hr
  rw [← hol, ← hll] at HB4 Hbox hbeg hway ⊢
  have Hbeg := Lib.hid hbeg; have Hway := Lib.hid hway
  clear y0 y1 y2 y3 hlt0 hp3 hbr hb3 hbox Hfew hol hll hbeg hway Hbx2 Hp2 Hwk
  go_upto_region 4 with fail
  generalize (((w3.setCell ⟨w.heap.size, 0, none⟩ (.int .i64 tk)).setCell ⟨w.heap.size, 1, none⟩ (.int .i64 lk)).setCell ⟨w.heap.size, 2, none⟩ (.slice oa ol oc)).setCell ⟨w.heap.size, 3, none⟩ (.slice la ll lc) = w4 at *
  clear x0 x1 x2 x3 f0 f1 f2 f3 hlt2
  have Hc : Hid (∀ W, Below w4.heap.size w4 W → W.cell? ⟨w.heap.size, 0, none⟩ = some (.int .i64 tk) ∧ W.cell? ⟨w.heap.size, 1, none⟩ = some (.int .i64 lk) ∧ W.cell? ⟨w.heap.size, 2, none⟩ = some (.slice oa ol oc) ∧ W.cell? ⟨w.heap.size, 3, none⟩ = some (.slice la ll lc)) := Lib.hid fun W hW => (Hbox.out.keep hW).four
  have Hb0 : Hid (Below w4.heap.size w4 w4) := Lib.hid (Below.refl _ _)
  go_cut [31] (fun p wx => p = .bool false ∧ Hid (Below w4.heap.size w4 wx))
  case first =>
    obtain ⟨c0, c1, c2, c3⟩ := Hc.out _ Hb0.out
    have Hq := Lib.hid (Hbeg.out x y w4 _ Hbox.out.le Hbox.out.r)
    go_wp2_with fail
    refine (Hq.out).mono ?_
    intro e w5 hp5
    obtain ⟨v1, rfl, hv1, hb5⟩ := hp5.val
    have HB5 := Lib.hid (Hb0.out.trans hb5)
    have Hv1 := Lib.hid hv1
    clear hp5 hb5 hv1 Hq c0 c1 c2 c3
    cases v1 with
    | false =>
      go_wp2_with fail
      go_meet
      case rel => exact ⟨rfl, HB5⟩
    | true =>
      obtain ⟨c0, c1, c2, c3⟩ := Hc.out _ HB5.out
      have Hq := Lib.hid (Hbeg.out y z w5 _ (Hbox.out.keep HB5.out).le (Hbox.out.keep HB5.out).r)
      go_wp2_with fail
      refine (Hq.out).mono ?_
      intro e w6 hp6
      obtain ⟨v2, rfl, hv2, hb6⟩ := hp6.val
      have HB6 := Lib.hid (HB5.out.trans (hb6.mono HB5.out.size))
      have Hv2 := Lib.hid hv2
      clear hp6 hb6 hv2 Hq c0 c1 c2 c3
      cases v2 with
      | false =>
        go_wp2_with fail
        go_meet
        case rel => exact ⟨rfl, HB6⟩
      | true =>
        obtain ⟨c0, c1, c2, c3⟩ := Hc.out _ HB6.out
        have Hq := Lib.hid (Hbeg.out x z w6 _ (Hbox.out.keep HB6.out).le (Hbox.out.keep HB6.out).r)
        go_wp2_with fail
        refine (Hq.out).mono ?_
        intro e w7 hp7
        obtain ⟨v3, rfl, hv3, hb7⟩ := hp7.val
        have HB7 := Lib.hid (HB6.out.trans (hb7.mono HB6.out.size))
        obtain rfl : v3 = true := hv3.2 ((Hv1.out.1 (by trivial)).trans (Hv2.out.1 (by trivial)))
        clear hp7 hb7 hv3 Hq c0 c1 c2 c3
        go_wp2_with fail
        go_meet
        case rel => exact ⟨rfl, HB7⟩
  case rest =>
  obtain ⟨rfl, HB⟩ := hcut
  obtain ⟨c0, c1, c2, c3⟩ := Hc.out _ HB.out
  have Hq := Lib.hid (Hway.out x _ _ (Hbox.out.keep HB.out).le (Hbox.out.keep HB.out).r)
  clear Hway Hb0
  go_wp2_with fail
  refine (Hq.out).mono ?_
  intro e w6 hp6
  obtain ⟨W, v, rfl, ho, hW, hWl, hb6⟩ := hp6.list
  have HB6 := Lib.hid (HB.out.trans (hb6.mono HB.out.size))
  have HR := Lib.hid (Row.of_owns ho)
  have HW := Lib.hid hW
  obtain ⟨va, vc, rfl, _, _⟩ := owns_valP ho
  clear hp6 hb6 ho hW Hq c0 c1 c2 c3
  obtain ⟨wn, hwn⟩ : ∃ wn, wn = W.length := ⟨_, rfl⟩
  rw [← hwn] at HR hWl ⊢
  have Hwn := Lib.hid hwn
  clear hwn
  go_wp2_with fail
  go_loopw [10] (fun iv wr => ∃ k : Nat, k ≤ wn ∧ iv = .int .i64 (k : Nat) ∧ Hid (Below w6.heap.size w6 wr)) (fun iv _ => wn - (intOf iv).toNat)
  case atStart => exact ⟨0, Nat.zero_le _, rfl, Lib.hid (Below.refl _ _)⟩
  case round =>
    obtain ⟨k, hk, rfl, HBk⟩ := hrel
    by_cases hlt : k < wn
    · have hkW : k < W.length := by have := Hwn.out; omega
      have r0 := HR.out.below HBk.out
      obtain ⟨b1, o1, hao, hbb, _⟩ := r0.at (by rw [ints_length]; omega)
      subst hao
      have c9 := r0.cell k _ (ints_at W k hkW)
      have hmem := HW.out _ (List.getElem_mem hkW)
      generalize W[k] = q at *
      have HBr := Lib.hid (HB6.out.trans (HBk.out.mono HB6.out.size))
      have Hd0 : Hid (Below w4.heap.size w4 wr.drew) := Lib.hid (HBr.out.trans ((Below.refl wr.heap.size wr).drew.mono HBr.out.size))
      have Hq := Lib.hid (Hbeg.out q q wr.drew _ (Hbox.out.keep Hd0.out).le (Hbox.out.keep Hd0.out).r)
      have HS5 := Lib.hid (And.intro (Hc.out _ Hd0.out) (show wr.drew.cell? ⟨b1, o1 + k, none⟩ = some (.int .i64 q) from c9))
      have hk1 : (k : Int) < (wn : Int) := by omega
      have hk2 : (0 : Int) ≤ (k : Int) := by omega
      have hk3 : (k : Int) ≤ 1000 := by omega
      have Hlt := Lib.hid hlt
      have Hmem := Lib.hid hmem
      have Hbb := Lib.hid hbb
      clear hkW r0 c9 hmem hlt hk hbb
      go_upto_region 10 with fail
      refine wp_region_ord 10 [(0, true), (1, true), (2, true), (3, true), (4, true), (5, true), (6, true), (7, true), (8, true), (9, false), (10, false)] (fun w' => (w'.cell? ⟨w.heap.size, 0, none⟩ = some (.int .i64 tk) ∧ w'.cell? ⟨w.heap.size, 1, none⟩ = some (.int .i64 lk) ∧ w'.cell? ⟨w.heap.size, 2, none⟩ = some (.slice oa ol oc) ∧ w'.cell? ⟨w.heap.size, 3, none⟩ = some (.slice la ll lc)) ∧ w'.cell? ⟨b1, o1 + k, none⟩ = some (.int .i64 q)) (by kernel_rfl) (by kernel_rfl) HS5.out ?_
      simp only [ordL, List.getElem?_toArray, List.getElem?_cons_succ, List.getElem?_cons_zero]
      iterate 9 (
        refine ordW_read (v := ?_) (by rfl) ?_ (fun _ _ _ h => h) ?_
        rotate_left
        focus (intro w' hS; obtain ⟨⟨s0, s1, s2, s3⟩, s4⟩ := hS; go_simp; (try with_reducible rfl); done)
        try simp only [Act.put, List.setIfInBounds_toArray, List.set_cons_zero, List.set_cons_succ])
      refine ordW_do (by rfl) (fun K' HK => ?_)
      go_simp
      refine (Hq.out).mono ?_
      intro e w7 hp7
      obtain ⟨v3, rfl, hv3, hb7⟩ := hp7.val
      obtain rfl : v3 = true := hv3.2 Hmem.out
      have hb7' : Below wr.heap.size wr w7 := (Below.refl wr.heap.size wr).drew.trans (hb7 : Below wr.heap.size wr.drew w7)
      have HB7 := Lib.hid (HBk.out.trans (hb7'.mono HBk.out.size))
      have HS6 := Lib.hid (And.intro (Hc.out _ (HBr.out.trans (hb7'.mono HBr.out.size))) ((hb7.cell (p := ⟨b1, o1 + k, none⟩) (Nat.lt_of_lt_of_le Hbb.out HBk.out.size)).trans HS5.out.2))
      refine HK.out _ _ (fun _ => HS6.out) ?_
      clear HK K' hp7 hv3 hb7 hb7'
      try simp only [Act.put, List.setIfInBounds_toArray, List.set_cons_zero, List.set_cons_succ]
      refine ordW_do (by rfl) (fun K' HK => ?_)
      go_simp
      refine HK.out _ _ (fun h => absurd rfl h) (ordW_nil ?_)
      clear HK K'
      go_wp2_with fail
      go_roundw
      case rel => exact ⟨k + 1, Hlt.out, by go_num, HB7⟩
      case measure => have := Hlt.out; simp [intOf]; omega
    · have hk0 : decide (k < wn) = false := decide_eq_false hlt
      clear hlt hk
      go_wp2_with fail
      go_ret
      exact ⟨rfl, HB4.out.trans ((HB6.out.trans (HBk.out.mono HB6.out.size)).mono HB4.out.size)⟩
set_option maxRecDepth 100000 in
theorem reachOver_law {H : Type} {base : Nat} (enc : TypeId × Value → H) (W : World)
    (v0 : Value) (d0 : DataW H) (p0 : List MemPlace) (k0 : Value.okWide Try.prog W .any base 25 v0) (h0 : DataW.Trod enc Try.prog W 0 (fun _ => true) true 25 v0 d0 p0) (x : Int) (_ : (Lit.int .i64 x).wf = true) (y : Int) (_ : (Lit.int .i64 y).wf = true) (z : Int) (_ : (Lit.int .i64 z).wf = true) :
    Calls Try.prog 9 #[v0, .int .i64 x, .int .i64 y, .int .i64 z] W fun e w' => e = .returned (.bool true) ∧ Below W.heap.size W w' := by
  obtain ⟨b, o, l, rfl, r, _⟩ := bnfOf k0 h0
  exact reachOver_walk b o l x y z W r
end Go.Proofs.Ytfmcigodfihlcaa
