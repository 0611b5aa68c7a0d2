/-
  reach.parts.
-/
import Derived.Test.YtfmcigodfihlcaaReaS
import Derived.Test.YtfmcigodfihlcaaRegT
namespace Go.Proofs.Ytfmcigodfihlcaa
open Go.RowKit PK
set_option linter.unusedVariables false
set_option linter.unusedSimpArgs false
attribute [local go_sem ↓] append_appM

set_option maxHeartbeats 4000000 in
set_option maxRecDepth 100000 in
theorem parts_begun (b : Bn) (ov lv : Value) (B : Nat) (w : World) (cp : Option Addr) (f : Sy → Bool) (hB : B ≤ w.heap.size) (r : BR w B ov lv b) (h0 : bmay b = 0)
    (hgone : ∀ W (s : Sy), Below w.heap.size w W → (s.tok = false → 0 ≤ s.n ∧ s.n < b.of.length) → Calls Try.prog 65 #[.agg #[.bool s.tok, .int .i64 s.n], .pointer cp] W (BoolB W (f s))) :
    Calls Try.prog 49 #[.agg #[.int .i64 b.toks, .int .i64 b.look, ov, lv], .func (.func 65) #[] #[.pointer cp]] w (PartsP w b f) := by
  obtain ⟨oa, oc, rfl, ho1, ho2⟩ := r.of.val
  obtain ⟨la, lc, rfl, hl1, hl2⟩ := r.l.val
  obtain ⟨z1, z2, z3, z4, z5, z6, _⟩ := bmay_zero h0
  have hbox := BoxB.new b.toks b.look 25 hB r
  have hb1 := agg_box w b.toks b.look (.slice oa b.of.length oc) (.slice la b.l.length lc) 25
  obtain ⟨ol, hol⟩ : ∃ ol, ol = b.of.length := ⟨_, rfl⟩
  obtain ⟨ll, hll⟩ : ∃ ll, ll = b.l.length := ⟨_, rfl⟩
  obtain ⟨tk, htk⟩ : ∃ tk, tk = b.toks := ⟨_, rfl⟩
  obtain ⟨lk, hlk⟩ : ∃ lk, lk = b.look := ⟨_, rfl⟩
  rw [← hol, ← hll, ← htk, ← hlk] at hbox hb1
  rw [← hol] at hgone
  rw [← hol, ← hll, ← htk, ← hlk]
  obtain ⟨i0, hi, hz0, hz1, hz2⟩ := info_parts info_intsI
  have Hbox := Lib.hid hbox; have Hb1 := Lib.hid hb1; have Hol := Lib.hid hol; have Hll := Lib.hid hll; have Hgone := Lib.hid hgone
  have Hz := Lib.hid (And.intro z1 (And.intro z2 (And.intro z3 (And.intro z4 (And.intro z5 z6)))))
  have ho500 : ol ≤ 500 := by omega
  have hl2000 : ll ≤ 2000 := by omega
  clear r hbox hb1 hol hll htk hlk ho1 ho2 hl1 hl2 hB z1 z2 z3 z4 z5 z6 h0 hgone
  go_enter Try.func49, Try.ntmps49
  go_upto_region 1 with fail
  generalize w.alloc (.cells #[.int .i64 tk, .int .i64 lk, .slice oa ol oc, .slice la ll lc] 25) = w1 at *
  obtain ⟨c0, c1, c2, c3⟩ := Hbox.out.four
  go_upto_region 2 with (at_make; refine wpList_make_full _ rfl _ _ 77 rfl w1.heap.size 22 i0 (.slice none 0 0) 1 Try.underlying77 hi hz0 hz1 .i64 .i64 _ _ ol rfl rfl rfl rfl (by rw [hz2]; omega) (by unfold maxLen; omega) (Nat.le_refl _) ?_; intro wm hown hgrow; have Hown := Lib.hid hown; have Hgrow := Lib.hid hgrow; clear hown hgrow)
  have hbm : Below w1.heap.size w1 wm := (Below.refl w1.heap.size w1).grown Hgrow.out (Nat.le_refl _) (fun k e => by cases e)
  have hrowm : wm.ownsRow w1.heap.size 22 1 (.slice (some ⟨w1.heap.size, 0, none⟩) ol ol) ol (List.replicate ol (.slice none 0 0)) := by
    have e : (madeCells (Value.slice none 0 0).cells (ol * 1)).toList = List.replicate ol (.slice none 0 0) := by
      rw [Nat.mul_one]; show (madeCells #[Value.slice none 0 0] ol).toList = _
      rw [toList_madeCells_one]
    have := Hown.out; rw [e] at this; exact this
  have HB5 := Lib.hid (hbm.alloc hbm.size (.cells #[.slice (some ⟨w1.heap.size, 0, none⟩) ol ol] 77))
  have HO5 := Lib.hid (Ofs.made 77 rfl hrowm (hrowm.lt _ rfl).2)
  clear c0 c1 c2 c3 hbm hrowm Hown Hgrow hi hz0 hz1 hz2
  generalize wm.alloc (.cells #[.slice (some ⟨w1.heap.size, 0, none⟩) ol ol] 77) = w5 at *
  obtain ⟨c0, c1, c2, c3⟩ := (Hbox.out.keep HB5.out).four
  obtain ⟨gO, hgO⟩ : ∃ gO, gO = wm.heap.size := ⟨_, rfl⟩
  rw [← hgO] at HO5 ⊢
  clear hgO
  go_wp2_with fail
  clear c0 c1 c2 c3
  go_loopw [18] (fun iv wr => ∃ (i : Nat) (X : List (Value × List Int)), i ≤ ll ∧ iv = .int .i64 (i : Nat) ∧ Hid (Ofs wr w1.heap.size gO (.slice (some ⟨w1.heap.size, 0, none⟩) ol ol) X) ∧ Hid (X.length = ol) ∧ Hid (∀ (j : Nat) x, X[j]? = some x → x.2 = rowTo b f i (j : Int)) ∧ Hid (Below w1.heap.size w1 wr)) (fun iv _ => ll - (intOf iv).toNat)
  case atStart => exact ⟨0, _, Nat.zero_le _, rfl, HO5, Lib.hid (by simp), Lib.hid (fun j x hx => by
    rw [List.getElem?_replicate] at hx
    split at hx
    · cases hx; rfl
    · cases hx), HB5⟩
  case round =>
    obtain ⟨i, X, hi, rfl, HO, HX, HR, HB⟩ := hrel
    clear HO5 HB5
    have Hbx := Lib.hid (Hbox.out.keep HB.out)
    by_cases hlt : i < ll
    · have hlt' : i < b.l.length := by have := Hll.out; omega
      obtain ⟨b1, o1, a1, d1, hao, hbb, e0, e1, rk, m1, m2⟩ := Hbox.out.r.l.get i hlt'
      subst hao
      have hpo := Hz.out.2.2.2.2.2 _ (List.getElem_mem hlt')
      obtain ⟨hp1, hp2⟩ := prOk_left hpo
      have hps := fun s hs ht => prOk_sym (s := s) hpo hs ht
      have hr5 := Hz.out.2.2.2.2.1 _ (List.getElem_mem hlt')
      have hrs := fun n => rowTo_succ b f i n hlt'
      generalize b.l[i] = p at *
      obtain ⟨x, rt⟩ := p
      simp only at hp1 hp2 hps e0 e1 rk m1 hr5 hrs
      obtain ⟨q, rfl⟩ : ∃ q : Nat, x = (q : Int) := ⟨x.toNat, by omega⟩
      obtain ⟨rn, hrn⟩ : ∃ rn, rn = rt.length := ⟨_, rfl⟩
      rw [← hrn] at e1 m1 hr5
      have Hrk : Hid (∀ W, Below w1.heap.size w1 W → SR W B (.slice a1 rt.length d1) rt) := Lib.hid fun W hW => Row.below rk (hW.mono Hbox.out.le)
      have e0 := (HB.out.cell (p := ⟨b1, o1 + i * 2, none⟩) (Nat.lt_of_lt_of_le hbb Hbox.out.le)).trans e0
      have e1 := (HB.out.cell (p := ⟨b1, o1 + i * 2 + 1, none⟩) (Nat.lt_of_lt_of_le hbb Hbox.out.le)).trans e1
      have hba := (Below.refl wr.heap.size wr).alloc (Nat.le_refl _) (.cells #[.int .i64 (q : Int), .slice a1 rn d1] 51)
      have hx0 : (wr.alloc (.cells #[.int .i64 (q : Int), .slice a1 rn d1] 51)).cell? ⟨wr.heap.size, 0, none⟩ = some (.int .i64 (q : Int)) := cell_new wr _ _ 0 _ rfl
      have hx1 : (wr.alloc (.cells #[.int .i64 (q : Int), .slice a1 rn d1] 51)).cell? ⟨wr.heap.size, 1, none⟩ = some (.slice a1 rn d1) := cell_new wr _ _ 1 _ rfl
      have hsz : wr.heap.size < (wr.alloc (.cells #[.int .i64 (q : Int), .slice a1 rn d1] 51)).heap.size := by simp
      have HO1 := Lib.hid (HO.out.below hba)
      have HB1 := Lib.hid (HB.out.trans (hba.mono HB.out.size))
      have Hfn := Lib.hid (HO.out.new (Nat.le_refl wr.heap.size))
      have Hba := Lib.hid hba
      have Hrn := Lib.hid hrn; have Hps := Lib.hid hps; have Hrs := Lib.hid hrs
      have hqol : q < ol := by have := Hol.out; omega
      have hi1 : (i : Int) < (ll : Int) := by omega
      have hi2 : (0 : Int) ≤ (i : Int) := by omega
      have c3 := Hbx.out.c3
      have Hlt := Lib.hid hlt
      clear hpo hp1 hp2 hps hrs rk m1 m2 hlt hlt' hbb hrn hi hba HO
      go_upto_region 5 with fail
      obtain ⟨gp, hgp⟩ : ∃ gp, gp = wr.heap.size := ⟨_, rfl⟩
      rw [← hgp] at hx0 hx1 hsz Hfn ⊢
      generalize wr.alloc (.cells #[.int .i64 (q : Int), .slice a1 rn d1] 51) = wp at *
      clear hgp e0 e1
      go_wp2_with fail
      clear c3
      have Hx0 := Lib.hid hx0; have Hgp := Lib.hid hsz
      clear hx0 hx1 hsz
      go_loopw [25] (fun iv wx => ∃ (k : Nat) (Y : List (Value × List Int)), k ≤ rn ∧ iv = .int .i64 (k : Nat) ∧ Hid (Ofs wx w1.heap.size gO (.slice (some ⟨w1.heap.size, 0, none⟩) ol ol) Y) ∧ Hid (Y.length = ol) ∧ Hid ((rt.take k).all f = true) ∧ Hid (∀ (j : Nat) x, Y[j]? = some x → x.2 = rowTo b f i (j : Int) ++ (if (q : Int) = (j : Int) then nts (rt.take k) else [])) ∧ Hid (Below w1.heap.size w1 wx) ∧ Hid (KO wp wx (foot gO (.slice (some ⟨w1.heap.size, 0, none⟩) ol ol) X) (foot gO (.slice (some ⟨w1.heap.size, 0, none⟩) ol ol) Y))) (fun iv _ => rn - (intOf iv).toNat)
      case atStart => exact ⟨0, X, Nat.zero_le _, rfl, HO1, HX, Lib.hid rfl, Lib.hid (fun j x hx => by rw [HR.out j x hx]; simp [nts]), HB1, Lib.hid (KO.refl _ _)⟩
      case round =>
        obtain ⟨k, Y, hk, rfl, HY, HYl, Hal, HYr, HBy, HKO⟩ := hrel
        by_cases hkr : k < rn
        · have hkl : k < rt.length := by have := Hrn.out; omega
          obtain ⟨b6, o6, hao, hb6, f0, f1⟩ := SR.get (Hrk.out wr HBy.out) k hkl
          subst hao
          have hsn := Hps.out rt[k] (List.getElem_mem hkl)
          have Hnt := Lib.hid (nts_succ rt k hkl)
          have Hstop := Lib.hid (collect_stop f rt k hkl Hal.out)
          have Hyes := Lib.hid (all_step rt f k hkl Hal.out)
          have hk1 : (k : Int) < (rn : Int) := by omega
          have hk2 : (0 : Int) ≤ (k : Int) := by omega
          have Hkr := Lib.hid hkr
          generalize rt[k] = s at *
          obtain ⟨t, n⟩ := s
          simp only at f0 f1 hsn
          have hbs := (Below.refl wr.heap.size wr).alloc (Nat.le_refl _) (.cells #[.bool t, .int .i64 n] 54)
          have hs0 : (wr.alloc (.cells #[.bool t, .int .i64 n] 54)).cell? ⟨wr.heap.size, 0, none⟩ = some (.bool t) := cell_new wr _ _ 0 _ rfl
          have hs1 : (wr.alloc (.cells #[.bool t, .int .i64 n] 54)).cell? ⟨wr.heap.size, 1, none⟩ = some (.int .i64 n) := cell_new wr _ _ 1 _ rfl
          have hsz : wr.heap.size < (wr.alloc (.cells #[.bool t, .int .i64 n] 54)).heap.size := by simp
          have HYs := Lib.hid (HY.out.below hbs)
          have HBs := Lib.hid (HBy.out.trans (hbs.mono HBy.out.size))
          have HKs := Lib.hid (HKO.out.trans (KO.of_below _ hbs))
          have Hfs := Lib.hid (HY.out.new (Nat.le_refl wr.heap.size))
          clear hk hkl hkr hb6 hbs HY Hal
          cases t with
          | true =>
            clear hsn
            go_upto_region 10 with fail
            have Hg := Lib.hid (Hgone.out _ ⟨true, n⟩ (Hb1.out.trans (HBs.out.mono Hb1.out.size)) (fun h => by cases h))
            generalize wr.alloc (.cells #[.bool true, .int .i64 n] 54) = ws at *
            simp only [if_true, List.append_nil] at Hnt
            clear f0 f1
            cases hf : f ⟨true, n⟩ with
            | true =>
              rw [hf] at Hg
              have HY2 := Lib.hid (Hyes.out hf)
              clear hf Hyes Hstop
              go_wp2_with fail
              refine (Hg.out).mono ?_
              rintro e w5 ⟨rfl, b5⟩
              have HY5 := Lib.hid (HYs.out.below b5)
              have HB5 := Lib.hid (HBs.out.trans (b5.mono HBs.out.size))
              have HK5 := Lib.hid (HKs.out.trans (KO.of_below _ b5))
              clear b5 Hg hs0 hs1 hsz
              go_wp2_with fail
              go_roundw
              case rel => exact ⟨k + 1, Y, Hkr.out, by go_num, HY5, HYl, HY2, Lib.hid (fun j x hx => by rw [HYr.out j x hx, Hnt.out]), HB5, HK5⟩
              case measure => have := Hkr.out; simp [intOf]; omega
            | false =>
              rw [hf] at Hg
              have HS := Lib.hid (Hstop.out hf)
              clear hf Hyes Hstop
              go_wp2_with fail
              refine (Hg.out).mono ?_
              rintro e w5 ⟨rfl, b5⟩
              have HY5 := Lib.hid (HYs.out.below b5)
              have HB5 := Lib.hid (HBs.out.trans (b5.mono HBs.out.size))
              clear b5 Hg hs0 hs1 hsz
              go_wp2_with fail
              go_roundw
              case rel => exact ⟨i + 1, Y, Hlt.out, by go_num, HY5, HYl, Lib.hid (fun j x hx => by rw [HYr.out j x hx, Hrs.out, HS.out, Hnt.out]), HB5⟩
              case measure => have := Hlt.out; simp [intOf]; omega
          | false =>
            have hq3 : q < Y.length := by have := HYl.out; omega
            obtain ⟨yv, hyv⟩ : ∃ yv, Y[q]? = some yv := ⟨_, List.getElem?_eq_getElem hq3⟩
            obtain ⟨xv, xl⟩ := yv
            have hxr : xl = rowTo b f i (q : Int) ++ nts (rt.take k) := by have := HYr.out q _ hyv; simpa using this
            have hxl : xl.length ≤ 2000000 := by
              rw [hxr, List.length_append]
              have h1 := rowTo_len b f i (q : Int) Hz.out.2.2.2.2.1
              have h2 := nts_len (rt.take k)
              have h3 : (rt.take k).length ≤ 500 := by rw [List.length_take]; have := Hrn.out; omega
              have := Hlt.out
              omega
            obtain ⟨xa, xc, hxv, hx1, hx2⟩ := owns_valP (HYs.out.each _ (List.mem_of_getElem? hyv))
            simp only at hxv
            subst hxv
            go_upto_region 9 with fail
            generalize wr.alloc (.cells #[.bool false, .int .i64 n] 54) = ws at *
            obtain ⟨gs, hgs⟩ : ∃ gs, gs = wr.heap.size := ⟨_, rfl⟩
            rw [← hgs] at hs0 hs1 hsz Hfs ⊢
            have hd := (Below.refl ws.heap.size ws).drew
            have HYd := Lib.hid (HYs.out.below hd)
            obtain ⟨ao, ac, w2, happ0, r1, r2, r3, r4, r5, r6, r7, r8⟩ := HYd.out.appendN HYl.out q _ hyv n (by show xl.length + 1 ≤ 10000000; omega)
            simp only at happ0 r2 r5 r6 r7
            have happ : Sem.run Try.prog (appM #[22, 22] 22 #[.slice xa xl.length xc, .slice (some ⟨ws.heap.size, 0, none⟩) 1 1]) (ws.alloc (.cells #[.int .i64 n] 3)).drew = .ok (.slice ao (xl.length + 1) ac) w2 := happ0
            obtain ⟨bd, hbd, _, _, hcd, _, _⟩ := HYs.out.atN HYl.out q _ hyv
            simp only [Option.some.injEq, Addr.mk.injEq, and_true] at hbd
            subst hbd
            have hcb := HYs.out.box
            have Hgpn : Hid (∀ u ∈ foot gO (.slice (some ⟨w1.heap.size, 0, none⟩) ol ol) Y, u.ownBlock ≠ some gp) := Lib.hid (fun u hu e => by
              rcases HKO.out.foot u hu gp e with ⟨u0, hu0, e0⟩ | h1
              · exact Hfn.out u0 hu0 e0
              · have := Hgp.out; omega)
            have hp0 : ws.cell? ⟨gp, 0, none⟩ = some (.int .i64 (q : Int)) := (HKs.out.cell (p := ⟨gp, 0, none⟩) Hgp.out Hfn.out).trans Hx0.out
            have Hgpl : Hid (gp < ws.heap.size) := Lib.hid (Nat.lt_of_lt_of_le Hgp.out HKs.out.size)
            have Hcells : Hid (∀ W, Below ws.heap.size ws W → W.cell? ⟨gO, 0, none⟩ = some (.slice (some ⟨w1.heap.size, 0, none⟩) ol ol) ∧ W.cell? ⟨gp, 0, none⟩ = some (.int .i64 (q : Int)) ∧ W.cell? ⟨w1.heap.size, q, none⟩ = some (.slice xa xl.length xc) ∧ W.cell? ⟨gs, 1, none⟩ = some (.int .i64 n)) := Lib.hid fun W hW =>
              ⟨(hW.cell (p := ⟨gO, 0, none⟩) hcb.2.2).trans hcb.1, (hW.cell (p := ⟨gp, 0, none⟩) Hgpl.out).trans hp0, (hW.cell (p := ⟨w1.heap.size, q, none⟩) (HYs.out.out.lt _ rfl).2).trans hcd, (hW.cell (p := ⟨gs, 1, none⟩) hsz).trans hs1⟩
            have Hc2 : Hid (w2.cell? ⟨gO, 0, none⟩ = some (.slice (some ⟨w1.heap.size, 0, none⟩) ol ol) ∧ w2.cell? ⟨gp, 0, none⟩ = some (.int .i64 (q : Int)) ∧ w2.cell? ⟨w1.heap.size, q, none⟩ = some (.slice xa xl.length xc) ∧ w2.cell? ⟨gs, 1, none⟩ = some (.int .i64 n)) := Lib.hid
              ⟨r1, (r8.cell (p := ⟨gp, 0, none⟩) Hgpl.out Hgpn.out).trans hp0, r2, (r8.cell (p := ⟨gs, 1, none⟩) hsz Hfs.out).trans hs1⟩
            have Hsz := Lib.hid hsz
            have HO3 := Lib.hid r5
            have HB3 := Lib.hid (HBs.out.trans ((hd.mono HYs.out.hi).trans r6))
            have HK3 := Lib.hid (HKs.out.trans (KO.trans (KO.of_below _ hd) r7))
            have Hss : Hid ((w2.setCell ⟨w1.heap.size, q, none⟩ (.slice ao (xl.length + 1) ac)).cell? ⟨gs, 0, none⟩ = some (.bool false) ∧ (w2.setCell ⟨w1.heap.size, q, none⟩ (.slice ao (xl.length + 1) ac)).cell? ⟨gs, 1, none⟩ = some (.int .i64 n) ∧ gs < (w2.setCell ⟨w1.heap.size, q, none⟩ (.slice ao (xl.length + 1) ac)).heap.size) := Lib.hid
              ⟨(r7.cell (p := ⟨gs, 0, none⟩) hsz Hfs.out).trans hs0, (r7.cell (p := ⟨gs, 1, none⟩) hsz Hfs.out).trans hs1, Nat.lt_of_lt_of_le hsz r7.size⟩
            have Hyv := Lib.hid hyv; have Hxr := Lib.hid hxr; have Hsn := Lib.hid (hsn rfl)
            have hq4 : (q : Int) < (ol : Int) := by omega
            have hq5 : (0 : Int) ≤ (q : Int) := by omega
            clear f0 f1 hs0 hs1 hsz r1 r2 r5 r6 r7 r8 happ0 hcb hp0 hcd hyv hxr hsn hxl hx1 hx2 hq3 hgs
            refine wp_region_ord 13 [(0, true), (1, true), (2, true), (3, true), (4, true), (5, true), (6, true), (7, true), (8, true), (9, true), (10, false), (11, false), (12, true), (13, false)] (fun w' => w'.cell? ⟨gO, 0, none⟩ = some (.slice (some ⟨w1.heap.size, 0, none⟩) ol ol) ∧ w'.cell? ⟨gp, 0, none⟩ = some (.int .i64 (q : Int)) ∧ w'.cell? ⟨w1.heap.size, q, none⟩ = some (.slice xa xl.length xc) ∧ w'.cell? ⟨gs, 1, none⟩ = some (.int .i64 n)) (by kernel_rfl) (by kernel_rfl) (Hcells.out _ hd) ?_
            simp only [ordL, List.getElem?_toArray, List.getElem?_cons_succ, List.getElem?_cons_zero]
            iterate 10 (
              refine ordW_read (v := ?_) (by rfl) ?_ (fun _ _ _ h => h) ?_
              rotate_left
              focus (intro w' hS; obtain ⟨s0, s1, s2, s3⟩ := hS; go_simp; (try with_reducible rfl); done)
              try simp only [Act.put, List.setIfInBounds_toArray, List.set_cons_zero, List.set_cons_succ])
            refine ordW_do (by rfl) (fun K' HK => ?_)
            go_simp
            refine HK.out _ _ (fun _ => Hcells.out _ (hd.alloc hd.size _)) ?_
            clear HK K'
            try simp only [Act.put, List.setIfInBounds_toArray, List.set_cons_zero, List.set_cons_succ]
            refine ordW_do (by rfl) (fun K' HK => ?_)
            go_simp
            refine HK.out _ _ (fun _ => Hc2.out) ?_
            clear HK K' happ
            try simp only [Act.put, List.setIfInBounds_toArray, List.set_cons_zero, List.set_cons_succ]
            iterate 1 (
              refine ordW_read (v := ?_) (by rfl) ?_ (fun _ _ _ h => h) ?_
              rotate_left
              focus (intro w' hS; obtain ⟨s0, s1, s2, s3⟩ := hS; go_simp; (try with_reducible rfl); done)
              try simp only [Act.put, List.setIfInBounds_toArray, List.set_cons_zero, List.set_cons_succ])
            obtain ⟨_, _, cd2, _⟩ := Hc2.out
            refine ordW_do (by rfl) (fun K' HK => ?_)
            go_simp
            refine HK.out _ _ (fun h => absurd rfl h) (ordW_nil ?_)
            clear HK K' cd2
            clear r3 r4 hd
            have Hg := Lib.hid (Hgone.out _ ⟨false, n⟩ (Hb1.out.trans (HB3.out.mono Hb1.out.size)) (fun _ => by have := Hsn.out; have := Hol.out; simp only; omega))
            generalize w2.setCell ⟨w1.heap.size, q, none⟩ (.slice ao (xl.length + 1) ac) = w3 at *
            obtain ⟨g0, g1, g2⟩ := Hss.out
            have HYr2 : Hid (∀ (j : Nat) x, (Y.set q (.slice ao (xl.length + 1) ac, xl ++ [n]))[j]? = some x → x.2 = rowTo b f i (j : Int) ++ (if (q : Int) = (j : Int) then nts (rt.take (k + 1)) else [])) := Lib.hid fun j x hx => by
              rw [List.getElem?_set] at hx
              by_cases hj : q = j
              · subst hj
                rw [if_pos rfl] at hx
                split at hx
                · cases hx
                  rw [if_pos rfl, Hnt.out]
                  simp [Hxr.out]
                · cases hx
              · rw [if_neg hj] at hx
                rw [HYr.out j x hx, if_neg (by omega), if_neg (by omega)]
            have HYl2 : Hid ((Y.set q (.slice ao (xl.length + 1) ac, xl ++ [n])).length = ol) := Lib.hid (by rw [List.length_set]; exact HYl.out)
            cases hf : f ⟨false, n⟩ with
            | true =>
              rw [hf] at Hg
              have HY2 := Lib.hid (Hyes.out hf)
              clear hf Hyes Hstop
              go_wp2_with fail
              refine (Hg.out).mono ?_
              rintro e w5 ⟨rfl, b5⟩
              have HY5 := Lib.hid (HO3.out.below b5)
              have HB5 := Lib.hid (HB3.out.trans (b5.mono HB3.out.size))
              have HK5 := Lib.hid (HK3.out.trans (KO.of_below _ b5))
              clear b5 Hg g0 g1 g2
              go_wp2_with fail
              go_roundw
              case rel => exact ⟨k + 1, _, Hkr.out, by go_num, HY5, HYl2, HY2, HYr2, HB5, HK5⟩
              case measure => have := Hkr.out; simp [intOf]; omega
            | false =>
              rw [hf] at Hg
              have HS := Lib.hid (Hstop.out hf)
              clear hf Hyes Hstop
              go_wp2_with fail
              refine (Hg.out).mono ?_
              rintro e w5 ⟨rfl, b5⟩
              have HY5 := Lib.hid (HO3.out.below b5)
              have HB5 := Lib.hid (HB3.out.trans (b5.mono HB3.out.size))
              clear b5 Hg g0 g1 g2
              go_wp2_with fail
              go_roundw
              case rel => exact ⟨i + 1, _, Hlt.out, by go_num, HY5, HYl2, Lib.hid (fun j x hx => by rw [HYr2.out j x hx, Hrs.out, HS.out]), HB5⟩
              case measure => have := Hlt.out; simp [intOf]; omega
        · obtain rfl : k = rn := by omega
          have HS : Hid (collect f rt = nts (rt.take k)) := Lib.hid (by
            have h1 := Hal.out
            rw [Hrn.out, List.take_length] at h1
            rw [Hrn.out, List.take_length, collect_all f rt h1])
          go_wp2_with fail
          go_roundw
          case rel => exact ⟨i + 1, Y, Hlt.out, by go_num, HY, HYl, Lib.hid (fun j x hx => by rw [HYr.out j x hx, Hrs.out, HS.out]), HBy⟩
          case measure => have := Hlt.out; simp [intOf]; omega
    · obtain rfl : i = ll := by omega
      have HR0 : Hid (∀ (j : Nat) x, X[j]? = some x → x.2 = if j < 0 then nextI b f (j : Int) else rowTo b f b.l.length (j : Int)) := Lib.hid (fun j x hx => by rw [HR.out j x hx, if_neg (by omega), ← Hll.out])
      clear HR hlt hi
      obtain ⟨c5, _, _⟩ := HO.out.box
      go_upto_region 14 with fail
      clear c5
      go_loopw [53] (fun iv wx => ∃ (m : Nat) (Y : List (Value × List Int)), m ≤ ol ∧ iv = .int .i64 (m : Nat) ∧ Hid (Ofs wx w1.heap.size gO (.slice (some ⟨w1.heap.size, 0, none⟩) ol ol) Y) ∧ Hid (Y.length = ol) ∧ Hid (∀ (j : Nat) x, Y[j]? = some x → x.2 = if j < m then nextI b f (j : Int) else rowTo b f b.l.length (j : Int)) ∧ Hid (Below w1.heap.size w1 wx)) (fun iv _ => ol - (intOf iv).toNat)
      case atStart => exact ⟨0, X, Nat.zero_le _, rfl, HO, HX, HR0, HB⟩
      case round =>
        clear HO HX HR0 HB Hbx
        obtain ⟨m, Y, hm, rfl, HO, HX, HR, HB⟩ := hrel
        by_cases hlt : m < ol
        · have hq3 : m < Y.length := by have := HX.out; omega
          obtain ⟨yv, hyv⟩ : ∃ yv, Y[m]? = some yv := ⟨_, List.getElem?_eq_getElem hq3⟩
          obtain ⟨xv, xl⟩ := yv
          have hxr : xl = rowTo b f b.l.length (m : Int) := by have := HR.out m _ hyv; simpa using this
          have hxl : xl.length ≤ 2000000 := by
            rw [hxr]
            have h1 := rowTo_len b f b.l.length (m : Int) Hz.out.2.2.2.2.1
            have := Hz.out.2.2.2.1
            omega
          have hown := HO.out.each _ (List.mem_of_getElem? hyv)
          simp only at hown
          have hns : nextI b f (m : Int) = Go.Lib.compact (xl.mergeSort fun x y => decide (x ≤ y)) := by rw [hxr]; rfl
          obtain ⟨xa, xc, hxv, hx1, hx2⟩ := owns_valP hown
          subst hxv
          obtain ⟨bd, hbd, _, hbdl, hcd, hfd, _⟩ := HO.out.atN HX.out m _ hyv
          simp only [Option.some.injEq, Addr.mk.injEq, and_true] at hbd
          subst hbd
          obtain ⟨c5, _, _⟩ := HO.out.box
          have Hsort := Lib.hid (sortI_any (.slice xa xl.length xc) xl w1.heap.size wr HO.out.hi hown (by omega))
          have hm1 : (m : Int) < (ol : Int) := by omega
          have hm2 : (0 : Int) ≤ (m : Int) := by omega
          have Hlt := Lib.hid hlt; have Hyv := Lib.hid hyv; have Hns := Lib.hid hns; have Hxl := Lib.hid hxl; have Hq3 := Lib.hid hq3
          have hcd0 := hcd
          simp only at hcd0
          clear hown hyv hxr hxl hns hq3 hlt hm hx1 hx2 hcd
          go_wp2_with fail
          refine (Hsort.out).mono ?_
          rintro e w6 ⟨rfl, hown6, hin6⟩
          have HO6 := Lib.hid (HO.out.redo m _ Hyv.out (xl.mergeSort fun x y => decide (x ≤ y)) hin6 (by rw [List.length_mergeSort]; exact hown6))
          have HB6 := Lib.hid (HB.out.trans (hin6.below.mono (Nat.le_refl _)))
          have HX6 : Hid ((Y.set m (.slice xa xl.length xc, xl.mergeSort fun x y => decide (x ≤ y))).length = ol) := Lib.hid (by rw [List.length_set]; exact HX.out)
          have Hyv6 : Hid ((Y.set m (.slice xa xl.length xc, xl.mergeSort fun x y => decide (x ≤ y)))[m]? = some (.slice xa xl.length xc, xl.mergeSort fun x y => decide (x ≤ y))) := Lib.hid (by rw [List.getElem?_set, if_pos rfl, if_pos Hq3.out])
          obtain ⟨bd, hbd, _, _, hcd6, _, _⟩ := HO6.out.atN HX6.out m _ Hyv6.out
          simp only [Option.some.injEq, Addr.mk.injEq, and_true] at hbd
          subst hbd
          obtain ⟨c6, _, hgl6⟩ := HO6.out.box
          have hbd6 := (HO6.out.out.lt _ rfl).2
          have Hown6 := Lib.hid hown6
          clear hown6 hin6 c5 hcd0 hfd Hsort hbdl
          go_upto_region 17 with fail
          have Hcells : Hid (∀ W, Below w6.heap.size w6 W → W.cell? ⟨gO, 0, none⟩ = some (.slice (some ⟨w1.heap.size, 0, none⟩) ol ol) ∧ W.cell? ⟨w1.heap.size, m, none⟩ = some (.slice xa xl.length xc)) := Lib.hid fun W hW =>
            ⟨(hW.cell (p := ⟨gO, 0, none⟩) hgl6).trans c6, (hW.cell (p := ⟨w1.heap.size, m, none⟩) hbd6).trans hcd6⟩
          have hd := (Below.refl w6.heap.size w6).drew
          have HOd := Lib.hid (HO6.out.below hd)
          clear c6 hcd6 hgl6 hbd6
          refine wp_region_ord 8 [(0, true), (1, true), (2, true), (3, true), (4, true), (5, true), (6, false), (7, true), (8, false)] (fun w' => w'.cell? ⟨gO, 0, none⟩ = some (.slice (some ⟨w1.heap.size, 0, none⟩) ol ol) ∧ w'.cell? ⟨w1.heap.size, m, none⟩ = some (.slice xa xl.length xc)) (by kernel_rfl) (by kernel_rfl) (Hcells.out _ hd) ?_
          simp only [ordL, List.getElem?_toArray, List.getElem?_cons_succ, List.getElem?_cons_zero]
          iterate 6 (
            refine ordW_read (v := ?_) (by rfl) ?_ (fun _ _ _ h => h) ?_
            rotate_left
            focus (intro w' hS; obtain ⟨s0, s1⟩ := hS; go_simp; (try with_reducible rfl); done)
            try simp only [Act.put, List.setIfInBounds_toArray, List.set_cons_zero, List.set_cons_succ])
          refine ordW_do (by rfl) (fun K' HK => ?_)
          go_simp
          have hownd : w6.drew.ownsRow w1.heap.size 3 1 (.slice xa xl.length xc) (xl.mergeSort fun x y => decide (x ≤ y)).length (ints (xl.mergeSort fun x y => decide (x ≤ y))) := by rw [List.length_mergeSort]; exact Hown6.out
          refine (compactI_any (.slice xa xl.length xc) (xl.mergeSort fun x y => decide (x ≤ y)) w1.heap.size w6.drew HO6.out.hi hownd (by rw [List.length_mergeSort]; have := Hxl.out; omega)).mono ?_
          rintro e w7 ⟨ca, cc, rfl, hown7, hob7, hin7⟩
          have hrep := HOd.out.replN HX6.out m _ Hyv6.out (.slice ca (Go.Lib.compact (xl.mergeSort fun x y => decide (x ≤ y))).length cc) _ hin7.below.size hin7.keep hown7 (.inl hob7)
          obtain ⟨r1, r2, r3, r4, r5, _, _⟩ := hrep
          simp only at r2
          have HO8 := Lib.hid r5
          have HB8 := Lib.hid ((HB6.out.trans ((hd.mono HO6.out.hi).trans hin7.below)).setCell (p := ⟨w1.heap.size, m, none⟩) (Nat.le_refl _) (.slice ca (Go.Lib.compact (xl.mergeSort fun x y => decide (x ≤ y))).length cc))
          rw [← Hns.out] at HO8 HB8 ⊢
          refine HK.out _ _ (fun _ => ⟨r1, r2⟩) ?_
          clear HK K' hownd hown7 hob7 hin7 r5 hd HOd
          try simp only [Act.put, List.setIfInBounds_toArray, List.set_cons_zero, List.set_cons_succ]
          iterate 1 (
            refine ordW_read (v := ?_) (by rfl) ?_ (fun _ _ _ h => h) ?_
            rotate_left
            focus (intro w' hS; obtain ⟨s0, s1⟩ := hS; go_simp; (try with_reducible rfl); done)
            try simp only [Act.put, List.setIfInBounds_toArray, List.set_cons_zero, List.set_cons_succ])
          refine ordW_do (by rfl) (fun K' HK => ?_)
          go_simp
          refine HK.out _ _ (fun h => absurd rfl h) (ordW_nil ?_)
          clear HK K' r1 r2 r3 r4
          have HX8 : Hid (((Y.set m (.slice xa xl.length xc, xl.mergeSort fun x y => decide (x ≤ y))).set m (.slice ca (nextI b f (m : Int)).length cc, nextI b f (m : Int))).length = ol) := Lib.hid (by rw [List.length_set]; exact HX6.out)
          have HR8 : Hid (∀ (j : Nat) x, ((Y.set m (.slice xa xl.length xc, xl.mergeSort fun x y => decide (x ≤ y))).set m (.slice ca (nextI b f (m : Int)).length cc, nextI b f (m : Int)))[j]? = some x → x.2 = if j < m + 1 then nextI b f (j : Int) else rowTo b f b.l.length (j : Int)) := Lib.hid fun j x hx => by
            rw [List.getElem?_set] at hx
            by_cases hj : m = j
            · subst hj
              rw [if_pos rfl] at hx
              split at hx
              · cases hx; rw [if_pos (by omega)]
              · cases hx
            · rw [if_neg hj, List.getElem?_set, if_neg hj] at hx
              rw [HR.out j x hx]
              by_cases h1 : j < m
              · rw [if_pos h1, if_pos (by omega)]
              · rw [if_neg h1, if_neg (by omega)]
          generalize w7.setCell ⟨w1.heap.size, m, none⟩ (.slice ca (nextI b f (m : Int)).length cc) = w8 at *
          go_wp2_with fail
          go_roundw
          case rel => exact ⟨m + 1, _, Hlt.out, by go_num, HO8, HX8, HR8, HB8⟩
          case measure => have := Hlt.out; simp [intOf]; omega
        · obtain rfl : m = ol := by omega
          go_wp2_with fail
          go_ret
          exact ⟨_, _, Y, rfl, HO.out.base Hb1.out.size, HX.out.trans Hol.out, fun j x hx => by
            have hj := (List.getElem?_eq_some_iff.1 hx).1
            rw [HR.out j x hx, if_pos (by have := HX.out; omega)], Hb1.out.trans (HB.out.mono Hb1.out.size)⟩
end Go.Proofs.Ytfmcigodfihlcaa
