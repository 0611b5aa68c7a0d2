/-
  The document's marks: row, mark, Nothing, Ends.
-/
import Derived.Test.YtfmcigodfihlcaaEmpC
namespace Go.Proofs.Ytfmcigodfihlcaa
open Go.RowKit
set_option linter.unusedVariables false
set_option linter.unusedSimpArgs false

set_option maxHeartbeats 2000000 in
theorem refRow_any (tk : Bool) (st : List Bool) (l : List Sy) (sv : Value) (g N cp B : Nat) (w : World) (hB : B ≤ w.heap.size) (r : SR w B sv l) (hl : st.length = N) (hN : N ≤ 1000) (hc : ∀ j (hj : j < st.length), w.cell? ⟨g, j, none⟩ = some (.bool st[j])) (hs : ∀ s ∈ l, s.tok = false → 0 ≤ s.n ∧ s.n < N) :
    Calls Try.prog 40 #[sv, .bool tk, .slice (some ⟨g, 0, none⟩) N cp] w fun e w' => e = .returned (.bool (rowB tk st l)) ∧ w' = w := by
  obtain ⟨ao, c, rfl, hc1, hc2⟩ := Row.val r
  unfold maxLen at hc2
  have hl63 : l.length ≤ 9223372036854775807 := by omega
  have R := Lib.hid r; have Hs := Lib.hid hs; have Hc := Lib.hid hc
  have hrow : rowB tk st l = l.all (goodB tk st) := rfl
  have Hrow := Lib.hid hrow
  generalize rowB tk st l = rb at *
  clear r hs hc hrow hc1 hc2
  go_enter Try.func40, Try.ntmps40
  go_wp2_with fail
  go_loopw [7] (fun iv wr => ∃ k : Nat, k ≤ l.length ∧ iv = .int .i64 (k : Nat) ∧ Hid ((l.take k).all (goodB tk st) = true) ∧ wr = w) (fun iv _ => l.length - (intOf iv).toNat)
  case atStart => exact ⟨0, Nat.zero_le _, rfl, Lib.hid rfl, rfl⟩
  case round =>
    obtain ⟨k, hk, rfl, Hal, rfl⟩ := hrel
    by_cases hlt : k < l.length
    · obtain ⟨b6, o6, hao, hb6, f0, f1⟩ := SR.get R.out k hlt
      subst hao
      have Hyes := Lib.hid (all_step l (goodB tk st) k hlt Hal.out)
      have Hno := Lib.hid (all_no l (goodB tk st) k hlt)
      have hsn := Hs.out l[k] (List.getElem_mem hlt)
      have hk1 : (k : Int) < (l.length : Int) := by omega
      have hk2 : (0 : Int) ≤ (k : Int) := by omega
      have Hlt := Lib.hid hlt
      generalize l[k] = s at *
      obtain ⟨t, n⟩ := s
      simp only at f0 f1 hsn
      clear hlt hk hb6
      cases t with
      | true =>
        cases tk with
        | true =>
          have HY := Lib.hid (Hyes.out rfl)
          clear Hyes Hno hsn
          go_wp2_with fail
          go_roundw
          case rel => exact ⟨k + 1, Hlt.out, by go_num, HY, trivial⟩
          case measure => have := Hlt.out; simp [intOf]; omega
        | false =>
          have HY : Hid (rb = false) := Lib.hid (by rw [Hrow.out]; exact Hno.out rfl)
          clear Hyes Hno hsn
          go_wp2_with fail
          go_ret
          exact ⟨ret_boolP HY.out.symm, rfl⟩
      | false =>
        obtain ⟨h0, h1⟩ := hsn rfl
        obtain ⟨q, rfl⟩ : ∃ q : Nat, n = (q : Int) := ⟨n.toNat, by omega⟩
        have hq : q < st.length := by omega
        have c0 := Hc.out q hq
        have hgd : goodB tk st ⟨false, (q : Int)⟩ = st[q] := by unfold goodB; simp [List.getElem?_eq_getElem hq]
        rw [hgd] at Hyes Hno
        generalize st[q] = v at *
        clear hgd hq
        cases v with
        | true =>
          have HY := Lib.hid (Hyes.out rfl)
          clear Hyes Hno
          go_wp2_with fail
          go_roundw
          case rel => exact ⟨k + 1, Hlt.out, by go_num, HY, trivial⟩
          case measure => have := Hlt.out; simp [intOf]; omega
        | false =>
          have HY : Hid (rb = false) := Lib.hid (by rw [Hrow.out]; exact Hno.out rfl)
          clear Hyes Hno
          go_wp2_with fail
          go_ret
          exact ⟨ret_boolP HY.out.symm, rfl⟩
    · obtain rfl : k = l.length := by omega
      have H : Hid (rb = true) := Lib.hid (by have := Hal.out; rw [List.take_length] at this; rw [Hrow.out]; exact this)
      go_wp2_with fail
      go_ret
      exact ⟨ret_boolP H.out.symm, rfl⟩
def isF (o : Option Value) : Bool := match o with | some (.bool false) => true | _ => false
/-- How many of a row's cells are false. -/
def mcount (w : World) (g N : Nat) : Nat := (List.range N).countP fun j => isF (w.cell? ⟨g, j, none⟩)
theorem mcount_own {w : World} {g N n0 : Nat} {st : List Bool} (h : w.ownsRow n0 4 1 (.slice (some ⟨g, 0, none⟩) N N) N (bools st)) : mcount w g N = st.count false := by
  have hl : st.length = N := by have := h.1; rw [bools_length] at this; omega
  have e : (List.range N).map (fun j => (st[j]?).getD true) = st := by
    apply List.ext_getElem?
    intro j
    rw [List.getElem?_map]
    rcases Nat.lt_or_ge j N with hj | hj
    · rw [List.getElem?_range hj, Option.map_some, List.getElem?_eq_getElem (show j < st.length by omega), Option.getD_some]
    · rw [List.getElem?_eq_none (by simp; exact hj), List.getElem?_eq_none (by omega)]; rfl
  have h2 : st.count false = (List.range N).countP (fun j => (st[j]?).getD true == false) := by
    conv => lhs; rw [← e]
    rw [List.count_eq_countP, List.countP_map]; rfl
  rw [h2]
  unfold mcount
  apply List.countP_congr
  intro j hj
  have hj' := List.mem_range.1 hj
  obtain ⟨g', hv, _, _, hcl, _⟩ := owns_cellN h (by omega)
  simp only [Option.some.injEq, Addr.mk.injEq, and_true] at hv
  subst hv
  have hjs : j < st.length := by omega
  rw [hcl j _ (bools_at st j hjs), List.getElem?_eq_getElem hjs, Option.getD_some]
  cases st[j] <;> simp [isF]
theorem lookM_at (b : Bn) (tk : Bool) (st : List Bool) (i : Nat) (hi : i < b.l.length) : lookM b tk st i = if (st[b.l[i].left.toNat]?).getD false = true then (st, -1) else if rowB tk st b.l[i].right = true then (st.set b.l[i].left.toNat true, b.l[i].left) else (st, -1) := by
  unfold lookM; rw [List.getElem?_eq_getElem hi]
theorem minv_set {b : Bn} {tk : Bool} {st : List Bool} (hok : ∀ p ∈ b.l, prOk b p = true) (hl : b.of.length ≤ 500) (hI : MInv b tk st) (i : Nat) (hi : i < b.l.length) (h1 : (st[b.l[i].left.toNat]?).getD false = false) (h2 : rowB tk st b.l[i].right = true) : MInv b tk (st.set b.l[i].left.toNat true) := by
  have hL := look_marks b tk (fun k => (List.range b.l.length).map fun q => ((q : Nat) : Int)) hok hl (fun j x hx s hs ht => List.mem_map.2 ⟨j, List.mem_range.2 (List.getElem?_eq_some_iff.1 hx).1, rfl⟩)
  have := hL.inv st i hi hI
  rw [lookM_at b tk st i hi, h1, if_neg (by simp), if_pos h2] at this
  exact this
/-- What the document's marks are. -/
def MarkP (w : World) (b : Bn) (tk : Bool) (e : Ending) (w' : World) : Prop := ∃ v st, e = .returned v ∧ Fix b tk st ∧ w'.ownsRow w.heap.size 4 1 v st.length (bools st) ∧ Below w.heap.size w w'

set_option maxHeartbeats 4000000 in
set_option maxRecDepth 100000 in
theorem refMark_any (tb : Bool) (b : Bn) (ov lv : Value) (B : Nat) (w : World) (hB : B ≤ w.heap.size) (r : BR w B ov lv b) (h0 : bmay b = 0) :
    Calls Try.prog 42 #[.agg #[.int .i64 b.toks, .int .i64 b.look, ov, lv], .bool tb] w (MarkP w b tb) := by
  obtain ⟨oa, oc, rfl, ho1, ho2⟩ := r.of.val
  obtain ⟨la, lc, rfl, hl1, hl2⟩ := r.l.val
  obtain ⟨z1, z2, z3, z4, z5, z6, _⟩ := bmay_zero h0
  have hbox := BoxB.new b.toks b.look 25 hB r
  have hb1 := (Below.refl w.heap.size w).alloc (Nat.le_refl _) (.cells #[.int .i64 b.toks, .int .i64 b.look, .slice oa b.of.length oc, .slice la b.l.length lc] 25)
  obtain ⟨ol, hol⟩ : ∃ ol, ol = b.of.length := ⟨_, rfl⟩
  obtain ⟨ll, hll⟩ : ∃ ll, ll = b.l.length := ⟨_, rfl⟩
  obtain ⟨tk, htk⟩ : ∃ tk, tk = b.toks := ⟨_, rfl⟩
  obtain ⟨lk, hlk⟩ : ∃ lk, lk = b.look := ⟨_, rfl⟩
  rw [← hol, ← hll, ← htk, ← hlk] at hbox hb1
  rw [← hol, ← hll, ← htk, ← hlk]
  obtain ⟨i0, hi, hz0, hz1, hz2⟩ := info_parts info_boolT
  have Hbox := Lib.hid hbox; have Hb1 := Lib.hid hb1; have Hol := Lib.hid hol; have Hll := Lib.hid hll
  have Hz := Lib.hid (And.intro z1 (And.intro z2 (And.intro z3 (And.intro z4 (And.intro z5 z6)))))
  have ho500 : ol ≤ 500 := by omega
  have hl2000 : ll ≤ 2000 := by omega
  clear r hbox hb1 hol hll htk hlk ho1 ho2 hl1 hl2 hB z1 z2 z3 z4 z5 z6 h0
  go_enter Try.func42, Try.ntmps42
  go_upto_region 1 with fail
  generalize w.alloc (.cells #[.int .i64 tk, .int .i64 lk, .slice oa ol oc, .slice la ll lc] 25) = w1 at *
  obtain ⟨c0, c1, c2, c3, _, _, _⟩ := Hbox.out
  go_wp2_with (at_make; refine wpList_make_full _ rfl _ _ 28 rfl w1.heap.size 4 i0 (.bool false) 1 Try.underlying28 hi hz0 hz1 .i64 .i64 _ _ ol rfl rfl rfl rfl (by rw [hz2]; omega) (by unfold maxLen; omega) (Nat.le_refl _) ?_; intro wm hown hgrow; have Hown := Lib.hid hown; have Hgrow := Lib.hid hgrow; clear hown hgrow)
  have HB0 : Hid (Below w1.heap.size w1 wm) := Lib.hid ((Below.refl w1.heap.size w1).grown Hgrow.out (Nat.le_refl _) (fun k e => by cases e))
  have HR0 : Hid (wm.ownsRow w1.heap.size 4 1 (.slice (some ⟨w1.heap.size, 0, none⟩) ol ol) ol (bools (List.replicate ol false))) := Lib.hid (by
    have e : (madeCells (Value.bool false).cells (ol * 1)).toList = bools (List.replicate ol false) := by
      rw [Nat.mul_one]; show (madeCells #[Value.bool false] ol).toList = _
      rw [toList_madeCells_one]; simp [bools]
    have := Hown.out; rw [e] at this; exact this)
  have HI0 : Hid (MInv b tb (List.replicate ol false)) := Lib.hid ⟨by rw [List.length_replicate]; exact Hol.out, fun x hx => by
    rw [List.getElem?_replicate] at hx
    split at hx <;> cases hx⟩
  clear Hown Hgrow hi hz0 hz1 hz2 c0 c1 c2 c3
  go_loopw [6] (fun mv wr => ∃ (m : Bool) (st : List Bool), mv = .bool m ∧ Hid (MInv b tb st) ∧ Hid (wr.ownsRow w1.heap.size 4 1 (.slice (some ⟨w1.heap.size, 0, none⟩) ol ol) ol (bools st)) ∧ Hid (Below w1.heap.size w1 wr) ∧ Hid (m = false → ∀ j, j < b.l.length → (lookM b tb st j).2 < 0))
    (fun mv wr => match mv with | .bool true => mcount wr w1.heap.size ol + 1 | _ => 0)
  case atStart => exact ⟨true, _, rfl, HI0, HR0, HB0, Lib.hid (fun h => by cases h)⟩
  case round =>
    obtain ⟨m, st0, rfl, HI, HR, HB, HQ⟩ := hrel
    clear HI0 HR0 HB0
    cases m with
    | false =>
      have HF := Lib.hid (fix_of_quiet Hz.out.2.2.2.2.2 HI.out (HQ.out rfl))
      go_wp2_with fail
      go_ret
      refine ⟨_, st0, rfl, HF.out, ?_, Hb1.out.trans (HB.out.mono Hb1.out.size)⟩
      rw [HF.out.len, ← Hol.out]
      exact owns_baseP HR.out Hb1.out.size
    | true =>
      obtain ⟨wo, rfl⟩ : ∃ wo : World, wo = wr := ⟨_, rfl⟩
      go_wp2_with fail
      go_loopw [6, 7] (fun mv iv wx => ∃ (m : Bool) (st : List Bool) (i : Nat), i ≤ ll ∧ mv = .bool m ∧ iv = .int .i64 (i : Nat) ∧ Hid (MInv b tb st) ∧ Hid (wx.ownsRow w1.heap.size 4 1 (.slice (some ⟨w1.heap.size, 0, none⟩) ol ol) ol (bools st)) ∧ Hid (Below w1.heap.size w1 wx) ∧ Hid (m = false → st = st0 ∧ ∀ j, j < i → (lookM b tb st j).2 < 0) ∧ Hid (m = true → st.count false < st0.count false)) (fun _ iv _ => ll - (intOf iv).toNat)
      case atStart => exact ⟨false, st0, 0, Nat.zero_le _, rfl, rfl, HI, HR, HB, Lib.hid (fun _ => ⟨rfl, fun j hj => by omega⟩), Lib.hid (fun h => by cases h)⟩
      case round =>
        obtain ⟨m, st, i, hi, rfl, rfl, HI2, HR2, HB2, HQ2, HC2⟩ := hrel
        have Hbx := Lib.hid (Hbox.out.keep HB2.out)
        have c3 := Hbx.out.c3
        by_cases hlt : i < ll
        · have hlt' : i < b.l.length := by have := Hll.out; omega
          obtain ⟨b1, o1, a1, d1, hao, hbb, e0, e1, rk, m1, m2⟩ := Hbx.out.r.l.get i hlt'
          subst hao
          have hpo := Hz.out.2.2.2.2.2 _ (List.getElem_mem hlt')
          obtain ⟨hp1, hp2⟩ := prOk_left hpo
          have hps := fun s hs ht => prOk_sym (s := s) hpo hs ht
          have hlk := lookM_at b tb st i hlt'
          have hms := minv_set Hz.out.2.2.2.2.2 Hz.out.2.1 HI2.out i hlt'
          generalize b.l[i] = p at *
          obtain ⟨x, rt⟩ := p
          simp only at hp1 hp2 hps hlk hms e0 e1 rk m1
          obtain ⟨q, rfl⟩ : ∃ q : Nat, x = (q : Int) := ⟨x.toNat, by omega⟩
          rw [Int.toNat_natCast] at hlk hms
          have hlen : st.length = ol := by rw [HI2.out.len]; exact Hol.out.symm
          have hql : q < st.length := by rw [HI2.out.len]; omega
          obtain ⟨gw, hv, _, hglt, hcl, hfr⟩ := owns_cellN HR2.out (by omega)
          simp only [Option.some.injEq, Addr.mk.injEq, and_true] at hv
          subst hv
          have c9 := hcl q _ (bools_at st q hql)
          have f9 := hfr q
          rw [List.getElem?_eq_getElem hql, Option.getD_some] at hlk hms
          have Hlk := Lib.hid hlk; have Hms := Lib.hid hms
          have hi1 : (i : Int) < (ll : Int) := by omega
          have hi2 : (0 : Int) ≤ (i : Int) := by omega
          have hq1 : (q : Int) < (ol : Int) := by omega
          have hq2 : (0 : Int) ≤ (q : Int) := by omega
          have Hrow := Lib.hid (refRow_any tb st rt (.slice a1 rt.length d1) w1.heap.size ol ol B wr Hbx.out.le rk hlen (by omega) (fun j hj => hcl j _ (bools_at st j hj)) (fun s hs ht => by have := hps s hs ht; have := Hol.out; omega))
          have Hset : Hid (∀ h : st[q]? = some false, (st.set q true).count false < st.count false) := Lib.hid (fun h => count_set_lt st q h)
          have Hat := Lib.hid (List.getElem?_eq_getElem hql)
          have Hput := Lib.hid (show (wr.setCell ⟨w1.heap.size, q, none⟩ (.bool true)).ownsRow w1.heap.size 4 1 (.slice (some ⟨w1.heap.size, 0, none⟩) ol ol) ol (bools (st.set q true)) by rw [← bools_set]; exact owns_setN HR2.out q (by rw [bools_length]; omega) _)
          have HB3 := Lib.hid (HB2.out.setCell (p := ⟨w1.heap.size, q, none⟩) (Nat.le_refl _) (.bool true))
          have Hlt := Lib.hid hlt
          obtain ⟨rn, hrn⟩ : ∃ rn, rn = rt.length := ⟨_, rfl⟩
          rw [← hrn] at e1 Hrow
          generalize st[q] = v at *
          clear hpo hp1 hp2 hps hlk hms rk m1 m2 hcl hfr hlt hlt' hbb hrn hql hlen hi
          cases v with
          | true =>
            have HQ3 : Hid (m = false → st = st0 ∧ ∀ j, j < i + 1 → (lookM b tb st j).2 < 0) := Lib.hid fun hm => ⟨(HQ2.out hm).1, fun j hj => by
              rcases Nat.lt_or_ge j i with h | h
              · exact (HQ2.out hm).2 j h
              · obtain rfl : j = i := by omega
                rw [Hlk.out]; simp⟩
            clear Hlk Hms Hrow Hset Hat Hput HB3
            go_wp2_with fail
            go_roundw
            case rel => exact ⟨m, st, i + 1, Hlt.out, rfl, by go_num, HI2, HR2, HB2, HQ3, HC2⟩
            case measure => have := Hlt.out; simp [intOf]; omega
          | false =>
            cases hrb : rowB tb st rt with
            | true =>
              rw [hrb] at Hrow
              have HI3 := Lib.hid (Hms.out rfl hrb)
              have HC3 : Hid (true = true → (st.set q true).count false < st0.count false) := Lib.hid fun _ => by
                have h1 := Hset.out Hat.out
                cases m with
                | true => have := HC2.out rfl; omega
                | false => have := (HQ2.out rfl).1; rw [this] at h1 ⊢; exact h1
              clear Hlk Hms Hset Hat
              go_wp2_with fail
              refine (Hrow.out).mono ?_
              rintro e w5 ⟨rfl, rfl⟩
              go_wp2_with fail
              go_roundw
              case rel => exact ⟨true, _, i + 1, Hlt.out, rfl, by go_num, HI3, Hput, HB3, Lib.hid (fun h => by cases h), Lib.hid (fun _ => HC3.out trivial)⟩
              case measure => have := Hlt.out; simp [intOf]; omega
            | false =>
              rw [hrb] at Hrow
              have HQ3 : Hid (m = false → st = st0 ∧ ∀ j, j < i + 1 → (lookM b tb st j).2 < 0) := Lib.hid fun hm => ⟨(HQ2.out hm).1, fun j hj => by
                rcases Nat.lt_or_ge j i with h | h
                · exact (HQ2.out hm).2 j h
                · obtain rfl : j = i := by omega
                  rw [Hlk.out, hrb]; simp⟩
              clear Hlk Hms Hset Hat Hput HB3
              go_wp2_with fail
              refine (Hrow.out).mono ?_
              rintro e w5 ⟨rfl, rfl⟩
              go_wp2_with fail
              go_roundw
              case rel => exact ⟨m, st, i + 1, Hlt.out, rfl, by go_num, HI2, HR2, HB2, HQ3, HC2⟩
              case measure => have := Hlt.out; simp [intOf]; omega
        · obtain rfl : i = ll := by omega
          have HQ3 : Hid (m = false → ∀ j, j < b.l.length → (lookM b tb st j).2 < 0) := Lib.hid fun hm j hj => (HQ2.out hm).2 j (by have := Hll.out; omega)
          have hc1 := Lib.hid (mcount_own HR.out)
          have hc2 := Lib.hid (mcount_own HR2.out)
          go_wp2_with fail
          go_roundw
          case rel => exact ⟨m, st, rfl, HI2, HR2, HB2, HQ3⟩
          case measure =>
            cases m with
            | false => simp
            | true => have := HC2.out rfl; have := hc1.out; have := hc2.out; simp; omega
end Go.Proofs.Ytfmcigodfihlcaa
