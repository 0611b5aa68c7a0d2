/-
  The document's least lengths.
-/
import Derived.Test.YtfmcigodfihlcaaLeaC
namespace Go.Proofs.Ytfmcigodfihlcaa
open Go.RowKit Go.Maps Go.WideMaps
set_option linter.unusedVariables false
set_option linter.unusedSimpArgs false

def weiC (o : Option Value) : Nat := match o with | some (.int _ x) => wei x | _ => 0
def lmu (w : World) (g N : Nat) : Nat := ((List.range N).map fun j => weiC (w.cell? ⟨g, j, none⟩)).sum
theorem lmu_own {w : World} {g N n0 : Nat} {st : List Int} (h : w.ownsRow n0 3 1 (.slice (some ⟨g, 0, none⟩) N N) N (ints st)) : lmu w g N = muL st := by
  have hl : st.length = N := by have := h.1; rw [ints_length] at this; omega
  unfold lmu muL
  congr 1
  apply List.ext_getElem
  · simp [hl]
  · intro j h1 h2
    simp only [List.getElem_map, List.getElem_range]
    have hj : j < N := by simpa using h1
    obtain ⟨g', hv, _, _, hcl, _⟩ := owns_cellN h (by omega)
    simp only [Option.some.injEq, Addr.mk.injEq, and_true] at hv
    subst hv
    rw [hcl j _ (ints_at st j (by omega))]
    rfl
/-- What is known of a production's length while its symbols are counted. -/
def CntP (st : List Int) (r : List Sy) (j : Nat) (n : Int) : Prop := (0 ≤ n ∧ (r.take j).all (fun s => decide (0 ≤ valS st s)) = true ∧ n = ((r.take j).map (valS st)).sum) ∨ (n = -1 ∧ lenS st r = -1)
theorem CntP.step {st : List Int} {r : List Sy} {j : Nat} {n v : Int} (h : CntP st r j n) (h0 : 0 ≤ n) (hj : j < r.length) (hv : valS st r[j] = v) (hv0 : 0 ≤ v) : CntP st r (j + 1) (n + v) := by
  rcases h with ⟨h1, h2, h3⟩ | ⟨h1, _⟩
  · refine .inl ⟨by omega, len_all hj h2 (by omega), ?_⟩
    rw [List.take_succ_eq_append_getElem hj, List.map_append, List.sum_append, ← h3]
    simp [hv]
  · omega
theorem CntP.stop {st : List Int} {r : List Sy} {j : Nat} (hj : j < r.length) (hv : valS st r[j] < 0) : CntP st r (j + 1) (-1) := .inr ⟨rfl, len_no hj hv⟩
theorem CntP.fin {st : List Int} {r : List Sy} {j : Nat} {n : Int} (h : CntP st r j n) (hj : n < 0 ∨ r.length ≤ j) : min n 1000000 = lenS st r := by
  rcases h with ⟨h1, h2, h3⟩ | ⟨h1, h2⟩
  · rw [List.take_of_length_le (by omega)] at h2 h3
    rw [(lenS_nonneg h2).2, ← h3]; rfl
  · rw [h2, h1]; decide
/-- What the document's lengths are. -/
def MarkL (w : World) (b : Bn) (e : Ending) (w' : World) : Prop := ∃ v st, e = .returned v ∧ FixL b st ∧ w'.ownsRow w.heap.size 3 1 v st.length (ints st) ∧ Below w.heap.size w w'

set_option maxHeartbeats 4000000 in
set_option maxRecDepth 100000 in
theorem refLeast_any (b : Bn) (ov lv : Value) (B : Nat) (w : World) (hB : B ≤ w.heap.size) (r : BR w B ov lv b) (h0 : bmay b = 0) :
    Calls Try.prog 22 #[.agg #[.int .i64 b.toks, .int .i64 b.look, ov, lv]] w (MarkL w b) := by
  obtain ⟨oa, oc, rfl, ho1, ho2⟩ := r.of.val
  obtain ⟨la, lc, rfl, hl1, hl2⟩ := r.l.val
  obtain ⟨z1, z2, z3, z4, z5, z6, _⟩ := bmay_zero h0
  have hbox := BoxB.new b.toks b.look 25 hB r
  have hb1 := (Below.refl w.heap.size w).alloc (Nat.le_refl _) (.cells #[.int .i64 b.toks, .int .i64 b.look, .slice oa b.of.length oc, .slice la b.l.length lc] 25)
  obtain ⟨ol, hol⟩ : ∃ ol, ol = b.of.length := ⟨_, rfl⟩
  obtain ⟨ll, hll⟩ : ∃ ll, ll = b.l.length := ⟨_, rfl⟩
  obtain ⟨tk, htk⟩ : ∃ tk, tk = b.toks := ⟨_, rfl⟩
  obtain ⟨lk, hlk⟩ : ∃ lk, lk = b.look := ⟨_, rfl⟩
  rw [← hol, ← hll, ← htk, ← hlk] at hbox hb1
  rw [← hol, ← hll, ← htk, ← hlk]
  obtain ⟨i0, hi, hz0, hz1, hz2⟩ := info_parts info_intT
  have Hbox := Lib.hid hbox; have Hb1 := Lib.hid hb1; have Hol := Lib.hid hol; have Hll := Lib.hid hll
  have Hz := Lib.hid (And.intro z1 (And.intro z2 (And.intro z3 (And.intro z4 (And.intro z5 z6)))))
  have ho500 : ol ≤ 500 := by omega
  have hl2000 : ll ≤ 2000 := by omega
  clear r hbox hb1 hol hll htk hlk ho1 ho2 hl1 hl2 hB z1 z2 z3 z4 z5 z6 h0
  go_enter Try.func22, Try.ntmps22
  go_upto_region 1 with fail
  generalize w.alloc (.cells #[.int .i64 tk, .int .i64 lk, .slice oa ol oc, .slice la ll lc] 25) = w1 at *
  obtain ⟨c0, c1, c2, c3, _, _, _⟩ := Hbox.out
  go_wp2_with (at_make; refine wpList_make_full _ rfl _ _ 22 rfl w1.heap.size 3 i0 (.int .i64 0) 1 Try.underlying22 hi hz0 hz1 .i64 .i64 _ _ ol rfl rfl rfl rfl (by rw [hz2]; omega) (by unfold maxLen; omega) (Nat.le_refl _) ?_; intro wm hown hgrow; have Hown := Lib.hid hown; have Hgrow := Lib.hid hgrow; clear hown hgrow)
  have HB0 : Hid (Below w1.heap.size w1 wm) := Lib.hid ((Below.refl w1.heap.size w1).grown Hgrow.out (Nat.le_refl _) (fun k e => by cases e))
  have HR0 : Hid (wm.ownsRow w1.heap.size 3 1 (.slice (some ⟨w1.heap.size, 0, none⟩) ol ol) ol (ints (List.replicate 0 (-1) ++ List.replicate (ol - 0) 0))) := Lib.hid (by
    have e : (madeCells (Value.int .i64 0).cells (ol * 1)).toList = ints (List.replicate ol 0) := by
      rw [Nat.mul_one]; show (madeCells #[Value.int .i64 0] ol).toList = _
      rw [toList_madeCells_one]; simp [ints]
    have := Hown.out; rw [e] at this; simpa using this)
  clear Hown Hgrow hi hz0 hz1 hz2 c0 c1 c2 c3
  go_loopw [4] (fun iv wr => ∃ k : Nat, k ≤ ol ∧ iv = .int .i64 (k : Nat) ∧ Hid (wr.ownsRow w1.heap.size 3 1 (.slice (some ⟨w1.heap.size, 0, none⟩) ol ol) ol (ints (List.replicate k (-1) ++ List.replicate (ol - k) 0))) ∧ Hid (Below w1.heap.size w1 wr)) (fun iv _ => ol - (intOf iv).toNat)
  case atStart => exact ⟨0, Nat.zero_le _, rfl, HR0, HB0⟩
  case round =>
    obtain ⟨k, hk, rfl, HR, HBr⟩ := hrel
    clear HR0 HB0
    by_cases hlt : k < ol
    · have hlen : (List.replicate k (-1 : Int) ++ List.replicate (ol - k) 0).length = ol := by simp; omega
      obtain ⟨gw, hv, _, hglt, hcl, hfr⟩ := owns_cellN HR.out (by omega)
      simp only [Option.some.injEq, Addr.mk.injEq, and_true] at hv
      subst hv
      obtain ⟨x0, cc⟩ : ∃ x0, wr.cell? ⟨w1.heap.size, k, none⟩ = some (.int .i64 x0) := ⟨_, hcl k _ (ints_at _ k (by rw [hlen]; exact hlt))⟩
      have ff := hfr k
      have hset := owns_setN HR.out k (by rw [ints_length, hlen]; exact hlt) (.int .i64 (-1))
      rw [ints_set, start_setG _ _ _ _ hlt] at hset
      have Hset := Lib.hid hset
      have HB6 := Lib.hid (HBr.out.setCell (p := ⟨w1.heap.size, k, none⟩) (Nat.le_refl _) (.int .i64 (-1)))
      have hk1 : (k : Int) < (ol : Int) := by omega
      have hk2 : (0 : Int) ≤ (k : Int) := by omega
      have Hlt := Lib.hid hlt
      clear hset hlt hk hcl hfr hglt hlen
      go_wp2_with fail
      go_roundw
      case rel => exact ⟨k + 1, Hlt.out, by go_num, Hset, HB6⟩
      case measure => have := Hlt.out; simp [intOf]; omega
    · obtain rfl : k = ol := by omega
      rw [Nat.sub_self, List.replicate_zero, List.append_nil] at HR
      have HI0 := Lib.hid (linv_none b k Hol.out)
      generalize List.replicate k (-1 : Int) = st1 at *
      clear hlt hk
      go_wp2_with fail
      go_loopw [5] (fun mv wr => ∃ (m : Bool) (st : List Int), mv = .bool m ∧ Hid (LInv b st) ∧ Hid (wr.ownsRow w1.heap.size 3 1 (.slice (some ⟨w1.heap.size, 0, none⟩) k k) k (ints st)) ∧ Hid (Below w1.heap.size w1 wr) ∧ Hid (m = false → ∀ j, j < b.l.length → (lookL b st j).2 < 0))
        (fun mv wr => match mv with | .bool true => lmu wr w1.heap.size k + 1 | _ => 0)
      case atStart => exact ⟨true, _, rfl, HI0, HR, HBr, Lib.hid (fun h => by cases h)⟩
      case round =>
        clear HI0 HR HBr
        obtain ⟨m, st0, rfl, HI, HR, HB, HQ⟩ := hrel
        cases m with
        | false =>
          have HF := Lib.hid (fixL_of_quiet Hz.out.2.2.2.2.2 HI.out (HQ.out rfl))
          go_wp2_with fail
          go_ret
          refine ⟨_, st0, rfl, HF.out, ?_, Hb1.out.trans (HB.out.mono Hb1.out.size)⟩
          rw [HF.out.len, ← Hol.out]
          exact owns_baseP HR.out Hb1.out.size
        | true =>
          obtain ⟨wo, rfl⟩ : ∃ wo : World, wo = wr := ⟨_, rfl⟩
          go_wp2_with fail
          go_loopw [5, 6] (fun mv iv wx => ∃ (m : Bool) (st : List Int) (i : Nat), i ≤ ll ∧ mv = .bool m ∧ iv = .int .i64 (i : Nat) ∧ Hid (LInv b st) ∧ Hid (wx.ownsRow w1.heap.size 3 1 (.slice (some ⟨w1.heap.size, 0, none⟩) k k) k (ints st)) ∧ Hid (Below w1.heap.size w1 wx) ∧ Hid (m = false → st = st0 ∧ ∀ j, j < i → (lookL b st j).2 < 0) ∧ Hid (m = true → muL st < muL st0)) (fun _ iv _ => ll - (intOf iv).toNat)
          case atStart => exact ⟨false, st0, 0, Nat.zero_le _, rfl, rfl, HI, HR, HB, Lib.hid (fun _ => ⟨rfl, fun j hj => by omega⟩), Lib.hid (fun h => by cases h)⟩
          case round =>
            obtain ⟨m, st, i, hi, rfl, rfl, HI2, HR2, HB2, HQ2, HC2⟩ := hrel
            have Hbx := Lib.hid (Hbox.out.keep HB2.out)
            have c3 := Hbx.out.c3
            by_cases hlt : i < ll
            · have hlt' : i < b.l.length := by have := Hll.out; omega
              obtain ⟨b1, o1, a1, d1, hao, hbb, e0, e1, rk, m1, m2⟩ := Hbx.out.r.l.get i hlt'
              subst hao
              have hpo := Hz.out.2.2.2.2.2 _ (List.getElem_mem hlt')
              obtain ⟨hp1, hp2⟩ := prOk_left hpo
              have hps := fun s hs ht => prOk_sym (s := s) hpo hs ht
              have hlk := lookL_at b st i hlt'
              have hms := linv_set Hz.out.2.2.2.2.2 HI2.out i hlt'
              have hr5 := Hz.out.2.2.2.2.1 _ (List.getElem_mem hlt')
              generalize b.l[i] = p at *
              obtain ⟨x, rt⟩ := p
              simp only at hp1 hp2 hps hlk hms e0 e1 rk m1 hr5
              obtain ⟨q, rfl⟩ : ∃ q : Nat, x = (q : Int) := ⟨x.toNat, by omega⟩
              rw [Int.toNat_natCast] at hlk hms
              have hlen : st.length = k := by rw [HI2.out.len]; exact Hol.out.symm
              have hql : q < st.length := by rw [HI2.out.len]; omega
              obtain ⟨rn, hrn⟩ : ∃ rn, rn = rt.length := ⟨_, rfl⟩
              rw [← hrn] at e1 m1 hr5
              have Hrk : Hid (∀ W, Below wr.heap.size wr W → SR W B (.slice a1 rn d1) rt) := Lib.hid fun W hW => by rw [hrn]; exact Row.below rk (hW.mono Hbx.out.le)
              have Hc3 : Hid (∀ W, Below wr.heap.size wr W → W.cell? ⟨w.heap.size, 3, none⟩ = some (.slice (some ⟨b1, o1, none⟩) ll lc)) := Lib.hid fun W hW => (Hbx.out.keep hW).c3
              have He0 := Lib.hid (fun (W : World) (hW : Below wr.heap.size wr W) => (hW.cell (p := ⟨b1, o1 + i * 2, none⟩) (Nat.lt_of_lt_of_le hbb Hbx.out.le)).trans e0)
              have He1 := Lib.hid (fun (W : World) (hW : Below wr.heap.size wr W) => (hW.cell (p := ⟨b1, o1 + i * 2 + 1, none⟩) (Nat.lt_of_lt_of_le hbb Hbx.out.le)).trans e1)
              have Hro := Lib.hid (fun (W : World) (hW : Below wr.heap.size wr W) => owns_belowP HR2.out hW)
              rw [List.getElem?_eq_getElem hql, Option.getD_some] at hlk
              have Hdec : Hid (∀ nn, nn ≤ 1000000 → 0 ≤ nn → (st[q] < 0 ∨ nn < st[q]) → muL (st.set q nn) < muL st) := Lib.hid fun nn h0 h1 h2 => muL_set st q nn hql (by
                unfold wei
                rw [if_neg (by omega)]
                split <;> omega)
              have Hput : Hid (∀ (W : World) (hW : Below wr.heap.size wr W) (nn : Int), (W.setCell ⟨w1.heap.size, q, none⟩ (.int .i64 nn)).ownsRow w1.heap.size 3 1 (.slice (some ⟨w1.heap.size, 0, none⟩) k k) k (ints (st.set q nn))) := Lib.hid fun W hW nn => by
                rw [← ints_set]; exact owns_setN (Hro.out W hW) q (by rw [ints_length]; exact hql) _
              have Hcell : Hid (∀ (W : World) (hW : Below wr.heap.size wr W), W.cell? ⟨w1.heap.size, q, none⟩ = some (.int .i64 st[q]) ∧ W.frozen? ⟨w1.heap.size, q, none⟩ = false) := Lib.hid fun W hW => by
                obtain ⟨gw, hv, _, hglt, hcl, hfr⟩ := owns_cellN (Hro.out W hW) (by omega)
                simp only [Option.some.injEq, Addr.mk.injEq, and_true] at hv
                subst hv
                exact ⟨hcl q _ (ints_at st q hql), hfr q⟩
              generalize st[q] = v at *
              have Hlk := Lib.hid hlk; have Hms := Lib.hid hms; have Hps := Lib.hid hps; have Hrn := Lib.hid hrn; have Hlen := Lib.hid hlen
              have Hlow := Lib.hid HI2.out.low
              have hi1 : (i : Int) < (ll : Int) := by omega
              have hi2 : (0 : Int) ≤ (i : Int) := by omega
              have hq1 : (q : Int) < (k : Int) := by omega
              have hq2 : (0 : Int) ≤ (q : Int) := by omega
              have Hlt := Lib.hid hlt
              obtain ⟨wy, rfl⟩ : ∃ wy : World, wy = wr := ⟨_, rfl⟩
              clear hpo hp1 hp2 hps hlk hms rk m1 m2 hlt hlt' hbb hrn hql hlen hi e0 e1
              go_wp2_with fail
              clear c3
              go_loopw [7, 8] (fun nv jv wx => ∃ (n : Int) (j : Nat), j ≤ rn ∧ -1 ≤ n ∧ n ≤ 1000000 * (j : Int) ∧ nv = .int .i64 n ∧ jv = .int .i64 (j : Nat) ∧ Hid (CntP st rt j n) ∧ Hid (Below wy.heap.size wy wx)) (fun _ jv _ => rn - (intOf jv).toNat)
              case atStart => exact ⟨0, 0, Nat.zero_le _, by decide, by decide, rfl, rfl, Lib.hid (.inl ⟨by decide, rfl, rfl⟩), Lib.hid (Below.refl _ _)⟩
              case round =>
                obtain ⟨n, j, hj, hn1, hn2, rfl, rfl, HC, HBy⟩ := hrel
                have c3 := Hc3.out wr HBy.out
                have e0 := He0.out wr HBy.out
                have e1 := He1.out wr HBy.out
                by_cases hjr : j < rn ∧ 0 ≤ n
                · obtain ⟨hj1, hn0⟩ := hjr
                  have hjl : j < rt.length := by have := Hrn.out; omega
                  have hrkw := Hrk.out wr HBy.out
                  rw [Hrn.out] at hrkw
                  obtain ⟨b6, o6, hao, hb6, f0, f1⟩ := SR.get hrkw j hjl
                  subst hao
                  have Hst := Lib.hid (fun v => @CntP.step st rt j n v HC.out hn0 hjl)
                  have Hno := Lib.hid (@CntP.stop st rt j hjl)
                  have hsn := Hps.out rt[j] (List.getElem_mem hjl)
                  have hval : valS st rt[j] = if rt[j].tok then 1 else (st[rt[j].n.toNat]?).getD (-1) := rfl
                  have q0 : decide (0 ≤ n) = true := decide_eq_true hn0
                  have hj2 : (j : Int) < (rn : Int) := by omega
                  have hj3 : (0 : Int) ≤ (j : Int) := by omega
                  have hj500 : (j : Int) ≤ 500 := by omega
                  have hnw : n ≤ 1000000000 := by omega
                  have Hn2 := Lib.hid hn2; have Hj1 := Lib.hid hj1; have Hn0 := Lib.hid hn0
                  generalize valS st rt[j] = vv at *
                  generalize rt[j] = s at *
                  obtain ⟨t, y⟩ := s
                  simp only at f0 f1 hsn hval
                  have hbs := (Below.refl wr.heap.size wr).alloc (Nat.le_refl _) (.cells #[.bool t, .int .i64 y] 54)
                  have HB4 := Lib.hid (HBy.out.trans (hbs.mono HBy.out.size))
                  clear hrkw hjl hj hb6 hbs hj1 hn2 HC
                  cases t with
                  | true =>
                    simp only [if_true] at hval
                    subst hval
                    have HM := Lib.hid (Hst.out 1 rfl (by decide))
                    clear Hst Hno hsn
                    go_wp2_with fail
                    go_roundw
                    case rel => exact ⟨n + 1, j + 1, Hj1.out, by omega, by have := Hn2.out; omega, rfl, by go_num, HM, HB4⟩
                    case measure => have := Hj1.out; simp [intOf]; omega
                  | false =>
                    obtain ⟨h0, h1⟩ := hsn rfl
                    obtain ⟨z, rfl⟩ : ∃ z : Nat, y = (z : Int) := ⟨y.toNat, by omega⟩
                    have hz : z < st.length := by have := Hlen.out; have := Hol.out; omega
                    have hrw := Hro.out _ HB4.out
                    obtain ⟨gw, hv, _, hglt, hcl, _⟩ := owns_cellN hrw (by omega)
                    simp only [Option.some.injEq, Addr.mk.injEq, and_true] at hv
                    subst hv
                    have c9 := hcl z _ (ints_at st z hz)
                    have hlo := Hlow.out _ (List.getElem_mem hz)
                    simp only [Bool.false_eq_true, if_false, Int.toNat_natCast, List.getElem?_eq_getElem hz, Option.getD_some] at hval
                    have hz1 : (z : Int) < (k : Int) := by have := Hol.out; omega
                    have hz2 : (0 : Int) ≤ (z : Int) := by omega
                    generalize st[z] = v at *
                    subst hval
                    clear hz h0 h1 hsn hrw hcl hglt
                    by_cases hv : vv < 0
                    · have q1 : decide (vv < 0) = true := decide_eq_true hv
                      have HL := Lib.hid (Hno.out hv)
                      clear hv hlo Hno Hst
                      go_wp2_with fail
                      go_roundw
                      case rel => exact ⟨-1, j + 1, Hj1.out, by decide, by omega, rfl, by go_num, HL, HB4⟩
                      case measure => have := Hj1.out; simp [intOf]; omega
                    · have q1 : decide (vv < 0) = false := decide_eq_false hv
                      have HM := Lib.hid (Hst.out vv rfl (by omega))
                      have hv1 : vv ≤ 1000000 := by have := hlo.2; unfold cap at this; exact this
                      have hv2 : 0 ≤ vv := by omega
                      clear hv hlo Hno Hst
                      go_wp2_with fail
                      go_roundw
                      case rel => exact ⟨n + vv, j + 1, Hj1.out, by omega, by have := Hn2.out; omega, rfl, by go_num, HM, HB4⟩
                      case measure => have := Hj1.out; simp [intOf]; omega
                · have hfin := HC.out.fin (by have := Hrn.out; omega)
                  have hlr := lenS_le st rt
                  unfold cap at hlr
                  have hrw := Hro.out wr HBy.out
                  have hlk := Hlk.out
                  have hms := Hms.out
                  generalize lenS st rt = nn at *
                  obtain ⟨c9, f9⟩ := Hcell.out wr HBy.out
                  have hput := Hput.out wr HBy.out nn
                  have hdec := Hdec.out nn hlr.2
                  clear Hcell Hput Hdec
                  have Hput := Lib.hid hput; have Hdec := Lib.hid hdec
                  have HB3 := Lib.hid (HB2.out.trans (HBy.out.mono HB2.out.size))
                  have HB4 := Lib.hid (HB3.out.setCell (p := ⟨w1.heap.size, q, none⟩) (Nat.le_refl _) (.int .i64 nn))
                  have Hrw := Lib.hid hrw
                  have Hnn := Lib.hid hms
                  clear Hlk Hms hrw hms hput hdec HC
                  have HQ3 : Hid (nn < 0 ∨ 0 ≤ v ∧ v ≤ nn → m = false → st = st0 ∧ ∀ j, j < i + 1 → (lookL b st j).2 < 0) := Lib.hid fun hc hm => ⟨(HQ2.out hm).1, fun j hj => by
                    rcases Nat.lt_or_ge j i with h | h
                    · exact (HQ2.out hm).2 j h
                    · obtain rfl : j = i := by omega
                      rw [hlk, if_pos hc]; simp⟩
                  have HC3 : Hid (muL (st.set q nn) < muL st → true = true → muL (st.set q nn) < muL st0) := Lib.hid fun h1 _ => by
                    cases m with
                    | true => have := HC2.out rfl; omega
                    | false => have := (HQ2.out rfl).1; rw [this] at h1 ⊢; exact h1
                  clear hlk
                  have Hj : Hid (decide (j < rn) = false ∨ (decide (j < rn) = true ∧ decide (0 ≤ n) = false)) := Lib.hid (by
                    by_cases h : j < rn
                    · exact .inr ⟨decide_eq_true h, decide_eq_false (by omega)⟩
                    · exact .inl (decide_eq_false h))
                  clear hjr hj
                  by_cases n0 : nn < 0
                  · have q1 : decide (0 ≤ nn) = false := decide_eq_false (by omega)
                    have HQ4 := Lib.hid (HQ3.out (.inl n0))
                    clear n0 HQ3 HC3 Hdec Hput HB4 Hnn hlr
                    rcases Hj.out with hj | ⟨hj, hn⟩
                    all_goals clear Hj
                    all_goals (
                    go_wp2_with fail
                    go_roundw
                    case rel => exact ⟨m, st, i + 1, Hlt.out, rfl, by go_num, HI2, Hrw, HB3, HQ4, HC2⟩
                    case measure => have := Hlt.out; simp [intOf]; omega)
                  have q1 : decide (0 ≤ nn) = true := decide_eq_true (by omega)
                  by_cases v0 : v < 0
                  · have q2 : decide (v < 0) = true := decide_eq_true v0
                    have HI3 := Lib.hid (Hnn.out (by omega))
                    have HC4 := Lib.hid (HC3.out (Hdec.out (by omega) (.inl v0)))
                    clear n0 HQ3 HC3 Hdec Hnn hlr v0
                    rcases Hj.out with hj | ⟨hj, hn⟩
                    all_goals clear Hj
                    all_goals (
                    go_wp2_with fail
                    go_roundw
                    case rel => exact ⟨true, _, i + 1, Hlt.out, rfl, by go_num, HI3, Hput, HB4, Lib.hid (fun h => by cases h), Lib.hid (fun _ => HC4.out rfl)⟩
                    case measure => have := Hlt.out; simp [intOf]; omega)
                  have q2 : decide (v < 0) = false := decide_eq_false v0
                  by_cases v1 : nn < v
                  · have q3 : decide (nn < v) = true := decide_eq_true v1
                    have HI3 := Lib.hid (Hnn.out (by omega))
                    have HC4 := Lib.hid (HC3.out (Hdec.out (by omega) (.inr v1)))
                    clear n0 HQ3 HC3 Hdec Hnn hlr v0 v1
                    rcases Hj.out with hj | ⟨hj, hn⟩
                    all_goals clear Hj
                    all_goals (
                    go_wp2_with fail
                    go_roundw
                    case rel => exact ⟨true, _, i + 1, Hlt.out, rfl, by go_num, HI3, Hput, HB4, Lib.hid (fun h => by cases h), Lib.hid (fun _ => HC4.out rfl)⟩
                    case measure => have := Hlt.out; simp [intOf]; omega)
                  · have q3 : decide (nn < v) = false := decide_eq_false v1
                    have HQ4 := Lib.hid (HQ3.out (.inr ⟨by omega, by omega⟩))
                    clear n0 HQ3 HC3 Hdec Hput HB4 Hnn hlr v0 v1
                    rcases Hj.out with hj | ⟨hj, hn⟩
                    all_goals clear Hj
                    all_goals (
                    go_wp2_with fail
                    go_roundw
                    case rel => exact ⟨m, st, i + 1, Hlt.out, rfl, by go_num, HI2, Hrw, HB3, HQ4, HC2⟩
                    case measure => have := Hlt.out; simp [intOf]; omega)
            · obtain rfl : i = ll := by omega
              have HQ3 : Hid (m = false → ∀ j, j < b.l.length → (lookL b st j).2 < 0) := Lib.hid fun hm j hj => (HQ2.out hm).2 j (by have := Hll.out; omega)
              have hc1 := Lib.hid (lmu_own HR.out)
              have hc2 := Lib.hid (lmu_own HR2.out)
              go_wp2_with fail
              go_roundw
              case rel => exact ⟨m, st, rfl, HI2, HR2, HB2, HQ3⟩
              case measure =>
                cases m with
                | false => simp
                | true => have := HC2.out rfl; have := hc1.out; have := hc2.out; simp; omega
end Go.Proofs.Ytfmcigodfihlcaa
