/-
  empty.length; empty.Least's look.
-/
import Derived.Test.YtfmcigodfihlcaaLeaA
import Derived.Test.YtfmcigodfihlcaaEmpB
namespace Go.Proofs.Ytfmcigodfihlcaa
open Go.RowKit
set_option linter.unusedVariables false
set_option linter.unusedSimpArgs false

theorem len_step {st : List Int} {r : List Sy} {k : Nat} {m v : Int} (hk : k < r.length) (hm : m = min (((r.take k).map (valS st)).sum) cap) (hv : valS st r[k] = v) (h0 : 0 ≤ v) : min (m + v) cap = min (((r.take (k + 1)).map (valS st)).sum) cap := by
  rw [List.take_succ_eq_append_getElem hk, List.map_append, List.sum_append]
  simp only [List.map_cons, List.map_nil, List.sum_cons, List.sum_nil, hv]
  unfold cap at *
  omega
theorem len_all {st : List Int} {r : List Sy} {k : Nat} (hk : k < r.length) (h : (r.take k).all (fun s => decide (0 ≤ valS st s)) = true) (hv : 0 ≤ valS st r[k]) : (r.take (k + 1)).all (fun s => decide (0 ≤ valS st s)) = true := by
  rw [List.take_succ_eq_append_getElem hk, List.all_append, h]; simp [hv]
theorem len_no {st : List Int} {r : List Sy} {k : Nat} (hk : k < r.length) (hv : valS st r[k] < 0) : lenS st r = -1 := by
  unfold lenS
  rw [if_neg]
  intro h
  rw [List.all_eq_true] at h
  have := of_decide_eq_true (h _ (List.getElem_mem hk))
  omega
theorem len_end {st : List Int} {r : List Sy} {k : Nat} {m : Int} (hk : r.length ≤ k) (h : (r.take k).all (fun s => decide (0 ≤ valS st s)) = true) (hm : m = min (((r.take k).map (valS st)).sum) cap) : lenS st r = m := by
  rw [List.take_of_length_le hk] at h hm
  rw [(lenS_nonneg h).2, hm]
theorem len_zero (st : List Int) (r : List Sy) : ((0 : Nat) : Int) = min (((r.take 0).map (valS st)).sum) cap := by
  show (0 : Int) = min 0 1000000
  exact (Int.min_eq_left (by decide)).symm
theorem int_eqV {x : Int} {k : Nat} (h : x = (k : Int)) : Value.int .i64 x = Value.int .i64 (k : Nat) := by rw [h]
def IntW (w : World) (x : Int) (en : Ending) (w' : World) : Prop := en = .returned (.int .i64 x) ∧ Below w.heap.size w w'
theorem ret_intP {a b : Int} (h : a = b) : Ending.returned (.int .i64 a) = .returned (.int .i64 b) := by rw [h]

set_option maxHeartbeats 2000000 in
set_option maxRecDepth 100000 in
theorem length_any (st : List Int) (r : List Sy) (rv : Value) (g N c B : Nat) (w : World) (hB : B ≤ w.heap.size) (hr : SR w B rv r) (hl : st.length = N) (hN : N ≤ 1000) (hlow : ∀ x ∈ st, -1 ≤ x ∧ x ≤ cap)
    (hc : ∀ j (hj : j < st.length), w.cell? ⟨g, j, none⟩ = some (.int .i64 st[j])) (hg : g < w.heap.size) (hs : ∀ s ∈ r, s.tok = false → 0 ≤ s.n ∧ s.n < N) :
    Calls Try.prog 47 #[.slice (some ⟨g, 0, none⟩) N c, rv] w (IntW w (lenS st r)) := by
  obtain ⟨ra, rc, rfl, hr1, hr2⟩ := Row.val hr
  unfold maxLen at hr2
  obtain ⟨rn, hrn⟩ : ∃ rn, rn = r.length := ⟨_, rfl⟩
  rw [← hrn] at hr1
  have hr63 : (rn : Int) ≤ 9223372036854775807 := by omega
  have R := Lib.hid hr; have Hs := Lib.hid hs; have Hc := Lib.hid hc; have Hlow := Lib.hid hlow; have Hg := Lib.hid hg; have HB := Lib.hid hB; have Hl := Lib.hid hl; have Hrn := Lib.hid hrn
  have Hno := Lib.hid (fun k hk => @len_no st r k hk)
  have Hend := Lib.hid (fun k m => @len_end st r k m)
  generalize lenS st r = lr at *
  rw [← hrn]
  clear hr hs hc hlow hg hB hl hrn hr1 hr2
  go_enter Try.func47, Try.ntmps47
  go_wp2_with fail
  go_loopw [5, 10] (fun mv iv wr => ∃ (m k : Nat), k ≤ rn ∧ m ≤ 1000000 ∧ mv = .int .i64 (m : Nat) ∧ iv = .int .i64 (k : Nat) ∧ Hid ((r.take k).all (fun s => decide (0 ≤ valS st s)) = true) ∧ Hid ((m : Int) = min (((r.take k).map (valS st)).sum) cap) ∧ Hid (Below w.heap.size w wr)) (fun _ iv _ => rn - (intOf iv).toNat)
  case atStart => exact ⟨0, 0, Nat.zero_le _, Nat.zero_le _, rfl, rfl, Lib.hid rfl, Lib.hid (len_zero st r), Lib.hid (Below.refl _ _)⟩
  case round =>
    obtain ⟨m, k, hk, hm, rfl, rfl, Hal, Hm, Hb⟩ := hrel
    by_cases hlt : k < rn
    · have hlt' : k < r.length := by have := Hrn.out; omega
      obtain ⟨b6, o6, hao, hb6, f0, f1⟩ := SR.get (Row.below R.out (Hb.out.mono HB.out) : SR wr B (.slice ra r.length rc) r) k hlt'
      subst hao
      have Hst := Lib.hid (fun v => @len_step st r k m v hlt' Hm.out)
      have Hyes := Lib.hid (len_all hlt' Hal.out)
      have Hn := Lib.hid (Hno.out k hlt')
      have hsn := Hs.out r[k] (List.getElem_mem hlt')
      have hval : valS st r[k] = if r[k].tok then 1 else (st[r[k].n.toNat]?).getD (-1) := rfl
      have hk1 : (k : Int) < (rn : Int) := by omega
      have hk2 : (0 : Int) ≤ (k : Int) := by omega
      have hm1 : (m : Int) ≤ 1000000 := by omega
      have hm2 : (0 : Int) ≤ (m : Int) := by omega
      have Hlt := Lib.hid hlt
      generalize valS st r[k] = vv at *
      generalize r[k] = s at *
      obtain ⟨t, n⟩ := s
      simp only at f0 f1 hsn hval
      have hbs := (Below.refl wr.heap.size wr).alloc (Nat.le_refl _) (.cells #[.bool t, .int .i64 n] 54)
      have HB4 := Lib.hid (Hb.out.trans (hbs.mono Hb.out.size))
      clear hlt hlt' hk hb6 hbs
      cases t with
      | true =>
        simp only [if_true] at hval
        subst hval
        have HY := Lib.hid (Hyes.out (by decide))
        have HM := Lib.hid (Hst.out 1 rfl (by decide))
        clear Hyes Hst Hn Hno Hend Hal Hm hsn hm
        go_wp2_with fail
        go_roundw
        case rel => exact ⟨min (m + 1) 1000000, k + 1, Hlt.out, Nat.min_le_right _ _, int_eqV (by omega), by go_num, HY, Lib.hid (by rw [← HM.out]; unfold cap; omega), HB4⟩
        case measure => have := Hlt.out; simp [intOf]; omega
      | false =>
        obtain ⟨h0, h1⟩ := hsn rfl
        obtain ⟨q, rfl⟩ : ∃ q : Nat, n = (q : Int) := ⟨n.toNat, by omega⟩
        have hq : q < st.length := by have := Hl.out; omega
        have c9 := (HB4.out.cell (p := ⟨g, q, none⟩) Hg.out).trans (Hc.out q hq)
        have hlo := Hlow.out _ (List.getElem_mem hq)
        simp only [Bool.false_eq_true, if_false, Int.toNat_natCast, List.getElem?_eq_getElem hq, Option.getD_some] at hval
        have hq1 : (q : Int) < (N : Int) := by omega
        have hq2 : (0 : Int) ≤ (q : Int) := by omega
        generalize st[q] = v at *
        subst hval
        clear hq h0 h1 hsn
        by_cases hv : vv < 0
        · have q1 : decide (vv < 0) = true := decide_eq_true hv
          have HL := Lib.hid (Hn.out hv)
          clear hv hlo Hn Hno Hend Hst Hyes
          go_wp2_with fail
          go_ret
          exact ⟨ret_intP HL.out.symm, HB4.out⟩
        · obtain ⟨v, rfl⟩ : ∃ v : Nat, vv = (v : Int) := ⟨vv.toNat, by omega⟩
          have q1 : decide ((v : Int) < 0) = false := decide_eq_false hv
          have HY := Lib.hid (Hyes.out (by omega))
          have HM := Lib.hid (Hst.out v rfl (by omega))
          have hv1 : (v : Int) ≤ 1000000 := by have := hlo.2; unfold cap at this; exact this
          have hv2 : (0 : Int) ≤ (v : Int) := by omega
          clear hv hlo Hn Hno Hend Hst Hyes Hal Hm hm
          go_wp2_with fail
          go_roundw
          case rel => exact ⟨min (m + v) 1000000, k + 1, Hlt.out, Nat.min_le_right _ _, int_eqV (by omega), by go_num, HY, Lib.hid (by rw [← HM.out]; unfold cap; omega), HB4⟩
          case measure => have := Hlt.out; simp [intOf]; omega
    · obtain rfl : k = rn := by omega
      have HE := Lib.hid (Hend.out k m (by have := Hrn.out; omega) Hal.out Hm.out)
      go_wp2_with fail
      go_ret
      exact ⟨ret_intP HE.out.symm, Hb.out⟩

/-- What empty.Least's look finds: its two boxes, and the lengths. -/
structure JL (w : World) (gb gi g N B n0 : Nat) (tk lk : Int) (ov lv : Value) (b : Bn) (st : List Int) : Prop where
  box : BoxB w gb B tk lk ov lv b
  is : w.cell? ⟨gi, 0, none⟩ = some (.slice (some ⟨g, 0, none⟩) N N)
  row : w.ownsRow n0 3 1 (.slice (some ⟨g, 0, none⟩) N N) N (ints st)
  ils : gi < w.heap.size
  ne : gb ≠ g ∧ gi ≠ g ∧ B ≤ g
theorem JL.keep {w w' : World} {gb gi g N B n0 n : Nat} {tk lk : Int} {ov lv : Value} {b : Bn} {st : List Int} (h : JL w gb gi g N B n0 tk lk ov lv b st) (hb : Below n w w') (h1 : gb < n) (h2 : gi < n) (h4 : g < n) (h5 : B ≤ n) : JL w' gb gi g N B n0 tk lk ov lv b st :=
  ⟨h.box.keepN hb h1 h5, (hb.cell (p := ⟨gi, 0, none⟩) h2).trans h.is, owns_blockN h.row fun k e => by cases e; exact hb.block _ h4, Nat.lt_of_lt_of_le h.ils hb.size, h.ne⟩
theorem JL.up {w w' : World} {gb gi g N B n0 : Nat} {tk lk : Int} {ov lv : Value} {b : Bn} {st : List Int} (h : JL w gb gi g N B n0 tk lk ov lv b st) (hb : Below w.heap.size w w') : JL w' gb gi g N B n0 tk lk ov lv b st :=
  h.keep hb h.box.lt h.ils (h.row.lt _ rfl).2 h.box.le
theorem ints_set (l : List Int) (j : Nat) (v : Int) : (ints l).set j (.int .i64 v) = ints (l.set j v) := by simp [ints, List.map_set]
theorem JL.len {w : World} {gb gi g N B n0 : Nat} {tk lk : Int} {ov lv : Value} {b : Bn} {st : List Int} (h : JL w gb gi g N B n0 tk lk ov lv b st) : st.length = N := by
  have := h.row.1; rw [ints_length] at this; omega
theorem JL.set {w : World} {gb gi g N B n0 : Nat} {tk lk : Int} {ov lv : Value} {b : Bn} {st : List Int} (h : JL w gb gi g N B n0 tk lk ov lv b st) (j : Nat) (hj : j < N) (v : Int) : JL (w.setCell ⟨g, j, none⟩ (.int .i64 v)) gb gi g N B n0 tk lk ov lv b (st.set j v) := by
  have hl := h.len
  have far : ∀ q k, q ≠ g → (w.setCell ⟨g, j, none⟩ (.int .i64 v)).cell? ⟨q, k, none⟩ = w.cell? ⟨q, k, none⟩ := fun q k hq => cell_eq (p := ⟨q, k, none⟩) (Below.heap_setCell _ _ _ _ hq)
  have hs : (w.setCell ⟨g, j, none⟩ (.int .i64 v)).heap.size = w.heap.size := by simp [World.setCell]
  have hB : Below B w (w.setCell ⟨g, j, none⟩ (.int .i64 v)) := (Below.refl B w).setCell (p := ⟨g, j, none⟩) h.ne.2.2 _
  exact ⟨⟨(far gb 0 h.ne.1).trans h.box.c0, (far gb 1 h.ne.1).trans h.box.c1, (far gb 2 h.ne.1).trans h.box.c2, (far gb 3 h.ne.1).trans h.box.c3, by rw [hs]; exact h.box.lt, by rw [hs]; exact h.box.le, h.box.r.below hB⟩,
    (far gi 0 h.ne.2.1).trans h.is, by rw [← ints_set]; exact owns_setN h.row j (by rw [ints_length, hl]; exact hj) _, by rw [hs]; exact h.ils, h.ne⟩
theorem JL.cell {w : World} {gb gi g N B n0 : Nat} {tk lk : Int} {ov lv : Value} {b : Bn} {st : List Int} (h : JL w gb gi g N B n0 tk lk ov lv b st) (j : Nat) (hj : j < st.length) : w.cell? ⟨g, j, none⟩ = some (.int .i64 st[j]) ∧ w.frozen? ⟨g, j, none⟩ = false := by
  have hl := h.len
  obtain ⟨g', hv, _, _, hc, hf⟩ := owns_cellN h.row (by omega)
  simp only [Option.some.injEq, Addr.mk.injEq, and_true] at hv
  subst hv
  exact ⟨hc j _ (ints_at st j hj), hf j⟩

set_option maxHeartbeats 4000000 in
set_option maxRecDepth 100000 in
theorem look_leastW (b : Bn) (gb gi g N B n0 : Nat) (tk lk : Int) (ov lv : Value) (st : List Int) (i : Nat) (w : World) (hi : i < b.l.length) (hok : ∀ p ∈ b.l, prOk b p = true) (hN : b.of.length = N) (hN2 : N ≤ 1000) (hlen : st.length = N) (hlow : ∀ x ∈ st, -1 ≤ x ∧ x ≤ cap)
    (h : JL w gb gi g N B n0 tk lk ov lv b st) :
    Calls Try.prog 46 #[.int .i64 (i : Nat), .pointer (some ⟨gb, 0, none⟩), .pointer (some ⟨gi, 0, none⟩)] w fun e w' => e = .returned (.tuple #[.int .i64 (lookL b st i).2, .bool true]) ∧
      JL w' gb gi g N B n0 tk lk ov lv b (lookL b st i).1 ∧ KB w.heap.size g w w' := by
  obtain ⟨la, lc, rfl, hl1, hl2⟩ := h.box.r.l.val
  have hlk := lookL_at b st i hi
  have hpo := hok _ (List.getElem_mem hi)
  obtain ⟨hp1, hp2⟩ := prOk_left hpo
  have hps := fun s hs ht => prOk_sym (s := s) hpo hs ht
  obtain ⟨b1, o1, a1, d1, hao, hb1, e0, e1, rk, m1, m2⟩ := h.box.r.l.get i hi
  subst hao
  have c3 := h.box.c3
  generalize lookL b st i = lm at *
  generalize b.l[i] = p at *
  obtain ⟨x, rt⟩ := p
  simp only at hlk hp1 hp2 hps e0 e1 rk m1
  obtain ⟨q, rfl⟩ : ∃ q : Nat, x = (q : Int) := ⟨x.toNat, by omega⟩
  rw [Int.toNat_natCast] at hlk
  have hqN : q < N := by omega
  have hql : q < st.length := by omega
  obtain ⟨ll, hll⟩ : ∃ ll, ll = b.l.length := ⟨_, rfl⟩
  rw [← hll] at c3 hi
  obtain ⟨rn, hrn⟩ : ∃ rn, rn = rt.length := ⟨_, rfl⟩
  have hi1 : (i : Int) < (ll : Int) := by omega
  have hi2 : (0 : Int) ≤ (i : Int) := by omega
  have hq1 : (q : Int) < (N : Int) := by omega
  have hq2 : (0 : Int) ≤ (q : Int) := by omega
  have hb1w := Nat.lt_of_lt_of_le hb1 h.box.le
  have hba := (Below.refl w.heap.size w).alloc (Nat.le_refl _) (.cells #[.int .i64 (q : Int), .slice a1 rt.length d1] 51)
  have h1 := h.up hba
  have hleng := length_any st rt (.slice a1 rt.length d1) g N N B _ h1.box.le (Row.below rk (hba.mono h.box.le)) hlen hN2 hlow (fun j hj => (h1.cell j hj).1) (h1.row.lt _ rfl).2 (fun s hs ht => by have := hps s hs ht; omega)
  rw [← hrn] at e1 m1 hba h1 hleng
  have H1 := Lib.hid h1
  have Hba := Lib.hid hba
  have Hleng := Lib.hid hleng
  have Hlr := Lib.hid (lenS_le st rt)
  have is1 := h1.is
  rw [List.getElem?_eq_getElem hql, Option.getD_some] at hlk
  have Hlk := Lib.hid hlk
  have Hlen := Lib.hid hlen
  have Hlo := Lib.hid (hlow _ (List.getElem_mem hql))
  have Hcq := Lib.hid (fun W (hJ : JL W gb gi g N B n0 tk lk ov (.slice (some ⟨b1, o1, none⟩) b.l.length lc) b st) => hJ.cell q hql)
  have Hg := Lib.hid (h.row.lt g rfl).2
  generalize st[q] = v at *
  generalize lenS st rt = nn at *
  clear hlk hpo hok hps rk m1 m2 hl1 hl2 hp1 hp2 hN hlen h1 hba hleng hrn hi hlow hb1
  go_enter Try.func46, Try.ntmps46
  go_upto_region 2 with fail
  have hx0 : (w.alloc (.cells #[.int .i64 (q : Int), .slice a1 rn d1] 51)).cell? ⟨w.heap.size, 0, none⟩ = some (.int .i64 (q : Int)) := cell_new w _ _ 0 _ rfl
  have hx2 : (w.alloc (.cells #[.int .i64 (q : Int), .slice a1 rn d1] 51)).cell? ⟨w.heap.size, 1, none⟩ = some (.slice a1 rn d1) := cell_new w _ _ 1 _ rfl
  have hsz : w.heap.size < (w.alloc (.cells #[.int .i64 (q : Int), .slice a1 rn d1] 51)).heap.size := by simp
  generalize w.alloc (.cells #[.int .i64 (q : Int), .slice a1 rn d1] 51) = w1 at *
  have HX := Lib.hid fun (W : World) (hW : Below w1.heap.size w1 W) => (hW.cell (p := ⟨w.heap.size, 0, none⟩) hsz).trans hx0
  clear e0 e1 hsz hx0 c3
  go_wp2_with fail
  refine (Hleng.out).mono ?_
  rintro e w2 ⟨rfl, hb2⟩
  have Hb2 := Lib.hid hb2
  have H2 := Lib.hid (H1.out.up hb2)
  have x0 := HX.out w2 hb2
  have is2 := H2.out.is
  obtain ⟨cq, fq⟩ := Hcq.out w2 H2.out
  clear hx2 is1 hb2 Hleng
  by_cases n0 : nn < 0
  · have q1 : decide (nn < 0) = true := decide_eq_true n0
    have HL : Hid (lm = (st, -1)) := Lib.hid (by rw [Hlk.out, if_pos (.inl n0)])
    clear n0 Hlk
    go_wp2_with fail
    go_ret2
    rw [HL.out]
    exact ⟨rfl, H2.out, KB.of_below (Hba.out.trans (Hb2.out.mono Hba.out.size))⟩
  have q1 : decide (nn < 0) = false := decide_eq_false n0
  have hlr := Hlr.out
  unfold cap at hlr
  by_cases c0 : 0 ≤ v ∧ v ≤ nn
  · have q2 : decide (0 ≤ v) = true := decide_eq_true c0.1
    have q3 : decide (v ≤ nn) = true := decide_eq_true c0.2
    have HL : Hid (lm = (st, -1)) := Lib.hid (by rw [Hlk.out, if_pos (.inr c0)])
    clear n0 Hlk c0 hlr
    go_wp2_with fail
    go_ret2
    rw [HL.out]
    exact ⟨rfl, H2.out, KB.of_below (Hba.out.trans (Hb2.out.mono Hba.out.size))⟩
  have HL : Hid (lm = (st.set q nn, (q : Int))) := Lib.hid (by rw [Hlk.out, if_neg (by omega)])
  have Hset := Lib.hid (H2.out.set q hqN nn)
  have x2 : (w2.setCell ⟨g, q, none⟩ (.int .i64 nn)).cell? ⟨w.heap.size, 0, none⟩ = some (.int .i64 (q : Int)) := (cell_eq (p := ⟨w.heap.size, 0, none⟩) (Below.heap_setCell w2 ⟨g, q, none⟩ (.int .i64 nn) w.heap.size (by have := Hg.out; show w.heap.size ≠ g; omega))).trans x0
  have Hkb := Lib.hid (KB.setCell (p := ⟨g, q, none⟩) (KB.of_below (g := g) (Hba.out.trans (Hb2.out.mono Hba.out.size))) (.inr rfl) (.int .i64 nn))
  by_cases v0 : 0 ≤ v
  · have q2 : decide (0 ≤ v) = true := decide_eq_true v0
    have q3 : decide (v ≤ nn) = false := decide_eq_false (by omega)
    clear n0 Hlk c0 hlr v0
    go_wp2_with fail
    go_ret2
    rw [HL.out]
    exact ⟨rfl, Hset.out, Hkb.out⟩
  · have q2 : decide (0 ≤ v) = false := decide_eq_false v0
    clear n0 Hlk c0 hlr v0
    go_wp2_with fail
    go_ret2
    rw [HL.out]
    exact ⟨rfl, Hset.out, Hkb.out⟩
end Go.Proofs.Ytfmcigodfihlcaa
