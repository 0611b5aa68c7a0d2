/-
  empty.some's look; what it holds in memory.
-/
import Derived.Test.YtfmcigodfihlcaaEmpA
import Derived.Test.YtfmcigodfihlcaaSetB
namespace Go.Proofs.Ytfmcigodfihlcaa
open Go.RowKit
set_option linter.unusedVariables false
set_option linter.unusedSimpArgs false

theorem BoxB.keepN {w w' : World} {g B n : Nat} {tk lk : Int} {ov lv : Value} {b : Bn} (h : BoxB w g B tk lk ov lv b) (hb : Below n w w') (h1 : g < n) (h2 : B ≤ n) : BoxB w' g B tk lk ov lv b :=
  ⟨(hb.cell (p := ⟨g, 0, none⟩) h1).trans h.c0, (hb.cell (p := ⟨g, 1, none⟩) h1).trans h.c1, (hb.cell (p := ⟨g, 2, none⟩) h1).trans h.c2, (hb.cell (p := ⟨g, 3, none⟩) h1).trans h.c3, Nat.lt_of_lt_of_le h.lt hb.size, Nat.le_trans h.le hb.size, h.r.below (hb.mono h2)⟩
/-- What empty.some's look finds: its three boxes, and the marks. -/
structure JM (w : World) (gb gi gg g N B n0 : Nat) (tk lk : Int) (ov lv fv : Value) (b : Bn) (st : List Bool) : Prop where
  box : BoxB w gb B tk lk ov lv b
  is : w.cell? ⟨gi, 0, none⟩ = some (.slice (some ⟨g, 0, none⟩) N N)
  good : w.cell? ⟨gg, 0, none⟩ = some fv
  row : w.ownsRow n0 4 1 (.slice (some ⟨g, 0, none⟩) N N) N (bools st)
  ils : gi < w.heap.size ∧ gg < w.heap.size
  ne : gb ≠ g ∧ gi ≠ g ∧ gg ≠ g ∧ B ≤ g
theorem JM.keep {w w' : World} {gb gi gg g N B n0 n : Nat} {tk lk : Int} {ov lv fv : Value} {b : Bn} {st : List Bool} (h : JM w gb gi gg g N B n0 tk lk ov lv fv b st) (hb : Below n w w') (h1 : gb < n) (h2 : gi < n) (h3 : gg < n) (h4 : g < n) (h5 : B ≤ n) : JM w' gb gi gg g N B n0 tk lk ov lv fv b st :=
  ⟨h.box.keepN hb h1 h5, (hb.cell (p := ⟨gi, 0, none⟩) h2).trans h.is, (hb.cell (p := ⟨gg, 0, none⟩) h3).trans h.good, owns_blockN h.row fun k e => by cases e; exact hb.block _ h4, ⟨Nat.lt_of_lt_of_le h.ils.1 hb.size, Nat.lt_of_lt_of_le h.ils.2 hb.size⟩, h.ne⟩
theorem JM.up {w w' : World} {gb gi gg g N B n0 : Nat} {tk lk : Int} {ov lv fv : Value} {b : Bn} {st : List Bool} (h : JM w gb gi gg g N B n0 tk lk ov lv fv b st) (hb : Below w.heap.size w w') : JM w' gb gi gg g N B n0 tk lk ov lv fv b st :=
  h.keep hb h.box.lt h.ils.1 h.ils.2 (h.row.lt _ rfl).2 h.box.le
theorem JM.set {w : World} {gb gi gg g N B n0 : Nat} {tk lk : Int} {ov lv fv : Value} {b : Bn} {st : List Bool} (h : JM w gb gi gg g N B n0 tk lk ov lv fv b st) (j : Nat) (hj : j < N) : JM (w.setCell ⟨g, j, none⟩ (.bool true)) gb gi gg g N B n0 tk lk ov lv fv b (st.set j true) := by
  have hl : st.length = N := by have := h.row.1; rw [bools_length] at this; omega
  have far : ∀ q k, q ≠ g → (w.setCell ⟨g, j, none⟩ (.bool true)).cell? ⟨q, k, none⟩ = w.cell? ⟨q, k, none⟩ := fun q k hq => cell_eq (p := ⟨q, k, none⟩) (Below.heap_setCell _ _ _ _ hq)
  have hs : (w.setCell ⟨g, j, none⟩ (.bool true)).heap.size = w.heap.size := by simp [World.setCell]
  have hB : Below B w (w.setCell ⟨g, j, none⟩ (.bool true)) := (Below.refl B w).setCell (p := ⟨g, j, none⟩) h.ne.2.2.2 _
  exact ⟨⟨(far gb 0 h.ne.1).trans h.box.c0, (far gb 1 h.ne.1).trans h.box.c1, (far gb 2 h.ne.1).trans h.box.c2, (far gb 3 h.ne.1).trans h.box.c3, by rw [hs]; exact h.box.lt, by rw [hs]; exact h.box.le, h.box.r.below hB⟩,
    (far gi 0 h.ne.2.1).trans h.is, (far gg 0 h.ne.2.2.1).trans h.good, by rw [← bools_set]; exact owns_setN h.row j (by rw [bools_length, hl]; exact hj) _, by rw [hs]; exact h.ils, h.ne⟩
theorem JM.cell {w : World} {gb gi gg g N B n0 : Nat} {tk lk : Int} {ov lv fv : Value} {b : Bn} {st : List Bool} (h : JM w gb gi gg g N B n0 tk lk ov lv fv b st) (j : Nat) (hj : j < st.length) : w.cell? ⟨g, j, none⟩ = some (.bool st[j]) ∧ w.frozen? ⟨g, j, none⟩ = false := by
  have hl : st.length = N := by have := h.row.1; rw [bools_length] at this; omega
  obtain ⟨g', hv, _, _, hc, hf⟩ := owns_cellN h.row (by omega)
  simp only [Option.some.injEq, Addr.mk.injEq, and_true] at hv
  subst hv
  exact ⟨hc j _ (bools_at st j hj), hf j⟩

set_option maxHeartbeats 1000000 in
theorem good_nothing (st : List Bool) (g N c : Nat) (s : Sy) (w : World) (hl : st.length = N) (hN : N ≤ 1000) (hc : ∀ j (hj : j < st.length), w.cell? ⟨g, j, none⟩ = some (.bool st[j])) (hg : g < w.heap.size) (hs : s.tok = false → 0 ≤ s.n ∧ s.n < N) :
    Calls Try.prog 38 #[.slice (some ⟨g, 0, none⟩) N c, .agg #[.bool s.tok, .int .i64 s.n]] w (BoolB w (goodB false st s)) := by
  obtain ⟨t, n⟩ := s
  simp only at hs ⊢
  have hb := Lib.hid ((Below.refl w.heap.size w).alloc (Nat.le_refl _) (.cells #[.bool t, .int .i64 n] 54))
  cases t with
  | true =>
    clear hs hc hg hN
    go_enter Try.func38, Try.ntmps38
    go_wp2_with fail
    go_ret
    exact ⟨ret_boolP rfl, hb.out⟩
  | false =>
    obtain ⟨h0, h1⟩ := hs rfl
    obtain ⟨q, rfl⟩ : ∃ q : Nat, n = (q : Int) := ⟨n.toNat, by omega⟩
    have hq : q < st.length := by omega
    have c0 := hc q hq
    have c1 := (hb.out.cell (p := ⟨g, q, none⟩) hg).trans c0
    have hgd : goodB false st ⟨false, (q : Int)⟩ = st[q] := by
      unfold goodB; simp [List.getElem?_eq_getElem hq]
    have Hgd := Lib.hid hgd
    generalize st[q] = v at *
    clear hc hgd hq hl hs
    cases v with
    | true =>
      go_enter Try.func38, Try.ntmps38
      go_wp2_with fail
      go_ret
      exact ⟨ret_boolP Hgd.out.symm, hb.out⟩
    | false =>
      go_enter Try.func38, Try.ntmps38
      go_wp2_with fail
      go_ret
      exact ⟨ret_boolP Hgd.out.symm, hb.out⟩
set_option maxHeartbeats 4000000 in
set_option maxRecDepth 100000 in
theorem look_nothing (b : Bn) (gb gi gg g N B n0 : Nat) (tk lk : Int) (ov lv : Value) (st : List Bool) (i : Nat) (w : World) (hi : i < b.l.length) (hok : ∀ p ∈ b.l, prOk b p = true) (hN : b.of.length = N) (hN2 : N ≤ 1000) (hlen : st.length = N)
    (h : JM w gb gi gg g N B n0 tk lk ov lv (.func (.func 38) #[] #[]) b st) (hrl : ∀ p ∈ b.l, p.right.length ≤ 500) :
    Calls Try.prog 57 #[.int .i64 (i : Nat), .pointer (some ⟨gb, 0, none⟩), .pointer (some ⟨gi, 0, none⟩), .pointer (some ⟨gg, 0, none⟩)] w fun e w' => e = .returned (.tuple #[.int .i64 (lookM b false st i).2, .bool true]) ∧
      JM w' gb gi gg g N B n0 tk lk ov lv (.func (.func 38) #[] #[]) b (lookM b false st i).1 ∧ KB w.heap.size g w w' := by
  obtain ⟨la, lc, rfl, hl1, hl2⟩ := h.box.r.l.val
  have hlk : lookM b false st i = if (st[b.l[i].left.toNat]?).getD false = true then (st, -1) else if rowB false st b.l[i].right = true then (st.set b.l[i].left.toNat true, b.l[i].left) else (st, -1) := by
    unfold lookM; rw [List.getElem?_eq_getElem hi]
  have hpo := hok _ (List.getElem_mem hi)
  obtain ⟨hp1, hp2⟩ := prOk_left hpo
  have hps := fun s hs ht => prOk_sym (s := s) hpo hs ht
  have hr5 := hrl _ (List.getElem_mem hi)
  obtain ⟨b1, o1, a1, d1, hao, hb1, e0, e1, rk, m1, m2⟩ := h.box.r.l.get i hi
  subst hao
  have c3 := h.box.c3
  generalize lookM b false st i = lm at *
  generalize b.l[i] = p at *
  obtain ⟨x, rt⟩ := p
  simp only at hlk hp1 hp2 hps hr5 e0 e1 rk m1
  obtain ⟨q, rfl⟩ : ∃ q : Nat, x = (q : Int) := ⟨x.toNat, by omega⟩
  rw [Int.toNat_natCast] at hlk
  have hqN : q < N := by omega
  have hql : q < st.length := by omega
  obtain ⟨ll, hll⟩ : ∃ ll, ll = b.l.length := ⟨_, rfl⟩
  rw [← hll] at c3 hi
  obtain ⟨rn, hrn⟩ : ∃ rn, rn = rt.length := ⟨_, rfl⟩
  rw [← hrn] at e1 m1 hr5
  have hi1 : (i : Int) < (ll : Int) := by omega
  have hi2 : (0 : Int) ≤ (i : Int) := by omega
  have hq1 : (q : Int) < (N : Int) := by omega
  have hq2 : (0 : Int) ≤ (q : Int) := by omega
  have hb1w := Nat.lt_of_lt_of_le hb1 h.box.le
  have hba := (Below.refl w.heap.size w).alloc (Nat.le_refl _) (.cells #[.int .i64 (q : Int), .slice a1 rn d1] 51)
  have h1 := h.up hba
  have H1 := Lib.hid h1
  have Hba := Lib.hid hba
  have Hrk : Hid (∀ W, Below w.heap.size w W → SR W B (.slice a1 rn d1) rt) := Lib.hid fun W hW => by rw [hrn]; exact Row.below rk (hW.mono h.box.le)
  have Hrn := Lib.hid hrn
  have Hps := Lib.hid hps
  have is1 := h1.is
  obtain ⟨cq1, fq1⟩ := h1.cell q hql
  rw [List.getElem?_eq_getElem hql, Option.getD_some] at hlk
  have Hlk := Lib.hid hlk
  have Hlen := Lib.hid hlen
  have HNo := Lib.hid hN
  have Hj := Lib.hid h
  generalize st[q] = v at *
  clear hlk hpo hok hps hrl rk m1 m2 hl1 hl2 hp1 hp2 hN hlen h1 hba hrn h hll hb1 hi
  go_enter Try.func57, Try.ntmps57
  cases v with
  | true =>
    have HL : Hid (lm = (st, -1)) := Lib.hid (by rw [Hlk.out]; simp)
    go_wp2_with fail
    go_ret2
    rw [HL.out]
    exact ⟨rfl, H1.out, KB.of_below Hba.out⟩
  | false =>
    have HL : Hid (lm = if rowB false st rt = true then (st.set q true, (q : Int)) else (st, -1)) := Lib.hid (by rw [Hlk.out]; simp)
    have hx1 : (w.alloc (.cells #[.int .i64 (q : Int), .slice a1 rn d1] 51)).cell? ⟨w.heap.size, 0, none⟩ = some (.int .i64 (q : Int)) := cell_new w _ _ 0 _ rfl
    have hx2 : (w.alloc (.cells #[.int .i64 (q : Int), .slice a1 rn d1] 51)).cell? ⟨w.heap.size, 1, none⟩ = some (.slice a1 rn d1) := cell_new w _ _ 1 _ rfl
    have hsz : w.heap.size < (w.alloc (.cells #[.int .i64 (q : Int), .slice a1 rn d1] 51)).heap.size := by simp
    clear Hlk
    go_upto_region 4 with fail
    generalize w.alloc (.cells #[.int .i64 (q : Int), .slice a1 rn d1] 51) = w1 at *
    have HX := Lib.hid fun (W : World) (hW : Below w1.heap.size w1 W) => (hW.cell (p := ⟨w.heap.size, 0, none⟩) hsz).trans hx1
    clear cq1 fq1 is1 e0 e1 hsz hx1
    go_wp2_with fail
    clear hx2
    go_loopw [23] (fun iv wr => ∃ k : Nat, k ≤ rn ∧ iv = .int .i64 (k : Nat) ∧ Hid ((rt.take k).all (goodB false st) = true) ∧ Hid (Below w1.heap.size w1 wr)) (fun iv _ => rn - (intOf iv).toNat)
    case atStart => exact ⟨0, Nat.zero_le _, rfl, Lib.hid rfl, Lib.hid (Below.refl _ _)⟩
    case round =>
      obtain ⟨k, hk, rfl, Hal, Hb⟩ := hrel
      have Hj2 := Lib.hid (H1.out.up Hb.out)
      by_cases hkr : k < rn
      · have hkl : k < rt.length := by have := Hrn.out; omega
        obtain ⟨b6, o6, hao, hb6, f0, f1⟩ := SR.get (Hrk.out wr (Hba.out.trans (Hb.out.mono Hba.out.size))) k hkl
        subst hao
        have Hyes := Lib.hid (all_step rt (goodB false st) k hkl Hal.out)
        have Hno := Lib.hid (all_no rt (goodB false st) k hkl)
        have hsn := Hps.out rt[k] (List.getElem_mem hkl)
        have hk1 : (k : Int) < (rn : Int) := by omega
        have hk2 : (0 : Int) ≤ (k : Int) := by omega
        have Hkr := Lib.hid hkr
        generalize rt[k] = s at *
        have hbs := (Below.refl wr.heap.size wr).alloc (Nat.le_refl _) (.cells #[.bool s.tok, .int .i64 s.n] 54)
        have hj3 := Hj2.out.up hbs
        have g1 := hj3.good
        have g2 := hj3.is
        have HB3 := Lib.hid (Hb.out.trans (hbs.mono Hb.out.size))
        have Hc := Lib.hid (good_nothing st g N N s (wr.alloc (.cells #[.bool s.tok, .int .i64 s.n] 54)) Hlen.out hN2 (fun j hj => (hj3.cell j hj).1) (hj3.row.lt _ rfl).2 (fun ht => by have := hsn ht; have := HNo.out; omega))
        clear hkr hk hkl hb6 hsn hbs hj3
        cases hq : goodB false st s with
        | true =>
          rw [hq] at Hc
          have HY := Lib.hid (Hyes.out hq)
          clear hq Hyes Hno
          go_wp2_with fail
          refine (Hc.out).mono ?_
          rintro e w5 ⟨rfl, b5⟩
          have HB5 := Lib.hid (HB3.out.trans (b5.mono HB3.out.size))
          clear b5 Hc g1 g2
          go_wp2_with fail
          go_roundw
          case rel => exact ⟨k + 1, Hkr.out, by go_num, HY, HB5⟩
          case measure => have := Hkr.out; simp [intOf]; omega
        | false =>
          rw [hq] at Hc
          have HY : Hid (lm = (st, -1)) := Lib.hid (by rw [HL.out, show rowB false st rt = false from Hno.out hq]; simp)
          clear hq Hyes Hno
          go_wp2_with fail
          refine (Hc.out).mono ?_
          rintro e w5 ⟨rfl, b5⟩
          have HB5 := Lib.hid (HB3.out.trans (b5.mono HB3.out.size))
          clear b5 Hc g1 g2
          go_wp2_with fail
          go_ret2
          rw [HY.out]
          exact ⟨rfl, H1.out.up HB5.out, KB.of_below (Hba.out.trans (HB5.out.mono Hba.out.size))⟩
      · obtain rfl : k = rn := by omega
        have HY : Hid (lm = (st.set q true, (q : Int))) := Lib.hid (by
          have := Hal.out; rw [Hrn.out, List.take_length] at this
          rw [HL.out, show rowB false st rt = true from this]; simp)
        have x1 := HX.out wr Hb.out
        have g2 := Hj2.out.is
        obtain ⟨cq2, fq2⟩ := Hj2.out.cell q (by have := Hlen.out; omega)
        have hglt := (Hj2.out.row.lt _ rfl).2
        have hgw0 : g < w.heap.size := (Hj.out.row.lt g rfl).2
        have x2 : (wr.setCell ⟨g, q, none⟩ (.bool true)).cell? ⟨w.heap.size, 0, none⟩ = some (.int .i64 (q : Int)) := (cell_eq (p := ⟨w.heap.size, 0, none⟩) (Below.heap_setCell wr ⟨g, q, none⟩ (.bool true) w.heap.size (by show w.heap.size ≠ g; omega))).trans x1
        clear hgw0
        have Hset := Lib.hid (Hj2.out.set q hqN)
        go_wp2_with fail
        go_ret2
        rw [HY.out]
        exact ⟨rfl, Hset.out, KB.setCell (p := ⟨g, q, none⟩) (KB.of_below (Hba.out.trans (Hb.out.mono Hba.out.size))) (.inr rfl) _⟩

set_option maxHeartbeats 1000000 in
theorem good_ends (st : List Bool) (g N c : Nat) (s : Sy) (w : World) (hl : st.length = N) (hN : N ≤ 1000) (hc : ∀ j (hj : j < st.length), w.cell? ⟨g, j, none⟩ = some (.bool st[j])) (hg : g < w.heap.size) (hs : s.tok = false → 0 ≤ s.n ∧ s.n < N) :
    Calls Try.prog 39 #[.slice (some ⟨g, 0, none⟩) N c, .agg #[.bool s.tok, .int .i64 s.n]] w (BoolB w (goodB true st s)) := by
  obtain ⟨t, n⟩ := s
  simp only at hs ⊢
  have hb := Lib.hid ((Below.refl w.heap.size w).alloc (Nat.le_refl _) (.cells #[.bool t, .int .i64 n] 54))
  cases t with
  | true =>
    clear hs hc hg hN
    go_enter Try.func39, Try.ntmps39
    go_wp2_with fail
    go_ret
    exact ⟨ret_boolP rfl, hb.out⟩
  | false =>
    obtain ⟨h0, h1⟩ := hs rfl
    obtain ⟨q, rfl⟩ : ∃ q : Nat, n = (q : Int) := ⟨n.toNat, by omega⟩
    have hq : q < st.length := by omega
    have c0 := hc q hq
    have c1 := (hb.out.cell (p := ⟨g, q, none⟩) hg).trans c0
    have hgd : goodB true st ⟨false, (q : Int)⟩ = st[q] := by
      unfold goodB; simp [List.getElem?_eq_getElem hq]
    have Hgd := Lib.hid hgd
    generalize st[q] = v at *
    clear hc hgd hq hl hs
    cases v with
    | true =>
      go_enter Try.func39, Try.ntmps39
      go_wp2_with fail
      go_ret
      exact ⟨ret_boolP Hgd.out.symm, hb.out⟩
    | false =>
      go_enter Try.func39, Try.ntmps39
      go_wp2_with fail
      go_ret
      exact ⟨ret_boolP Hgd.out.symm, hb.out⟩
set_option maxHeartbeats 4000000 in
set_option maxRecDepth 100000 in
theorem look_ends (b : Bn) (gb gi gg g N B n0 : Nat) (tk lk : Int) (ov lv : Value) (st : List Bool) (i : Nat) (w : World) (hi : i < b.l.length) (hok : ∀ p ∈ b.l, prOk b p = true) (hN : b.of.length = N) (hN2 : N ≤ 1000) (hlen : st.length = N)
    (h : JM w gb gi gg g N B n0 tk lk ov lv (.func (.func 39) #[] #[]) b st) (hrl : ∀ p ∈ b.l, p.right.length ≤ 500) :
    Calls Try.prog 57 #[.int .i64 (i : Nat), .pointer (some ⟨gb, 0, none⟩), .pointer (some ⟨gi, 0, none⟩), .pointer (some ⟨gg, 0, none⟩)] w fun e w' => e = .returned (.tuple #[.int .i64 (lookM b true st i).2, .bool true]) ∧
      JM w' gb gi gg g N B n0 tk lk ov lv (.func (.func 39) #[] #[]) b (lookM b true st i).1 ∧ KB w.heap.size g w w' := by
  obtain ⟨la, lc, rfl, hl1, hl2⟩ := h.box.r.l.val
  have hlk : lookM b true st i = if (st[b.l[i].left.toNat]?).getD false = true then (st, -1) else if rowB true st b.l[i].right = true then (st.set b.l[i].left.toNat true, b.l[i].left) else (st, -1) := by
    unfold lookM; rw [List.getElem?_eq_getElem hi]
  have hpo := hok _ (List.getElem_mem hi)
  obtain ⟨hp1, hp2⟩ := prOk_left hpo
  have hps := fun s hs ht => prOk_sym (s := s) hpo hs ht
  have hr5 := hrl _ (List.getElem_mem hi)
  obtain ⟨b1, o1, a1, d1, hao, hb1, e0, e1, rk, m1, m2⟩ := h.box.r.l.get i hi
  subst hao
  have c3 := h.box.c3
  generalize lookM b true st i = lm at *
  generalize b.l[i] = p at *
  obtain ⟨x, rt⟩ := p
  simp only at hlk hp1 hp2 hps hr5 e0 e1 rk m1
  obtain ⟨q, rfl⟩ : ∃ q : Nat, x = (q : Int) := ⟨x.toNat, by omega⟩
  rw [Int.toNat_natCast] at hlk
  have hqN : q < N := by omega
  have hql : q < st.length := by omega
  obtain ⟨ll, hll⟩ : ∃ ll, ll = b.l.length := ⟨_, rfl⟩
  rw [← hll] at c3 hi
  obtain ⟨rn, hrn⟩ : ∃ rn, rn = rt.length := ⟨_, rfl⟩
  rw [← hrn] at e1 m1 hr5
  have hi1 : (i : Int) < (ll : Int) := by omega
  have hi2 : (0 : Int) ≤ (i : Int) := by omega
  have hq1 : (q : Int) < (N : Int) := by omega
  have hq2 : (0 : Int) ≤ (q : Int) := by omega
  have hb1w := Nat.lt_of_lt_of_le hb1 h.box.le
  have hba := (Below.refl w.heap.size w).alloc (Nat.le_refl _) (.cells #[.int .i64 (q : Int), .slice a1 rn d1] 51)
  have h1 := h.up hba
  have H1 := Lib.hid h1
  have Hba := Lib.hid hba
  have Hrk : Hid (∀ W, Below w.heap.size w W → SR W B (.slice a1 rn d1) rt) := Lib.hid fun W hW => by rw [hrn]; exact Row.below rk (hW.mono h.box.le)
  have Hrn := Lib.hid hrn
  have Hps := Lib.hid hps
  have is1 := h1.is
  obtain ⟨cq1, fq1⟩ := h1.cell q hql
  rw [List.getElem?_eq_getElem hql, Option.getD_some] at hlk
  have Hlk := Lib.hid hlk
  have Hlen := Lib.hid hlen
  have HNo := Lib.hid hN
  have Hj := Lib.hid h
  generalize st[q] = v at *
  clear hlk hpo hok hps hrl rk m1 m2 hl1 hl2 hp1 hp2 hN hlen h1 hba hrn h hll hb1 hi
  go_enter Try.func57, Try.ntmps57
  cases v with
  | true =>
    have HL : Hid (lm = (st, -1)) := Lib.hid (by rw [Hlk.out]; simp)
    go_wp2_with fail
    go_ret2
    rw [HL.out]
    exact ⟨rfl, H1.out, KB.of_below Hba.out⟩
  | false =>
    have HL : Hid (lm = if rowB true st rt = true then (st.set q true, (q : Int)) else (st, -1)) := Lib.hid (by rw [Hlk.out]; simp)
    have hx1 : (w.alloc (.cells #[.int .i64 (q : Int), .slice a1 rn d1] 51)).cell? ⟨w.heap.size, 0, none⟩ = some (.int .i64 (q : Int)) := cell_new w _ _ 0 _ rfl
    have hx2 : (w.alloc (.cells #[.int .i64 (q : Int), .slice a1 rn d1] 51)).cell? ⟨w.heap.size, 1, none⟩ = some (.slice a1 rn d1) := cell_new w _ _ 1 _ rfl
    have hsz : w.heap.size < (w.alloc (.cells #[.int .i64 (q : Int), .slice a1 rn d1] 51)).heap.size := by simp
    clear Hlk
    go_upto_region 4 with fail
    generalize w.alloc (.cells #[.int .i64 (q : Int), .slice a1 rn d1] 51) = w1 at *
    have HX := Lib.hid fun (W : World) (hW : Below w1.heap.size w1 W) => (hW.cell (p := ⟨w.heap.size, 0, none⟩) hsz).trans hx1
    clear cq1 fq1 is1 e0 e1 hsz hx1
    go_wp2_with fail
    clear hx2
    go_loopw [23] (fun iv wr => ∃ k : Nat, k ≤ rn ∧ iv = .int .i64 (k : Nat) ∧ Hid ((rt.take k).all (goodB true st) = true) ∧ Hid (Below w1.heap.size w1 wr)) (fun iv _ => rn - (intOf iv).toNat)
    case atStart => exact ⟨0, Nat.zero_le _, rfl, Lib.hid rfl, Lib.hid (Below.refl _ _)⟩
    case round =>
      obtain ⟨k, hk, rfl, Hal, Hb⟩ := hrel
      have Hj2 := Lib.hid (H1.out.up Hb.out)
      by_cases hkr : k < rn
      · have hkl : k < rt.length := by have := Hrn.out; omega
        obtain ⟨b6, o6, hao, hb6, f0, f1⟩ := SR.get (Hrk.out wr (Hba.out.trans (Hb.out.mono Hba.out.size))) k hkl
        subst hao
        have Hyes := Lib.hid (all_step rt (goodB true st) k hkl Hal.out)
        have Hno := Lib.hid (all_no rt (goodB true st) k hkl)
        have hsn := Hps.out rt[k] (List.getElem_mem hkl)
        have hk1 : (k : Int) < (rn : Int) := by omega
        have hk2 : (0 : Int) ≤ (k : Int) := by omega
        have Hkr := Lib.hid hkr
        generalize rt[k] = s at *
        have hbs := (Below.refl wr.heap.size wr).alloc (Nat.le_refl _) (.cells #[.bool s.tok, .int .i64 s.n] 54)
        have hj3 := Hj2.out.up hbs
        have g1 := hj3.good
        have g2 := hj3.is
        have HB3 := Lib.hid (Hb.out.trans (hbs.mono Hb.out.size))
        have Hc := Lib.hid (good_ends st g N N s (wr.alloc (.cells #[.bool s.tok, .int .i64 s.n] 54)) Hlen.out hN2 (fun j hj => (hj3.cell j hj).1) (hj3.row.lt _ rfl).2 (fun ht => by have := hsn ht; have := HNo.out; omega))
        clear hkr hk hkl hb6 hsn hbs hj3
        cases hq : goodB true st s with
        | true =>
          rw [hq] at Hc
          have HY := Lib.hid (Hyes.out hq)
          clear hq Hyes Hno
          go_wp2_with fail
          refine (Hc.out).mono ?_
          rintro e w5 ⟨rfl, b5⟩
          have HB5 := Lib.hid (HB3.out.trans (b5.mono HB3.out.size))
          clear b5 Hc g1 g2
          go_wp2_with fail
          go_roundw
          case rel => exact ⟨k + 1, Hkr.out, by go_num, HY, HB5⟩
          case measure => have := Hkr.out; simp [intOf]; omega
        | false =>
          rw [hq] at Hc
          have HY : Hid (lm = (st, -1)) := Lib.hid (by rw [HL.out, show rowB true st rt = false from Hno.out hq]; simp)
          clear hq Hyes Hno
          go_wp2_with fail
          refine (Hc.out).mono ?_
          rintro e w5 ⟨rfl, b5⟩
          have HB5 := Lib.hid (HB3.out.trans (b5.mono HB3.out.size))
          clear b5 Hc g1 g2
          go_wp2_with fail
          go_ret2
          rw [HY.out]
          exact ⟨rfl, H1.out.up HB5.out, KB.of_below (Hba.out.trans (HB5.out.mono Hba.out.size))⟩
      · obtain rfl : k = rn := by omega
        have HY : Hid (lm = (st.set q true, (q : Int))) := Lib.hid (by
          have := Hal.out; rw [Hrn.out, List.take_length] at this
          rw [HL.out, show rowB true st rt = true from this]; simp)
        have x1 := HX.out wr Hb.out
        have g2 := Hj2.out.is
        obtain ⟨cq2, fq2⟩ := Hj2.out.cell q (by have := Hlen.out; omega)
        have hglt := (Hj2.out.row.lt _ rfl).2
        have hgw0 : g < w.heap.size := (Hj.out.row.lt g rfl).2
        have x2 : (wr.setCell ⟨g, q, none⟩ (.bool true)).cell? ⟨w.heap.size, 0, none⟩ = some (.int .i64 (q : Int)) := (cell_eq (p := ⟨w.heap.size, 0, none⟩) (Below.heap_setCell wr ⟨g, q, none⟩ (.bool true) w.heap.size (by show w.heap.size ≠ g; omega))).trans x1
        clear hgw0
        have Hset := Lib.hid (Hj2.out.set q hqN)
        go_wp2_with fail
        go_ret2
        rw [HY.out]
        exact ⟨rfl, Hset.out, KB.setCell (p := ⟨g, q, none⟩) (KB.of_below (Hba.out.trans (Hb.out.mono Hba.out.size))) (.inr rfl) _⟩
end Go.Proofs.Ytfmcigodfihlcaa
