/-
  empty.Nothing, Ends, Row; the document's.
-/
import Derived.Test.YtfmcigodfihlcaaEmpD
import Derived.Test.YtfmcigodfihlcaaBnfE
namespace Go.Proofs.Ytfmcigodfihlcaa
open Go.RowKit
set_option linter.unusedVariables false
set_option linter.unusedSimpArgs false

theorem agg_box (w : World) (tk lk : Int) (ov lv : Value) (T : TypeId) : Below w.heap.size w (w.alloc (.cells #[.int .i64 tk, .int .i64 lk, ov, lv] T)) := (Below.refl w.heap.size w).alloc (Nat.le_refl _) _
theorem SomeP.up {w w1 w' : World} {b : Bn} {tk : Bool} {e : Ending} (h : SomeP w1 b tk e w') (hb : Below w.heap.size w w1) : SomeP w b tk e w' := by
  obtain ⟨h1, h2⟩ := h
  refine ⟨?_, hb.trans (h2.mono hb.size)⟩
  rcases h1 with h1 | ⟨h0, v, st, he, hF, ho⟩
  · exact .inl h1
  · exact .inr ⟨h0, v, st, he, hF, owns_baseP ho hb.size⟩

set_option maxHeartbeats 1000000 in
theorem nothing_any (b : Bn) (ov lv : Value) (B : Nat) (w : World) (hB : B ≤ w.heap.size) (r : BR w B ov lv b) :
    Calls Try.prog 11 #[.agg #[.int .i64 b.toks, .int .i64 b.look, ov, lv]] w (SomeP w b false) := by
  obtain ⟨oa, oc, rfl, _, _⟩ := r.of.val
  obtain ⟨la, lc, rfl, _, _⟩ := r.l.val
  have hb := agg_box w b.toks b.look (.slice oa b.of.length oc) (.slice la b.l.length lc) 25
  have H := Lib.hid (some_nothing b (.slice oa b.of.length oc) (.slice la b.l.length lc) B _ (Nat.le_trans hB hb.size) (r.below (hb.mono hB)))
  have Hb := Lib.hid hb
  clear r hB hb
  go_enter Try.func11, Try.ntmps11
  go_wp2_with fail
  refine (H.out).mono ?_
  intro e w1 hp
  have hp' := hp.up Hb.out
  have Hp := Lib.hid hp'
  rcases hp.1 with ⟨_, rfl⟩ | ⟨_, v, st, rfl, _, ho⟩
  · clear hp hp'
    go_wp2_with fail
    go_ret2
    exact Hp.out
  · obtain ⟨a, c, rfl, _, _⟩ := owns_valP ho
    clear hp hp' ho
    go_wp2_with fail
    go_ret2
    exact Hp.out

set_option maxHeartbeats 1000000 in
theorem ends_any (b : Bn) (ov lv : Value) (B : Nat) (w : World) (hB : B ≤ w.heap.size) (r : BR w B ov lv b) :
    Calls Try.prog 12 #[.agg #[.int .i64 b.toks, .int .i64 b.look, ov, lv]] w (SomeP w b true) := by
  obtain ⟨oa, oc, rfl, _, _⟩ := r.of.val
  obtain ⟨la, lc, rfl, _, _⟩ := r.l.val
  have hb := agg_box w b.toks b.look (.slice oa b.of.length oc) (.slice la b.l.length lc) 25
  have H := Lib.hid (some_ends b (.slice oa b.of.length oc) (.slice la b.l.length lc) B _ (Nat.le_trans hB hb.size) (r.below (hb.mono hB)))
  have Hb := Lib.hid hb
  clear r hB hb
  go_enter Try.func12, Try.ntmps12
  go_wp2_with fail
  refine (H.out).mono ?_
  intro e w1 hp
  have hp' := hp.up Hb.out
  have Hp := Lib.hid hp'
  rcases hp.1 with ⟨_, rfl⟩ | ⟨_, v, st, rfl, _, ho⟩
  · clear hp hp'
    go_wp2_with fail
    go_ret2
    exact Hp.out
  · obtain ⟨a, c, rfl, _, _⟩ := owns_valP ho
    clear hp hp' ho
    go_wp2_with fail
    go_ret2
    exact Hp.out

set_option maxHeartbeats 1000000 in
theorem refNothing_any (b : Bn) (ov lv : Value) (B : Nat) (w : World) (hB : B ≤ w.heap.size) (r : BR w B ov lv b) (h0 : bmay b = 0) :
    Calls Try.prog 18 #[.agg #[.int .i64 b.toks, .int .i64 b.look, ov, lv]] w (MarkP w b false) := by
  obtain ⟨oa, oc, rfl, _, _⟩ := r.of.val
  obtain ⟨la, lc, rfl, _, _⟩ := r.l.val
  have hb := agg_box w b.toks b.look (.slice oa b.of.length oc) (.slice la b.l.length lc) 25
  have H := Lib.hid (refMark_any false b (.slice oa b.of.length oc) (.slice la b.l.length lc) B _ (Nat.le_trans hB hb.size) (r.below (hb.mono hB)) h0)
  have Hb := Lib.hid hb
  clear r hB hb h0
  go_enter Try.func18, Try.ntmps18
  go_wp2_with fail
  refine (H.out).mono ?_
  rintro e w1 ⟨v, st, rfl, hF, ho, hbw⟩
  obtain ⟨a, c, rfl, _, _⟩ := owns_valP ho
  have HF := Lib.hid hF; have Ho := Lib.hid ho; have Hbw := Lib.hid hbw
  clear hF ho hbw
  go_wp2_with fail
  go_ret
  exact ⟨_, st, rfl, HF.out, owns_baseP Ho.out Hb.out.size, Hb.out.trans (Hbw.out.mono Hb.out.size)⟩

set_option maxHeartbeats 1000000 in
theorem refEnds_any (b : Bn) (ov lv : Value) (B : Nat) (w : World) (hB : B ≤ w.heap.size) (r : BR w B ov lv b) (h0 : bmay b = 0) :
    Calls Try.prog 19 #[.agg #[.int .i64 b.toks, .int .i64 b.look, ov, lv]] w (MarkP w b true) := by
  obtain ⟨oa, oc, rfl, _, _⟩ := r.of.val
  obtain ⟨la, lc, rfl, _, _⟩ := r.l.val
  have hb := agg_box w b.toks b.look (.slice oa b.of.length oc) (.slice la b.l.length lc) 25
  have H := Lib.hid (refMark_any true b (.slice oa b.of.length oc) (.slice la b.l.length lc) B _ (Nat.le_trans hB hb.size) (r.below (hb.mono hB)) h0)
  have Hb := Lib.hid hb
  clear r hB hb h0
  go_enter Try.func19, Try.ntmps19
  go_wp2_with fail
  refine (H.out).mono ?_
  rintro e w1 ⟨v, st, rfl, hF, ho, hbw⟩
  obtain ⟨a, c, rfl, _, _⟩ := owns_valP ho
  have HF := Lib.hid hF; have Ho := Lib.hid ho; have Hbw := Lib.hid hbw
  clear hF ho hbw
  go_wp2_with fail
  go_ret
  exact ⟨_, st, rfl, HF.out, owns_baseP Ho.out Hb.out.size, Hb.out.trans (Hbw.out.mono Hb.out.size)⟩

/-- What Row asks of a symbol. -/
def rowS (b : Bn) (st : List Bool) (s : Sy) : Bool := !s.tok && decide (0 ≤ s.n) && decide (s.n < b.of.length) && (st[s.n.toNat]?).getD false
def RowP (w : World) (b : Bn) (l : List Sy) (e : Ending) (w' : World) : Prop :=
  ((bmay b ≠ 0 ∧ e = .returned (.bool false)) ∨ (bmay b = 0 ∧ ∃ x, e = .returned (.bool x) ∧ ∀ st, Fix b false st → x = l.all (rowS b st))) ∧ Below w.heap.size w w'
theorem RowP.val {w w' w2 w3 : World} {b : Bn} {l : List Sy} {e e2 : Ending} (h1 : RowP w b l e w') (h2 : RowP w2 b l e2 w3) (hex : bmay b = 0 → ∃ st, Fix b false st) : ∃ x, e = .returned (.bool x) ∧ e2 = .returned (.bool x) := by
  rcases h1.1 with ⟨a, rfl⟩ | ⟨a, x, rfl, hx⟩
  · rcases h2.1 with ⟨_, rfl⟩ | ⟨b, _⟩
    · exact ⟨_, rfl, rfl⟩
    · exact absurd b a
  · rcases h2.1 with ⟨b, _⟩ | ⟨_, y, rfl, hy⟩
    · exact absurd a b
    · obtain ⟨st, hF⟩ := hex a
      exact ⟨x, rfl, by rw [hx st hF, hy st hF]⟩

set_option maxHeartbeats 4000000 in
set_option maxRecDepth 100000 in
theorem emptyRow_any (b : Bn) (ov lv sv : Value) (l : List Sy) (B B2 : Nat) (w : World) (hB : B ≤ w.heap.size) (r : BR w B ov lv b) (hB2 : B2 ≤ w.heap.size) (rs : SR w B2 sv l) :
    Calls Try.prog 13 #[.agg #[.int .i64 b.toks, .int .i64 b.look, ov, lv], sv] w (RowP w b l) := by
  obtain ⟨oa, oc, rfl, _, _⟩ := r.of.val
  obtain ⟨la, lc, rfl, _, _⟩ := r.l.val
  obtain ⟨sa, sc, rfl, hs1, hs2⟩ := Row.val rs
  unfold maxLen at hs2
  have hl63 : l.length ≤ 9223372036854775807 := by omega
  have hb := agg_box w b.toks b.look (.slice oa b.of.length oc) (.slice la b.l.length lc) 25
  have H := Lib.hid (nothing_any b (.slice oa b.of.length oc) (.slice la b.l.length lc) B _ (Nat.le_trans hB hb.size) (r.below (hb.mono hB)))
  have Hb := Lib.hid hb; have Hrs := Lib.hid rs; have HB2 := Lib.hid hB2
  clear r hB hb hs1 hs2 rs hB2
  go_enter Try.func13, Try.ntmps13
  go_wp2_with fail
  refine (H.out).mono ?_
  intro e w1 hp
  have HB1 := Lib.hid (Hb.out.trans (hp.2.mono Hb.out.size))
  rcases hp.1 with ⟨hne, rfl⟩ | ⟨h0, v, st, rfl, hF, ho⟩
  · have Hne := Lib.hid hne
    have hq : ((bmay b : Int) == 0) = false := by rw [beq_eq_false_iff_ne]; exact hne
    clear hp hne
    generalize hm : bmay b = m at *
    go_wp2_with fail
    go_ret
    exact ⟨.inl ⟨by rw [hm]; exact Hne.out, rfl⟩, HB1.out⟩
  · obtain ⟨z1, z2, z3, z4, z5, z6, _⟩ := bmay_zero h0
    have hlen := hF.len
    obtain ⟨g, hv, hg1, hg2, hcl, hfr⟩ := (by
      obtain ⟨a, c, rfl, _, _⟩ := owns_valP ho
      obtain ⟨g, rfl, q1, q2, q3, q4⟩ := owns_cellN ho (by omega)
      exact ⟨g, c, rfl, q2, q3, q4⟩ : ∃ g c, v = .slice (some ⟨g, 0, none⟩) st.length c ∧ g < w1.heap.size ∧ (∀ j u, (bools st)[j]? = some u → w1.cell? ⟨g, j, none⟩ = some u) ∧ (∀ j, w1.frozen? ⟨g, j, none⟩ = false))
    subst hg1
    have Hcl := Lib.hid hcl; have Hg2 := Lib.hid hg2; have HF := Lib.hid hF; have H0 := Lib.hid h0
    obtain ⟨N, hN⟩ : ∃ N, N = st.length := ⟨_, rfl⟩
    have hN5 : N ≤ 500 := by omega
    have HN := Lib.hid hN
    have HNo : Hid (b.of.length = N) := Lib.hid (by omega)
    rw [← hN]
    have hrw : ∀ s, rowS b st s = (!s.tok && decide (0 ≤ s.n) && decide (s.n < b.of.length) && (st[s.n.toNat]?).getD false) := fun s => rfl
    have Hrw := Lib.hid hrw
    have Hend : Hid (∀ x W, l.all (rowS b st) = x → Below w.heap.size w W → RowP w b l (.returned (.bool x)) W) := Lib.hid fun x W hx hW => ⟨.inr ⟨h0, x, rfl, fun st2 hF2 => by rw [← hF.uniq z6 hF2, hx]⟩, hW⟩
    generalize rowS b st = f at *
    clear hp ho hF h0 z1 z2 z3 z4 z5 z6 hlen hcl hfr hg2 hN hrw
    go_wp2_with fail
    go_loopw [18] (fun iv wr => ∃ k : Nat, k ≤ l.length ∧ iv = .int .i64 (k : Nat) ∧ Hid ((l.take k).all f = true) ∧ Hid (Below w1.heap.size w1 wr)) (fun iv _ => l.length - (intOf iv).toNat)
    case atStart => exact ⟨0, Nat.zero_le _, rfl, Lib.hid rfl, Lib.hid (Below.refl _ _)⟩
    case round =>
      obtain ⟨k, hk, rfl, Hal, Hbr⟩ := hrel
      by_cases hlt : k < l.length
      · obtain ⟨b6, o6, hao, hb6, f0, f1⟩ := SR.get (Row.below Hrs.out ((HB1.out.trans (Hbr.out.mono HB1.out.size)).mono HB2.out) : SR wr B2 (.slice sa l.length sc) l) k hlt
        subst hao
        have Hyes := Lib.hid (all_step l f k hlt Hal.out)
        have Hno := Lib.hid (all_no l f k hlt)
        have hv := Hrw.out l[k]
        have hk1 : (k : Int) < (l.length : Int) := by omega
        have hk2 : (0 : Int) ≤ (k : Int) := by omega
        have Hlt := Lib.hid hlt
        generalize l[k] = s at *
        obtain ⟨t, n⟩ := s
        simp only at f0 f1 hv
        rw [HNo.out] at hv
        have hbs := (Below.refl wr.heap.size wr).alloc (Nat.le_refl _) (.cells #[.bool t, .int .i64 n] 54)
        have HB4 := Lib.hid (Hbr.out.trans (hbs.mono Hbr.out.size))
        have HB5 := Lib.hid (HB1.out.trans (HB4.out.mono HB1.out.size))
        clear hlt hk hb6 hbs
        cases t with
        | true =>
          have HY := Lib.hid (Hno.out (by rw [hv]; rfl))
          clear hv Hyes Hno
          go_wp2_with fail
          go_ret
          exact Hend.out _ _ HY.out HB5.out
        | false =>
          by_cases h1 : n < 0
          · have q1 : decide (n < 0) = true := decide_eq_true h1
            have HY := Lib.hid (Hno.out (by rw [hv, decide_eq_false (show ¬ 0 ≤ n by omega)]; rfl))
            clear hv h1 Hyes Hno
            go_wp2_with fail
            go_ret
            exact Hend.out _ _ HY.out HB5.out
          have q1 : decide (n < 0) = false := decide_eq_false h1
          by_cases h2 : (N : Int) ≤ n
          · have q2 : decide ((N : Int) ≤ n) = true := decide_eq_true h2
            have HY := Lib.hid (Hno.out (by rw [hv, decide_eq_false (show ¬ n < (N : Int) by omega)]; simp))
            clear hv h1 h2 Hyes Hno
            go_wp2_with fail
            go_ret
            exact Hend.out _ _ HY.out HB5.out
          have q2 : decide ((N : Int) ≤ n) = false := decide_eq_false h2
          obtain ⟨q, rfl⟩ : ∃ q : Nat, n = (q : Int) := ⟨n.toNat, by omega⟩
          have hqs : q < st.length := by have := HN.out; omega
          have c9 := (HB4.out.cell (p := ⟨g, q, none⟩) Hg2.out).trans (Hcl.out q _ (bools_at st q hqs))
          rw [decide_eq_true (show 0 ≤ (q : Int) by omega), decide_eq_true (show (q : Int) < (N : Int) by omega), Int.toNat_natCast, List.getElem?_eq_getElem hqs, Option.getD_some] at hv
          have hq1 : (q : Int) < (N : Int) := by omega
          have hq2 : (0 : Int) ≤ (q : Int) := by omega
          generalize st[q] = x at *
          clear h1 h2 hqs
          cases x with
          | true =>
            have HY := Lib.hid (Hyes.out (by rw [hv]; rfl))
            clear hv Hyes Hno
            go_wp2_with fail
            go_roundw
            case rel => exact ⟨k + 1, Hlt.out, by go_num, HY, HB4⟩
            case measure => have := Hlt.out; simp [intOf]; omega
          | false =>
            have HY := Lib.hid (Hno.out (by rw [hv]; rfl))
            clear hv Hyes Hno
            go_wp2_with fail
            go_ret
            exact Hend.out _ _ HY.out HB5.out
      · obtain rfl : k = l.length := by omega
        have HY := Lib.hid (by have := Hal.out; rw [List.take_length] at this; exact this)
        go_wp2_with fail
        go_ret
        exact Hend.out _ _ HY.out (HB1.out.trans (Hbr.out.mono HB1.out.size))
end Go.Proofs.Ytfmcigodfihlcaa
