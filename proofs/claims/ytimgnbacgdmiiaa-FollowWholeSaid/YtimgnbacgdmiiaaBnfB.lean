/-
  Whether plain rules may be: bnf.May, and the document's.
-/
import Derived.Test.YtimgnbacgdmiiaaBnfA
import Derived.Deep.DeepCutAuto
import Derived.BigRegion
namespace Go.Proofs.Ytimgnbacgdmiiaa
open Go.RowKit
set_option linter.unusedVariables false
set_option linter.unusedSimpArgs false

def symOk (b : Bn) (s : Sy) : Bool := if s.tok then decide (1 ≤ s.n) && decide (s.n ≤ b.toks) else decide (0 ≤ s.n) && decide (s.n < b.of.length)
def prOk (b : Bn) (p : Pr) : Bool := decide (0 ≤ p.left) && decide (p.left < b.of.length) && p.right.all (symOk b)
def bmay (b : Bn) : Int :=
  if b.toks < 1 ∨ 60 < b.toks ∨ b.of.length < 1 ∨ 500 < b.of.length ∨ b.l.length < 1 ∨ 2000 < b.l.length then 8
  else if (b.l.any fun p => decide (500 < p.right.length)) = true then 8
  else if b.look < 1 ∨ 4 < b.look then 11
  else if b.l.all (prOk b) = true then 0 else 4
theorem all_step {α : Type} (l : List α) (f : α → Bool) (k : Nat) (hk : k < l.length) (h : (l.take k).all f = true) (h2 : f l[k] = true) : (l.take (k + 1)).all f = true := by
  rw [List.take_succ_eq_append_getElem hk, List.all_append, h]; simpa using h2
theorem all_no {α : Type} (l : List α) (f : α → Bool) (k : Nat) (hk : k < l.length) (h2 : f l[k] = false) : l.all f = false := by
  rw [List.all_eq_false]; exact ⟨l[k], List.getElem_mem hk, by simp [h2]⟩
theorem any_yes {α : Type} (l : List α) (f : α → Bool) (k : Nat) (hk : k < l.length) (h2 : f l[k] = true) : l.any f = true := by
  rw [List.any_eq_true]; exact ⟨l[k], List.getElem_mem hk, h2⟩
theorem any_step {α : Type} (l : List α) (f : α → Bool) (k : Nat) (hk : k < l.length) (h : (l.take k).any f = false) (h2 : f l[k] = false) : (l.take (k + 1)).any f = false := by
  rw [List.take_succ_eq_append_getElem hk, List.any_append, h]; simpa using h2
theorem SR.get {w : World} {B n c : Nat} {ao : Option Addr} {l : List Sy} (h : SR w B (.slice ao n c) l) (i : Nat) (hi : i < l.length) :
    ∃ b off, ao = some ⟨b, off, none⟩ ∧ b < B ∧ w.cell? ⟨b, off + i * 2, none⟩ = some (.bool l[i].tok) ∧ w.cell? ⟨b, off + i * 2 + 1, none⟩ = some (.int .i64 l[i].n) := by
  have h' : Row w B 2 (.slice ao n c) l.length (symC l) := h
  obtain ⟨_, _, hv, _, _⟩ := Row.val h'
  simp only [Value.slice.injEq] at hv
  obtain ⟨_, rfl, _⟩ := hv
  obtain ⟨b, off, rfl, hb, _⟩ := h'.at (by rw [symC_length]; omega)
  obtain ⟨e0, e1⟩ := symC_at l i hi
  exact ⟨b, off, rfl, hb, h'.cell _ _ e0, by have := h'.cell _ _ e1; rw [← Nat.add_assoc] at this; exact this⟩

set_option maxHeartbeats 1000000 in
theorem long1_any (x : Int) (a : Option Addr) (n c : Nat) (w : World) (hn : n ≤ 9223372036854775807) :
    Calls Try.prog 88 #[.agg #[.int .i64 x, .slice a n c]] w (BoolB w (decide (500 < n))) := by
  have hb := Lib.hid ((Below.refl w.heap.size w).alloc (Nat.le_refl _) (.cells #[.int .i64 x, .slice a n c] 57))
  by_cases h : 500 < n
  · have q1 : decide ((500 : Int) < (n : Int)) = true := decide_eq_true (by omega)
    have H := Lib.hid h
    clear h
    go_enter Try.func88, Try.ntmps88
    go_wp2_with fail
    go_ret
    exact ⟨ret_boolP (decide_eq_true H.out).symm, hb.out⟩
  · have q1 : decide ((500 : Int) < (n : Int)) = false := decide_eq_false (by omega)
    have H := Lib.hid h
    clear h
    go_enter Try.func88, Try.ntmps88
    go_wp2_with fail
    go_ret
    exact ⟨ret_boolP (decide_eq_false H.out).symm, hb.out⟩
def longP (p : Pr) : Bool := decide (500 < p.right.length)
set_option maxHeartbeats 1000000 in
theorem idxLong_any (v : Value) (L : List Pr) (B : Nat) (w : World) (hB : B ≤ w.heap.size) (r : PR w B v L) :
    Calls Try.prog 104 #[v, .func (.func 88) #[] #[]] w fun e w' => ∃ x : Int, e = .returned (.int .i64 x) ∧ decide (0 ≤ x) = L.any longP ∧ Below w.heap.size w w' := by
  obtain ⟨ao, c, rfl, hc1, hc2⟩ := r.val
  unfold maxLen at hc2
  have hl63 : L.length ≤ 9223372036854775807 := by omega
  have R := Lib.hid r; have HB := Lib.hid hB
  clear r hB hc1 hc2
  go_enter Try.func104, Try.ntmps104
  go_wp2_with fail
  go_loopw [8] (fun iv wr => ∃ k : Nat, k ≤ L.length ∧ iv = .int .i64 k ∧ Hid ((L.take k).any longP = false) ∧ Hid (Below w.heap.size w wr)) (fun iv _ => L.length - (intOf iv).toNat)
  case atStart => exact ⟨0, Nat.zero_le _, rfl, Lib.hid rfl, Lib.hid (Below.refl _ w)⟩
  case round =>
    obtain ⟨k, hk, rfl, Hall, Hb⟩ := hrel
    by_cases hlt : k < L.length
    · obtain ⟨b1, o1, a1, c1, rfl, hb1, e0, e1, _, m1, m2⟩ := (R.out.below (Hb.out.mono HB.out)).get k hlt
      unfold maxLen at m2
      have Hc := Lib.hid (long1_any L[k].left a1 L[k].right.length c1 wr (by omega))
      have Hyes := Lib.hid (any_yes L longP k hlt)
      have Hno := Lib.hid (any_step L longP k hlt Hall.out)
      have hk0 : (k : Int) < (L.length : Int) := by omega
      have hk1 : (0 : Int) ≤ (k : Int) := by omega
      have Hlt := Lib.hid hlt
      have Hlg : Hid (longP L[k] = decide (500 < L[k].right.length)) := Lib.hid rfl
      clear m1 m2
      generalize L[k] = p at *
      clear hlt hk
      rw [← Hlg.out] at Hc
      cases hq : longP p with
      | true =>
        rw [hq] at Hc
        have HY := Lib.hid (Hyes.out hq)
        clear Hno Hyes hq
        go_wp2_with fail
        refine (Hc.out).mono ?_
        rintro e w1 ⟨rfl, b1⟩
        have HB1 := Lib.hid (Hb.out.trans (b1.mono Hb.out.size))
        clear b1
        go_wp2_with fail
        go_ret
        exact ⟨_, rfl, by rw [HY.out]; exact decide_eq_true (by omega), HB1.out⟩
      | false =>
        rw [hq] at Hc
        have HY := Lib.hid (Hno.out hq)
        clear Hno Hyes hq
        go_wp2_with fail
        refine (Hc.out).mono ?_
        rintro e w1 ⟨rfl, b1⟩
        have HB1 := Lib.hid (Hb.out.trans (b1.mono Hb.out.size))
        clear b1
        go_wp2_with fail
        go_roundw
        case rel => exact ⟨k + 1, Hlt.out, by go_num, HY, HB1⟩
        case measure => have := Hlt.out; simp [intOf]; omega
    · obtain rfl : k = L.length := by omega
      have H : Hid (L.any longP = false) := Lib.hid (by have := Hall.out; rw [List.take_length] at this; exact this)
      go_wp2_with fail
      go_ret
      exact ⟨_, rfl, by rw [H.out]; rfl, Hb.out⟩
set_option maxHeartbeats 1000000 in
theorem containsLong_any (v : Value) (L : List Pr) (B : Nat) (w : World) (hB : B ≤ w.heap.size) (r : PR w B v L) :
    Calls Try.prog 87 #[v, .func (.func 88) #[] #[]] w (BoolB w (L.any longP)) := by
  have H := Lib.hid (idxLong_any v L B w hB r)
  clear r hB
  go_enter Try.func87, Try.ntmps87
  go_wp2_with fail
  refine (H.out).mono ?_
  rintro e w1 ⟨x, rfl, hx, b1⟩
  have Hb := Lib.hid b1
  clear b1
  go_wp2_with fail
  go_ret
  exact ⟨rfl, Hb.out⟩
set_option maxHeartbeats 1000000 in
theorem long_any (t k : Int) (ov v : Value) (L : List Pr) (B : Nat) (w : World) (hB : B ≤ w.heap.size) (r : PR w B v L) (ho : ∃ a n c, ov = .slice a n c) :
    Calls Try.prog 58 #[.agg #[.int .i64 t, .int .i64 k, ov, v]] w (BoolB w (L.any longP)) := by
  obtain ⟨oa, on, oc, rfl⟩ := ho
  obtain ⟨ao, c, rfl, hc1, hc2⟩ := r.val
  have hb := (Below.refl w.heap.size w).alloc (Nat.le_refl _) (.cells #[.int .i64 t, .int .i64 k, .slice oa on oc, .slice ao L.length c] 25)
  have H := Lib.hid (containsLong_any (.slice ao L.length c) L B _ (Nat.le_trans hB hb.size) (r.below (hb.mono hB)))
  have Hb := Lib.hid hb
  clear r hB hc1 hc2 hb
  go_enter Try.func58, Try.ntmps58
  go_wp2_with fail
  refine (H.out).mono ?_
  rintro e w1 ⟨rfl, b1⟩
  have Hb1 := Lib.hid b1
  clear b1
  go_wp2_with fail
  go_ret
  exact ⟨rfl, Hb.out.trans (Hb1.out.mono Hb.out.size)⟩

set_option maxHeartbeats 2000000 in
theorem all_any (b : Bn) (oa la : Option Addr) (oc ll lc : Nat) (sv : Value) (l : List Sy) (B : Nat) (w : World) (hB : B ≤ w.heap.size) (r : SR w B sv l) (ho : b.of.length ≤ 9223372036854775807) :
    Calls Try.prog 59 #[.agg #[.int .i64 b.toks, .int .i64 b.look, .slice oa b.of.length oc, .slice la ll lc], sv] w (BoolB w (l.all (symOk b))) := by
  obtain ⟨ao, c, rfl, hc1, hc2⟩ := Row.val r
  unfold maxLen at hc2
  have hl63 : l.length ≤ 9223372036854775807 := by omega
  have hok : ∀ s : Sy, symOk b s = if s.tok then decide (1 ≤ s.n) && decide (s.n ≤ b.toks) else decide (0 ≤ s.n) && decide (s.n < b.of.length) := fun s => rfl
  generalize symOk b = f at *
  obtain ⟨tk, htk⟩ : ∃ tk, tk = b.toks := ⟨_, rfl⟩
  obtain ⟨lk, hlk⟩ : ∃ lk, lk = b.look := ⟨_, rfl⟩
  obtain ⟨ol, hol⟩ : ∃ ol, ol = b.of.length := ⟨_, rfl⟩
  rw [← htk, ← hol] at hok
  rw [← hol] at ho
  rw [← htk, ← hlk, ← hol]
  clear htk hlk hol
  have hbel := (Below.refl w.heap.size w).alloc (Nat.le_refl _) (.cells #[.int .i64 tk, .int .i64 lk, .slice oa ol oc, .slice la ll lc] 25)
  have hg0 : (w.alloc (.cells #[.int .i64 tk, .int .i64 lk, .slice oa ol oc, .slice la ll lc] 25)).cell? ⟨w.heap.size, 0, none⟩ = some (.int .i64 tk) := cell_new w _ _ 0 _ rfl
  have hg2 : (w.alloc (.cells #[.int .i64 tk, .int .i64 lk, .slice oa ol oc, .slice la ll lc] 25)).cell? ⟨w.heap.size, 2, none⟩ = some (.slice oa ol oc) := cell_new w _ _ 2 _ rfl
  have hs1 : w.heap.size < (w.alloc (.cells #[.int .i64 tk, .int .i64 lk, .slice oa ol oc, .slice la ll lc] 25)).heap.size := by simp
  have r1 : SR (w.alloc (.cells #[.int .i64 tk, .int .i64 lk, .slice oa ol oc, .slice la ll lc] 25)) B (.slice ao l.length c) l := Row.below r (hbel.mono hB)
  have hB1 := Nat.le_trans hB hbel.size
  have Hbel := Lib.hid hbel; have Hok := Lib.hid hok
  clear r hbel hok hB hc1 hc2
  go_enter Try.func59, Try.ntmps59
  go_upto_region 1 with fail
  generalize w.alloc (.cells #[.int .i64 tk, .int .i64 lk, .slice oa ol oc, .slice la ll lc] 25) = w1 at *
  have HG : Hid (∀ W, Below w1.heap.size w1 W → W.cell? ⟨w.heap.size, 0, none⟩ = some (.int .i64 tk) ∧ W.cell? ⟨w.heap.size, 2, none⟩ = some (.slice oa ol oc) ∧ SR W B (.slice ao l.length c) l ∧ B ≤ W.heap.size ∧ w.heap.size < W.heap.size) := Lib.hid fun W hW =>
    ⟨(hW.cell (p := ⟨w.heap.size, 0, none⟩) hs1).trans hg0, (hW.cell (p := ⟨w.heap.size, 2, none⟩) hs1).trans hg2, Row.below r1 (hW.mono hB1), Nat.le_trans hB1 hW.size, Nat.lt_of_lt_of_le hs1 hW.size⟩
  clear hg0 hg2 hs1 r1 hB1
  go_wp2_with fail
  go_loopw [9] (fun iv wr => ∃ k : Nat, k ≤ l.length ∧ iv = .int .i64 k ∧ Hid ((l.take k).all f = true) ∧ Hid (Below w1.heap.size w1 wr)) (fun iv _ => l.length - (intOf iv).toNat)
  case atStart => exact ⟨0, Nat.zero_le _, rfl, Lib.hid rfl, Lib.hid (Below.refl _ w1)⟩
  case round =>
    obtain ⟨k, hk, rfl, Hall, Hb⟩ := hrel
    obtain ⟨c0, c2, rr, hB1, hlw⟩ := HG.out wr Hb.out
    by_cases hlt : k < l.length
    · obtain ⟨b1, o1, rfl, hb1, e0, e1⟩ := rr.get k hlt
      have Hyes := Lib.hid (all_step l f k hlt Hall.out)
      have Hno := Lib.hid (all_no l f k hlt)
      have hk0 : (k : Int) < (l.length : Int) := by omega
      have hk1 : (0 : Int) ≤ (k : Int) := by omega
      have Hlt := Lib.hid hlt
      have hv := Hok.out l[k]
      clear rr hB1 hb1
      generalize l[k] = s at *
      clear hlt hk
      obtain ⟨t, n⟩ := s
      simp only at e0 e1 hv
      have HB2 := Lib.hid (Hb.out.trans (((Below.refl wr.heap.size wr).alloc (Nat.le_refl _) (.cells #[.bool t, .int .i64 n] 39)).mono Hb.out.size))
      obtain ⟨d0, d2, _, _, _⟩ := HG.out _ HB2.out
      cases t with
      | true =>
        simp only [if_true] at hv
        by_cases h1 : n < 1
        · have q1 : decide (n < 1) = true := decide_eq_true h1
          have HY := Lib.hid (Hno.out (by rw [hv, decide_eq_false (by omega)]; rfl))
          clear hv h1 Hno Hyes
          go_wp2_with fail
          go_ret
          exact ⟨ret_boolP HY.out.symm, Hbel.out.trans (HB2.out.mono Hbel.out.size)⟩
        · have q1 : decide (n < 1) = false := decide_eq_false h1
          by_cases h2 : tk < n
          · have q2 : decide (tk < n) = true := decide_eq_true h2
            have HY := Lib.hid (Hno.out (by rw [hv, decide_eq_false (show ¬ n ≤ tk by omega), Bool.and_false]))
            clear hv h1 h2 Hno Hyes
            go_wp2_with fail
            go_ret
            exact ⟨ret_boolP HY.out.symm, Hbel.out.trans (HB2.out.mono Hbel.out.size)⟩
          · have q2 : decide (tk < n) = false := decide_eq_false h2
            have HY := Lib.hid (Hyes.out (by rw [hv, decide_eq_true (show 1 ≤ n by omega), decide_eq_true (show n ≤ tk by omega)]; rfl))
            clear hv h1 h2 Hno Hyes
            go_wp2_with fail
            go_roundw
            case rel => exact ⟨k + 1, Hlt.out, by go_num, HY, HB2⟩
            case measure => have := Hlt.out; simp [intOf]; omega
      | false =>
        simp only [Bool.false_eq_true, if_false] at hv
        by_cases h1 : n < 0
        · have q1 : decide (n < 0) = true := decide_eq_true h1
          have HY := Lib.hid (Hno.out (by rw [hv, decide_eq_false (by omega)]; rfl))
          clear hv h1 Hno Hyes
          go_wp2_with fail
          go_ret
          exact ⟨ret_boolP HY.out.symm, Hbel.out.trans (HB2.out.mono Hbel.out.size)⟩
        · have q1 : decide (n < 0) = false := decide_eq_false h1
          by_cases h2 : (ol : Int) ≤ n
          · have q2 : decide ((ol : Int) ≤ n) = true := decide_eq_true h2
            have HY := Lib.hid (Hno.out (by rw [hv, decide_eq_false (show ¬ n < (ol : Int) by omega), Bool.and_false]))
            clear hv h1 h2 Hno Hyes
            go_wp2_with fail
            go_ret
            exact ⟨ret_boolP HY.out.symm, Hbel.out.trans (HB2.out.mono Hbel.out.size)⟩
          · have q2 : decide ((ol : Int) ≤ n) = false := decide_eq_false h2
            have HY := Lib.hid (Hyes.out (by rw [hv, decide_eq_true (show 0 ≤ n by omega), decide_eq_true (show n < (ol : Int) by omega)]; rfl))
            clear hv h1 h2 Hno Hyes
            go_wp2_with fail
            go_roundw
            case rel => exact ⟨k + 1, Hlt.out, by go_num, HY, HB2⟩
            case measure => have := Hlt.out; simp [intOf]; omega
    · obtain rfl : k = l.length := by omega
      have H : Hid (l.all f = true) := Lib.hid (by have := Hall.out; rw [List.take_length] at this; exact this)
      clear rr
      go_wp2_with fail
      go_ret
      exact ⟨ret_boolP H.out.symm, Hbel.out.trans (Hb.out.mono Hbel.out.size)⟩
end Go.Proofs.Ytimgnbacgdmiiaa
