/-
  The walk of the document's All of a program's tokens; the statement that any text is read as the document says.
-/
import Derived.Test.YtapmjkgndojdfaaDoorTokW
namespace Go.Proofs.YtapmjkgndojdfaaDoor
open Go.RowKit LX
set_option linter.unusedVariables false
set_option linter.unusedSimpArgs false

theorem refOneT_any (s : ByteArray) (i : Nat) (w : World) (hi : i < s.size) (hs : s.size ≤ maxLen) :
    Calls Tryd.prog 14 #[.string s, .int .i64 i] w (OneTPost w i (oneT kwR numB s i)) := by
  cases h1 : isLetter (byteAt s i) with
  | true => exact refOneT_letter s i w hi hs h1
  | false =>
    cases h2 : isDigit (byteAt s i) with
    | true => exact refOneT_digit s i w hi hs h1 h2
    | false => exact refOneT_sign s i w hi hs h1 h2
def feedI (fd : Option Nat) : Int := match fd with | none => -1 | some p => (p : Nat)
set_option maxRecDepth 100000 in
set_option maxHeartbeats 12000000 in
theorem refTokAll_any (s : ByteArray) (w : World) (hs : s.size ≤ maxLen) :
    Calls Tryd.prog 8 #[.string s] w (AllPost 31 w (allT s)) := by
  obtain ⟨i0, hinfo, hz0, hz1, hz2⟩ := info_parts info_tok
  have hs' := hs
  unfold maxLen at hs'
  by_cases hl : 1000000 < s.size
  · have HV : Hid (allT s = ([], 0, 7)) := by show allT s = _; unfold allT; rw [if_pos hl]
    have hl' : (1000000 : Int) < s.size := by omega
    clear hl
    go_enter Tryd.func8, Tryd.ntmps8
    go_wp2_with fail
    go_ret3
    rw [HV.out]
    exact ⟨_, rfl, World.ownsRow_nil _ _ _ _, Below.refl _ _⟩
  · have HV : Hid (allT s = tokS kwR numB s 0 none []) := by show allT s = _; unfold allT; rw [if_neg hl]
    have hl' : ¬ (1000000 : Int) < s.size := by omega
    go_enter Tryd.func8, Tryd.ntmps8
    go_wp2_with fail
    go_loopw [5, 6, 7] (fun v f i wr => ∃ (k : Nat) (fd : Option Nat) (acc : List Tok), k ≤ s.size ∧ i = .int .i64 k ∧ f = .int .i64 (feedI fd) ∧ wr.ownsRow w.heap.size 31 4 v acc.length (toksC acc) ∧ Below w.heap.size w wr ∧ Hid (tokS kwR numB s k fd acc = tokS kwR numB s 0 none []) ∧ acc.length ≤ 2 * k ∧ Hid (∀ p, fd = some p → p ≤ k))
      (fun _ _ i _ => s.size - (intOf i).toNat)
    case atStart => exact ⟨0, none, [], Nat.zero_le _, rfl, rfl, World.ownsRow_made _ _ _ (Nat.le_refl _) (Nat.zero_le _) rfl, (Below.refl _ _).alloc (Nat.le_refl _) _, Lib.hid rfl, Nat.zero_le _, fun p h => by cases h⟩
    case round =>
      obtain ⟨k, fd, acc, hk, rfl, rfl, hown, hbel, Hst, hacc, Hfd⟩ := hrel
      by_cases hlt : k < s.size
      · have hsz := hbel.size
        have hc := byteAt_get s k hlt
        have e32 : ((s[k].toNat : Int) == 32) = decide (byteAt s k = 32) := by rw [hc]; exact eqI _ 32
        have e9 : ((s[k].toNat : Int) == 9) = decide (byteAt s k = 9) := by rw [hc]; exact eqI _ 9
        have e10 : ((s[k].toNat : Int) == 10) = decide (byteAt s k = 10) := by rw [hc]; exact eqI _ 10
        have e13 : ((s[k].toNat : Int) == 13) = decide (byteAt s k = 13) := by rw [hc]; exact eqI _ 13
        cases hb : isSpace (byteAt s k)
        · have hb' : byteAt s k ≠ 32 ∧ byteAt s k ≠ 9 ∧ byteAt s k ≠ 13 := by unfold isSpace at hb; simpa using hb
          rw [decide_eq_false hb'.1] at e32; rw [decide_eq_false hb'.2.1] at e9; rw [decide_eq_false hb'.2.2] at e13
          by_cases hr : byteAt s k = 10
          · rw [decide_eq_true hr] at e10
            have HL := Lib.hid ((tokS_feed kwR numB s k fd acc hlt hb hr).symm.trans Hst.out)
            clear hb hb' hr hc
            cases fd with
            | none =>
              have HL : Hid (tokS kwR numB s (k + 1) (some k) acc = tokS kwR numB s 0 none []) := HL
              have hm : feedI none = -1 := rfl
              rw [hm]
              clear hm
              go_wp2_with fail
              go_roundw
              case rel => exact ⟨k + 1, some k, acc, hlt, by go_num, rfl, hown, hbel, HL, by omega, fun p h => by cases h; omega⟩
              case measure => simp [intOf]; omega
            | some p =>
              have HL : Hid (tokS kwR numB s (k + 1) (some p) acc = tokS kwR numB s 0 none []) := HL
              have hpk := Hfd.out p rfl
              have hp0 : ¬ (p : Int) < 0 := by omega
              have hm : feedI (some p) = (p : Nat) := rfl
              rw [hm]
              clear hm
              go_wp2_with fail
              go_roundw
              case rel => exact ⟨k + 1, some p, acc, hlt, by go_num, rfl, hown, hbel, HL, by omega, fun q h => by cases h; omega⟩
              case measure => simp [intOf]; omega
          · rw [decide_eq_false hr] at e10
            have hp := refOneT_any s k wr hlt hs
            cases ho : oneT kwR numB s k with
            | none =>
              rw [ho] at hp
              have HN := Lib.hid (HV.out.trans (Hst.out.symm.trans (tokS_none kwR numB s k fd acc hlt hb hr ho)))
              have Hp := Lib.hid hp
              clear hp ho hb hb' hr hc
              generalize feedI fd = fi at *
              go_wp2_with (go_at_call 14; refine Hp.out.mono ?_; rintro e w1 ⟨a, b, c, d, n, rfl, _, hb1⟩)
              go_ret3
              rw [HN.out]
              exact ⟨_, rfl, World.ownsRow_nil _ _ _ _, (hbel.trans (hb1.mono hsz)).alloc (by have := hb1.size; omega) _⟩
            | some x =>
              obtain ⟨t, j⟩ := x
              rw [ho] at hp
              have h4 := oneT_gt kwR numB s k t j ho
              have h5 := oneT_le kwR numB s k t j hlt ho
              have HN := Lib.hid ((tokS_some kwR numB s k fd acc t j hlt hb hr ho).symm.trans Hst.out)
              have Hp := Lib.hid hp
              obtain ⟨q, hq⟩ : ∃ q, q = j - k := ⟨_, rfl⟩
              obtain rfl : j = k + q := by omega
              clear hp ho hb hb' hr hc hq
              by_cases hone : fd = none ∨ acc = []
              · have HN : Hid (tokS kwR numB s (k + q) none (acc ++ [t]) = tokS kwR numB s 0 none []) := by
                  have h := HN.out
                  rcases hone with rfl | rfl
                  · exact Lib.hid h
                  · cases fd <;> exact Lib.hid h
                have hfi : fd = none ∨ (acc.length = 0 ∧ ∃ p : Nat, fd = some p) := by
                  rcases hone with rfl | rfl
                  · exact .inl rfl
                  · cases fd with
                    | none => exact .inl rfl
                    | some p => exact .inr ⟨rfl, p, rfl⟩
                clear hone
                obtain ⟨ao, c9, rfl, hc1, hc2⟩ := (Row.of_owns hown).val
                rcases hfi with rfl | ⟨hal, p, rfl⟩
                · have hm : feedI none = -1 := rfl
                  rw [hm]
                  clear hm
                  go_wp2_with (first
                    | (go_at_call 14; refine Hp.out.mono ?_; rintro e w1 ⟨a, b, c, d, n, rfl, hx, hb1⟩; obtain ⟨rfl, rfl, rfl, rfl, hnq⟩ := hx t (k + q) rfl; rw [Nat.add_sub_cancel_left] at hnq; subst hnq)
                    | (at_builtin; refine wpList_append_row rfl (.tmp 64) (.tmp 66) 23 rfl w.heap.size 31 i0 (.agg #[.int .i64 0, .string ByteArray.empty, .int .i64 0, .int .i64 0]) 4 40 Tryd.underlying23 hinfo hz0 hz1 hz2 rfl (by decide) _ acc.length (toksC acc) rfl (((owns_below hown hb1).alloc _).alloc _) _ _ 1 (tokC t) rfl (row_alloc2 w1 _ (tokC t) 4 _ rfl) (tokC_one t) (by unfold maxLen; omega) (by omega) (by have := hb1.size; simp; omega) ?_; intro v2 w2 hown2 hgrow2))
                  go_roundw
                  case rel => exact ⟨k + q, none, acc ++ [t], h5, by go_num, rfl, by rw [toksC_snoc, List.length_append]; exact hown2, (((hbel.trans (hb1.mono hsz)).alloc (by have := hb1.size; omega) _).alloc (by have := hb1.size; simp; omega) _).grown hgrow2 (by have := hb1.size; simp; omega) (fun q hq => (hown.lt q hq).1), HN, by simp; omega, fun p h => by cases h⟩
                  case measure => simp [intOf]; omega
                · have hpk := Hfd.out p rfl
                  obtain rfl : acc = [] := List.length_eq_zero_iff.1 hal
                  have hown : wr.ownsRow w.heap.size 31 4 (.slice ao 0 c9) 0 [] := hown
                  have HN : Hid (tokS kwR numB s (k + q) none ([t] : List Tok) = tokS kwR numB s 0 none []) := HN
                  have hm : feedI (some p) = (p : Nat) := rfl
                  rw [hm]
                  clear hm hal
                  have hp0 : (0 : Int) ≤ (p : Int) := by omega
                  go_wp2_with (first
                    | (go_at_call 14; refine Hp.out.mono ?_; rintro e w1 ⟨a, b, c, d, n, rfl, hx, hb1⟩; obtain ⟨rfl, rfl, rfl, rfl, hnq⟩ := hx t (k + q) rfl; rw [Nat.add_sub_cancel_left] at hnq; subst hnq)
                    | (at_builtin; refine wpList_append_row rfl (.tmp 64) (.tmp 66) 23 rfl w.heap.size 31 i0 (.agg #[.int .i64 0, .string ByteArray.empty, .int .i64 0, .int .i64 0]) 4 40 Tryd.underlying23 hinfo hz0 hz1 hz2 rfl (by decide) _ 0 [] rfl (((owns_below hown hb1).alloc _).alloc _) _ _ 1 (tokC t) rfl (row_alloc2 w1 _ (tokC t) 4 _ rfl) (tokC_one t) (by unfold maxLen; omega) (by omega) (by have := hb1.size; simp; omega) ?_; intro v2 w2 hown2 hgrow2))
                  go_roundw
                  case rel => exact ⟨k + q, none, ([t] : List Tok), h5, by go_num, rfl, by simpa [toksC] using hown2, (((hbel.trans (hb1.mono hsz)).alloc (by have := hb1.size; omega) _).alloc (by have := hb1.size; simp; omega) _).grown hgrow2 (by have := hb1.size; simp; omega) (fun q hq => (hown.lt q hq).1), HN, by simp; omega, fun p h => by cases h⟩
                  case measure => simp [intOf]; omega
              · cases fd with
                | none => exact absurd (.inl rfl) hone
                | some p =>
                  have hane : acc.length ≠ 0 := fun h => hone (.inr (List.length_eq_zero_iff.1 h))
                  have HN : Hid (tokS kwR numB s (k + q) none (acc ++ [nl p] ++ [t]) = tokS kwR numB s 0 none []) := by
                    have h := HN.out
                    simp only [withFeed, if_neg hane] at h
                    exact Lib.hid h
                  have hpk := Hfd.out p rfl
                  have hap : (0 : Int) < (acc.length : Int) := by omega
                  have hap2 : decide (0 < acc.length) = true := by simp; omega
                  have hp0 : (0 : Int) ≤ (p : Int) := by omega
                  clear hone hane
                  obtain ⟨ao, c9, rfl, hc1, hc2⟩ := (Row.of_owns hown).val
                  have hm : feedI (some p) = (p : Nat) := rfl
                  rw [hm]
                  clear hm
                  go_wp2_with (first
                    | (go_at_call 14; refine Hp.out.mono ?_; rintro e w1 ⟨a, b, c, d, n, rfl, hx, hb1⟩; obtain ⟨rfl, rfl, rfl, rfl, hnq⟩ := hx t (k + q) rfl; rw [Nat.add_sub_cancel_left] at hnq; subst hnq; clear hx; (have hs1 := hb1.size); (have hbel1 := hbel.trans (hb1.mono hsz)); (have hown1 := owns_below hown hb1); clear hb1)
                    | (at_builtin; refine wpList_append_row rfl (.tmp 59) (.tmp 62) 23 rfl w.heap.size 31 i0 (.agg #[.int .i64 0, .string ByteArray.empty, .int .i64 0, .int .i64 0]) 4 40 Tryd.underlying23 hinfo hz0 hz1 hz2 rfl (by decide) _ acc.length (toksC acc) rfl ((hown1.alloc _).alloc _) _ _ 1 (tokC (nl p)) rfl (row_alloc2 w1 _ (tokC (nl p)) 4 _ rfl) (tokC_one _) (by unfold maxLen; omega) (by omega) (by simp; omega) ?_; intro v3 w3 hown3 hgrow3; (have hT3 := (TkB.alloc (TkB.new w1 (.int .i64 t.k) (.string t.s) (.int .i64 t.n) (.int .i64 t.p)) (.cells (tokC (nl p)).toArray 31)).other hgrow3 (fun he => by have := (hown1.lt _ he).2; omega)); (have hb3 := ((hbel1.alloc (by omega) _).alloc (by simp; omega) _).grown hgrow3 (by simp; omega) (fun q hq => (hown1.lt q hq).1)); clear hgrow3; (obtain ⟨d0, d1, d2, d3⟩ := hT3.cells); (have hl3 := hT3.lt); (have HB3 := Lib.hid hb3); (have HO3 := Lib.hid hown3); (have hs3 := hb3.size); clear hT3 hb3 hown3 hown1 hbel1)
                    | (at_builtin; refine wpList_append_row rfl (.tmp 64) (.tmp 66) 23 rfl w.heap.size 31 i0 (.agg #[.int .i64 0, .string ByteArray.empty, .int .i64 0, .int .i64 0]) 4 40 Tryd.underlying23 hinfo hz0 hz1 hz2 rfl (by decide) _ (acc.length + 1) (toksC acc ++ tokC (nl p)) rfl (HO3.out.alloc _) _ _ 1 (tokC t) rfl (row_cells w3 (tokC t) 4 1 1 _ rfl (Nat.le_refl _) (by unfold maxLen; omega)) (tokC_one t) (by unfold maxLen; omega) (by omega) (by simp; omega) ?_; intro v5 w5 hown5 hgrow5))
                  go_roundw
                  case rel => exact ⟨k + q, none, acc ++ [nl p] ++ [t], h5, by go_num, rfl, by rw [toksC_snoc, toksC_snoc, List.length_append, List.length_append]; exact hown5, (HB3.out.alloc (by omega) _).grown hgrow5 (by simp; omega) (fun q hq => (HO3.out.lt q hq).1), HN, by simp; omega, fun p h => by cases h⟩
                  case measure => simp [intOf]; omega
        · have HN := Lib.hid ((tokS_space kwR numB s k fd acc hlt hb).symm.trans Hst.out)
          have hb' : byteAt s k = 32 ∨ byteAt s k = 9 ∨ byteAt s k = 13 := by unfold isSpace at hb; simpa using hb
          have Hfd' : Hid (∀ p, fd = some p → p ≤ k + 1) := fun p h => Nat.le_succ_of_le (Hfd.out p h)
          clear e10 hb
          rcases hb' with h | h | h
          all_goals
            rw [h] at e32 e9 e13
            simp only [Nat.reduceEqDiff, decide_false, decide_true] at e32 e9 e13
            clear h hc
            go_wp2_with fail
            go_roundw
            case rel => exact ⟨k + 1, fd, acc, hlt, by go_num, rfl, hown, hbel, HN, by omega, Hfd'⟩
            case measure => simp [intOf]; omega
      · obtain rfl : k = s.size := by omega
        have HN := Lib.hid (HV.out.trans (Hst.out.symm.trans (tokS_end kwR numB s s.size fd acc (Nat.le_refl _))))
        go_wp2_with fail
        go_ret3
        rw [HN.out]
        exact ⟨_, rfl, hown, hbel⟩
def short28 (s : ByteArray) : ByteArray := s.extract 0 (min s.size 2000)
theorem short28_le (s : ByteArray) : (short28 s).size ≤ 2000 := by
  unfold short28; rw [ByteArray.size_extract]; omega
set_option maxRecDepth 100000 in
theorem law28short_any (s : ByteArray) (w : World) (hs : s.size ≤ maxLen) :
    Calls Tryd.prog 6 #[.string s] w fun e w' => e = .returned (.string (short28 s)) ∧ w = w' := by
  unfold maxLen at hs
  have HS : Hid (short28 s = s.extract 0 (min s.size 2000)) := rfl
  have h0 : (0 : Int) ≤ min (s.size : Int) 2000 := by omega
  have h1 : min (s.size : Int) 2000 ≤ (s.size : Int) := by omega
  have H2 : Hid ((min (s.size : Int) 2000).toNat = min s.size 2000) := by show _ = _; omega
  go_enter Tryd.func6, Tryd.ntmps6
  go_wp2_with fail
  go_ret
  exact ⟨by rw [HS.out, H2.out]; rfl, rfl⟩
set_option maxRecDepth 100000 in
set_option maxHeartbeats 1600000 in
theorem tokenAll_walk (s : ByteArray) (w : World) (hs : s.size ≤ maxLen) (hkw : StrsIs w 1 resT) (hsg : StrsIs w 0 sigT) (htab : Tab10 w) :
    Calls Tryd.prog 3 #[.string s] w fun e w' => e = .returned (.bool true) ∧ Below w.heap.size w w' := by
  have h1 := law28short_any s w hs
  have hz : (short28 s).size ≤ maxLen := by have := short28_le s; unfold maxLen; omega
  generalize short28 s = t at *
  have h2 := tokAll_any t w hz hkw hsg htab
  have h3 := fun w' => refTokAll_any t w' hz
  have Hkw := Lib.hid hkw; have Htab := Lib.hid htab; have Hsg := Lib.hid hsg
  generalize allT t = r at *
  obtain ⟨l, n, e⟩ := r
  have H2 := Lib.hid h2; have H3 := Lib.hid h3
  clear h2 h3 hkw htab hsg
  go_enter Tryd.func3, Tryd.ntmps3
  go_wp2_with fail
  refine h1.mono ?_
  rintro e' w' ⟨rfl, rfl⟩
  go_wp2_with fail
  refine H2.out.mono ?_
  rintro e' w1 ⟨v1, rfl, hown1, hb1⟩
  go_wp2_with fail
  refine (H3.out _).mono ?_
  rintro e' w2 ⟨v2, rfl, hown2, hb2⟩
  have hs1 := hb1.size; have hs2 := hb2.size
  have hb12 := hb1.trans (hb2.mono hs1)
  have r1 := ((Row.of_owns hown1).below hb2).mono hs2
  have r2 := Row.of_owns hown2
  clear hown1 hown2
  go_wp2_with fail
  refine (same_any v1 v2 l w2 r1 r2).mono ?_
  rintro e' w3 ⟨rfl, hb3⟩
  have hb13 := hb12.trans (hb3.mono hb12.size)
  go_wp2_with fail
  refine (law28works_any w3 (Hkw.out.below hb13 (Nat.le_refl _)) (Hsg.out.below hb13 (Nat.le_refl _)) (Htab.out.below hb13 (Nat.le_refl _))).mono ?_
  rintro e' w4 ⟨rfl, hb4⟩
  go_wp2_with fail
  go_ret
  exact ⟨rfl, hb13.trans (hb4.mono hb13.size)⟩
theorem tokenAll_law {H : Type} (enc : TypeId × Value → H) (W : World) (a0 : ByteArray) (w0 : a0.size ≤ maxLen) (hL : laidMetH Tryd.prog Rows.tokenAllRow.laid W) :
    Calls Tryd.prog 3 #[.string a0] W fun e w' => e = .returned (.bool true) ∧ Below W.heap.size W w' :=
  tokenAll_walk a0 W w0 (res28_of hL (by rfl)) (sig28_of hL (by rfl)) (tab10_of hL (by rfl))
end Go.Proofs.YtapmjkgndojdfaaDoor
