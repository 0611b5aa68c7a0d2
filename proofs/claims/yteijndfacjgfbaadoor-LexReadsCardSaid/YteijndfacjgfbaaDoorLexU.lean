/-
  The walk of the document's All of a grammar's tokens.
-/
import Derived.Test.YteijndfacjgfbaaDoorLexO
namespace Go.Proofs.YteijndfacjgfbaaDoor
open Go.RowKit LX
set_option linter.unusedVariables false

theorem refOne_any (s : ByteArray) (i : Nat) (w : World) (hi : i < s.size) (hs : s.size ≤ maxLen) :
    Calls Tryd.prog 38 #[.string s, .int .i64 i] w (OnePost w i (one kwB numB s i)) := by
  cases h1 : isSmall (byteAt s i) with
  | true => exact refOne_small s i w hi hs h1
  | false =>
    cases h2 : isGreat (byteAt s i) with
    | true => exact refOne_great s i w hi hs h1 h2
    | false =>
      cases h3 : isDigit (byteAt s i) with
      | true => exact refOne_digit s i w hi hs h1 h2 h3
      | false => exact refOne_sign s i w hi hs h1 h2 h3
theorem eqI (c k : Nat) : ((c : Int) == (k : Int)) = decide (c = k) := by
  by_cases h : c = k
  · subst h; simp
  · rw [decide_eq_false h]; simp; omega

set_option maxRecDepth 100000 in
set_option maxHeartbeats 3200000 in
theorem refLexAll_any (s : ByteArray) (w : World) (hs : s.size ≤ maxLen) :
    Calls Tryd.prog 11 #[.string s] w (AllPost 37 w (allS s)) := by
  obtain ⟨i0, hinfo, hz0, hz1, hz2⟩ := info_parts info_tok
  have hs' := hs
  unfold maxLen at hs'
  by_cases hl : 65536 < s.size
  · have HV : Hid (allS s = ([], 0, 7)) := by show allS s = _; unfold allS; rw [if_pos hl]
    have hl' : (65536 : Int) < s.size := by omega
    clear hl
    go_enter Tryd.func11, Tryd.ntmps11
    go_wp2_with fail
    go_ret3
    rw [HV.out]
    exact ⟨_, rfl, World.ownsRow_nil _ _ _ _, Below.refl _ _⟩
  · have HV : Hid (allS s = lexS kwB numB s 0 []) := by show allS s = _; unfold allS; rw [if_neg hl]
    have hl' : ¬ (65536 : Int) < s.size := by omega
    go_enter Tryd.func11, Tryd.ntmps11
    go_wp2_with fail
    go_loopw [5, 6] (fun v i wr => ∃ (k : Nat) (acc : List Tok), k ≤ s.size ∧ i = .int .i64 k ∧ wr.ownsRow w.heap.size 37 4 v acc.length (toksC acc) ∧ Below w.heap.size w wr ∧ Hid (lexS kwB numB s k acc = lexS kwB numB s 0 []) ∧ acc.length ≤ k)
      (fun _ i _ => s.size - (intOf i).toNat)
    case atStart => exact ⟨0, [], Nat.zero_le _, rfl, World.ownsRow_made _ _ _ (Nat.le_refl _) (Nat.zero_le _) rfl, (Below.refl _ _).alloc (Nat.le_refl _) _, Lib.hid rfl, Nat.le_refl _⟩
    case round =>
      obtain ⟨k, acc, hk, rfl, hown, hbel, Hst, hacc⟩ := hrel
      by_cases hlt : k < s.size
      · have hsz := hbel.size
        have hc := byteAt_get s k hlt
        have e32 : ((s[k].toNat : Int) == 32) = decide (byteAt s k = 32) := by rw [hc]; exact eqI _ 32
        have e9 : ((s[k].toNat : Int) == 9) = decide (byteAt s k = 9) := by rw [hc]; exact eqI _ 9
        have e10 : ((s[k].toNat : Int) == 10) = decide (byteAt s k = 10) := by rw [hc]; exact eqI _ 10
        have e13 : ((s[k].toNat : Int) == 13) = decide (byteAt s k = 13) := by rw [hc]; exact eqI _ 13
        have e35 : ((s[k].toNat : Int) == 35) = decide (byteAt s k = 35) := by rw [hc]; exact eqI _ 35
        cases hb : isBlank (byteAt s k)
        · have hb' : byteAt s k ≠ 32 ∧ byteAt s k ≠ 9 ∧ byteAt s k ≠ 10 ∧ byteAt s k ≠ 13 := by unfold isBlank at hb; simpa using hb
          rw [decide_eq_false hb'.1] at e32; rw [decide_eq_false hb'.2.1] at e9; rw [decide_eq_false hb'.2.2.1] at e10; rw [decide_eq_false hb'.2.2.2] at e13
          by_cases hr : byteAt s k = 35
          · rw [decide_eq_true hr] at e35
            have HL := Lib.hid ((lexS_remark kwB numB s k acc hlt hb hr).symm.trans Hst.out)
            have hnf : notFeed (byteAt s k) = true := by rw [hr]; decide
            have Hstep := Lib.hid (runEnd_step notFeed s k hlt hnf)
            clear hb hb' hr hc hnf
            obtain ⟨wo, rfl⟩ : ∃ wo : World, wo = wr := ⟨_, rfl⟩
            go_wp2_with fail
            go_loop [6] (fun v => ∃ m : Nat, v = .int .i64 m ∧ k ≤ m ∧ m ≤ s.size ∧ Hid (runEnd notFeed s m = runEnd notFeed s k)) (fun v => s.size - (intOf v).toNat)
            case atStart => exact ⟨k, rfl, Nat.le_refl _, hk, Lib.hid rfl⟩
            case round =>
              obtain ⟨m, rfl, hkm, hm, Hm⟩ := hrel
              by_cases hlt2 : m < s.size
              · have hc2 := byteAt_get s m hlt2
                have H10 : ((s[m].toNat : Int) != 10) = notFeed (byteAt s m) := by rw [hc2]; unfold notFeed; cases hb : decide (s[m].toNat ≠ 10) <;> simp at hb ⊢ <;> omega
                cases hn : notFeed (byteAt s m)
                · rw [hn] at H10
                  have HE : Hid (runEnd notFeed s (k + 1) = m) := by show _ = _; rw [← Hstep.out, ← Hm.out]; exact runEnd_stop notFeed s m hlt2 hn
                  have hkm1 : k < m := by
                    have := runEnd_ge notFeed s (k + 1); rw [HE.out] at this; omega
                  have HL2 : Hid (lexS kwB numB s m acc = lexS kwB numB s 0 []) := by have h := HL.out; rw [HE.out] at h; exact h
                  clear hn hc2
                  go_wp2_with fail
                  go_roundw
                  case rel => exact ⟨m, acc, hm, rfl, hown, hbel, HL2, by omega⟩
                  case measure => simp [intOf]; omega
                · rw [hn] at H10
                  have HN := Lib.hid ((runEnd_step notFeed s m hlt2 hn).symm.trans Hm.out)
                  clear hn hc2
                  go_wp2_with fail
                  go_round
                  case rel => exact ⟨m + 1, by go_num, by omega, by omega, HN⟩
                  case measure => simp [intOf]; omega
              · have HE : Hid (runEnd notFeed s (k + 1) = m) := by show _ = _; rw [← Hstep.out, ← Hm.out]; exact runEnd_end notFeed s m (by omega)
                have hkm1 : k < m := by
                  have := runEnd_ge notFeed s (k + 1); rw [HE.out] at this; omega
                have HL2 : Hid (lexS kwB numB s m acc = lexS kwB numB s 0 []) := by have h := HL.out; rw [HE.out] at h; exact h
                have hge : (s.size : Int) ≤ m := by omega
                go_wp2_with fail
                go_roundw
                case rel => exact ⟨m, acc, hm, rfl, hown, hbel, HL2, by omega⟩
                case measure => simp [intOf]; omega
          · rw [decide_eq_false hr] at e35
            have hp := refOne_any s k wr hlt hs
            cases ho : one kwB numB s k with
            | none =>
              rw [ho] at hp
              have HN := Lib.hid (HV.out.trans (Hst.out.symm.trans (lexS_none kwB numB s k acc hlt hb hr ho)))
              have Hp := Lib.hid hp
              clear hp ho hb hb' hr hc
              go_wp2_with (go_at_call 38; refine Hp.out.mono ?_; rintro e w1 ⟨a, b, c, d, n, rfl, _, hb1⟩)
              go_ret3
              rw [HN.out]
              exact ⟨_, rfl, World.ownsRow_nil _ _ _ _, (hbel.trans (hb1.mono hsz)).alloc (by have := hb1.size; omega) _⟩
            | some x =>
              obtain ⟨t, j⟩ := x
              rw [ho] at hp
              have h4 := one_gt kwB numB s k t j ho
              have h5 := one_le kwB numB s k t j hlt ho
              have HN := Lib.hid ((lexS_some kwB numB s k acc t j hlt hb hr ho).symm.trans Hst.out)
              have Hp := Lib.hid hp
              obtain ⟨q, hq⟩ : ∃ q, q = j - k := ⟨_, rfl⟩
              obtain rfl : j = k + q := by omega
              clear hp ho hb hb' hr hc hq
              go_wp2_with (first
                | (go_at_call 38; refine Hp.out.mono ?_; rintro e w1 ⟨a, b, c, d, n, rfl, hx, hb1⟩; obtain ⟨rfl, rfl, rfl, rfl, hnq⟩ := hx t (k + q) rfl; rw [Nat.add_sub_cancel_left] at hnq; subst hnq)
                | (at_builtin; refine wpList_append_row rfl (.tmp 62) (.tmp 64) 23 rfl w.heap.size 37 i0 (.agg #[.int .i64 0, .string ByteArray.empty, .int .i64 0, .int .i64 0]) 4 40 Tryd.underlying23 hinfo hz0 hz1 hz2 rfl (by decide) _ acc.length (toksC acc) rfl (((owns_below hown hb1).alloc _).alloc _) _ _ 1 (tokC t) rfl (row_alloc2 w1 _ (tokC t) 4 _ rfl) (tokC_one t) (by unfold maxLen; omega) (by omega) (by have := hb1.size; simp; omega) ?_; intro v2 w2 hown2 hgrow2))
              go_roundw
              case rel => exact ⟨k + q, acc ++ [t], h5, by go_num, by rw [toksC_snoc, List.length_append]; exact hown2, (((hbel.trans (hb1.mono hsz)).alloc (by have := hb1.size; omega) _).alloc (by have := hb1.size; simp; omega) _).grown hgrow2 (by have := hb1.size; simp; omega) (fun q hq => (hown.lt q hq).1), HN, by simp; omega⟩
              case measure => simp [intOf]; omega
        · have HN := Lib.hid ((lexS_blank kwB numB s k acc hlt hb).symm.trans Hst.out)
          have hb' : byteAt s k = 32 ∨ byteAt s k = 9 ∨ byteAt s k = 10 ∨ byteAt s k = 13 := by unfold isBlank at hb; simpa using hb
          clear e35 hb
          rcases hb' with h | h | h | h
          all_goals
            rw [h] at e32 e9 e10 e13
            simp only [Nat.reduceEqDiff, decide_false, decide_true] at e32 e9 e10 e13
            clear h hc
            go_wp2_with fail
            go_roundw
            case rel => exact ⟨k + 1, acc, hlt, by go_num, hown, hbel, HN, by omega⟩
            case measure => simp [intOf]; omega
      · obtain rfl : k = s.size := by omega
        have HN := Lib.hid (HV.out.trans (Hst.out.symm.trans (lexS_end kwB numB s s.size acc (Nat.le_refl _))))
        go_wp2_with fail
        go_ret3
        rw [HN.out]
        exact ⟨_, rfl, hown, hbel⟩
end Go.Proofs.YteijndfacjgfbaaDoor
