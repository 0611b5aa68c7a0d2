/-
  The walk of lex.All.
-/
import Derived.Test.YteijndfacjgfbaaDoorLexQ
import Derived.SliceStrings
namespace Go.Proofs.YteijndfacjgfbaaDoor
open Go.RowKit LX
set_option linter.unusedVariables false

theorem owns_below {w w' : World} {base e size v n xs} (h : w.ownsRow base e size v n xs) (hb : Below w.heap.size w w') : w'.ownsRow base e size v n xs := by
  refine ⟨h.1, ?_⟩
  rcases h.2 with hn | ⟨g, cap, cur, rfl, hb', hg, rest⟩
  · exact .inl hn
  · refine .inr ⟨g, cap, cur, rfl, hb', ?_, rest⟩
    rw [hb.block g (Array.getElem?_eq_some_iff.1 hg).1]
    exact hg
theorem row_cells (w : World) (xs : List Value) (size n c : Nat) (t : TypeId) (hl : xs.length = n * size) (hn : n ≤ c) (hc : c ≤ maxLen) : Row (w.alloc (.cells xs.toArray t)) (w.heap.size + 1) size (.slice (some ⟨w.heap.size, 0, none⟩) n c) n xs := by
  refine ⟨hl, by omega, .inr ⟨_, c, rfl, hn, hc, .inr (by show w.heap.size < _; omega), fun j u hu => ?_⟩⟩
  rw [cell_add _ _ _ _ _ (heap_alloc_new w _)]
  simpa using hu
theorem row_alloc2 (w : World) (o : Obj) (xs : List Value) (size : Nat) (t : TypeId) (hl : xs.length = size) : Row ((w.alloc o).alloc (.cells xs.toArray t)) (w.heap.size + 2) size (.slice (some ⟨w.heap.size + 1, 0, none⟩) 1 1) 1 xs := by
  have h := row_cells (w.alloc o) xs size 1 1 t (by omega) (Nat.le_refl _) (by unfold maxLen; omega)
  simpa only [World.size_alloc] using h
def tokC (t : Tok) : List Value := [.int .i64 t.k, .string t.s, .int .i64 t.n, .int .i64 t.p]
def toksC (l : List Tok) : List Value := l.flatMap tokC
theorem tokC_one (t : Tok) : ∀ u ∈ tokC t, u.oneCell' = true := by
  intro u hu
  simp only [tokC, List.mem_cons, List.not_mem_nil, or_false] at hu
  rcases hu with rfl | rfl | rfl | rfl <;> rfl
theorem toksC_length (l : List Tok) : (toksC l).length = l.length * 4 := by
  induction l with
  | nil => rfl
  | cons t r ih =>
    have : toksC (t :: r) = tokC t ++ toksC r := rfl
    rw [this, List.length_append, ih]; simp [tokC]; omega
theorem toksC_snoc (l : List Tok) (t : Tok) : toksC (l ++ [t]) = toksC l ++ tokC t := by simp [toksC]
theorem one_kind (kw : ByteArray → Bool) (num : ByteArray → Option Nat) (s : ByteArray) (i : Nat) (t : Tok) (j : Nat) (h : one kw num s i = some (t, j)) : 1 ≤ t.k := by
  unfold one at h
  simp only at h
  repeat' split at h
  all_goals first
    | (cases h; done)
    | (simp only [Option.some.injEq, Prod.mk.injEq] at h; rw [← h.1]; simp only; first | omega | (split <;> omega))
/-- What a reader of texts tells: a slice of tokens, a place, what is wrong. -/
def AllPost (T : TypeId) (w : World) (r : List Tok × Nat × Nat) (e : Ending) (w' : World) : Prop :=
  ∃ v, e = .returned (.tuple #[v, .int .i64 (r.2.1 : Nat), .int .i64 (r.2.2 : Nat)]) ∧ w'.ownsRow w.heap.size T 4 v r.1.length (toksC r.1) ∧ Below w.heap.size w w'
noncomputable def allS (s : ByteArray) : List Tok × Nat × Nat := if 65536 < s.size then ([], 0, 7) else lexS kwB numB s 0 []
theorem info_tok : (Tryd.prog.info? 37).map (fun i => (i.zero, i.size, i.bytes)) = some (some (.agg #[.int .i64 0, .string ByteArray.empty, .int .i64 0, .int .i64 0]), 4, 40) := by kernel_rfl
theorem pieceV_cases (s : ByteArray) (i : Nat) (hi : i < s.size) (acc : List Tok) :
    (∃ j, pieceV s i = .tuple #[.agg #[.int .i64 0, .string ByteArray.empty, .int .i64 0, .int .i64 0], .int .i64 (j : Nat), .int .i64 0] ∧ i < j ∧ j ≤ s.size ∧ lexS kwB numB s i acc = lexS kwB numB s j acc) ∨
    (∃ t j, pieceV s i = .tuple #[.agg #[.int .i64 (t.k : Nat), .string t.s, .int .i64 (t.n : Nat), .int .i64 (t.p : Nat)], .int .i64 (j : Nat), .int .i64 0] ∧ 1 ≤ t.k ∧ i < j ∧ j ≤ s.size ∧ lexS kwB numB s i acc = lexS kwB numB s j (acc ++ [t])) ∨
    (pieceV s i = .tuple #[.agg #[.int .i64 0, .string ByteArray.empty, .int .i64 0, .int .i64 0], .int .i64 i, .int .i64 5] ∧ lexS kwB numB s i acc = ([], i, 5)) := by
  unfold pieceV
  cases hb : isBlank (byteAt s i) with
  | true =>
    left
    have a := runEnd_ge isBlank s (i + 1); have b := runEnd_le isBlank s (i + 1) (by omega)
    exact ⟨_, by rw [if_pos rfl]; rfl, by omega, b, by rw [lexS_blank kwB numB s i acc hi hb]; exact lexS_blanks kwB numB s _ acc (by omega)⟩
  | false =>
    rw [if_neg (by decide)]
    by_cases hr : byteAt s i = 35
    · left
      have a := runEnd_ge notFeed s (i + 1); have b := runEnd_le notFeed s (i + 1) (by omega)
      exact ⟨_, by rw [if_pos hr]; rfl, by omega, b, lexS_remark kwB numB s i acc hi hb hr⟩
    · rw [if_neg hr]
      right
      cases ho : one kwB numB s i with
      | none => exact .inr ⟨rfl, lexS_none kwB numB s i acc hi hb hr ho⟩
      | some x =>
        obtain ⟨t, j⟩ := x
        exact .inl ⟨t, j, rfl, one_kind _ _ s i t j ho, one_gt kwB numB s i t j ho, one_le kwB numB s i t j hi ho, lexS_some kwB numB s i acc t j hi hb hr ho⟩

set_option maxRecDepth 100000 in
set_option maxHeartbeats 1600000 in
theorem lexAll_any (s : ByteArray) (w : World) (hs : s.size ≤ maxLen) (hkw : StrsIs w 0 kwT) (htab : Tab10 w) :
    Calls Tryd.prog 10 #[.string s] w (AllPost 37 w (allS s)) := by
  obtain ⟨i0, hinfo, hz0, hz1, hz2⟩ := info_parts info_tok
  have hs' := hs
  unfold maxLen at hs'
  by_cases hl : 65536 < s.size
  · have HV : Hid (allS s = ([], 0, 7)) := by show allS s = _; unfold allS; rw [if_pos hl]
    have hl' : (65536 : Int) < s.size := by omega
    clear hl
    go_enter Tryd.func10, Tryd.ntmps10
    go_wp2_with fail
    go_ret3
    rw [HV.out]
    exact ⟨_, rfl, World.ownsRow_nil _ _ _ _, Below.refl _ _⟩
  · have HV : Hid (allS s = lexS kwB numB s 0 []) := by show allS s = _; unfold allS; rw [if_neg hl]
    have hl' : ¬ (65536 : Int) < s.size := by omega
    have Hkw := Lib.hid hkw; have Htab := Lib.hid htab
    clear hkw htab
    go_enter Tryd.func10, Tryd.ntmps10
    go_wp2_with fail
    go_loopw [5, 6] (fun v i wr => ∃ (k : Nat) (acc : List Tok), k ≤ s.size ∧ i = .int .i64 k ∧ wr.ownsRow w.heap.size 37 4 v acc.length (toksC acc) ∧ Below w.heap.size w wr ∧ Hid (lexS kwB numB s k acc = lexS kwB numB s 0 []) ∧ acc.length ≤ k)
      (fun _ i _ => s.size - (intOf i).toNat)
    case atStart => exact ⟨0, [], Nat.zero_le _, rfl, World.ownsRow_nil _ _ _ _, Below.refl _ _, Lib.hid rfl, Nat.le_refl _⟩
    case round =>
      obtain ⟨k, acc, hk, rfl, hown, hbel, Hst, hacc⟩ := hrel
      by_cases hlt : k < s.size
      · have hsz := hbel.size
        have hp := piece_any s k wr hlt hs (Hkw.out.below hbel (Nat.le_refl _)) (Htab.out.below hbel (Nat.le_refl _))
        rcases pieceV_cases s k hlt acc with ⟨j, h1, h2, h3, h4⟩ | ⟨t, j, h1, h2, h3, h4, h5⟩ | ⟨h1, h2⟩
        · rw [h1] at hp
          have HN := Lib.hid (h4.symm.trans Hst.out)
          have Hp := Lib.hid hp
          have hj63 : j ≤ 9223372036854775807 := by omega
          clear hp h1 h4
          go_wp2_with (go_at_call 37; refine Hp.out.mono ?_; rintro e w1 ⟨rfl, hb1⟩)
          go_roundw
          case rel => exact ⟨j, acc, h3, rfl, (owns_below hown hb1).alloc _, (hbel.trans (hb1.mono hsz)).alloc (by have := hb1.size; omega) _, HN, by omega⟩
          case measure => simp [intOf]; omega
        · rw [h1] at hp
          have HN := Lib.hid (h5.symm.trans Hst.out)
          have Hp := Lib.hid hp
          have hk0 : ((t.k : Int) != 0) = true := by simp; omega
          have hj63 : j ≤ 9223372036854775807 := by omega
          clear hp h1 h5
          go_wp2_with (first
            | (go_at_call 37; refine Hp.out.mono ?_; rintro e w1 ⟨rfl, hb1⟩)
            | (at_builtin; refine wpList_append_row rfl (.tmp 31) (.tmp 33) 23 rfl w.heap.size 37 i0 (.agg #[.int .i64 0, .string ByteArray.empty, .int .i64 0, .int .i64 0]) 4 40 Tryd.underlying23 hinfo hz0 hz1 hz2 rfl (by decide) _ acc.length (toksC acc) rfl (((owns_below hown hb1).alloc _).alloc _) _ _ 1 (tokC t) rfl (row_alloc2 w1 _ (tokC t) 4 _ rfl) (tokC_one t) (by unfold maxLen; omega) (by omega) (by have := hb1.size; simp; omega) ?_; intro v2 w2 hown2 hgrow2))
          go_roundw
          case rel => exact ⟨j, acc ++ [t], h4, rfl, by rw [toksC_snoc, List.length_append]; exact hown2, (((hbel.trans (hb1.mono hsz)).alloc (by have := hb1.size; omega) _).alloc (by have := hb1.size; simp; omega) _).grown hgrow2 (by have := hb1.size; simp; omega) (fun q hq => (hown.lt q hq).1), HN, by simp; omega⟩
          case measure => simp [intOf]; omega
        · rw [h1] at hp
          have HN := Lib.hid (HV.out.trans (Hst.out.symm.trans h2))
          have Hp := Lib.hid hp
          clear hp h1 h2
          go_wp2_with (go_at_call 37; refine Hp.out.mono ?_; rintro e w1 ⟨rfl, hb1⟩)
          go_ret3
          rw [HN.out]
          exact ⟨_, rfl, World.ownsRow_nil _ _ _ _, (hbel.trans (hb1.mono hsz)).alloc (by have := hb1.size; omega) _⟩
      · obtain rfl : k = s.size := by omega
        have HN := Lib.hid (HV.out.trans (Hst.out.symm.trans (lexS_end kwB numB s s.size acc (Nat.le_refl _))))
        go_wp2_with fail
        go_ret3
        rw [HN.out]
        exact ⟨_, rfl, hown, hbel⟩
end Go.Proofs.YteijndfacjgfbaaDoor
