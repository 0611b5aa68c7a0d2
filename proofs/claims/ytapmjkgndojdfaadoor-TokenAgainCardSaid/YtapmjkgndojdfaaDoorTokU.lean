/-
  The walk of token.All.
-/
import Derived.Test.YtapmjkgndojdfaaDoorTokR
import Derived.Test.YtapmjkgndojdfaaDoorToks
namespace Go.Proofs.YtapmjkgndojdfaaDoor
open Go.RowKit LX
set_option linter.unusedVariables false
set_option linter.unusedSimpArgs false

noncomputable def allT (s : ByteArray) : List Tok × Nat × Nat := if 1000000 < s.size then ([], 0, 7) else tokS kwR numB s 0 none []
theorem oneT_kind (kw : ByteArray → Bool) (num : ByteArray → Option Nat) (s : ByteArray) (i : Nat) (t : Tok) (j : Nat) (h : oneT kw num s i = some (t, j)) : t.k = 1 ∨ t.k = 2 ∨ t.k = 4 ∨ t.k = 5 := by
  unfold oneT at h
  simp only at h
  repeat' split at h
  all_goals first
    | (cases h; done)
    | (simp only [Option.some.injEq, Prod.mk.injEq] at h; rw [← h.1]; simp)
/-- A token that is no line feed. -/
theorem oneT_noFeed (s : ByteArray) (i : Nat) (t : Tok) (j : Nat) (hi : i < s.size) (h : oneT kwR numB s i = some (t, j)) : t.k ≠ 5 ∨ ¬ t.s.toList = [10] := by
  obtain ⟨hf, _, _⟩ := oneT_fair kwR numB decS (fun x n h => (numB_some h).1) s i t j hi h
  rcases hf with ⟨h0, h1, h2, h3, h4, h5⟩ | ⟨h0, h1, h2, h3, h4⟩ | ⟨h0, h0', h1⟩
  · left; rw [h5]; split <;> decide
  · left; omega
  · right
    intro he
    rw [ByteArray.toList_eq] at he
    rw [he] at h1
    revert h1; decide
theorem owns_mono {w : World} {base base' e size v n xs} (h : w.ownsRow base e size v n xs) (hb : base' ≤ base) : w.ownsRow base' e size v n xs := by
  refine ⟨h.1, ?_⟩
  rcases h.2 with hn | ⟨g, cap, cur, rfl, hb', rest⟩
  · exact .inl hn
  · exact .inr ⟨g, cap, cur, rfl, Nat.le_trans hb hb', rest⟩
/-- The pending line feed in memory. -/
def feedC (fd : Option Nat) : Array Value := match fd with
  | some p => #[.int .i64 5, .string ⟨#[10]⟩, .int .i64 0, .int .i64 (p : Nat)]
  | none => #[.int .i64 0, .string ⟨#[]⟩, .int .i64 0, .int .i64 0]
def FdH (w : World) (b : Nat) (fd : Option Nat) : Prop := w.heap[b]? = some (.cells (feedC fd) 31 (0, 0))
theorem FdH.lt {w b fd} (h : FdH w b fd) : b < w.heap.size := (Array.getElem?_eq_some_iff.1 h).1
theorem FdH.below {w w' b fd} (h : FdH w b fd) (hb : Below w.heap.size w w') : FdH w' b fd := by
  unfold FdH; rw [hb.block b h.lt]; exact h
theorem FdH.alloc {w b fd} (h : FdH w b fd) (o : Obj) : FdH (w.alloc o) b fd := h.below ((Below.refl _ _).alloc (Nat.le_refl _) _)
theorem FdH.other {w w' b c fd} (h : FdH w b fd) (hg : w.grownBy w' c) (hn : c ≠ some b) : FdH w' b fd := by
  unfold FdH; rw [hg.block b h.lt (by intro he; exact hn he.symm)]; exact h
theorem FdH.no {w b} (h : FdH w b none) : w.cell? ⟨b, 0, none⟩ = some (.int .i64 0) ∧ w.cell? ⟨b, 1, none⟩ = some (.string ⟨#[]⟩) ∧ w.cell? ⟨b, 2, none⟩ = some (.int .i64 0) ∧ w.cell? ⟨b, 3, none⟩ = some (.int .i64 0) ∧ (∀ o, w.frozen? ⟨b, o, none⟩ = false) := by
  unfold FdH at h
  refine ⟨?_, ?_, ?_, ?_, fun o => ?_⟩
  · rw [cell_of_row w b 0 _ _ (0, 0) h]; rfl
  · rw [cell_of_row w b 1 _ _ (0, 0) h]; rfl
  · rw [cell_of_row w b 2 _ _ (0, 0) h]; rfl
  · rw [cell_of_row w b 3 _ _ (0, 0) h]; rfl
  · simp [World.frozen?, h]
theorem FdH.yes {w b p} (h : FdH w b (some p)) : w.cell? ⟨b, 0, none⟩ = some (.int .i64 5) ∧ w.cell? ⟨b, 1, none⟩ = some (.string ⟨#[10]⟩) ∧ w.cell? ⟨b, 2, none⟩ = some (.int .i64 0) ∧ w.cell? ⟨b, 3, none⟩ = some (.int .i64 p) ∧ (∀ o, w.frozen? ⟨b, o, none⟩ = false) := by
  unfold FdH at h
  refine ⟨?_, ?_, ?_, ?_, fun o => ?_⟩
  · rw [cell_of_row w b 0 _ _ (0, 0) h]; rfl
  · rw [cell_of_row w b 1 _ _ (0, 0) h]; rfl
  · rw [cell_of_row w b 2 _ _ (0, 0) h]; rfl
  · rw [cell_of_row w b 3 _ _ (0, 0) h]; rfl
  · simp [World.frozen?, h]
/-- A token's block. -/
def TkB (w : World) (b : Nat) (x0 x1 x2 x3 : Value) : Prop := w.heap[b]? = some (.cells #[x0, x1, x2, x3] 31 (0, 0))
theorem TkB.new (w : World) (x0 x1 x2 x3) : TkB (w.alloc (.cells #[x0, x1, x2, x3] 31)) w.heap.size x0 x1 x2 x3 := heap_alloc_new w _
theorem TkB.lt {w b x0 x1 x2 x3} (h : TkB w b x0 x1 x2 x3) : b < w.heap.size := (Array.getElem?_eq_some_iff.1 h).1
theorem TkB.alloc {w b x0 x1 x2 x3} (h : TkB w b x0 x1 x2 x3) (o : Obj) : TkB (w.alloc o) b x0 x1 x2 x3 := by
  unfold TkB; rw [((Below.refl _ w).alloc (Nat.le_refl _) o).block b h.lt]; exact h
theorem TkB.other {w w' b c x0 x1 x2 x3} (h : TkB w b x0 x1 x2 x3) (hg : w.grownBy w' c) (hn : c ≠ some b) : TkB w' b x0 x1 x2 x3 := by
  unfold TkB; rw [hg.block b h.lt (by intro he; exact hn he.symm)]; exact h
theorem TkB.cells {w b x0 x1 x2 x3} (h : TkB w b x0 x1 x2 x3) : w.cell? ⟨b, 0, none⟩ = some x0 ∧ w.cell? ⟨b, 1, none⟩ = some x1 ∧ w.cell? ⟨b, 2, none⟩ = some x2 ∧ w.cell? ⟨b, 3, none⟩ = some x3 := by
  unfold TkB at h
  refine ⟨?_, ?_, ?_, ?_⟩
  · rw [cell_of_row w b 0 _ _ (0, 0) h]; rfl
  · rw [cell_of_row w b 1 _ _ (0, 0) h]; rfl
  · rw [cell_of_row w b 2 _ _ (0, 0) h]; rfl
  · rw [cell_of_row w b 3 _ _ (0, 0) h]; rfl
theorem row_cells3 (w : World) (B : Nat) (hB : w.heap.size = B) (xs : List Value) (size : Nat) (t : TypeId) (hl : xs.length = size) : Row (w.alloc (.cells xs.toArray t)) (B + 1) size (.slice (some ⟨B, 0, none⟩) 1 1) 1 xs := by
  subst hB; exact row_cells w xs size 1 1 t (by omega) (Nat.le_refl _) (by unfold maxLen; omega)
/-- A token stored over another, cell by cell. -/
def set4 (w : World) (b : Nat) (x0 x1 x2 x3 : Value) : World := (((w.setCell ⟨b, 0, none⟩ x0).setCell ⟨b, 1, none⟩ x1).setCell ⟨b, 2, none⟩ x2).setCell ⟨b, 3, none⟩ x3
theorem set4_below {B w0 w b x0 x1 x2 x3} (h : Below B w0 w) (hb : B ≤ b) : Below B w0 (set4 w b x0 x1 x2 x3) :=
  (((h.setCell (p := ⟨b, 0, none⟩) hb _).setCell (p := ⟨b, 1, none⟩) hb _).setCell (p := ⟨b, 2, none⟩) hb _).setCell (p := ⟨b, 3, none⟩) hb _
theorem set4_heap (w : World) (b x0 x1 x2 x3) (k : Nat) (h : k ≠ b) : (set4 w b x0 x1 x2 x3).heap[k]? = w.heap[k]? := by
  unfold set4
  rw [Below.heap_setCell _ _ _ _ h, Below.heap_setCell _ _ _ _ h, Below.heap_setCell _ _ _ _ h, Below.heap_setCell _ _ _ _ h]
theorem set4_size (w : World) (b x0 x1 x2 x3) : (set4 w b x0 x1 x2 x3).heap.size = w.heap.size := by
  unfold set4; simp [World.setCell]
theorem set4_owns {w : World} {b x0 x1 x2 x3 base e size v n xs} (h : w.ownsRow base e size v n xs) (hb : b < base) : (set4 w b x0 x1 x2 x3).ownsRow base e size v n xs := by
  refine ⟨h.1, ?_⟩
  rcases h.2 with hn | ⟨g, cap, cur, rfl, hb', hg, rest⟩
  · exact .inl hn
  · exact .inr ⟨g, cap, cur, rfl, hb', by rw [set4_heap _ _ _ _ _ _ _ (by omega)]; exact hg, rest⟩
theorem FdH.set4 {w b fd} (h : FdH w b fd) (fd' : Option Nat) : FdH (set4 w b ((feedC fd').getD 0 undef) ((feedC fd').getD 1 undef) ((feedC fd').getD 2 undef) ((feedC fd').getD 3 undef)) b fd' := by
  unfold FdH at h ⊢
  unfold Go.Proofs.YtapmjkgndojdfaaDoor.set4
  simp only [World.setCell, Array.getElem?_modify, h, Option.map_some, if_true]
  cases fd <;> cases fd' <;> rfl
theorem row_alloc3 (w : World) (B : Nat) (hB : w.heap.size = B) (o : Obj) (xs : List Value) (size : Nat) (t : TypeId) (hl : xs.length = size) : Row ((w.alloc o).alloc (.cells xs.toArray t)) (B + 2) size (.slice (some ⟨B + 1, 0, none⟩) 1 1) 1 xs := by
  subst hB; exact row_alloc2 w o xs size t hl
/-- What the loop keeps of the pending line feed. -/
def fdKept (s : ByteArray) (k : Nat) (fd : Option Nat) : Prop := fd = none ∨ (k < s.size → isGap (byteAt s k) = false)
theorem pieceT_cases (s : ByteArray) (i : Nat) (hi : i < s.size) (fd : Option Nat) (acc : List Tok) (hf : fdKept s i fd) :
    (∃ j, fd = none ∧ pieceT s i = .tuple #[.agg #[.int .i64 5, .string ⟨#[10]⟩, .int .i64 0, .int .i64 i], .int .i64 (j : Nat), .int .i64 0] ∧ i < j ∧ j ≤ s.size ∧ fdKept s j (some i) ∧ tokS kwR numB s i fd acc = tokS kwR numB s j (some i) acc) ∨
    (∃ j, fd = none ∧ pieceT s i = .tuple #[.agg #[.int .i64 0, .string ⟨#[]⟩, .int .i64 0, .int .i64 0], .int .i64 (j : Nat), .int .i64 0] ∧ i < j ∧ j ≤ s.size ∧ tokS kwR numB s i fd acc = tokS kwR numB s j none acc) ∨
    (∃ t j, pieceT s i = .tuple #[.agg #[.int .i64 (t.k : Nat), .string t.s, .int .i64 (t.n : Nat), .int .i64 (t.p : Nat)], .int .i64 (j : Nat), .int .i64 0] ∧ (t.k = 1 ∨ t.k = 2 ∨ t.k = 4 ∨ t.k = 5) ∧ i < j ∧ j ≤ s.size ∧ (t.k ≠ 5 ∨ ¬ t.s.toList = [10]) ∧ tokS kwR numB s i fd acc = tokS kwR numB s j none (withFeed fd acc ++ [t])) ∨
    (pieceT s i = .tuple #[.agg #[.int .i64 0, .string ⟨#[]⟩, .int .i64 0, .int .i64 0], .int .i64 i, .int .i64 5] ∧ tokS kwR numB s i fd acc = ([], i, 5)) := by
  have hsp10 : isSpace 10 = false := by decide
  unfold pieceT
  by_cases hr : byteAt s i = 10
  · left
    have hfd : fd = none := by
      rcases hf with h | h
      · exact h
      · have := h hi; rw [hr] at this; exact absurd this (by decide)
    subst hfd
    have a := runEnd_ge isGap s (i + 1); have b := runEnd_le isGap s (i + 1) (by omega)
    refine ⟨_, rfl, by rw [if_pos hr]; rfl, by omega, b, .inr (fun h => ?_), ?_⟩
    · exact runEnd_next isGap s (i + 1) (by omega) h
    · rw [tokS_feed kwR numB s i none acc hi (by rw [hr]; exact hsp10) hr]
      exact tokS_gaps kwR numB s (i + 1) i acc (by omega)
  · right
    rw [if_neg hr]
    cases hb : isSpace (byteAt s i) with
    | true =>
      left
      have hfd : fd = none := by
        rcases hf with h | h
        · exact h
        · have := h hi; rw [gap_space _ hb] at this; exact absurd this (by decide)
      subst hfd
      have a := runEnd_ge isSpace s (i + 1); have b := runEnd_le isSpace s (i + 1) (by omega)
      exact ⟨_, rfl, by rw [if_pos rfl]; rfl, by omega, b, by rw [tokS_space kwR numB s i none acc hi hb]; exact tokS_spaces kwR numB s _ none acc (by omega)⟩
    | false =>
      right
      rw [if_neg (by decide)]
      cases ho : oneT kwR numB s i with
      | none => exact .inr ⟨rfl, tokS_none kwR numB s i fd acc hi hb hr ho⟩
      | some x =>
        obtain ⟨t, j⟩ := x
        exact .inl ⟨t, j, rfl, oneT_kind _ _ s i t j ho, oneT_gt kwR numB s i t j ho, oneT_le kwR numB s i t j hi ho, oneT_noFeed s i t j hi ho, tokS_some kwR numB s i fd acc t j hi hb hr ho⟩

set_option maxRecDepth 100000 in
set_option maxHeartbeats 12000000 in
theorem tokAll_any (s : ByteArray) (w : World) (hs : s.size ≤ maxLen) (hkw : StrsIs w 1 resT) (hsg : StrsIs w 0 sigT) (htab : Tab10 w) :
    Calls Tryd.prog 7 #[.string s] w (AllPost 31 w (allT s)) := by
  obtain ⟨i0, hinfo, hz0, hz1, hz2⟩ := info_parts info_tok
  have hs' := hs
  unfold maxLen at hs'
  by_cases hl : 1000000 < s.size
  · have HV : Hid (allT s = ([], 0, 7)) := by show allT s = _; unfold allT; rw [if_pos hl]
    have hl' : (1000000 : Int) < s.size := by omega
    clear hl
    go_enter Tryd.func7, Tryd.ntmps7
    go_wp2_with fail
    go_ret3
    rw [HV.out]
    exact ⟨_, rfl, World.ownsRow_nil _ _ _ _, Below.refl _ _⟩
  · have HV : Hid (allT s = tokS kwR numB s 0 none []) := by show allT s = _; unfold allT; rw [if_neg hl]
    have hl' : ¬ (1000000 : Int) < s.size := by omega
    have Hkw := Lib.hid hkw; have Hsg := Lib.hid hsg; have Htab := Lib.hid htab
    clear hkw hsg htab
    go_enter Tryd.func7, Tryd.ntmps7
    go_wp2_with fail
    go_loopw [5, 7] (fun v i wr => ∃ (k : Nat) (fd : Option Nat) (acc : List Tok), k ≤ s.size ∧ i = .int .i64 k ∧ wr.ownsRow (w.heap.size + 1) 31 4 v acc.length (toksC acc) ∧ Below w.heap.size w wr ∧ FdH wr w.heap.size fd ∧ Hid (fdKept s k fd) ∧ Hid (tokS kwR numB s k fd acc = tokS kwR numB s 0 none []) ∧ acc.length ≤ 2 * k)
      (fun _ i _ => s.size - (intOf i).toNat)
    case atStart => exact ⟨0, none, [], Nat.zero_le _, rfl, World.ownsRow_nil _ _ _ _, (Below.refl _ _).alloc (Nat.le_refl _) _, heap_alloc_new _ _, Lib.hid (.inl rfl), Lib.hid rfl, Nat.zero_le _⟩
    case round =>
      obtain ⟨k, fd, acc, hk, rfl, hown, hbel, hFd, Hfk, Hst, hacc⟩ := hrel
      by_cases hlt : k < s.size
      · have hsz := hbel.size
        have hp := pieceT_any s k wr hlt hs (Hkw.out.below hbel (Nat.le_refl _)) (Hsg.out.below hbel (Nat.le_refl _)) (Htab.out.below hbel (Nat.le_refl _))
        have hl0 := hFd.lt
        rcases pieceT_cases s k hlt fd acc Hfk.out with ⟨j, rfl, h1, h2, h3, h4, h5⟩ | ⟨j, rfl, h1, h2, h3, h5⟩ | ⟨t, j, h1, hk4, h3, h4, h5, h6⟩ | ⟨h1, h2⟩
        · rw [h1] at hp
          have HN := Lib.hid (h5.symm.trans Hst.out)
          have Hp := Lib.hid hp
          have Hk2 := Lib.hid h4
          have hj63 : j ≤ 9223372036854775807 := by omega
          clear hp h1 h4 h5
          go_wp2_with fail
          refine Hp.out.mono ?_
          rintro e w1 ⟨rfl, hb1⟩
          have hF1 := hFd.below hb1
          obtain ⟨c0, c1, c2, c3, c4⟩ := hF1.no
          have c40 := c4 0; have c41 := c4 1; have c42 := c4 2; have c43 := c4 3
          have hl1 := hF1.lt
          clear c4
          go_wp2_with fail
          go_roundw
          case rel => exact ⟨j, some k, acc, h3, rfl, (set4_owns (owns_below hown hb1) (Nat.lt_succ_self _)).alloc _, (set4_below (hbel.trans (hb1.mono hsz)) (Nat.le_refl _)).alloc (by rw [set4_size]; omega) _, (hF1.set4 (some k)).alloc _, Hk2, HN, by omega⟩
          case measure => simp [intOf]; omega
        · rw [h1] at hp
          have HN := Lib.hid (h5.symm.trans Hst.out)
          have Hp := Lib.hid hp
          have hj63 : j ≤ 9223372036854775807 := by omega
          clear hp h1 h5
          go_wp2_with fail
          refine Hp.out.mono ?_
          rintro e w1 ⟨rfl, hb1⟩
          have hF1 := hFd.below hb1
          go_wp2_with fail
          go_roundw
          case rel => exact ⟨j, none, acc, h3, rfl, (owns_below hown hb1).alloc _, (hbel.trans (hb1.mono hsz)).alloc (by have := hb1.size; omega) _, hF1.alloc _, Lib.hid (.inl rfl), HN, by omega⟩
          case measure => simp [intOf]; omega
        · rw [h1] at hp
          have HN := Lib.hid (h6.symm.trans Hst.out)
          have hj63 : j ≤ 9223372036854775807 := by omega
          obtain ⟨tk, ts, tn, tp⟩ := t
          simp only at hk4 h5 hp
          obtain ⟨z, hz⟩ : ∃ z : Int, (tk : Int) = z := ⟨_, rfl⟩
          rw [hz] at hp
          have hz4 : z = 1 ∨ z = 2 ∨ z = 4 ∨ z = 5 := by omega
          have Hs5 : Hid (z = 5 → ¬ ts.toList = [10]) := Lib.hid (fun h => by
            rcases h5 with h5 | h5
            · omega
            · exact h5)
          have Hz := Lib.hid hz
          have Hp := Lib.hid hp
          clear hp h1 h6 h5 hz hk4
          cases fd with
          | none =>
            rcases hz4 with rfl | rfl | rfl | rfl
            all_goals
              try have hs5 : (ts.toList == [10]) = false := beq_eq_false_iff_ne.2 (Hs5.out rfl)
              go_wp2_with fail
              refine Hp.out.mono ?_
              rintro e w1 ⟨rfl, hb1⟩
              have hF1 := hFd.below hb1
              have hl1 := hF1.lt
              obtain ⟨c0, c1, c2, c3, c4⟩ := hF1.no
              have c40 := c4 0; have c41 := c4 1; have c42 := c4 2; have c43 := c4 3
              clear c4
              have hb2 := set4_below (b := w.heap.size) (x0 := .int .i64 0) (x1 := .string ⟨#[]⟩) (x2 := .int .i64 0) (x3 := .int .i64 0) (hbel.trans (hb1.mono hsz)) (Nat.le_refl _)
              have hown2 := set4_owns (b := w.heap.size) (x0 := .int .i64 0) (x1 := .string ⟨#[]⟩) (x2 := .int .i64 0) (x3 := .int .i64 0) (owns_below hown hb1) (Nat.lt_succ_self _)
              have hs2 := set4_size w1 w.heap.size (.int .i64 0) (.string ⟨#[]⟩) (.int .i64 0) (.int .i64 0)
              have hF2 : FdH (set4 w1 w.heap.size (.int .i64 0) (.string ⟨#[]⟩) (.int .i64 0) (.int .i64 0)) w.heap.size none := hF1.set4 none
              clear Hp
              go_wp2_with (at_builtin; refine wpList_append_row rfl (.tmp 58) (.tmp 60) 23 rfl (w.heap.size + 1) 31 i0 (.agg #[.int .i64 0, .string ByteArray.empty, .int .i64 0, .int .i64 0]) 4 40 Tryd.underlying23 hinfo hz0 hz1 hz2 rfl (by decide) _ acc.length (toksC acc) rfl ((hown2.alloc _).alloc _) _ _ 1 (_) rfl (row_alloc3 _ _ hs2 _ _ 4 _ rfl) (by intro u hu; simp only [List.mem_cons, List.not_mem_nil, or_false] at hu; rcases hu with rfl | rfl | rfl | rfl <;> rfl) (by unfold maxLen; omega) (by omega) (by simp [World.setCell]; omega) ?_; intro v3 w3 hown3 hgrow3)
              rw [← Hz.out] at hown3
              go_roundw
              case rel => exact ⟨j, none, acc ++ [⟨tk, ts, tn, tp⟩], h4, rfl, by rw [toksC_snoc, List.length_append]; exact hown3, ((hb2.alloc (by rw [hs2]; omega) _).alloc (by simp [hs2]; omega) _).grown hgrow3 (by simp [World.setCell]; omega) (fun q hq => by have := (hown2.lt q hq).1; omega), ((hF2.alloc _).alloc _).other hgrow3 (fun he => by have := (hown2.lt _ he).1; omega), Lib.hid (.inl rfl), HN, by simp; omega⟩
              case measure => simp [intOf]; omega
          | some p =>
            by_cases ha : acc.length = 0
            · obtain rfl : acc = [] := List.length_eq_zero_iff.1 ha
              have hown : wr.ownsRow (w.heap.size + 1) 31 4 u5 0 [] := hown
              obtain ⟨ao, c, rfl, hc1, hc2⟩ := (Row.of_owns hown).val
              have HN : Hid (tokS kwR numB s j none ([⟨tk, ts, tn, tp⟩] : List Tok) = tokS kwR numB s 0 none []) := HN
              rcases hz4 with rfl | rfl | rfl | rfl
              all_goals
                try have hs5 : (ts.toList == [10]) = false := beq_eq_false_iff_ne.2 (Hs5.out rfl)
                go_wp2_with fail
                refine Hp.out.mono ?_
                rintro e w1 ⟨rfl, hb1⟩
                have hF1 := hFd.below hb1
                have hl1 := hF1.lt
                obtain ⟨c0, c1, c2, c3, c4⟩ := hF1.yes
                have c40 := c4 0; have c41 := c4 1; have c42 := c4 2; have c43 := c4 3
                clear c4
                have hb2 := set4_below (b := w.heap.size) (x0 := .int .i64 0) (x1 := .string ⟨#[]⟩) (x2 := .int .i64 0) (x3 := .int .i64 0) (hbel.trans (hb1.mono hsz)) (Nat.le_refl _)
                have hown2 := set4_owns (b := w.heap.size) (x0 := .int .i64 0) (x1 := .string ⟨#[]⟩) (x2 := .int .i64 0) (x3 := .int .i64 0) (owns_below hown hb1) (Nat.lt_succ_self _)
                have hs2 := set4_size w1 w.heap.size (.int .i64 0) (.string ⟨#[]⟩) (.int .i64 0) (.int .i64 0)
                have hF2 : FdH (set4 w1 w.heap.size (.int .i64 0) (.string ⟨#[]⟩) (.int .i64 0) (.int .i64 0)) w.heap.size none := hF1.set4 none
                clear Hp
                go_wp2_with (at_builtin; refine wpList_append_row rfl (.tmp 58) (.tmp 60) 23 rfl (w.heap.size + 1) 31 i0 (.agg #[.int .i64 0, .string ByteArray.empty, .int .i64 0, .int .i64 0]) 4 40 Tryd.underlying23 hinfo hz0 hz1 hz2 rfl (by decide) _ 0 [] rfl ((hown2.alloc _).alloc _) _ _ 1 (_) rfl (row_alloc3 _ _ hs2 _ _ 4 _ rfl) (by intro u hu; simp only [List.mem_cons, List.not_mem_nil, or_false] at hu; rcases hu with rfl | rfl | rfl | rfl <;> rfl) (by unfold maxLen; omega) (by omega) (by simp [World.setCell]; omega) ?_; intro v3 w3 hown3 hgrow3)
                rw [← Hz.out] at hown3
                go_roundw
                case rel => exact ⟨j, none, ([⟨tk, ts, tn, tp⟩] : List Tok), h4, rfl, hown3, ((hb2.alloc (by rw [hs2]; omega) _).alloc (by simp [hs2]; omega) _).grown hgrow3 (by simp [World.setCell]; omega) (fun q hq => by have := (hown2.lt q hq).1; omega), ((hF2.alloc _).alloc _).other hgrow3 (fun he => by have := (hown2.lt _ he).1; omega), Lib.hid (.inl rfl), HN, by simp; omega⟩
                case measure => simp [intOf]; omega
            · have HN : Hid (tokS kwR numB s j none (acc ++ [nl p] ++ [⟨tk, ts, tn, tp⟩]) = tokS kwR numB s 0 none []) := by
                have h := HN.out
                simp only [withFeed, if_neg ha] at h
                exact Lib.hid h
              have hap : (0 : Int) < (acc.length : Int) := by omega
              have hap2 : decide (0 < acc.length) = true := by simp; omega
              clear ha
              obtain ⟨ao, c, rfl, hc1, hc2⟩ := (Row.of_owns hown).val
              rcases hz4 with rfl | rfl | rfl | rfl
              all_goals
                try have hs5 : (ts.toList == [10]) = false := beq_eq_false_iff_ne.2 (Hs5.out rfl)
                go_wp2_with fail
                refine Hp.out.mono ?_
                rintro e w1 ⟨rfl, hb1⟩
                have hF1 := hFd.below hb1
                have hl1 := hF1.lt
                obtain ⟨c0, c1, c2, c3, c4⟩ := hF1.yes
                have c40 := c4 0; have c41 := c4 1; have c42 := c4 2; have c43 := c4 3
                clear c4
                have hown1 := owns_below hown hb1
                clear Hp
                have hbel1 := hbel.trans (hb1.mono hsz)
                go_wp2_with (first | (at_builtin; refine wpList_append_row rfl (.tmp 53) (.tmp 55) 23 rfl (w.heap.size + 1) 31 i0 (.agg #[.int .i64 0, .string ByteArray.empty, .int .i64 0, .int .i64 0]) 4 40 Tryd.underlying23 hinfo hz0 hz1 hz2 rfl (by decide) _ acc.length (toksC acc) rfl ((hown1.alloc _).alloc _) _ _ 1 (_) rfl (row_alloc2 _ _ _ 4 _ rfl) (by intro u hu; simp only [List.mem_cons, List.not_mem_nil, or_false] at hu; rcases hu with rfl | rfl | rfl | rfl <;> rfl) (by unfold maxLen; omega) (by omega) (by simp; omega) ?_; intro v3 w3 hown3 hgrow3; (have hF3 := ((hF1.alloc _).alloc _).other hgrow3 (fun he => by have := (hown1.lt _ he).1; omega)); (have hT3 := (TkB.alloc (TkB.new w1 _ _ _ _) _).other hgrow3 (fun he => by have := (hown1.lt _ he).2; omega)); (have hb3 := ((hbel1.alloc (by omega) _).alloc (by simp; omega) _).grown hgrow3 (by simp; omega) (fun q hq => by have := (hown1.lt q hq).1; omega)); (clear hgrow3); (obtain ⟨d0, d1, d2, d3, d4⟩ := hF3.yes); (have d40 := d4 0); (have d41 := d4 1); (have d42 := d4 2); (have d43 := d4 3); (obtain ⟨e0, e1, e2, e3⟩ := hT3.cells); (have hl3 := hT3.lt); (clear d4 hF1 c0 c1 c2 c3 c40 c41 c42 c43); (have hb4 := set4_below (b := w.heap.size) (x0 := .int .i64 0) (x1 := .string ⟨#[]⟩) (x2 := .int .i64 0) (x3 := .int .i64 0) hb3 (Nat.le_refl _)); (have hown4 := set4_owns (b := w.heap.size) (x0 := .int .i64 0) (x1 := .string ⟨#[]⟩) (x2 := .int .i64 0) (x3 := .int .i64 0) hown3 (Nat.lt_succ_self _)); (have hs4 := set4_size w3 w.heap.size (.int .i64 0) (.string ⟨#[]⟩) (.int .i64 0) (.int .i64 0)); (have hF4 : FdH (set4 w3 w.heap.size (.int .i64 0) (.string ⟨#[]⟩) (.int .i64 0) (.int .i64 0)) w.heap.size none := hF3.set4 none); (have hne : w1.heap.size ≠ w.heap.size := (by omega)); (replace hb3 := Lib.hid hb3); (replace hF3 := Lib.hid hF3); (replace hT3 := Lib.hid hT3); (replace hb4 := Lib.hid hb4); (replace hF4 := Lib.hid hF4); (replace hown4 := Lib.hid hown4); (replace hown3 := Lib.hid hown3); (replace hs4 := Lib.hid hs4); (have hne2 : w.heap.size ≠ w1.heap.size := (by omega)); (have hl5 : w.heap.size < w3.heap.size := (by omega)); clear hbel1 hown1 hbel hown hb1) | (at_builtin; refine wpList_append_row rfl (.tmp 58) (.tmp 60) 23 rfl (w.heap.size + 1) 31 i0 (.agg #[.int .i64 0, .string ByteArray.empty, .int .i64 0, .int .i64 0]) 4 40 Tryd.underlying23 hinfo hz0 hz1 hz2 rfl (by decide) _ (acc.length + 1) _ rfl (hown4.out.alloc _) _ _ 1 (_) rfl (row_cells3 _ _ hs4.out _ 4 _ rfl) (by intro u hu; simp only [List.mem_cons, List.not_mem_nil, or_false] at hu; rcases hu with rfl | rfl | rfl | rfl <;> rfl) (by unfold maxLen; omega) (by omega) (by simp [World.setCell]; omega) ?_; intro v5 w5 hown5 hgrow5))
                go_roundw
                case rel => exact ⟨j, none, acc ++ [nl p] ++ [⟨tk, ts, tn, tp⟩], h4, rfl, by rw [toksC_snoc, toksC_snoc, List.length_append, List.length_append]; simp only [tokC, nl]; rw [Hz.out]; exact hown5, (hb4.out.alloc (by rw [hs4.out]; omega) _).grown hgrow5 (by rw [World.size_alloc, hs4.out]; omega) (fun q hq => by have := (hown4.out.lt q hq).1; omega), (hF4.out.alloc _).other hgrow5 (fun he => by have := (hown4.out.lt _ he).1; omega), Lib.hid (.inl rfl), HN, by simp; omega⟩
                case measure => simp [intOf]; omega
        · rw [h1] at hp
          have HN := Lib.hid (HV.out.trans (Hst.out.symm.trans h2))
          have Hp := Lib.hid hp
          clear hp h1 h2
          go_wp2_with fail
          refine Hp.out.mono ?_
          rintro e w1 ⟨rfl, hb1⟩
          go_wp2_with fail
          go_ret3
          rw [HN.out]
          exact ⟨_, rfl, World.ownsRow_nil _ _ _ _, (hbel.trans (hb1.mono hsz)).alloc (by have := hb1.size; omega) _⟩
      · obtain rfl : k = s.size := by omega
        have HN := Lib.hid (HV.out.trans (Hst.out.symm.trans (tokS_end kwR numB s s.size fd acc (Nat.le_refl _))))
        go_wp2_with fail
        go_ret3
        rw [HN.out]
        exact ⟨_, rfl, owns_mono hown (by omega), hbel⟩
end Go.Proofs.YtapmjkgndojdfaaDoor
