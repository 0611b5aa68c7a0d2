/-
  The walk of package token's reader of one piece: its loops, each from its label.
-/
import Derived.Test.YtapmjkgndojdfaaDoorTokQ
namespace Go.Proofs.YtapmjkgndojdfaaDoor
open Go.RowKit LX
set_option linter.unusedVariables false

noncomputable def pieceT (s : ByteArray) (i : Nat) : Value :=
  if byteAt s i = 10 then .tuple #[tokV (some (nl i)), .int .i64 (runEnd isGap s (i + 1) : Nat), .int .i64 0]
  else if isSpace (byteAt s i) then .tuple #[tokV none, .int .i64 (runEnd isSpace s (i + 1) : Nat), .int .i64 0]
  else match oneT kwR numB s i with
    | some (t, j) => .tuple #[tokV (some t), .int .i64 (j : Nat), .int .i64 0]
    | none => .tuple #[tokV none, .int .i64 i, .int .i64 5]
def keptT (s : ByteArray) (i l m : Nat) : Prop := match l with
  | 0 => byteAt s i = 10 ∧ runEnd isGap s m = runEnd isGap s (i + 1)
  | 1 => byteAt s i ≠ 10 ∧ isSpace (byteAt s i) = true ∧ runEnd isSpace s m = runEnd isSpace s (i + 1)
  | 2 => byteAt s i ≠ 10 ∧ isSpace (byteAt s i) = false ∧ isLetter (byteAt s i) = true ∧ runEnd isLets s m = runEnd isLets s (i + 1)
  | 3 => byteAt s i ≠ 10 ∧ isSpace (byteAt s i) = false ∧ isLetter (byteAt s i) = false ∧ isDigit (byteAt s i) = true ∧ runEnd isDigit s m = runEnd isDigit s (i + 1)
  | 4 => byteAt s i ≠ 10 ∧ isSpace (byteAt s i) = false ∧ isLetter (byteAt s i) = false ∧ isDigit (byteAt s i) = false ∧ m = i + 1
  | _ => False
def keptP (l : Nat) : Nat → Bool := match l with | 0 => isGap | 1 => isSpace | 2 => isLets | _ => isDigit
theorem keptT_next (s : ByteArray) (i l m : Nat) (hl : l < 4) (h : keptT s i l m) (hm : m < s.size) (hp : keptP l (byteAt s m) = true) : keptT s i l (m + 1) := by
  match l, hl, h, hp with
  | 0, _, h, hp => exact ⟨h.1, by rw [← h.2]; exact (runEnd_step _ s m hm hp).symm⟩
  | 1, _, h, hp => exact ⟨h.1, h.2.1, by rw [← h.2.2]; exact (runEnd_step _ s m hm hp).symm⟩
  | 2, _, h, hp => exact ⟨h.1, h.2.1, h.2.2.1, by rw [← h.2.2.2]; exact (runEnd_step _ s m hm hp).symm⟩
  | 3, _, h, hp => exact ⟨h.1, h.2.1, h.2.2.1, h.2.2.2.1, by rw [← h.2.2.2.2]; exact (runEnd_step _ s m hm hp).symm⟩
theorem keptT_end (s : ByteArray) (i l m : Nat) (hl : l < 4) (h : keptT s i l m) (he : m < s.size → keptP l (byteAt s m) = false) : runEnd (keptP l) s (i + 1) = m := by
  have key : ∀ p : Nat → Bool, runEnd p s m = runEnd p s (i + 1) → (m < s.size → p (byteAt s m) = false) → runEnd p s (i + 1) = m := by
    intro p h1 h2
    rw [← h1]
    rcases Nat.lt_or_ge m s.size with h3 | h3
    · exact runEnd_stop p s m h3 (h2 h3)
    · exact runEnd_end p s m h3
  match l, hl, h, he with
  | 0, _, h, he => exact key _ h.2 he
  | 1, _, h, he => exact key _ h.2.2 he
  | 2, _, h, he => exact key _ h.2.2.2 he
  | 3, _, h, he => exact key _ h.2.2.2.2 he
theorem pieceT_0 (s : ByteArray) (i m : Nat) (h : keptT s i 0 m) (he : m < s.size → isGap (byteAt s m) = false) : pieceT s i = .tuple #[.agg #[.int .i64 5, .string ⟨#[10]⟩, .int .i64 0, .int .i64 i], .int .i64 m, .int .i64 0] := by
  have hk := keptT_end s i 0 m (by omega) h he
  unfold pieceT; rw [if_pos h.1, show runEnd isGap s (i + 1) = m from hk]; rfl
theorem pieceT_1 (s : ByteArray) (i m : Nat) (h : keptT s i 1 m) (he : m < s.size → isSpace (byteAt s m) = false) : pieceT s i = .tuple #[.agg #[.int .i64 0, .string ⟨#[]⟩, .int .i64 0, .int .i64 0], .int .i64 m, .int .i64 0] := by
  have hk := keptT_end s i 1 m (by omega) h he
  unfold pieceT; rw [if_neg h.1, if_pos h.2.1, show runEnd isSpace s (i + 1) = m from hk]; rfl
theorem pieceT_2 (s : ByteArray) (i m : Nat) (hi : i < m) (hm : m ≤ s.size) (h : keptT s i 2 m) (he : m < s.size → isLets (byteAt s m) = false) : pieceT s i = namedTV (s.extract i m) i m := by
  have hk := keptT_end s i 2 m (by omega) h he
  unfold pieceT; rw [if_neg h.1, if_neg (by rw [h.2.1]; decide)]
  unfold oneT; simp only
  rw [if_pos h.2.2.1, show runEnd isLets s (i + 1) = m from hk]
  unfold namedTV
  rw [size_extract s i m (by omega) hm]
  by_cases h20 : m - i ≤ 40
  · rw [if_pos h20, if_pos h20]
  · rw [if_neg h20, if_neg h20]
theorem pieceT_3 (s : ByteArray) (i m : Nat) (hi : i < m) (hm : m ≤ s.size) (h : keptT s i 3 m) (he : m < s.size → isDigit (byteAt s m) = false) : pieceT s i = (match numB (s.extract i m) with
    | some n => .tuple #[.agg #[.int .i64 4, .string ⟨#[]⟩, .int .i64 (n : Nat), .int .i64 i], .int .i64 m, .int .i64 0]
    | none => .tuple #[.agg #[.int .i64 0, .string ⟨#[]⟩, .int .i64 0, .int .i64 0], .int .i64 i, .int .i64 5]) := by
  have hk := keptT_end s i 3 m (by omega) h he
  unfold pieceT; rw [if_neg h.1, if_neg (by rw [h.2.1]; decide)]
  unfold oneT; simp only
  rw [if_neg (by rw [h.2.2.1]; decide), if_pos h.2.2.2.1, show runEnd isDigit s (i + 1) = m from hk]
  cases numB (s.extract i m) <;> rfl
theorem pieceT_4 (s : ByteArray) (i m : Nat) (h : keptT s i 4 m) : pieceT s i = (if signLen s i = 0 then .tuple #[.agg #[.int .i64 0, .string ⟨#[]⟩, .int .i64 0, .int .i64 0], .int .i64 i, .int .i64 5] else .tuple #[.agg #[.int .i64 5, .string (s.extract i (i + signLen s i)), .int .i64 0, .int .i64 i], .int .i64 (i + signLen s i : Nat), .int .i64 0]) := by
  unfold pieceT; rw [if_neg h.1, if_neg (by rw [h.2.1]; decide)]
  unfold oneT; simp only
  rw [if_neg (by rw [h.2.2.1]; decide), if_neg (by rw [h.2.2.2.1]; decide)]
  by_cases hz : signLen s i = 0
  · rw [if_pos hz, if_pos hz]; rfl
  · rw [if_neg hz, if_neg hz]; rfl
theorem bcell {W w1 : World} (hb : Below W.heap.size W w1) : (∀ b o, b < W.heap.size → w1.cell? ⟨b, o, none⟩ = W.cell? ⟨b, o, none⟩) ∧ (∀ b o, b < W.heap.size → w1.frozen? ⟨b, o, none⟩ = W.frozen? ⟨b, o, none⟩) :=
  ⟨fun b o h => hb.cell (p := ⟨b, o, none⟩) h, fun b o h => hb.frozen (p := ⟨b, o, none⟩) h⟩
theorem byteAt_get (s : ByteArray) (i : Nat) (h : i < s.size) : byteAt s i = s[i].toNat := by unfold byteAt; rw [nget s i h]
theorem byte_le (b : UInt8) : b.toNat ≤ 255 := by have := b.toNat_lt; omega
theorem lets_not (c : Nat) (h1 : isLetter c = false) (h2 : isDigit c = false) : isLets c = false := by unfold isLetter at h1; unfold isDigit at h2; unfold isLets; simp at *; omega
theorem lets_digit (c : Nat) (h2 : isDigit c = true) : isLets c = true := by unfold isDigit at h2; unfold isLets; simp at *; omega
theorem gap_not (c : Nat) (h1 : isSpace c = false) (h2 : c ≠ 10) : isGap c = false := by unfold isSpace at h1; unfold isGap; simp at *; omega
theorem gap_space (c : Nat) (h2 : isSpace c = true) : isGap c = true := by unfold isSpace at h2; unfold isGap; simp at *; omega
theorem gap_feed (c : Nat) (h2 : c = 10) : isGap c = true := by subst h2; rfl
theorem namedT_shape (s : ByteArray) (i j : Nat) : ∃ (a : Int) (b : ByteArray) (c d x y : Int), namedTV s i j = .tuple #[.agg #[.int .i64 a, .string b, .int .i64 c, .int .i64 d], .int .i64 x, .int .i64 y] := by
  unfold namedTV
  split
  · exact ⟨_, _, _, _, _, _, rfl⟩
  · exact ⟨_, _, _, _, _, _, rfl⟩

theorem frame139 (a : Act) {v0 v1 v4 v5 v6 v7 : Value} (hd : a.defers = []) (hs : a.tmps.size = 139) (h0 : a.tmps[0]? = some v0) (h1 : a.tmps[1]? = some v1) (h4 : a.tmps[4]? = some v4) (h5 : a.tmps[5]? = some v5) (h6 : a.tmps[6]? = some v6) (h7 : a.tmps[7]? = some v7) :
    ∃ u : Nat → Value, a = { tmps := #[v0, v1, u 2, u 3, v4, v5, v6, v7, u 8, u 9, u 10, u 11, u 12, u 13, u 14, u 15, u 16, u 17, u 18, u 19, u 20, u 21, u 22, u 23, u 24, u 25, u 26, u 27, u 28, u 29, u 30, u 31, u 32, u 33, u 34, u 35, u 36, u 37, u 38, u 39, u 40, u 41, u 42, u 43, u 44, u 45, u 46, u 47, u 48, u 49, u 50, u 51, u 52, u 53, u 54, u 55, u 56, u 57, u 58, u 59, u 60, u 61, u 62, u 63, u 64, u 65, u 66, u 67, u 68, u 69, u 70, u 71, u 72, u 73, u 74, u 75, u 76, u 77, u 78, u 79, u 80, u 81, u 82, u 83, u 84, u 85, u 86, u 87, u 88, u 89, u 90, u 91, u 92, u 93, u 94, u 95, u 96, u 97, u 98, u 99, u 100, u 101, u 102, u 103, u 104, u 105, u 106, u 107, u 108, u 109, u 110, u 111, u 112, u 113, u 114, u 115, u 116, u 117, u 118, u 119, u 120, u 121, u 122, u 123, u 124, u 125, u 126, u 127, u 128, u 129, u 130, u 131, u 132, u 133, u 134, u 135, u 136, u 137, u 138], defers := [] } := by
  obtain ⟨t, d⟩ := a
  simp only at hd hs h0 h1 h4 h5 h6 h7
  subst hd
  refine ⟨fun k => t.getD k undef, ?_⟩
  have hg : ∀ k v, t[k]? = some v → t.getD k undef = v := fun k v h => by rw [Array.getD_eq_getD_getElem?, h]; rfl
  have hl : t.toList = (List.range 139).map fun k => t.getD k undef := by
    apply List.ext_getElem
    · simpa using hs
    · intro k h1 h2
      have hk : k < t.size := by simpa using h1
      rw [List.getElem_map, List.getElem_range, Array.getElem_toList, hg k t[k] (Array.getElem?_eq_getElem hk)]
  have ht : t = ((List.range 139).map fun k => t.getD k undef).toArray := by rw [← hl]
  have e : ((List.range 139).map fun k => t.getD k undef) = [t.getD 0 undef, t.getD 1 undef, t.getD 2 undef, t.getD 3 undef, t.getD 4 undef, t.getD 5 undef, t.getD 6 undef, t.getD 7 undef, t.getD 8 undef, t.getD 9 undef, t.getD 10 undef, t.getD 11 undef, t.getD 12 undef, t.getD 13 undef, t.getD 14 undef, t.getD 15 undef, t.getD 16 undef, t.getD 17 undef, t.getD 18 undef, t.getD 19 undef, t.getD 20 undef, t.getD 21 undef, t.getD 22 undef, t.getD 23 undef, t.getD 24 undef, t.getD 25 undef, t.getD 26 undef, t.getD 27 undef, t.getD 28 undef, t.getD 29 undef, t.getD 30 undef, t.getD 31 undef, t.getD 32 undef, t.getD 33 undef, t.getD 34 undef, t.getD 35 undef, t.getD 36 undef, t.getD 37 undef, t.getD 38 undef, t.getD 39 undef, t.getD 40 undef, t.getD 41 undef, t.getD 42 undef, t.getD 43 undef, t.getD 44 undef, t.getD 45 undef, t.getD 46 undef, t.getD 47 undef, t.getD 48 undef, t.getD 49 undef, t.getD 50 undef, t.getD 51 undef, t.getD 52 undef, t.getD 53 undef, t.getD 54 undef, t.getD 55 undef, t.getD 56 undef, t.getD 57 undef, t.getD 58 undef, t.getD 59 undef, t.getD 60 undef, t.getD 61 undef, t.getD 62 undef, t.getD 63 undef, t.getD 64 undef, t.getD 65 undef, t.getD 66 undef, t.getD 67 undef, t.getD 68 undef, t.getD 69 undef, t.getD 70 undef, t.getD 71 undef, t.getD 72 undef, t.getD 73 undef, t.getD 74 undef, t.getD 75 undef, t.getD 76 undef, t.getD 77 undef, t.getD 78 undef, t.getD 79 undef, t.getD 80 undef, t.getD 81 undef, t.getD 82 undef, t.getD 83 undef, t.getD 84 undef, t.getD 85 undef, t.getD 86 undef, t.getD 87 undef, t.getD 88 undef, t.getD 89 undef, t.getD 90 undef, t.getD 91 undef, t.getD 92 undef, t.getD 93 undef, t.getD 94 undef, t.getD 95 undef, t.getD 96 undef, t.getD 97 undef, t.getD 98 undef, t.getD 99 undef, t.getD 100 undef, t.getD 101 undef, t.getD 102 undef, t.getD 103 undef, t.getD 104 undef, t.getD 105 undef, t.getD 106 undef, t.getD 107 undef, t.getD 108 undef, t.getD 109 undef, t.getD 110 undef, t.getD 111 undef, t.getD 112 undef, t.getD 113 undef, t.getD 114 undef, t.getD 115 undef, t.getD 116 undef, t.getD 117 undef, t.getD 118 undef, t.getD 119 undef, t.getD 120 undef, t.getD 121 undef, t.getD 122 undef, t.getD 123 undef, t.getD 124 undef, t.getD 125 undef, t.getD 126 undef, t.getD 127 undef, t.getD 128 undef, t.getD 129 undef, t.getD 130 undef, t.getD 131 undef, t.getD 132 undef, t.getD 133 undef, t.getD 134 undef, t.getD 135 undef, t.getD 136 undef, t.getD 137 undef, t.getD 138 undef] := rfl
  rw [e, hg 0 _ h0, hg 1 _ h1, hg 4 _ h4, hg 5 _ h5, hg 6 _ h6, hg 7 _ h7] at ht
  exact congrArg (fun t => ({ tmps := t, defers := [] } : Act)) ht
def pieceJT (s : ByteArray) (i : Nat) (w : World) (l : Nat) (a : Act) (w' : World) : Prop := w' = (w.alloc (.cells #[.int .i64 0, .string ⟨#[]⟩, .int .i64 0, .int .i64 0] 31)) ∧ ∃ (m : Nat) (z : Int), z = m ∧ i + 1 ≤ m ∧ m ≤ s.size ∧ Hid (keptT s i l m) ∧ a.defers = [] ∧ a.tmps.size = 139 ∧
    a.tmps[0]? = some (.string s) ∧ a.tmps[1]? = some (.int .i64 i) ∧ a.tmps[4]? = some (.pointer (some ⟨w.heap.size, 0, none⟩)) ∧ a.tmps[5]? = some (.int .i64 0) ∧ a.tmps[6]? = some (.int .i64 0) ∧ a.tmps[7]? = some (.int .i64 z)
theorem pieceJT_lt (s : ByteArray) (i : Nat) (w : World) (l : Nat) (a : Act) (w' : World) (h : pieceJT s i w l a w') : l < 5 := by
  obtain ⟨_, m, z, _, _, _, h, _⟩ := h
  match l, h.out with
  | 0, _ => omega
  | 1, _ => omega
  | 2, _ => omega
  | 3, _ => omega
  | 4, _ => omega
set_option maxRecDepth 100000 in
set_option maxHeartbeats 8000000 in
theorem pieceT_any (s : ByteArray) (i : Nat) (w : World) (hi : i < s.size) (hs : s.size ≤ maxLen) (hkw : StrsIs w 1 resT) (hsg : StrsIs w 0 sigT) (htab : Tab10 w) :
    Calls Tryd.prog 13 #[.string s, .int .i64 i] w fun e w' => e = .returned (pieceT s i) ∧ Below w.heap.size w w' := by
  have hs' := hs
  unfold maxLen at hs'
  have hb0 : Below w.heap.size w (w.alloc (.cells #[.int .i64 0, .string ⟨#[]⟩, .int .i64 0, .int .i64 0] 31)) := (Below.refl _ w).alloc (Nat.le_refl _) _
  have Hkw := Lib.hid (hkw.below hb0 (Nat.le_refl _)); have Hsg := Lib.hid (hsg.below hb0 (Nat.le_refl _)); have Htab := Lib.hid (htab.below hb0 (Nat.le_refl _))
  clear hkw hsg htab
  go_enter Tryd.func13, Tryd.ntmps13
  go_wp2_with fail
  refine wp_scope_five (pieceJT s i w) (fun a' _ => s.size - (intOf (a'.tmps.getD 7 undef)).toNat) rfl rfl rfl rfl rfl (pieceJT_lt s i w) ?_ ?_ ?_ ?_ ?_ ?_
  · have h255 := byte_le s[i]
    have hc := byteAt_get s i hi
    have hB : ∀ w', Calls Tryd.prog 17 #[.int .u8 (s[i].toNat : Nat)] w' fun e w2 => e = .returned (.bool (isSpace (byteAt s i))) ∧ w' = w2 := fun w' => by rw [hc]; exact tBlank_any _ w' h255
    have hL : ∀ w', Calls Tryd.prog 18 #[.int .u8 (s[i].toNat : Nat)] w' fun e w2 => e = .returned (.bool (isLetter (byteAt s i))) ∧ w' = w2 := fun w' => by rw [hc]; exact tLetter_any _ w' h255
    have hD : ∀ w', Calls Tryd.prog 19 #[.int .u8 (s[i].toNat : Nat)] w' fun e w2 => e = .returned (.bool (isDigit (byteAt s i))) ∧ w' = w2 := fun w' => by rw [hc]; exact tDigit_any _ w' h255
    have H10 : ((s[i].toNat : Int) == 10) = decide (byteAt s i = 10) := by rw [hc]; exact eqI _ 10
    clear hc
    cases h10 : decide (byteAt s i = 10)
    · rw [h10] at H10
      have n10 := of_decide_eq_false h10
      cases hb0 : isSpace (byteAt s i)
      · rw [hb0] at hB
        cases hb1 : isLetter (byteAt s i)
        · rw [hb1] at hL
          cases hb2 : isDigit (byteAt s i)
          · rw [hb2] at hD
            have HK : Hid (keptT s i 4 (i + 1)) := ⟨n10, hb0, hb1, hb2, rfl⟩
            clear hb0 n10 h10 hb1 hb2
            have HB := Lib.hid hB; have HL := Lib.hid hL; have HD := Lib.hid hD
            clear hB hL hD
            go_wp2_with (first | (go_at_call 17; refine (HB.out _).mono ?_; rintro e w' ⟨rfl, rfl⟩) | (go_at_call 18; refine (HL.out _).mono ?_; rintro e w' ⟨rfl, rfl⟩) | (go_at_call 19; refine (HD.out _).mono ?_; rintro e w' ⟨rfl, rfl⟩))
            go_step3
            exact ⟨rfl, i + 1, _, by first | rfl | omega | (push_cast; omega), by omega, by omega, Lib.hid HK.out, rfl, rfl, rfl, rfl, rfl, rfl, rfl, rfl⟩
          · rw [hb2] at hD
            have HK : Hid (keptT s i 3 (i + 1)) := ⟨n10, hb0, hb1, hb2, rfl⟩
            clear hb0 n10 h10 hb1 hb2
            have HB := Lib.hid hB; have HL := Lib.hid hL; have HD := Lib.hid hD
            clear hB hL hD
            go_wp2_with (first | (go_at_call 17; refine (HB.out _).mono ?_; rintro e w' ⟨rfl, rfl⟩) | (go_at_call 18; refine (HL.out _).mono ?_; rintro e w' ⟨rfl, rfl⟩) | (go_at_call 19; refine (HD.out _).mono ?_; rintro e w' ⟨rfl, rfl⟩))
            go_step3
            exact ⟨rfl, i + 1, _, by first | rfl | omega | (push_cast; omega), by omega, by omega, Lib.hid HK.out, rfl, rfl, rfl, rfl, rfl, rfl, rfl, rfl⟩
        · rw [hb1] at hL
          have HK : Hid (keptT s i 2 (i + 1)) := ⟨n10, hb0, hb1, rfl⟩
          clear hb0 n10 h10 hb1
          have HB := Lib.hid hB; have HL := Lib.hid hL; have HD := Lib.hid hD
          clear hB hL hD
          go_wp2_with (first | (go_at_call 17; refine (HB.out _).mono ?_; rintro e w' ⟨rfl, rfl⟩) | (go_at_call 18; refine (HL.out _).mono ?_; rintro e w' ⟨rfl, rfl⟩) | (go_at_call 19; refine (HD.out _).mono ?_; rintro e w' ⟨rfl, rfl⟩))
          go_step3
          exact ⟨rfl, i + 1, _, by first | rfl | omega | (push_cast; omega), by omega, by omega, Lib.hid HK.out, rfl, rfl, rfl, rfl, rfl, rfl, rfl, rfl⟩
      · rw [hb0] at hB
        have HK : Hid (keptT s i 1 (i + 1)) := ⟨n10, hb0, rfl⟩
        clear hb0 n10 h10
        have HB := Lib.hid hB; have HL := Lib.hid hL; have HD := Lib.hid hD
        clear hB hL hD
        go_wp2_with (first | (go_at_call 17; refine (HB.out _).mono ?_; rintro e w' ⟨rfl, rfl⟩) | (go_at_call 18; refine (HL.out _).mono ?_; rintro e w' ⟨rfl, rfl⟩) | (go_at_call 19; refine (HD.out _).mono ?_; rintro e w' ⟨rfl, rfl⟩))
        go_step3
        exact ⟨rfl, i + 1, _, by first | rfl | omega | (push_cast; omega), by omega, by omega, Lib.hid HK.out, rfl, rfl, rfl, rfl, rfl, rfl, rfl, rfl⟩
    · rw [h10] at H10
      have HK : Hid (keptT s i 0 (i + 1)) := ⟨of_decide_eq_true h10, rfl⟩
      clear h10
      have HB := Lib.hid hB; have HL := Lib.hid hL; have HD := Lib.hid hD
      clear hB hL hD
      go_wp2_with (first | (go_at_call 17; refine (HB.out _).mono ?_; rintro e w' ⟨rfl, rfl⟩) | (go_at_call 18; refine (HL.out _).mono ?_; rintro e w' ⟨rfl, rfl⟩) | (go_at_call 19; refine (HD.out _).mono ?_; rintro e w' ⟨rfl, rfl⟩))
      go_step3
      exact ⟨rfl, i + 1, _, by first | rfl | omega | (push_cast; omega), by omega, by omega, Lib.hid HK.out, rfl, rfl, rfl, rfl, rfl, rfl, rfl, rfl⟩
  · rintro a' w' ⟨rfl, m, z, hz, h1, h2, hk, hd, hsz, f0, f1, f4, f5, f6, f7⟩
    obtain ⟨u, rfl⟩ := frame139 a' hd hsz f0 f1 f4 f5 f6 f7
    subst hz
    clear hd hsz f0 f1 f4 f5 f6 f7
    have hm63 : m ≤ 9223372036854775807 := by omega
    by_cases hlt : m < s.size
    · have h255 := byte_le s[m]
      have hc := byteAt_get s m hlt
      have hB : ∀ w', Calls Tryd.prog 17 #[.int .u8 (s[m].toNat : Nat)] w' fun e w2 => e = .returned (.bool (isSpace (byteAt s m))) ∧ w' = w2 := fun w' => by rw [hc]; exact tBlank_any _ w' h255
      have H10 : ((s[m].toNat : Int) == 10) = decide (byteAt s m = 10) := by rw [hc]; exact eqI _ 10
      cases hb : isSpace (byteAt s m)
      · rw [hb] at hB
        cases h10 : decide (byteAt s m = 10)
        · rw [h10] at H10
          have hg := gap_not _ hb (of_decide_eq_false h10)
          have HV := Lib.hid (pieceT_0 s i m hk.out fun _ => hg)
          have HB := Lib.hid hB
          clear hB hb hc hk h10 hg
          go_wp2_with (go_at_call 17; refine (HB.out _).mono ?_; rintro e w' ⟨rfl, rfl⟩)
          simp only [Exit.jumps]
          exact bodyPost_ret (v := .tuple #[.agg #[.int .i64 5, .string ⟨#[10]⟩, .int .i64 0, .int .i64 i], .int .i64 m, .int .i64 0]) (by simp [results, Tryd.results13, go_sem]) rfl ⟨by rw [HV.out], (Below.refl _ _).alloc (Nat.le_refl _) _⟩
        · rw [h10] at H10
          have HN := Lib.hid (keptT_next s i 0 m (by omega) hk.out hlt (gap_feed _ (of_decide_eq_true h10)))
          have HB := Lib.hid hB
          clear hB hb hc hk h10
          go_wp2_with (go_at_call 17; refine (HB.out _).mono ?_; rintro e w' ⟨rfl, rfl⟩)
          go_step3
          exact ⟨⟨rfl, m + 1, _, by first | rfl | omega | (push_cast; omega), by omega, by omega, Lib.hid HN.out, rfl, rfl, rfl, rfl, rfl, rfl, rfl, rfl⟩, by simp [intOf]; omega⟩
      · rw [hb] at hB
        have HN := Lib.hid (keptT_next s i 0 m (by omega) hk.out hlt (gap_space _ hb))
        have HB := Lib.hid hB
        clear hB hb hc hk H10
        go_wp2_with (go_at_call 17; refine (HB.out _).mono ?_; rintro e w' ⟨rfl, rfl⟩)
        go_step3
        exact ⟨⟨rfl, m + 1, _, by first | rfl | omega | (push_cast; omega), by omega, by omega, Lib.hid HN.out, rfl, rfl, rfl, rfl, rfl, rfl, rfl, rfl⟩, by simp [intOf]; omega⟩
    · have HV := Lib.hid (pieceT_0 s i m hk.out fun h => absurd h hlt)
      have hge : (s.size : Int) ≤ m := by omega
      clear hk
      go_wp2_with fail
      simp only [Exit.jumps]
      exact bodyPost_ret (v := .tuple #[.agg #[.int .i64 5, .string ⟨#[10]⟩, .int .i64 0, .int .i64 i], .int .i64 m, .int .i64 0]) (by simp [results, Tryd.results13, go_sem]) rfl ⟨by rw [HV.out], (Below.refl _ _).alloc (Nat.le_refl _) _⟩
  · rintro a' w' ⟨rfl, m, z, hz, h1, h2, hk, hd, hsz, f0, f1, f4, f5, f6, f7⟩
    obtain ⟨u, rfl⟩ := frame139 a' hd hsz f0 f1 f4 f5 f6 f7
    subst hz
    clear hd hsz f0 f1 f4 f5 f6 f7
    have hm63 : m ≤ 9223372036854775807 := by omega
    by_cases hlt : m < s.size
    · have h255 := byte_le s[m]
      have hc := byteAt_get s m hlt
      have hB : ∀ w', Calls Tryd.prog 17 #[.int .u8 (s[m].toNat : Nat)] w' fun e w2 => e = .returned (.bool (isSpace (byteAt s m))) ∧ w' = w2 := fun w' => by rw [hc]; exact tBlank_any _ w' h255
      cases hb : isSpace (byteAt s m)
      · rw [hb] at hB
        have HV := Lib.hid (pieceT_1 s i m hk.out fun _ => hb)
        have HB := Lib.hid hB
        clear hB hb hc hk
        go_wp2_with (go_at_call 17; refine (HB.out _).mono ?_; rintro e w' ⟨rfl, rfl⟩)
        simp only [Exit.jumps]
        exact bodyPost_ret (v := .tuple #[.agg #[.int .i64 0, .string ⟨#[]⟩, .int .i64 0, .int .i64 0], .int .i64 m, .int .i64 0]) (by simp [results, Tryd.results13, go_sem]) rfl ⟨by rw [HV.out], (Below.refl _ _).alloc (Nat.le_refl _) _⟩
      · rw [hb] at hB
        have HN := Lib.hid (keptT_next s i 1 m (by omega) hk.out hlt hb)
        have HB := Lib.hid hB
        clear hB hb hc hk
        go_wp2_with (go_at_call 17; refine (HB.out _).mono ?_; rintro e w' ⟨rfl, rfl⟩)
        go_step3
        exact ⟨⟨rfl, m + 1, _, by first | rfl | omega | (push_cast; omega), by omega, by omega, Lib.hid HN.out, rfl, rfl, rfl, rfl, rfl, rfl, rfl, rfl⟩, by simp [intOf]; omega⟩
    · have HV := Lib.hid (pieceT_1 s i m hk.out fun h => absurd h hlt)
      have hge : (s.size : Int) ≤ m := by omega
      clear hk
      go_wp2_with fail
      simp only [Exit.jumps]
      exact bodyPost_ret (v := .tuple #[.agg #[.int .i64 0, .string ⟨#[]⟩, .int .i64 0, .int .i64 0], .int .i64 m, .int .i64 0]) (by simp [results, Tryd.results13, go_sem]) rfl ⟨by rw [HV.out], (Below.refl _ _).alloc (Nat.le_refl _) _⟩
  · rintro a' w' ⟨rfl, m, z, hz, h1, h2, hk, hd, hsz, f0, f1, f4, f5, f6, f7⟩
    obtain ⟨u, rfl⟩ := frame139 a' hd hsz f0 f1 f4 f5 f6 f7
    subst hz
    clear hd hsz f0 f1 f4 f5 f6 f7
    have hm63 : m ≤ 9223372036854775807 := by omega
    by_cases hlt : m < s.size
    · have h255 := byte_le s[m]
      have hc := byteAt_get s m hlt
      have hL : ∀ w', Calls Tryd.prog 18 #[.int .u8 (s[m].toNat : Nat)] w' fun e w2 => e = .returned (.bool (isLetter (byteAt s m))) ∧ w' = w2 := fun w' => by rw [hc]; exact tLetter_any _ w' h255
      have hD : ∀ w', Calls Tryd.prog 19 #[.int .u8 (s[m].toNat : Nat)] w' fun e w2 => e = .returned (.bool (isDigit (byteAt s m))) ∧ w' = w2 := fun w' => by rw [hc]; exact tDigit_any _ w' h255
      cases hb : isLetter (byteAt s m)
      · rw [hb] at hL
        cases hb2 : isDigit (byteAt s m)
        · rw [hb2] at hD
          have hw := lets_not _ hb hb2
          have HL := Lib.hid hL; have HD := Lib.hid hD
          have HV := Lib.hid (pieceT_2 s i m (by omega) h2 hk.out (fun _ => hw))
          have hext : (s.extract i m).size ≤ maxLen := by rw [size_extract s i m (by omega) h2]; unfold maxLen; omega
          obtain ⟨ka, kb, kc, kd, kx, ky, hshape⟩ := namedT_shape (s.extract i m) i m
          have hn := tNamed_any (s.extract i m) i m _ hext (by omega) hm63 Hkw.out
          rw [hshape] at hn HV
          have HN := Lib.hid hn
          clear hn hshape hk hext hL hD hb hb2 hc hw
          go_wp2_with (first | (go_at_call 18; refine (HL.out _).mono ?_; rintro e w' ⟨rfl, rfl⟩) | (go_at_call 19; refine (HD.out _).mono ?_; rintro e w' ⟨rfl, rfl⟩))
          refine HN.out.mono ?_
          rintro e w1 ⟨rfl, hb1⟩
          obtain ⟨hcell, hfroz⟩ := bcell hb1
          have hsz1 := hb1.size
          go_wp2_with fail
          simp only [Exit.jumps]
          exact bodyPost_ret (v := .tuple #[.agg #[.int .i64 ka, .string kb, .int .i64 kc, .int .i64 kd], .int .i64 kx, .int .i64 ky]) (by simp [results, Tryd.results13, go_sem, hcell]) rfl ⟨by rw [HV.out], ((((hb0.trans (hb1.mono (by simp))).setCell (Nat.le_refl _) _).setCell (Nat.le_refl _) _).setCell (Nat.le_refl _) _).setCell (Nat.le_refl _) _⟩
        · rw [hb2] at hD
          have HN := Lib.hid (keptT_next s i 2 m (by omega) hk.out hlt (lets_digit _ hb2))
          have HL := Lib.hid hL; have HD := Lib.hid hD
          clear hL hD hb hb2 hc hk
          go_wp2_with (first | (go_at_call 18; refine (HL.out _).mono ?_; rintro e w' ⟨rfl, rfl⟩) | (go_at_call 19; refine (HD.out _).mono ?_; rintro e w' ⟨rfl, rfl⟩))
          go_step3
          exact ⟨⟨rfl, m + 1, _, by first | rfl | omega | (push_cast; omega), by omega, by omega, Lib.hid HN.out, rfl, rfl, rfl, rfl, rfl, rfl, rfl, rfl⟩, by simp [intOf]; omega⟩
      · rw [hb] at hL
        have HN := Lib.hid (keptT_next s i 2 m (by omega) hk.out hlt (letter_lets _ hb))
        have HL := Lib.hid hL; have HD := Lib.hid hD
        clear hL hD hb hc hk
        go_wp2_with (first | (go_at_call 18; refine (HL.out _).mono ?_; rintro e w' ⟨rfl, rfl⟩) | (go_at_call 19; refine (HD.out _).mono ?_; rintro e w' ⟨rfl, rfl⟩))
        go_step3
        exact ⟨⟨rfl, m + 1, _, by first | rfl | omega | (push_cast; omega), by omega, by omega, Lib.hid HN.out, rfl, rfl, rfl, rfl, rfl, rfl, rfl, rfl⟩, by simp [intOf]; omega⟩
    · have hge : (s.size : Int) ≤ m := by omega
      have HV := Lib.hid (pieceT_2 s i m (by omega) h2 hk.out (fun h => absurd h hlt))
      have hext : (s.extract i m).size ≤ maxLen := by rw [size_extract s i m (by omega) h2]; unfold maxLen; omega
      obtain ⟨ka, kb, kc, kd, kx, ky, hshape⟩ := namedT_shape (s.extract i m) i m
      have hn := tNamed_any (s.extract i m) i m _ hext (by omega) hm63 Hkw.out
      rw [hshape] at hn HV
      have HN := Lib.hid hn
      clear hn hshape hk hext 
      go_wp2_with fail
      refine HN.out.mono ?_
      rintro e w1 ⟨rfl, hb1⟩
      obtain ⟨hcell, hfroz⟩ := bcell hb1
      have hsz1 := hb1.size
      go_wp2_with fail
      simp only [Exit.jumps]
      exact bodyPost_ret (v := .tuple #[.agg #[.int .i64 ka, .string kb, .int .i64 kc, .int .i64 kd], .int .i64 kx, .int .i64 ky]) (by simp [results, Tryd.results13, go_sem, hcell]) rfl ⟨by rw [HV.out], ((((hb0.trans (hb1.mono (by simp))).setCell (Nat.le_refl _) _).setCell (Nat.le_refl _) _).setCell (Nat.le_refl _) _).setCell (Nat.le_refl _) _⟩
  · rintro a' w' ⟨rfl, m, z, hz, h1, h2, hk, hd, hsz, f0, f1, f4, f5, f6, f7⟩
    obtain ⟨u, rfl⟩ := frame139 a' hd hsz f0 f1 f4 f5 f6 f7
    subst hz
    clear hd hsz f0 f1 f4 f5 f6 f7
    have hm63 : m ≤ 9223372036854775807 := by omega
    by_cases hlt : m < s.size
    · have h255 := byte_le s[m]
      have hc := byteAt_get s m hlt
      have hD : ∀ w', Calls Tryd.prog 19 #[.int .u8 (s[m].toNat : Nat)] w' fun e w2 => e = .returned (.bool (isDigit (byteAt s m))) ∧ w' = w2 := fun w' => by rw [hc]; exact tDigit_any _ w' h255
      cases hb : isDigit (byteAt s m)
      · rw [hb] at hD
        have HD := Lib.hid hD
        have HV0 := Lib.hid (pieceT_3 s i m (by omega) h2 hk.out (fun _ => hb))
        have hext : (s.extract i m).size ≤ maxLen := by rw [size_extract s i m (by omega) h2]; unfold maxLen; omega
        cases hn : numB (s.extract i m)
        · have HV := HV0.out
          rw [hn] at HV
          have HV := Lib.hid HV
          have HP := Lib.hid (digitParse_no (s.extract i m) _ hext (fun n h => by rw [numB_of h] at hn; cases hn) Htab.out)
          clear HV0 hn hk hext hD hb hc
          go_wp2_with (go_at_call 19; refine (HD.out _).mono ?_; rintro e w' ⟨rfl, rfl⟩)
          refine HP.out.mono ?_
          rintro e w1 ⟨rfl, hb1⟩
          obtain ⟨hcell, hfroz⟩ := bcell hb1
          have hsz1 := hb1.size
          go_wp2_with fail
          simp only [Exit.jumps]
          exact bodyPost_ret (v := .tuple #[.agg #[.int .i64 0, .string ⟨#[]⟩, .int .i64 0, .int .i64 0], .int .i64 i, .int .i64 5]) (by simp [results, Tryd.results13, go_sem, hcell]) rfl ⟨by rw [HV.out], ((((hb0.trans (hb1.mono (by simp))).setCell (Nat.le_refl _) _).setCell (Nat.le_refl _) _).setCell (Nat.le_refl _) _).setCell (Nat.le_refl _) _⟩
        · rename_i n
          have HV := HV0.out
          rw [hn] at HV
          have HV := Lib.hid HV
          have hIs := numB_some hn
          have hp : ∀ w', Tab10 w' → Calls Tryd.prog 21 #[.string (s.extract i m)] w' fun e w2 => e = .returned (.tuple #[.int .i64 (n : Nat), .int .i64 0]) ∧ Below w'.heap.size w' w2 := fun w' h => by rw [hIs.1]; exact digitParse_yes n w' hIs.2 h
          have HP := Lib.hid (hp _ Htab.out)
          clear HV0 hn hk hext hp hIs hD hb hc
          go_wp2_with (go_at_call 19; refine (HD.out _).mono ?_; rintro e w' ⟨rfl, rfl⟩)
          refine HP.out.mono ?_
          rintro e w1 ⟨rfl, hb1⟩
          obtain ⟨hcell, hfroz⟩ := bcell hb1
          have hsz1 := hb1.size
          go_wp2_with fail
          simp only [Exit.jumps]
          exact bodyPost_ret (v := .tuple #[.agg #[.int .i64 4, .string ⟨#[]⟩, .int .i64 (n : Nat), .int .i64 i], .int .i64 m, .int .i64 0]) (by simp [results, Tryd.results13, go_sem, hcell]) rfl ⟨by rw [HV.out], ((((hb0.trans (hb1.mono (by simp))).setCell (Nat.le_refl _) _).setCell (Nat.le_refl _) _).setCell (Nat.le_refl _) _).setCell (Nat.le_refl _) _⟩
      · rw [hb] at hD
        have HN := Lib.hid (keptT_next s i 3 m (by omega) hk.out hlt hb)
        have HD := Lib.hid hD
        clear hD hb hc hk
        go_wp2_with (go_at_call 19; refine (HD.out _).mono ?_; rintro e w' ⟨rfl, rfl⟩)
        go_step3
        exact ⟨⟨rfl, m + 1, _, by first | rfl | omega | (push_cast; omega), by omega, by omega, Lib.hid HN.out, rfl, rfl, rfl, rfl, rfl, rfl, rfl, rfl⟩, by simp [intOf]; omega⟩
    · have hge : (s.size : Int) ≤ m := by omega
      have HV0 := Lib.hid (pieceT_3 s i m (by omega) h2 hk.out (fun h => absurd h hlt))
      have hext : (s.extract i m).size ≤ maxLen := by rw [size_extract s i m (by omega) h2]; unfold maxLen; omega
      cases hn : numB (s.extract i m)
      · have HV := HV0.out
        rw [hn] at HV
        have HV := Lib.hid HV
        have HP := Lib.hid (digitParse_no (s.extract i m) _ hext (fun n h => by rw [numB_of h] at hn; cases hn) Htab.out)
        clear HV0 hn hk hext 
        go_wp2_with fail
        refine HP.out.mono ?_
        rintro e w1 ⟨rfl, hb1⟩
        obtain ⟨hcell, hfroz⟩ := bcell hb1
        have hsz1 := hb1.size
        go_wp2_with fail
        simp only [Exit.jumps]
        exact bodyPost_ret (v := .tuple #[.agg #[.int .i64 0, .string ⟨#[]⟩, .int .i64 0, .int .i64 0], .int .i64 i, .int .i64 5]) (by simp [results, Tryd.results13, go_sem, hcell]) rfl ⟨by rw [HV.out], ((((hb0.trans (hb1.mono (by simp))).setCell (Nat.le_refl _) _).setCell (Nat.le_refl _) _).setCell (Nat.le_refl _) _).setCell (Nat.le_refl _) _⟩
      · rename_i n
        have HV := HV0.out
        rw [hn] at HV
        have HV := Lib.hid HV
        have hIs := numB_some hn
        have hp : ∀ w', Tab10 w' → Calls Tryd.prog 21 #[.string (s.extract i m)] w' fun e w2 => e = .returned (.tuple #[.int .i64 (n : Nat), .int .i64 0]) ∧ Below w'.heap.size w' w2 := fun w' h => by rw [hIs.1]; exact digitParse_yes n w' hIs.2 h
        have HP := Lib.hid (hp _ Htab.out)
        clear HV0 hn hk hext hp hIs 
        go_wp2_with fail
        refine HP.out.mono ?_
        rintro e w1 ⟨rfl, hb1⟩
        obtain ⟨hcell, hfroz⟩ := bcell hb1
        have hsz1 := hb1.size
        go_wp2_with fail
        simp only [Exit.jumps]
        exact bodyPost_ret (v := .tuple #[.agg #[.int .i64 4, .string ⟨#[]⟩, .int .i64 (n : Nat), .int .i64 i], .int .i64 m, .int .i64 0]) (by simp [results, Tryd.results13, go_sem, hcell]) rfl ⟨by rw [HV.out], ((((hb0.trans (hb1.mono (by simp))).setCell (Nat.le_refl _) _).setCell (Nat.le_refl _) _).setCell (Nat.le_refl _) _).setCell (Nat.le_refl _) _⟩
  · rintro a' w' ⟨rfl, m, z, hz, h1, h2, hk, hd, hsz, f0, f1, f4, f5, f6, f7⟩
    obtain ⟨u, rfl⟩ := frame139 a' hd hsz f0 f1 f4 f5 f6 f7
    subst hz
    clear hd hsz f0 f1 f4 f5 f6 f7
    have hm63 : m ≤ 9223372036854775807 := by omega
    have hext : (s.extract i s.size).size ≤ maxLen := by rw [size_extract s i s.size (by omega) (Nat.le_refl _)]; unfold maxLen; omega
    have hS := tSign_any (s.extract i s.size) _ hext Hsg.out
    rw [signLen_ext s i (by omega)] at hS
    have HV := pieceT_4 s i m hk.out
    have hle := signLen_le s i (by omega)
    generalize signLen s i = q at *
    have HS := Lib.hid hS
    clear hS hk hext
    by_cases hq : q = 0
    · subst hq
      rw [if_pos rfl] at HV
      have HV := Lib.hid HV
      go_wp2_with (go_at_call 22; refine HS.out.mono ?_; rintro e w' ⟨rfl, rfl⟩)
      simp only [Exit.jumps]
      exact bodyPost_ret (v := .tuple #[.agg #[.int .i64 0, .string ⟨#[]⟩, .int .i64 0, .int .i64 0], .int .i64 i, .int .i64 5]) (by simp [results, Tryd.results13, go_sem]) rfl ⟨by rw [HV.out], (Below.refl _ _).alloc (Nat.le_refl _) _⟩
    · rw [if_neg hq] at HV
      have HV := Lib.hid HV
      have hq' : (0 : Int) < (q : Int) := by omega
      have hiq : (i : Int) + (q : Int) ≤ (s.size : Int) := by omega
      clear hq
      go_wp2_with (go_at_call 22; refine HS.out.mono ?_; rintro e w' ⟨rfl, rfl⟩)
      simp only [Exit.jumps]
      exact bodyPost_ret (v := .tuple #[.agg #[.int .i64 5, .string (s.extract i (i + q)), .int .i64 0, .int .i64 i], .int .i64 (i + q : Nat), .int .i64 0]) (by simp [results, Tryd.results13, go_sem]) rfl ⟨by rw [HV.out], (Below.refl _ _).alloc (Nat.le_refl _) _⟩
end Go.Proofs.YtapmjkgndojdfaaDoor
