/-
  The walk of package lex's reader of one piece of a text: its five loops, each from its label.
-/
import Derived.Test.YteijndfacjgfbaaDoorLexP
namespace Go.Proofs.YteijndfacjgfbaaDoor
open Go.RowKit LX
set_option linter.unusedVariables false

section
variable {P : Program} {a : Act} {w : World} {Q : Exit → Act → World → Prop}
/-- 'wp_scope_many' at five labels. -/
theorem wp_scope_five {c : Code} (J : Nat → Act → World → Prop) (μ : Act → World → Nat) {r0 r1 r2 r3 r4 : Code} (h0 : findLabel c 0 = some r0) (h1 : findLabel c 1 = some r1) (h2 : findLabel c 2 = some r2) (h3 : findLabel c 3 = some r3) (h4 : findLabel c 4 = some r4)
    (hJ : ∀ l a w, J l a w → l < 5)
    (first : c.wp P (Exit.jumps J Q) a w)
    (p0 : ∀ a w, J 0 a w → r0.wp P (Exit.jumps (fun l' a' w' => J l' a' w' ∧ μ a' w' < μ a w) Q) a w)
    (p1 : ∀ a w, J 1 a w → r1.wp P (Exit.jumps (fun l' a' w' => J l' a' w' ∧ μ a' w' < μ a w) Q) a w)
    (p2 : ∀ a w, J 2 a w → r2.wp P (Exit.jumps (fun l' a' w' => J l' a' w' ∧ μ a' w' < μ a w) Q) a w)
    (p3 : ∀ a w, J 3 a w → r3.wp P (Exit.jumps (fun l' a' w' => J l' a' w' ∧ μ a' w' < μ a w) Q) a w)
    (p4 : ∀ a w, J 4 a w → r4.wp P (Exit.jumps (fun l' a' w' => J l' a' w' ∧ μ a' w' < μ a w) Q) a w) : (Code.scope c).wp P Q a w := by
  refine wp_scope_many J μ (fun l => match l with | 0 => r0 | 1 => r1 | 2 => r2 | 3 => r3 | _ => r4) ?_ first ?_
  · intro l a w h
    have := hJ l a w h
    match l, this with
    | 0, _ => exact h0
    | 1, _ => exact h1
    | 2, _ => exact h2
    | 3, _ => exact h3
    | 4, _ => exact h4
  · intro l a w h
    have := hJ l a w h
    match l, this with
    | 0, _ => exact p0 a w h
    | 1, _ => exact p1 a w h
    | 2, _ => exact p2 a w h
    | 3, _ => exact p3 a w h
    | 4, _ => exact p4 a w h
end
/-- The piece at a place: its token, or none, and where it ends; or that it is wrong. -/
noncomputable def pieceV (s : ByteArray) (i : Nat) : Value :=
  if isBlank (byteAt s i) then .tuple #[tokV none, .int .i64 (runEnd isBlank s (i + 1) : Nat), .int .i64 0]
  else if byteAt s i = 35 then .tuple #[tokV none, .int .i64 (runEnd notFeed s (i + 1) : Nat), .int .i64 0]
  else match one kwB numB s i with
    | some (t, j) => .tuple #[tokV (some t), .int .i64 (j : Nat), .int .i64 0]
    | none => .tuple #[tokV none, .int .i64 i, .int .i64 5]
def pieceKept (s : ByteArray) (i l m : Nat) : Prop := match l with
  | 0 => isBlank (byteAt s i) = true ∧ runEnd isBlank s m = runEnd isBlank s (i + 1)
  | 1 => isBlank (byteAt s i) = false ∧ byteAt s i = 35 ∧ runEnd notFeed s m = runEnd notFeed s (i + 1)
  | 2 => isBlank (byteAt s i) = false ∧ byteAt s i ≠ 35 ∧ isSmall (byteAt s i) = true ∧ runEnd isWord s m = runEnd isWord s (i + 1)
  | 3 => isBlank (byteAt s i) = false ∧ byteAt s i ≠ 35 ∧ isSmall (byteAt s i) = false ∧ isGreat (byteAt s i) = true ∧ runEnd isCaps s m = runEnd isCaps s (i + 1)
  | 4 => isBlank (byteAt s i) = false ∧ byteAt s i ≠ 35 ∧ isSmall (byteAt s i) = false ∧ isGreat (byteAt s i) = false ∧ isDigit (byteAt s i) = true ∧ runEnd isDigit s m = runEnd isDigit s (i + 1)
  | _ => False
def pieceP (l : Nat) : Nat → Bool := match l with | 0 => isBlank | 1 => notFeed | 2 => isWord | 3 => isCaps | _ => isDigit
theorem kept_next (s : ByteArray) (i l m : Nat) (h : pieceKept s i l m) (hm : m < s.size) (hp : pieceP l (byteAt s m) = true) : pieceKept s i l (m + 1) := by
  match l, h, hp with
  | 0, h, hp => exact ⟨h.1, by rw [← h.2]; exact (runEnd_step _ s m hm hp).symm⟩
  | 1, h, hp => exact ⟨h.1, h.2.1, by rw [← h.2.2]; exact (runEnd_step _ s m hm hp).symm⟩
  | 2, h, hp => exact ⟨h.1, h.2.1, h.2.2.1, by rw [← h.2.2.2]; exact (runEnd_step _ s m hm hp).symm⟩
  | 3, h, hp => exact ⟨h.1, h.2.1, h.2.2.1, h.2.2.2.1, by rw [← h.2.2.2.2]; exact (runEnd_step _ s m hm hp).symm⟩
  | 4, h, hp => exact ⟨h.1, h.2.1, h.2.2.1, h.2.2.2.1, h.2.2.2.2.1, by rw [← h.2.2.2.2.2]; exact (runEnd_step _ s m hm hp).symm⟩
theorem kept_end (s : ByteArray) (i l m : Nat) (h : pieceKept s i l m) (he : m < s.size → pieceP l (byteAt s m) = false) : runEnd (pieceP l) s (i + 1) = m := by
  have key : ∀ p : Nat → Bool, runEnd p s m = runEnd p s (i + 1) → (m < s.size → p (byteAt s m) = false) → runEnd p s (i + 1) = m := by
    intro p h1 h2
    rw [← h1]
    rcases Nat.lt_or_ge m s.size with h3 | h3
    · exact runEnd_stop p s m h3 (h2 h3)
    · exact runEnd_end p s m h3
  match l, h, he with
  | 0, h, he => exact key _ h.2 he
  | 1, h, he => exact key _ h.2.2 he
  | 2, h, he => exact key _ h.2.2.2 he
  | 3, h, he => exact key _ h.2.2.2.2 he
  | 4, h, he => exact key _ h.2.2.2.2.2 he
theorem pieceV_0 (s : ByteArray) (i m : Nat) (h : pieceKept s i 0 m) (he : m < s.size → isBlank (byteAt s m) = false) : pieceV s i = .tuple #[.agg #[.int .i64 0, .string ⟨#[]⟩, .int .i64 0, .int .i64 0], .int .i64 m, .int .i64 0] := by
  have hk := kept_end s i 0 m h he
  unfold pieceV; rw [if_pos h.1, show runEnd isBlank s (i + 1) = m from hk]; rfl
theorem pieceV_1 (s : ByteArray) (i m : Nat) (h : pieceKept s i 1 m) (he : m < s.size → notFeed (byteAt s m) = false) : pieceV s i = .tuple #[.agg #[.int .i64 0, .string ⟨#[]⟩, .int .i64 0, .int .i64 0], .int .i64 m, .int .i64 0] := by
  have hk := kept_end s i 1 m h he
  unfold pieceV; rw [if_neg (by rw [h.1]; decide), if_pos h.2.1, show runEnd notFeed s (i + 1) = m from hk]; rfl
theorem kw_not_great (s : ByteArray) (h : isGreat (byteAt s 0) = true) : kwB s = false := by
  unfold kwB
  rw [Bool.eq_false_iff]
  intro h2
  unfold inB at h2
  obtain ⟨z, hz, h3⟩ := List.any_eq_true.1 h2
  have h4 : s.toList = (bs z).toList := eq_of_beq h3
  have h5 : byteAt s 0 = byteAt (bs z) 0 := by
    rw [ByteArray.toList_eq, ByteArray.toList_eq] at h4
    unfold byteAt; rw [h4]
  rw [h5] at h
  have : ∀ z ∈ kwT, isGreat (byteAt (bs z) 0) = false := by decide
  rw [this z hz] at h
  cases h
theorem pieceV_2 (s : ByteArray) (i m : Nat) (hi : i < m) (hm : m ≤ s.size) (h : pieceKept s i 2 m) (he : m < s.size → isWord (byteAt s m) = false) : pieceV s i = namedV (s.extract i m) i m 2 := by
  have hk := kept_end s i 2 m h he
  unfold pieceV; rw [if_neg (by rw [h.1]; decide), if_neg h.2.1]
  unfold one; simp only
  rw [if_pos h.2.2.1, show runEnd isWord s (i + 1) = m from hk]
  unfold namedV
  rw [size_extract s i m (by omega) hm]
  by_cases h20 : m - i ≤ 20
  · rw [if_pos h20, if_pos h20]
  · rw [if_neg h20, if_neg h20]
theorem pieceV_3 (s : ByteArray) (i m : Nat) (hi : i < m) (hm : m ≤ s.size) (h : pieceKept s i 3 m) (he : m < s.size → isCaps (byteAt s m) = false) : pieceV s i = namedV (s.extract i m) i m 3 := by
  have hk := kept_end s i 3 m h he
  unfold pieceV; rw [if_neg (by rw [h.1]; decide), if_neg h.2.1]
  unfold one; simp only
  rw [if_neg (by rw [h.2.2.1]; decide), if_pos h.2.2.2.1, show runEnd isCaps s (i + 1) = m from hk]
  unfold namedV
  rw [size_extract s i m (by omega) hm, kw_not_great _ (by rw [byteAt_extract s i m 0 hm (by omega)]; exact h.2.2.2.1)]
  by_cases h20 : m - i ≤ 20
  · rw [if_pos h20, if_pos h20]; rfl
  · rw [if_neg h20, if_neg h20]
theorem pieceV_4 (s : ByteArray) (i m : Nat) (hi : i < m) (hm : m ≤ s.size) (h : pieceKept s i 4 m) (he : m < s.size → isDigit (byteAt s m) = false) : pieceV s i = (match numB (s.extract i m) with
    | some n => .tuple #[.agg #[.int .i64 4, .string ⟨#[]⟩, .int .i64 (n : Nat), .int .i64 i], .int .i64 m, .int .i64 0]
    | none => .tuple #[.agg #[.int .i64 0, .string ⟨#[]⟩, .int .i64 0, .int .i64 0], .int .i64 i, .int .i64 5]) := by
  have hk := kept_end s i 4 m h he
  unfold pieceV; rw [if_neg (by rw [h.1]; decide), if_neg h.2.1]
  unfold one; simp only
  rw [if_neg (by rw [h.2.2.1]; decide), if_neg (by rw [h.2.2.2.1]; decide), if_pos h.2.2.2.2.1, show runEnd isDigit s (i + 1) = m from hk]
  cases numB (s.extract i m) <;> rfl
theorem pieceV_sign (s : ByteArray) (i : Nat) (h1 : isBlank (byteAt s i) = false) (h2 : byteAt s i ≠ 35) (h3 : isSmall (byteAt s i) = false) (h4 : isGreat (byteAt s i) = false) (h5 : isDigit (byteAt s i) = false) (h6 : isSign (byteAt s i) = true) :
    pieceV s i = .tuple #[.agg #[.int .i64 5, .string (s.extract i (i + 1)), .int .i64 0, .int .i64 i], .int .i64 (i + 1 : Nat), .int .i64 0] := by
  unfold pieceV; rw [if_neg (by rw [h1]; decide), if_neg h2]
  unfold one; simp only
  rw [if_neg (by rw [h3]; decide), if_neg (by rw [h4]; decide), if_neg (by rw [h5]; decide), if_pos h6]; rfl
theorem pieceV_none (s : ByteArray) (i : Nat) (h1 : isBlank (byteAt s i) = false) (h2 : byteAt s i ≠ 35) (h3 : isSmall (byteAt s i) = false) (h4 : isGreat (byteAt s i) = false) (h5 : isDigit (byteAt s i) = false) (h6 : isSign (byteAt s i) = false) :
    pieceV s i = .tuple #[.agg #[.int .i64 0, .string ⟨#[]⟩, .int .i64 0, .int .i64 0], .int .i64 i, .int .i64 5] := by
  unfold pieceV; rw [if_neg (by rw [h1]; decide), if_neg h2]
  unfold one; simp only
  rw [if_neg (by rw [h3]; decide), if_neg (by rw [h4]; decide), if_neg (by rw [h5]; decide), if_neg (by rw [h6]; decide)]; rfl
def signsB : List UInt8 := [58, 59, 124, 40, 41, 63, 42, 43, 61, 44]
theorem sign_idx : ∀ c : Fin 256, decide (0 ≤ Lib.indexByte signsB (UInt8.ofNat c.val)) = isSign c.val := by decide +kernel
theorem sign_any (c : Nat) (hc : c ≤ 255) (w : World) : Calls Tryd.prog 67 #[.string ⟨#[58, 59, 124, 40, 41, 63, 42, 43, 61, 44]⟩, .int .u8 c] w fun e w' => e = .returned (.int .i64 (Lib.indexByte signsB (UInt8.ofNat c))) ∧ w = w' := by
  refine (Tryd.strings_IndexByte _ c w).mono ?_
  rintro e w' ⟨rfl, rfl⟩
  exact ⟨rfl, rfl⟩
theorem bcell {W w1 : World} (hb : Below W.heap.size W w1) : (∀ b o, b < W.heap.size → w1.cell? ⟨b, o, none⟩ = W.cell? ⟨b, o, none⟩) ∧ (∀ b o, b < W.heap.size → w1.frozen? ⟨b, o, none⟩ = W.frozen? ⟨b, o, none⟩) :=
  ⟨fun b o h => hb.cell (p := ⟨b, o, none⟩) h, fun b o h => hb.frozen (p := ⟨b, o, none⟩) h⟩
theorem byteAt_get (s : ByteArray) (i : Nat) (h : i < s.size) : byteAt s i = s[i].toNat := by unfold byteAt; rw [nget s i h]
theorem byte_le (b : UInt8) : b.toNat ≤ 255 := by have := b.toNat_lt; omega

/-- A frame of that many slots, some of which are known. -/
theorem frame156 (a : Act) {v0 v1 v4 v5 v6 v7 : Value} (hd : a.defers = []) (hs : a.tmps.size = 156) (h0 : a.tmps[0]? = some v0) (h1 : a.tmps[1]? = some v1) (h4 : a.tmps[4]? = some v4) (h5 : a.tmps[5]? = some v5) (h6 : a.tmps[6]? = some v6) (h7 : a.tmps[7]? = some v7) :
    ∃ u : Nat → Value, a = { tmps := #[v0, v1, u 2, u 3, v4, v5, v6, v7, u 8, u 9, u 10, u 11, u 12, u 13, u 14, u 15, u 16, u 17, u 18, u 19, u 20, u 21, u 22, u 23, u 24, u 25, u 26, u 27, u 28, u 29, u 30, u 31, u 32, u 33, u 34, u 35, u 36, u 37, u 38, u 39, u 40, u 41, u 42, u 43, u 44, u 45, u 46, u 47, u 48, u 49, u 50, u 51, u 52, u 53, u 54, u 55, u 56, u 57, u 58, u 59, u 60, u 61, u 62, u 63, u 64, u 65, u 66, u 67, u 68, u 69, u 70, u 71, u 72, u 73, u 74, u 75, u 76, u 77, u 78, u 79, u 80, u 81, u 82, u 83, u 84, u 85, u 86, u 87, u 88, u 89, u 90, u 91, u 92, u 93, u 94, u 95, u 96, u 97, u 98, u 99, u 100, u 101, u 102, u 103, u 104, u 105, u 106, u 107, u 108, u 109, u 110, u 111, u 112, u 113, u 114, u 115, u 116, u 117, u 118, u 119, u 120, u 121, u 122, u 123, u 124, u 125, u 126, u 127, u 128, u 129, u 130, u 131, u 132, u 133, u 134, u 135, u 136, u 137, u 138, u 139, u 140, u 141, u 142, u 143, u 144, u 145, u 146, u 147, u 148, u 149, u 150, u 151, u 152, u 153, u 154, u 155], defers := [] } := by
  obtain ⟨t, d⟩ := a
  simp only at hd hs h0 h1 h4 h5 h6 h7
  subst hd
  refine ⟨fun k => t.getD k undef, ?_⟩
  have hg : ∀ k v, t[k]? = some v → t.getD k undef = v := fun k v h => by rw [Array.getD_eq_getD_getElem?, h]; rfl
  have hl : t.toList = (List.range 156).map fun k => t.getD k undef := by
    apply List.ext_getElem
    · simpa using hs
    · intro k h1 h2
      have hk : k < t.size := by simpa using h1
      rw [List.getElem_map, List.getElem_range, Array.getElem_toList, hg k t[k] (Array.getElem?_eq_getElem hk)]
  have ht : t = ((List.range 156).map fun k => t.getD k undef).toArray := by rw [← hl]
  have e : ((List.range 156).map fun k => t.getD k undef) = [t.getD 0 undef, t.getD 1 undef, t.getD 2 undef, t.getD 3 undef, t.getD 4 undef, t.getD 5 undef, t.getD 6 undef, t.getD 7 undef, t.getD 8 undef, t.getD 9 undef, t.getD 10 undef, t.getD 11 undef, t.getD 12 undef, t.getD 13 undef, t.getD 14 undef, t.getD 15 undef, t.getD 16 undef, t.getD 17 undef, t.getD 18 undef, t.getD 19 undef, t.getD 20 undef, t.getD 21 undef, t.getD 22 undef, t.getD 23 undef, t.getD 24 undef, t.getD 25 undef, t.getD 26 undef, t.getD 27 undef, t.getD 28 undef, t.getD 29 undef, t.getD 30 undef, t.getD 31 undef, t.getD 32 undef, t.getD 33 undef, t.getD 34 undef, t.getD 35 undef, t.getD 36 undef, t.getD 37 undef, t.getD 38 undef, t.getD 39 undef, t.getD 40 undef, t.getD 41 undef, t.getD 42 undef, t.getD 43 undef, t.getD 44 undef, t.getD 45 undef, t.getD 46 undef, t.getD 47 undef, t.getD 48 undef, t.getD 49 undef, t.getD 50 undef, t.getD 51 undef, t.getD 52 undef, t.getD 53 undef, t.getD 54 undef, t.getD 55 undef, t.getD 56 undef, t.getD 57 undef, t.getD 58 undef, t.getD 59 undef, t.getD 60 undef, t.getD 61 undef, t.getD 62 undef, t.getD 63 undef, t.getD 64 undef, t.getD 65 undef, t.getD 66 undef, t.getD 67 undef, t.getD 68 undef, t.getD 69 undef, t.getD 70 undef, t.getD 71 undef, t.getD 72 undef, t.getD 73 undef, t.getD 74 undef, t.getD 75 undef, t.getD 76 undef, t.getD 77 undef, t.getD 78 undef, t.getD 79 undef, t.getD 80 undef, t.getD 81 undef, t.getD 82 undef, t.getD 83 undef, t.getD 84 undef, t.getD 85 undef, t.getD 86 undef, t.getD 87 undef, t.getD 88 undef, t.getD 89 undef, t.getD 90 undef, t.getD 91 undef, t.getD 92 undef, t.getD 93 undef, t.getD 94 undef, t.getD 95 undef, t.getD 96 undef, t.getD 97 undef, t.getD 98 undef, t.getD 99 undef, t.getD 100 undef, t.getD 101 undef, t.getD 102 undef, t.getD 103 undef, t.getD 104 undef, t.getD 105 undef, t.getD 106 undef, t.getD 107 undef, t.getD 108 undef, t.getD 109 undef, t.getD 110 undef, t.getD 111 undef, t.getD 112 undef, t.getD 113 undef, t.getD 114 undef, t.getD 115 undef, t.getD 116 undef, t.getD 117 undef, t.getD 118 undef, t.getD 119 undef, t.getD 120 undef, t.getD 121 undef, t.getD 122 undef, t.getD 123 undef, t.getD 124 undef, t.getD 125 undef, t.getD 126 undef, t.getD 127 undef, t.getD 128 undef, t.getD 129 undef, t.getD 130 undef, t.getD 131 undef, t.getD 132 undef, t.getD 133 undef, t.getD 134 undef, t.getD 135 undef, t.getD 136 undef, t.getD 137 undef, t.getD 138 undef, t.getD 139 undef, t.getD 140 undef, t.getD 141 undef, t.getD 142 undef, t.getD 143 undef, t.getD 144 undef, t.getD 145 undef, t.getD 146 undef, t.getD 147 undef, t.getD 148 undef, t.getD 149 undef, t.getD 150 undef, t.getD 151 undef, t.getD 152 undef, t.getD 153 undef, t.getD 154 undef, t.getD 155 undef] := rfl
  rw [e, hg 0 _ h0, hg 1 _ h1, hg 4 _ h4, hg 5 _ h5, hg 6 _ h6, hg 7 _ h7] at ht
  exact congrArg (fun t => ({ tmps := t, defers := [] } : Act)) ht
theorem word_not (c : Nat) (h1 : isSmall c = false) (h2 : isMore c = false) : isWord c = false := by unfold isSmall at h1; unfold isMore at h2; unfold isWord; simp at *; omega
theorem caps_not (c : Nat) (h1 : isGreat c = false) (h2 : isMore c = false) : isCaps c = false := by unfold isGreat at h1; unfold isMore at h2; unfold isCaps; simp at *; omega
theorem word_more (c : Nat) (h2 : isMore c = true) : isWord c = true := by unfold isMore at h2; unfold isWord; simp at *; omega
theorem caps_more (c : Nat) (h2 : isMore c = true) : isCaps c = true := by unfold isMore at h2; unfold isCaps; simp at *; omega
theorem word_letter (c : Nat) (h2 : isSmall c = true) : isWord c = true := small_word c h2
theorem caps_letter (c : Nat) (h2 : isGreat c = true) : isCaps c = true := great_caps c h2
theorem named_shape (s : ByteArray) (i j k : Nat) : ∃ (a : Int) (b : ByteArray) (c d x y : Int), namedV s i j k = .tuple #[.agg #[.int .i64 a, .string b, .int .i64 c, .int .i64 d], .int .i64 x, .int .i64 y] := by
  unfold namedV
  split
  · exact ⟨_, _, _, _, _, _, rfl⟩
  · exact ⟨_, _, _, _, _, _, rfl⟩
def pieceJ (s : ByteArray) (i : Nat) (w : World) (l : Nat) (a : Act) (w' : World) : Prop := w' = (w.alloc (.cells #[.int .i64 0, .string ⟨#[]⟩, .int .i64 0, .int .i64 0] 37)) ∧ ∃ (m : Nat) (z : Int), z = m ∧ i + 1 ≤ m ∧ m ≤ s.size ∧ Hid (pieceKept s i l m) ∧ a.defers = [] ∧ a.tmps.size = 156 ∧
    a.tmps[0]? = some (.string s) ∧ a.tmps[1]? = some (.int .i64 i) ∧ a.tmps[4]? = some (.pointer (some ⟨w.heap.size, 0, none⟩)) ∧ a.tmps[5]? = some (.int .i64 0) ∧ a.tmps[6]? = some (.int .i64 0) ∧ a.tmps[7]? = some (.int .i64 z)
theorem pieceJ_lt (s : ByteArray) (i : Nat) (w : World) (l : Nat) (a : Act) (w' : World) (h : pieceJ s i w l a w') : l < 5 := by
  obtain ⟨_, m, z, _, _, _, h, _⟩ := h
  match l, h.out with
  | 0, _ => omega
  | 1, _ => omega
  | 2, _ => omega
  | 3, _ => omega
  | 4, _ => omega
set_option maxRecDepth 100000 in
set_option maxHeartbeats 8000000 in
theorem piece_any (s : ByteArray) (i : Nat) (w : World) (hi : i < s.size) (hs : s.size ≤ maxLen) (hkw : StrsIs w 0 kwT) (htab : Tab10 w) :
    Calls Tryd.prog 37 #[.string s, .int .i64 i] w fun e w' => e = .returned (pieceV s i) ∧ Below w.heap.size w w' := by
  have hs' := hs
  unfold maxLen at hs'
  have hb0 : Below w.heap.size w (w.alloc (.cells #[.int .i64 0, .string ⟨#[]⟩, .int .i64 0, .int .i64 0] 37)) := (Below.refl _ w).alloc (Nat.le_refl _) _
  have Hkw := Lib.hid (hkw.below hb0 (Nat.le_refl _)); have Htab := Lib.hid (htab.below hb0 (Nat.le_refl _))
  clear hkw htab
  go_enter Tryd.func37, Tryd.ntmps37
  go_wp2_with fail
  refine wp_scope_five (pieceJ s i w) (fun a' _ => s.size - (intOf (a'.tmps.getD 7 undef)).toNat) rfl rfl rfl rfl rfl (pieceJ_lt s i w) ?_ ?_ ?_ ?_ ?_ ?_
  · have h255 := byte_le s[i]
    have hc := byteAt_get s i hi
    have hB : ∀ w', Calls Tryd.prog 65 #[.int .u8 (s[i].toNat : Nat)] w' fun e w2 => e = .returned (.bool (isBlank (byteAt s i))) ∧ w' = w2 := fun w' => by rw [hc]; exact blank_any _ w' h255
    have hL : ∀ w', Calls Tryd.prog 66 #[.int .u8 (s[i].toNat : Nat), .int .u8 97, .int .u8 122] w' fun e w2 => e = .returned (.bool (isSmall (byteAt s i))) ∧ w' = w2 := fun w' => by rw [hc]; exact within_any _ 97 122 w' h255 (by omega) (by omega)
    have hU : ∀ w', Calls Tryd.prog 66 #[.int .u8 (s[i].toNat : Nat), .int .u8 65, .int .u8 90] w' fun e w2 => e = .returned (.bool (isGreat (byteAt s i))) ∧ w' = w2 := fun w' => by rw [hc]; exact within_any _ 65 90 w' h255 (by omega) (by omega)
    have hD : ∀ w', Calls Tryd.prog 66 #[.int .u8 (s[i].toNat : Nat), .int .u8 48, .int .u8 57] w' fun e w2 => e = .returned (.bool (isDigit (byteAt s i))) ∧ w' = w2 := fun w' => by rw [hc]; exact within_any _ 48 57 w' h255 (by omega) (by omega)
    have hS := fun w' => sign_any s[i].toNat h255 w'
    have hSv : decide (0 ≤ Lib.indexByte signsB (UInt8.ofNat s[i].toNat)) = isSign (byteAt s i) := by rw [hc]; exact sign_idx ⟨s[i].toNat, by omega⟩
    have H35 : ((s[i].toNat : Int) == 35) = decide (byteAt s i = 35) := by rw [hc]; cases hb : decide (s[i].toNat = 35) <;> simp at hb ⊢ <;> omega
    generalize Lib.indexByte signsB (UInt8.ofNat s[i].toNat) = q at *
    clear hc
    cases hb0 : isBlank (byteAt s i)
    · rw [hb0] at hB
      cases h35 : decide (byteAt s i = 35)
      · rw [h35] at H35
        have n35 := of_decide_eq_false h35
        cases hb1 : isSmall (byteAt s i)
        · rw [hb1] at hL
          cases hb2 : isGreat (byteAt s i)
          · rw [hb2] at hU
            cases hb3 : isDigit (byteAt s i)
            · rw [hb3] at hD
              cases hb4 : isSign (byteAt s i)
              · have HV := Lib.hid (pieceV_none s i hb0 n35 hb1 hb2 hb3 hb4)
                rw [hb4] at hSv
                have hq : q < 0 := by have := of_decide_eq_false hSv; omega
                clear hb0 n35 h35 hb1 hb2 hb3 hb4 hSv
                have HB := Lib.hid hB; have HL := Lib.hid hL; have HU := Lib.hid hU; have HD := Lib.hid hD; have HS := Lib.hid hS
                clear hB hL hU hD hS
                go_wp2_with (first | (go_at_call 65; refine (HB.out _).mono ?_; rintro e w' ⟨rfl, rfl⟩) | (go_at_call 66; ((first | (with_reducible refine (HL.out _).mono ?_) | (with_reducible refine (HU.out _).mono ?_) | (with_reducible refine (HD.out _).mono ?_)); rintro e w' ⟨rfl, rfl⟩)) | (go_at_call 67; refine (HS.out _).mono ?_; rintro e w' ⟨rfl, rfl⟩))
                simp only [Exit.jumps]
                exact bodyPost_ret (v := .tuple #[.agg #[.int .i64 0, .string ⟨#[]⟩, .int .i64 0, .int .i64 0], .int .i64 i, .int .i64 5]) (by simp [results, Tryd.results37, go_sem]) rfl ⟨by rw [HV.out], (Below.refl _ _).alloc (Nat.le_refl _) _⟩
              · have HV := Lib.hid (pieceV_sign s i hb0 n35 hb1 hb2 hb3 hb4)
                rw [hb4] at hSv
                have hq : 0 ≤ q := of_decide_eq_true hSv
                clear hb0 n35 h35 hb1 hb2 hb3 hb4 hSv
                have HB := Lib.hid hB; have HL := Lib.hid hL; have HU := Lib.hid hU; have HD := Lib.hid hD; have HS := Lib.hid hS
                clear hB hL hU hD hS
                go_wp2_with (first | (go_at_call 65; refine (HB.out _).mono ?_; rintro e w' ⟨rfl, rfl⟩) | (go_at_call 66; ((first | (with_reducible refine (HL.out _).mono ?_) | (with_reducible refine (HU.out _).mono ?_) | (with_reducible refine (HD.out _).mono ?_)); rintro e w' ⟨rfl, rfl⟩)) | (go_at_call 67; refine (HS.out _).mono ?_; rintro e w' ⟨rfl, rfl⟩))
                simp only [Exit.jumps]
                exact bodyPost_ret (v := .tuple #[.agg #[.int .i64 5, .string (s.extract i (i + 1)), .int .i64 0, .int .i64 i], .int .i64 (i + 1 : Nat), .int .i64 0]) (by simp [results, Tryd.results37, go_sem]) rfl ⟨by rw [HV.out], (Below.refl _ _).alloc (Nat.le_refl _) _⟩
            · rw [hb3] at hD
              have HK : Hid (pieceKept s i 4 (i + 1)) := ⟨hb0, n35, hb1, hb2, hb3, rfl⟩
              clear hb0 n35 h35 hb1 hb2 hb3 hSv
              have HB := Lib.hid hB; have HL := Lib.hid hL; have HU := Lib.hid hU; have HD := Lib.hid hD; have HS := Lib.hid hS
              clear hB hL hU hD hS
              go_wp2_with (first | (go_at_call 65; refine (HB.out _).mono ?_; rintro e w' ⟨rfl, rfl⟩) | (go_at_call 66; ((first | (with_reducible refine (HL.out _).mono ?_) | (with_reducible refine (HU.out _).mono ?_) | (with_reducible refine (HD.out _).mono ?_)); rintro e w' ⟨rfl, rfl⟩)) | (go_at_call 67; refine (HS.out _).mono ?_; rintro e w' ⟨rfl, rfl⟩))
              go_step3
              exact ⟨rfl, i + 1, _, by first | rfl | omega | (push_cast; omega), by omega, by omega, Lib.hid HK.out, rfl, rfl, rfl, rfl, rfl, rfl, rfl, rfl⟩
          · rw [hb2] at hU
            have HK : Hid (pieceKept s i 3 (i + 1)) := ⟨hb0, n35, hb1, hb2, rfl⟩
            clear hb0 n35 h35 hb1 hb2 hSv
            have HB := Lib.hid hB; have HL := Lib.hid hL; have HU := Lib.hid hU; have HD := Lib.hid hD; have HS := Lib.hid hS
            clear hB hL hU hD hS
            go_wp2_with (first | (go_at_call 65; refine (HB.out _).mono ?_; rintro e w' ⟨rfl, rfl⟩) | (go_at_call 66; ((first | (with_reducible refine (HL.out _).mono ?_) | (with_reducible refine (HU.out _).mono ?_) | (with_reducible refine (HD.out _).mono ?_)); rintro e w' ⟨rfl, rfl⟩)) | (go_at_call 67; refine (HS.out _).mono ?_; rintro e w' ⟨rfl, rfl⟩))
            go_step3
            exact ⟨rfl, i + 1, _, by first | rfl | omega | (push_cast; omega), by omega, by omega, Lib.hid HK.out, rfl, rfl, rfl, rfl, rfl, rfl, rfl, rfl⟩
        · rw [hb1] at hL
          have HK : Hid (pieceKept s i 2 (i + 1)) := ⟨hb0, n35, hb1, rfl⟩
          clear hb0 n35 h35 hb1 hSv
          have HB := Lib.hid hB; have HL := Lib.hid hL; have HU := Lib.hid hU; have HD := Lib.hid hD; have HS := Lib.hid hS
          clear hB hL hU hD hS
          go_wp2_with (first | (go_at_call 65; refine (HB.out _).mono ?_; rintro e w' ⟨rfl, rfl⟩) | (go_at_call 66; ((first | (with_reducible refine (HL.out _).mono ?_) | (with_reducible refine (HU.out _).mono ?_) | (with_reducible refine (HD.out _).mono ?_)); rintro e w' ⟨rfl, rfl⟩)) | (go_at_call 67; refine (HS.out _).mono ?_; rintro e w' ⟨rfl, rfl⟩))
          go_step3
          exact ⟨rfl, i + 1, _, by first | rfl | omega | (push_cast; omega), by omega, by omega, Lib.hid HK.out, rfl, rfl, rfl, rfl, rfl, rfl, rfl, rfl⟩
      · rw [h35] at H35
        have HK : Hid (pieceKept s i 1 (i + 1)) := ⟨hb0, of_decide_eq_true h35, rfl⟩
        clear hb0 h35 hSv
        have HB := Lib.hid hB; have HL := Lib.hid hL; have HU := Lib.hid hU; have HD := Lib.hid hD; have HS := Lib.hid hS
        clear hB hL hU hD hS
        go_wp2_with (first | (go_at_call 65; refine (HB.out _).mono ?_; rintro e w' ⟨rfl, rfl⟩) | (go_at_call 66; ((first | (with_reducible refine (HL.out _).mono ?_) | (with_reducible refine (HU.out _).mono ?_) | (with_reducible refine (HD.out _).mono ?_)); rintro e w' ⟨rfl, rfl⟩)) | (go_at_call 67; refine (HS.out _).mono ?_; rintro e w' ⟨rfl, rfl⟩))
        go_step3
        exact ⟨rfl, i + 1, _, by first | rfl | omega | (push_cast; omega), by omega, by omega, Lib.hid HK.out, rfl, rfl, rfl, rfl, rfl, rfl, rfl, rfl⟩
    · rw [hb0] at hB
      have HK : Hid (pieceKept s i 0 (i + 1)) := ⟨hb0, rfl⟩
      clear hb0 hSv H35
      have HB := Lib.hid hB; have HL := Lib.hid hL; have HU := Lib.hid hU; have HD := Lib.hid hD; have HS := Lib.hid hS
      clear hB hL hU hD hS
      go_wp2_with (first | (go_at_call 65; refine (HB.out _).mono ?_; rintro e w' ⟨rfl, rfl⟩) | (go_at_call 66; ((first | (with_reducible refine (HL.out _).mono ?_) | (with_reducible refine (HU.out _).mono ?_) | (with_reducible refine (HD.out _).mono ?_)); rintro e w' ⟨rfl, rfl⟩)) | (go_at_call 67; refine (HS.out _).mono ?_; rintro e w' ⟨rfl, rfl⟩))
      go_step3
      exact ⟨rfl, i + 1, _, by first | rfl | omega | (push_cast; omega), by omega, by omega, Lib.hid HK.out, rfl, rfl, rfl, rfl, rfl, rfl, rfl, rfl⟩
  · rintro a' w' ⟨rfl, m, z, hz, h1, h2, hk, hd, hsz, f0, f1, f4, f5, f6, f7⟩
    obtain ⟨u, rfl⟩ := frame156 a' hd hsz f0 f1 f4 f5 f6 f7
    subst hz
    clear hd hsz f0 f1 f4 f5 f6 f7
    have hm63 : m ≤ 9223372036854775807 := by omega
    by_cases hlt : m < s.size
    · have h255 := byte_le s[m]
      have hc := byteAt_get s m hlt
      have hB : ∀ w', Calls Tryd.prog 65 #[.int .u8 (s[m].toNat : Nat)] w' fun e w2 => e = .returned (.bool (isBlank (byteAt s m))) ∧ w' = w2 := fun w' => by rw [hc]; exact blank_any _ w' h255
      cases hb : isBlank (byteAt s m)
      · rw [hb] at hB
        have HV := Lib.hid (pieceV_0 s i m hk.out fun _ => hb)
        have HB := Lib.hid hB
        clear hB hb hc hk
        go_wp2_with (go_at_call 65; refine (HB.out _).mono ?_; rintro e w' ⟨rfl, rfl⟩)
        simp only [Exit.jumps]
        exact bodyPost_ret (v := .tuple #[.agg #[.int .i64 0, .string ⟨#[]⟩, .int .i64 0, .int .i64 0], .int .i64 m, .int .i64 0]) (by simp [results, Tryd.results37, go_sem]) rfl ⟨by rw [HV.out], (Below.refl _ _).alloc (Nat.le_refl _) _⟩
      · rw [hb] at hB
        have HN := Lib.hid (kept_next s i 0 m hk.out hlt hb)
        have HB := Lib.hid hB
        clear hB hb hc hk
        go_wp2_with (go_at_call 65; refine (HB.out _).mono ?_; rintro e w' ⟨rfl, rfl⟩)
        go_step3
        exact ⟨⟨rfl, m + 1, _, by first | rfl | omega | (push_cast; omega), by omega, by omega, Lib.hid HN.out, rfl, rfl, rfl, rfl, rfl, rfl, rfl, rfl⟩, by simp [intOf]; omega⟩
    · have HV := Lib.hid (pieceV_0 s i m hk.out fun h => absurd h hlt)
      have hge : (s.size : Int) ≤ m := by omega
      clear hk
      go_wp2_with fail
      simp only [Exit.jumps]
      exact bodyPost_ret (v := .tuple #[.agg #[.int .i64 0, .string ⟨#[]⟩, .int .i64 0, .int .i64 0], .int .i64 m, .int .i64 0]) (by simp [results, Tryd.results37, go_sem]) rfl ⟨by rw [HV.out], (Below.refl _ _).alloc (Nat.le_refl _) _⟩
  · rintro a' w' ⟨rfl, m, z, hz, h1, h2, hk, hd, hsz, f0, f1, f4, f5, f6, f7⟩
    obtain ⟨u, rfl⟩ := frame156 a' hd hsz f0 f1 f4 f5 f6 f7
    subst hz
    clear hd hsz f0 f1 f4 f5 f6 f7
    have hm63 : m ≤ 9223372036854775807 := by omega
    by_cases hlt : m < s.size
    · have hc := byteAt_get s m hlt
      have H10 : ((s[m].toNat : Int) != 10) = notFeed (byteAt s m) := by rw [hc]; unfold notFeed; cases hb : decide (s[m].toNat ≠ 10) <;> simp at hb ⊢ <;> omega
      cases hb : notFeed (byteAt s m)
      · rw [hb] at H10
        have HV := Lib.hid (pieceV_1 s i m hk.out fun _ => hb)
        clear hb hc hk
        go_wp2_with fail
        simp only [Exit.jumps]
        exact bodyPost_ret (v := .tuple #[.agg #[.int .i64 0, .string ⟨#[]⟩, .int .i64 0, .int .i64 0], .int .i64 m, .int .i64 0]) (by simp [results, Tryd.results37, go_sem]) rfl ⟨by rw [HV.out], (Below.refl _ _).alloc (Nat.le_refl _) _⟩
      · rw [hb] at H10
        have HN := Lib.hid (kept_next s i 1 m hk.out hlt hb)
        clear hb hc hk
        go_wp2_with fail
        go_step3
        exact ⟨⟨rfl, m + 1, _, by first | rfl | omega | (push_cast; omega), by omega, by omega, Lib.hid HN.out, rfl, rfl, rfl, rfl, rfl, rfl, rfl, rfl⟩, by simp [intOf]; omega⟩
    · have HV := Lib.hid (pieceV_1 s i m hk.out fun h => absurd h hlt)
      have hge : (s.size : Int) ≤ m := by omega
      clear hk
      go_wp2_with fail
      simp only [Exit.jumps]
      exact bodyPost_ret (v := .tuple #[.agg #[.int .i64 0, .string ⟨#[]⟩, .int .i64 0, .int .i64 0], .int .i64 m, .int .i64 0]) (by simp [results, Tryd.results37, go_sem]) rfl ⟨by rw [HV.out], (Below.refl _ _).alloc (Nat.le_refl _) _⟩
  · rintro a' w' ⟨rfl, m, z, hz, h1, h2, hk, hd, hsz, f0, f1, f4, f5, f6, f7⟩
    obtain ⟨u, rfl⟩ := frame156 a' hd hsz f0 f1 f4 f5 f6 f7
    subst hz
    clear hd hsz f0 f1 f4 f5 f6 f7
    have hm63 : m ≤ 9223372036854775807 := by omega
    by_cases hlt : m < s.size
    · have h255 := byte_le s[m]
      have hc := byteAt_get s m hlt
      have hL : ∀ w', Calls Tryd.prog 66 #[.int .u8 (s[m].toNat : Nat), .int .u8 97, .int .u8 122] w' fun e w2 => e = .returned (.bool (isSmall (byteAt s m))) ∧ w' = w2 := fun w' => by rw [hc]; exact within_any _ 97 122 w' h255 (by omega) (by omega)
      have hM : ∀ w', Calls Tryd.prog 68 #[.int .u8 (s[m].toNat : Nat)] w' fun e w2 => e = .returned (.bool (isMore (byteAt s m))) ∧ w' = w2 := fun w' => by rw [hc]; exact more_any _ w' h255
      cases hb : isSmall (byteAt s m)
      · rw [hb] at hL
        cases hb2 : isMore (byteAt s m)
        · rw [hb2] at hM
          have hw := word_not _ hb hb2
          have HL := Lib.hid hL; have HM := Lib.hid hM
          have HV := Lib.hid (pieceV_2 s i m (by omega) h2 hk.out (fun _ => hw))
          have hext : (s.extract i m).size ≤ maxLen := by rw [size_extract s i m (by omega) h2]; unfold maxLen; omega
          obtain ⟨ka, kb, kc, kd, kx, ky, hshape⟩ := named_shape (s.extract i m) i m 2
          have hn := named_any (s.extract i m) i m 2 _ hext (by omega) hm63 (by omega) Hkw.out
          rw [hshape] at hn HV
          have HN := Lib.hid hn
          clear hn hshape hk hext hL hM hb hb2 hc hw
          go_wp2_with (first | (go_at_call 66; refine (HL.out _).mono ?_; rintro e w' ⟨rfl, rfl⟩) | (go_at_call 68; refine (HM.out _).mono ?_; rintro e w' ⟨rfl, rfl⟩))
          refine HN.out.mono ?_
          rintro e w1 ⟨rfl, hb1⟩
          obtain ⟨hcell, hfroz⟩ := bcell hb1
          have hsz1 := hb1.size
          go_wp2_with fail
          simp only [Exit.jumps]
          exact bodyPost_ret (v := .tuple #[.agg #[.int .i64 ka, .string kb, .int .i64 kc, .int .i64 kd], .int .i64 kx, .int .i64 ky]) (by simp [results, Tryd.results37, go_sem, hcell]) rfl ⟨by rw [HV.out], ((((hb0.trans (hb1.mono (by simp))).setCell (Nat.le_refl _) _).setCell (Nat.le_refl _) _).setCell (Nat.le_refl _) _).setCell (Nat.le_refl _) _⟩
        · rw [hb2] at hM
          have HN := Lib.hid (kept_next s i 2 m hk.out hlt (word_more _ hb2))
          have HL := Lib.hid hL; have HM := Lib.hid hM
          clear hL hM hb hb2 hc hk
          go_wp2_with (first | (go_at_call 66; refine (HL.out _).mono ?_; rintro e w' ⟨rfl, rfl⟩) | (go_at_call 68; refine (HM.out _).mono ?_; rintro e w' ⟨rfl, rfl⟩))
          go_step3
          exact ⟨⟨rfl, m + 1, _, by first | rfl | omega | (push_cast; omega), by omega, by omega, Lib.hid HN.out, rfl, rfl, rfl, rfl, rfl, rfl, rfl, rfl⟩, by simp [intOf]; omega⟩
      · rw [hb] at hL
        have HN := Lib.hid (kept_next s i 2 m hk.out hlt (word_letter _ hb))
        have HL := Lib.hid hL; have HM := Lib.hid hM
        clear hL hM hb hc hk
        go_wp2_with (first | (go_at_call 66; refine (HL.out _).mono ?_; rintro e w' ⟨rfl, rfl⟩) | (go_at_call 68; refine (HM.out _).mono ?_; rintro e w' ⟨rfl, rfl⟩))
        go_step3
        exact ⟨⟨rfl, m + 1, _, by first | rfl | omega | (push_cast; omega), by omega, by omega, Lib.hid HN.out, rfl, rfl, rfl, rfl, rfl, rfl, rfl, rfl⟩, by simp [intOf]; omega⟩
    · have hge : (s.size : Int) ≤ m := by omega
      have HV := Lib.hid (pieceV_2 s i m (by omega) h2 hk.out (fun h => absurd h hlt))
      have hext : (s.extract i m).size ≤ maxLen := by rw [size_extract s i m (by omega) h2]; unfold maxLen; omega
      obtain ⟨ka, kb, kc, kd, kx, ky, hshape⟩ := named_shape (s.extract i m) i m 2
      have hn := named_any (s.extract i m) i m 2 _ hext (by omega) hm63 (by omega) Hkw.out
      rw [hshape] at hn HV
      have HN := Lib.hid hn
      clear hn hshape hk hext 
      go_wp2_with fail
      refine HN.out.mono ?_
      rintro e w1 ⟨rfl, hb1⟩
      obtain ⟨hcell, hfroz⟩ := bcell hb1
      have hsz1 := hb1.size
      go_wp2_with fail
      simp only [Exit.jumps]
      exact bodyPost_ret (v := .tuple #[.agg #[.int .i64 ka, .string kb, .int .i64 kc, .int .i64 kd], .int .i64 kx, .int .i64 ky]) (by simp [results, Tryd.results37, go_sem, hcell]) rfl ⟨by rw [HV.out], ((((hb0.trans (hb1.mono (by simp))).setCell (Nat.le_refl _) _).setCell (Nat.le_refl _) _).setCell (Nat.le_refl _) _).setCell (Nat.le_refl _) _⟩
  · rintro a' w' ⟨rfl, m, z, hz, h1, h2, hk, hd, hsz, f0, f1, f4, f5, f6, f7⟩
    obtain ⟨u, rfl⟩ := frame156 a' hd hsz f0 f1 f4 f5 f6 f7
    subst hz
    clear hd hsz f0 f1 f4 f5 f6 f7
    have hm63 : m ≤ 9223372036854775807 := by omega
    by_cases hlt : m < s.size
    · have h255 := byte_le s[m]
      have hc := byteAt_get s m hlt
      have hL : ∀ w', Calls Tryd.prog 66 #[.int .u8 (s[m].toNat : Nat), .int .u8 65, .int .u8 90] w' fun e w2 => e = .returned (.bool (isGreat (byteAt s m))) ∧ w' = w2 := fun w' => by rw [hc]; exact within_any _ 65 90 w' h255 (by omega) (by omega)
      have hM : ∀ w', Calls Tryd.prog 68 #[.int .u8 (s[m].toNat : Nat)] w' fun e w2 => e = .returned (.bool (isMore (byteAt s m))) ∧ w' = w2 := fun w' => by rw [hc]; exact more_any _ w' h255
      cases hb : isGreat (byteAt s m)
      · rw [hb] at hL
        cases hb2 : isMore (byteAt s m)
        · rw [hb2] at hM
          have hw := caps_not _ hb hb2
          have HL := Lib.hid hL; have HM := Lib.hid hM
          have HV := Lib.hid (pieceV_3 s i m (by omega) h2 hk.out (fun _ => hw))
          have hext : (s.extract i m).size ≤ maxLen := by rw [size_extract s i m (by omega) h2]; unfold maxLen; omega
          obtain ⟨ka, kb, kc, kd, kx, ky, hshape⟩ := named_shape (s.extract i m) i m 3
          have hn := named_any (s.extract i m) i m 3 _ hext (by omega) hm63 (by omega) Hkw.out
          rw [hshape] at hn HV
          have HN := Lib.hid hn
          clear hn hshape hk hext hL hM hb hb2 hc hw
          go_wp2_with (first | (go_at_call 66; refine (HL.out _).mono ?_; rintro e w' ⟨rfl, rfl⟩) | (go_at_call 68; refine (HM.out _).mono ?_; rintro e w' ⟨rfl, rfl⟩))
          refine HN.out.mono ?_
          rintro e w1 ⟨rfl, hb1⟩
          obtain ⟨hcell, hfroz⟩ := bcell hb1
          have hsz1 := hb1.size
          go_wp2_with fail
          simp only [Exit.jumps]
          exact bodyPost_ret (v := .tuple #[.agg #[.int .i64 ka, .string kb, .int .i64 kc, .int .i64 kd], .int .i64 kx, .int .i64 ky]) (by simp [results, Tryd.results37, go_sem, hcell]) rfl ⟨by rw [HV.out], ((((hb0.trans (hb1.mono (by simp))).setCell (Nat.le_refl _) _).setCell (Nat.le_refl _) _).setCell (Nat.le_refl _) _).setCell (Nat.le_refl _) _⟩
        · rw [hb2] at hM
          have HN := Lib.hid (kept_next s i 3 m hk.out hlt (caps_more _ hb2))
          have HL := Lib.hid hL; have HM := Lib.hid hM
          clear hL hM hb hb2 hc hk
          go_wp2_with (first | (go_at_call 66; refine (HL.out _).mono ?_; rintro e w' ⟨rfl, rfl⟩) | (go_at_call 68; refine (HM.out _).mono ?_; rintro e w' ⟨rfl, rfl⟩))
          go_step3
          exact ⟨⟨rfl, m + 1, _, by first | rfl | omega | (push_cast; omega), by omega, by omega, Lib.hid HN.out, rfl, rfl, rfl, rfl, rfl, rfl, rfl, rfl⟩, by simp [intOf]; omega⟩
      · rw [hb] at hL
        have HN := Lib.hid (kept_next s i 3 m hk.out hlt (caps_letter _ hb))
        have HL := Lib.hid hL; have HM := Lib.hid hM
        clear hL hM hb hc hk
        go_wp2_with (first | (go_at_call 66; refine (HL.out _).mono ?_; rintro e w' ⟨rfl, rfl⟩) | (go_at_call 68; refine (HM.out _).mono ?_; rintro e w' ⟨rfl, rfl⟩))
        go_step3
        exact ⟨⟨rfl, m + 1, _, by first | rfl | omega | (push_cast; omega), by omega, by omega, Lib.hid HN.out, rfl, rfl, rfl, rfl, rfl, rfl, rfl, rfl⟩, by simp [intOf]; omega⟩
    · have hge : (s.size : Int) ≤ m := by omega
      have HV := Lib.hid (pieceV_3 s i m (by omega) h2 hk.out (fun h => absurd h hlt))
      have hext : (s.extract i m).size ≤ maxLen := by rw [size_extract s i m (by omega) h2]; unfold maxLen; omega
      obtain ⟨ka, kb, kc, kd, kx, ky, hshape⟩ := named_shape (s.extract i m) i m 3
      have hn := named_any (s.extract i m) i m 3 _ hext (by omega) hm63 (by omega) Hkw.out
      rw [hshape] at hn HV
      have HN := Lib.hid hn
      clear hn hshape hk hext 
      go_wp2_with fail
      refine HN.out.mono ?_
      rintro e w1 ⟨rfl, hb1⟩
      obtain ⟨hcell, hfroz⟩ := bcell hb1
      have hsz1 := hb1.size
      go_wp2_with fail
      simp only [Exit.jumps]
      exact bodyPost_ret (v := .tuple #[.agg #[.int .i64 ka, .string kb, .int .i64 kc, .int .i64 kd], .int .i64 kx, .int .i64 ky]) (by simp [results, Tryd.results37, go_sem, hcell]) rfl ⟨by rw [HV.out], ((((hb0.trans (hb1.mono (by simp))).setCell (Nat.le_refl _) _).setCell (Nat.le_refl _) _).setCell (Nat.le_refl _) _).setCell (Nat.le_refl _) _⟩
  · rintro a' w' ⟨rfl, m, z, hz, h1, h2, hk, hd, hsz, f0, f1, f4, f5, f6, f7⟩
    obtain ⟨u, rfl⟩ := frame156 a' hd hsz f0 f1 f4 f5 f6 f7
    subst hz
    clear hd hsz f0 f1 f4 f5 f6 f7
    have hm63 : m ≤ 9223372036854775807 := by omega
    by_cases hlt : m < s.size
    · have h255 := byte_le s[m]
      have hc := byteAt_get s m hlt
      have hL : ∀ w', Calls Tryd.prog 66 #[.int .u8 (s[m].toNat : Nat), .int .u8 48, .int .u8 57] w' fun e w2 => e = .returned (.bool (isDigit (byteAt s m))) ∧ w' = w2 := fun w' => by rw [hc]; exact within_any _ 48 57 w' h255 (by omega) (by omega)
      cases hb : isDigit (byteAt s m)
      · rw [hb] at hL
        have HL := Lib.hid hL
        have HV0 := Lib.hid (pieceV_4 s i m (by omega) h2 hk.out (fun _ => hb))
        have hext : (s.extract i m).size ≤ maxLen := by rw [size_extract s i m (by omega) h2]; unfold maxLen; omega
        cases hn : numB (s.extract i m)
        · have HV := HV0.out
          rw [hn] at HV
          have HV := Lib.hid HV
          have HP := Lib.hid (digitParse_no (s.extract i m) _ hext (fun n h => by rw [numB_of h] at hn; cases hn) Htab.out)
          clear HV0 hn hk hext hL hb hc
          go_wp2_with (go_at_call 66; refine (HL.out _).mono ?_; rintro e w' ⟨rfl, rfl⟩)
          refine HP.out.mono ?_
          rintro e w1 ⟨rfl, hb1⟩
          obtain ⟨hcell, hfroz⟩ := bcell hb1
          have hsz1 := hb1.size
          go_wp2_with fail
          simp only [Exit.jumps]
          exact bodyPost_ret (v := .tuple #[.agg #[.int .i64 0, .string ⟨#[]⟩, .int .i64 0, .int .i64 0], .int .i64 i, .int .i64 5]) (by simp [results, Tryd.results37, go_sem, hcell]) rfl ⟨by rw [HV.out], ((((hb0.trans (hb1.mono (by simp))).setCell (Nat.le_refl _) _).setCell (Nat.le_refl _) _).setCell (Nat.le_refl _) _).setCell (Nat.le_refl _) _⟩
        · rename_i n
          have HV := HV0.out
          rw [hn] at HV
          have HV := Lib.hid HV
          have hIs := numB_some hn
          have hp : ∀ w', Tab10 w' → Calls Tryd.prog 70 #[.string (s.extract i m)] w' fun e w2 => e = .returned (.tuple #[.int .i64 (n : Nat), .int .i64 0]) ∧ Below w'.heap.size w' w2 := fun w' h => by rw [hIs.1]; exact digitParse_yes n w' hIs.2 h
          have HP := Lib.hid (hp _ Htab.out)
          clear HV0 hn hk hext hp hIs hL hb hc
          go_wp2_with (go_at_call 66; refine (HL.out _).mono ?_; rintro e w' ⟨rfl, rfl⟩)
          refine HP.out.mono ?_
          rintro e w1 ⟨rfl, hb1⟩
          obtain ⟨hcell, hfroz⟩ := bcell hb1
          have hsz1 := hb1.size
          go_wp2_with fail
          simp only [Exit.jumps]
          exact bodyPost_ret (v := .tuple #[.agg #[.int .i64 4, .string ⟨#[]⟩, .int .i64 (n : Nat), .int .i64 i], .int .i64 m, .int .i64 0]) (by simp [results, Tryd.results37, go_sem, hcell]) rfl ⟨by rw [HV.out], ((((hb0.trans (hb1.mono (by simp))).setCell (Nat.le_refl _) _).setCell (Nat.le_refl _) _).setCell (Nat.le_refl _) _).setCell (Nat.le_refl _) _⟩
      · rw [hb] at hL
        have HN := Lib.hid (kept_next s i 4 m hk.out hlt hb)
        have HL := Lib.hid hL
        clear hL hb hc hk
        go_wp2_with (go_at_call 66; refine (HL.out _).mono ?_; rintro e w' ⟨rfl, rfl⟩)
        go_step3
        exact ⟨⟨rfl, m + 1, _, by first | rfl | omega | (push_cast; omega), by omega, by omega, Lib.hid HN.out, rfl, rfl, rfl, rfl, rfl, rfl, rfl, rfl⟩, by simp [intOf]; omega⟩
    · have hge : (s.size : Int) ≤ m := by omega
      have HV0 := Lib.hid (pieceV_4 s i m (by omega) h2 hk.out (fun h => absurd h hlt))
      have hext : (s.extract i m).size ≤ maxLen := by rw [size_extract s i m (by omega) h2]; unfold maxLen; omega
      cases hn : numB (s.extract i m)
      · have HV := HV0.out
        rw [hn] at HV
        have HV := Lib.hid HV
        have HP := Lib.hid (digitParse_no (s.extract i m) _ hext (fun n h => by rw [numB_of h] at hn; cases hn) Htab.out)
        clear HV0 hn hk hext 
        go_wp2_with fail
        refine HP.out.mono ?_
        rintro e w1 ⟨rfl, hb1⟩
        obtain ⟨hcell, hfroz⟩ := bcell hb1
        have hsz1 := hb1.size
        go_wp2_with fail
        simp only [Exit.jumps]
        exact bodyPost_ret (v := .tuple #[.agg #[.int .i64 0, .string ⟨#[]⟩, .int .i64 0, .int .i64 0], .int .i64 i, .int .i64 5]) (by simp [results, Tryd.results37, go_sem, hcell]) rfl ⟨by rw [HV.out], ((((hb0.trans (hb1.mono (by simp))).setCell (Nat.le_refl _) _).setCell (Nat.le_refl _) _).setCell (Nat.le_refl _) _).setCell (Nat.le_refl _) _⟩
      · rename_i n
        have HV := HV0.out
        rw [hn] at HV
        have HV := Lib.hid HV
        have hIs := numB_some hn
        have hp : ∀ w', Tab10 w' → Calls Tryd.prog 70 #[.string (s.extract i m)] w' fun e w2 => e = .returned (.tuple #[.int .i64 (n : Nat), .int .i64 0]) ∧ Below w'.heap.size w' w2 := fun w' h => by rw [hIs.1]; exact digitParse_yes n w' hIs.2 h
        have HP := Lib.hid (hp _ Htab.out)
        clear HV0 hn hk hext hp hIs 
        go_wp2_with fail
        refine HP.out.mono ?_
        rintro e w1 ⟨rfl, hb1⟩
        obtain ⟨hcell, hfroz⟩ := bcell hb1
        have hsz1 := hb1.size
        go_wp2_with fail
        simp only [Exit.jumps]
        exact bodyPost_ret (v := .tuple #[.agg #[.int .i64 4, .string ⟨#[]⟩, .int .i64 (n : Nat), .int .i64 i], .int .i64 m, .int .i64 0]) (by simp [results, Tryd.results37, go_sem, hcell]) rfl ⟨by rw [HV.out], ((((hb0.trans (hb1.mono (by simp))).setCell (Nat.le_refl _) _).setCell (Nat.le_refl _) _).setCell (Nat.le_refl _) _).setCell (Nat.le_refl _) _⟩
end Go.Proofs.YteijndfacjgfbaaDoor
