/-
  Tokens of a program's text, as plain functions on bytes.
-/
import Derived.Test.YtapmjkgndojdfaaDoorLexA
namespace Go.Proofs.YtapmjkgndojdfaaDoor.LX
set_option linter.unusedVariables false
def isLetter (c : Nat) : Bool := decide ((97 ≤ c ∧ c ≤ 122) ∨ (65 ≤ c ∧ c ≤ 90) ∨ c = 95)
def isLets (c : Nat) : Bool := decide ((97 ≤ c ∧ c ≤ 122) ∨ (65 ≤ c ∧ c ≤ 90) ∨ c = 95 ∨ (48 ≤ c ∧ c ≤ 57))
def isSpace (c : Nat) : Bool := decide (c = 32 ∨ c = 9 ∨ c = 13)
def isGap (c : Nat) : Bool := decide (c = 32 ∨ c = 9 ∨ c = 13 ∨ c = 10)
def signT : List (List UInt8) := [[58, 61], [61, 61], [33, 61], [60, 61], [124, 124], [38, 38], [60], [61], [43], [45], [42], [33], [46], [40], [41], [123], [125], [44], [58]]
/-- How many bytes the sign has that stands there. -/
def signLen (s : ByteArray) (i : Nat) : Nat := match signT.find? (fun x => x.isPrefixOf (s.data.toList.drop i)) with
  | some x => x.length
  | none => 0
def nl (p : Nat) : Tok := ⟨5, ⟨#[10]⟩, 0, p⟩
section
variable (kw : ByteArray → Bool) (num : ByteArray → Option Nat)
def oneT (s : ByteArray) (i : Nat) : Option (Tok × Nat) :=
  let c := byteAt s i
  if isLetter c then
    let j := runEnd isLets s (i + 1)
    if j - i ≤ 40 then some (⟨if kw (s.extract i j) then 1 else 2, s.extract i j, 0, i⟩, j) else none
  else if isDigit c then
    let j := runEnd isDigit s (i + 1)
    match num (s.extract i j) with
    | some n => some (⟨4, ByteArray.empty, n, i⟩, j)
    | none => none
  else if signLen s i = 0 then none
  else some (⟨5, s.extract i (i + signLen s i), 0, i⟩, i + signLen s i)
theorem signLen_le (s : ByteArray) (i : Nat) (hi : i ≤ s.size) : i + signLen s i ≤ s.size := by
  unfold signLen
  cases h : signT.find? (fun x => x.isPrefixOf (s.data.toList.drop i)) with
  | none => exact hi
  | some x =>
    have := List.find?_some h
    have h2 := (List.isPrefixOf_iff_prefix.1 this).length_le
    rw [List.length_drop, Array.length_toList] at h2
    have h3 : x.length ≤ s.size - i := h2
    show i + x.length ≤ s.size
    omega
theorem oneT_gt (s i t j) (h : oneT kw num s i = some (t, j)) : i < j := by
  unfold oneT at h
  simp only at h
  repeat' split at h
  all_goals first
    | (cases h; done)
    | (simp only [Option.some.injEq, Prod.mk.injEq] at h; have := runEnd_ge isLets s (i + 1); have := runEnd_ge isDigit s (i + 1); omega)
theorem oneT_le (s i t j) (hi : i < s.size) (h : oneT kw num s i = some (t, j)) : j ≤ s.size := by
  unfold oneT at h
  simp only at h
  repeat' split at h
  all_goals first
    | (cases h; done)
    | (simp only [Option.some.injEq, Prod.mk.injEq] at h; have := runEnd_le isLets s (i + 1) (by omega); have := runEnd_le isDigit s (i + 1) (by omega); have := signLen_le s i (by omega); omega)
/-- What stands ahead of the next token: a line feed, between two tokens. -/
def withFeed (fd : Option Nat) (acc : List Tok) : List Tok := match fd with
  | some p => if acc.length = 0 then acc else acc ++ [nl p]
  | none => acc
def tokFrom (s : ByteArray) : Nat → Nat → Option Nat → List Tok → (List Tok × Nat × Nat)
  | 0, i, _, acc => (acc, i, 0)
  | f + 1, i, fd, acc =>
    if s.size ≤ i then (acc, s.size, 0)
    else if isSpace (byteAt s i) then tokFrom s f (i + 1) fd acc
    else if byteAt s i = 10 then tokFrom s f (i + 1) (some (fd.getD i)) acc
    else match oneT kw num s i with
      | none => ([], i, 5)
      | some (t, j) => tokFrom s f j none (withFeed fd acc ++ [t])
theorem tokFrom_s (s : ByteArray) (f i fd acc) : tokFrom kw num s (f + 1) i fd acc = (if s.size ≤ i then (acc, s.size, 0)
    else if isSpace (byteAt s i) then tokFrom kw num s f (i + 1) fd acc
    else if byteAt s i = 10 then tokFrom kw num s f (i + 1) (some (fd.getD i)) acc
    else match oneT kw num s i with
      | none => ([], i, 5)
      | some (t, j) => tokFrom kw num s f j none (withFeed fd acc ++ [t])) := rfl
theorem tokFrom_more (s : ByteArray) (f i fd acc) (hi : i ≤ s.size) (h : s.size - i < f) : tokFrom kw num s (f + 1) i fd acc = tokFrom kw num s f i fd acc := by
  induction f generalizing i fd acc with
  | zero => omega
  | succ f ih =>
    rw [tokFrom_s kw num s (f + 1) i fd acc, tokFrom_s kw num s f i fd acc]
    by_cases hlt : s.size ≤ i
    · rw [if_pos hlt, if_pos hlt]
    · rw [if_neg hlt, if_neg hlt]
      split
      · exact ih (i + 1) fd acc (by omega) (by omega)
      · split
        · exact ih _ _ acc (by omega) (by omega)
        · cases ho : oneT kw num s i with
          | none => rfl
          | some x =>
            obtain ⟨t, j⟩ := x
            have := oneT_gt kw num s i t j ho; have := oneT_le kw num s i t j (by omega) ho
            exact ih j _ _ (by omega) (by omega)
def tokS (s : ByteArray) (i : Nat) (fd : Option Nat) (acc : List Tok) : List Tok × Nat × Nat := tokFrom kw num s (s.size - i + 1) i fd acc
theorem tokFrom_eq (s : ByteArray) (f i fd acc) (hi : i ≤ s.size) (h : s.size - i < f) : tokFrom kw num s f i fd acc = tokS kw num s i fd acc := by
  obtain ⟨d, hd⟩ : ∃ d, f = s.size - i + 1 + d := ⟨f - (s.size - i + 1), by omega⟩
  subst hd
  induction d with
  | zero => rfl
  | succ d ih => rw [← ih (by omega), ← Nat.add_assoc, tokFrom_more kw num s _ i fd acc hi (by omega)]
theorem tokS_end (s i fd acc) (h : s.size ≤ i) : tokS kw num s i fd acc = (acc, s.size, 0) := by
  unfold tokS; rw [tokFrom_s, if_pos h]
theorem tokS_space (s i fd acc) (h : i < s.size) (hb : isSpace (byteAt s i) = true) : tokS kw num s i fd acc = tokS kw num s (i + 1) fd acc := by
  unfold tokS; rw [tokFrom_s, if_neg (by omega), if_pos hb]
  exact tokFrom_eq kw num s _ _ _ acc (by omega) (by omega)
theorem tokS_feed (s i fd acc) (h : i < s.size) (hb : isSpace (byteAt s i) = false) (hr : byteAt s i = 10) : tokS kw num s i fd acc = tokS kw num s (i + 1) (some (fd.getD i)) acc := by
  unfold tokS; rw [tokFrom_s, if_neg (by omega), if_neg (by simp [hb]), if_pos hr]
  exact tokFrom_eq kw num s _ _ _ acc (by omega) (by omega)
theorem tokS_none (s i fd acc) (h : i < s.size) (hb : isSpace (byteAt s i) = false) (hr : byteAt s i ≠ 10) (ho : oneT kw num s i = none) : tokS kw num s i fd acc = ([], i, 5) := by
  unfold tokS; rw [tokFrom_s, if_neg (by omega), if_neg (by simp [hb]), if_neg hr, ho]
theorem tokS_some (s i fd acc t j) (h : i < s.size) (hb : isSpace (byteAt s i) = false) (hr : byteAt s i ≠ 10) (ho : oneT kw num s i = some (t, j)) : tokS kw num s i fd acc = tokS kw num s j none (withFeed fd acc ++ [t]) := by
  unfold tokS; rw [tokFrom_s, if_neg (by omega), if_neg (by simp [hb]), if_neg hr, ho]
  have := oneT_gt kw num s i t j ho; have := oneT_le kw num s i t j (by omega) ho
  exact tokFrom_eq kw num s _ _ _ _ (by omega) (by omega)
theorem tokS_spaces (s i fd acc) (h : i ≤ s.size) : tokS kw num s i fd acc = tokS kw num s (runEnd isSpace s i) fd acc := by
  obtain ⟨f, hf⟩ : ∃ f, f = s.size - i := ⟨_, rfl⟩
  induction f generalizing i with
  | zero => rw [runEnd_end isSpace s i (by omega)]
  | succ f ih =>
    cases hb : isSpace (byteAt s i) with
    | false => rw [runEnd_stop isSpace s i (by omega) hb]
    | true => rw [tokS_space kw num s i fd acc (by omega) hb, runEnd_step isSpace s i (by omega) hb]; exact ih (i + 1) (by omega) (by omega)
theorem gap_cases (c : Nat) (h : isGap c = true) : isSpace c = true ∨ (isSpace c = false ∧ c = 10) := by
  unfold isGap at h; unfold isSpace; simp at *; omega
theorem tokS_gaps (s i p acc) (h : i ≤ s.size) : tokS kw num s i (some p) acc = tokS kw num s (runEnd isGap s i) (some p) acc := by
  obtain ⟨f, hf⟩ : ∃ f, f = s.size - i := ⟨_, rfl⟩
  induction f generalizing i with
  | zero => rw [runEnd_end isGap s i (by omega)]
  | succ f ih =>
    cases hb : isGap (byteAt s i) with
    | false => rw [runEnd_stop isGap s i (by omega) hb]
    | true =>
      rw [runEnd_step isGap s i (by omega) hb, ← ih (i + 1) (by omega) (by omega)]
      rcases gap_cases _ hb with h1 | ⟨h1, h2⟩
      · exact tokS_space kw num s i _ acc (by omega) h1
      · exact tokS_feed kw num s i _ acc (by omega) h1 h2
end
end Go.Proofs.YtapmjkgndojdfaaDoor.LX
