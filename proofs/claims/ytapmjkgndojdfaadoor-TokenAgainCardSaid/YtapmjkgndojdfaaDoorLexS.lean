/-
  Tokens of a grammar's text, as plain functions on bytes.
-/
namespace Go.Proofs.YtapmjkgndojdfaaDoor.LX
/-- A token of a text. -/
structure Tok where
  k : Nat
  s : ByteArray
  n : Nat
  p : Nat

def isBlank (c : Nat) : Bool := decide (c = 32 ∨ c = 9 ∨ c = 10 ∨ c = 13)
def isDigit (c : Nat) : Bool := decide (48 ≤ c ∧ c ≤ 57)
def isSmall (c : Nat) : Bool := decide (97 ≤ c ∧ c ≤ 122)
def isGreat (c : Nat) : Bool := decide (65 ≤ c ∧ c ≤ 90)
def isMore (c : Nat) : Bool := decide ((48 ≤ c ∧ c ≤ 57) ∨ c = 95)
def isWord (c : Nat) : Bool := decide ((97 ≤ c ∧ c ≤ 122) ∨ (48 ≤ c ∧ c ≤ 57) ∨ c = 95)
def isCaps (c : Nat) : Bool := decide ((65 ≤ c ∧ c ≤ 90) ∨ (48 ≤ c ∧ c ≤ 57) ∨ c = 95)
def notFeed (c : Nat) : Bool := decide (c ≠ 10)
def isSign (c : Nat) : Bool := [58, 59, 124, 40, 41, 63, 42, 43, 61, 44].contains c

/-- The byte at a place, as a number. -/
def byteAt (s : ByteArray) (i : Nat) : Nat := (s.data.toList.getD i 0).toNat
/-- Where a run of such bytes ends that begins at i. -/
def runTo (p : Nat → Bool) (s : ByteArray) : Nat → Nat → Nat
  | 0, i => i
  | f + 1, i => if i < s.size && p (byteAt s i) then runTo p s f (i + 1) else i
def runEnd (p : Nat → Bool) (s : ByteArray) (i : Nat) : Nat := runTo p s (s.size - i) i

theorem runTo_ge (p s) (f i : Nat) : i ≤ runTo p s f i := by
  induction f generalizing i with
  | zero => exact Nat.le_refl _
  | succ f ih =>
    unfold runTo; split
    · exact Nat.le_trans (Nat.le_succ i) (ih (i + 1))
    · exact Nat.le_refl _
theorem runTo_le (p s) (f i : Nat) (h : i ≤ s.size) : runTo p s f i ≤ s.size := by
  induction f generalizing i with
  | zero => exact h
  | succ f ih =>
    unfold runTo; split
    · rename_i hc; simp at hc; exact ih (i + 1) (by omega)
    · exact h
theorem runEnd_ge (p s) (i : Nat) : i ≤ runEnd p s i := runTo_ge p s _ i
theorem runEnd_le (p s) (i : Nat) (h : i ≤ s.size) : runEnd p s i ≤ s.size := runTo_le p s _ i h
theorem runEnd_step (p : Nat → Bool) (s) (i : Nat) (h : i < s.size) (hp : p (byteAt s i) = true) : runEnd p s i = runEnd p s (i + 1) := by
  unfold runEnd
  obtain ⟨f, hf⟩ : ∃ f, s.size - i = f + 1 := ⟨s.size - i - 1, by omega⟩
  rw [hf, show s.size - (i + 1) = f from by omega]
  rw [runTo, if_pos (by simp [h, hp])]
theorem runEnd_stop (p : Nat → Bool) (s) (i : Nat) (h : i < s.size) (hp : p (byteAt s i) = false) : runEnd p s i = i := by
  unfold runEnd
  obtain ⟨f, hf⟩ : ∃ f, s.size - i = f + 1 := ⟨s.size - i - 1, by omega⟩
  rw [hf, runTo, if_neg (by simp [hp])]
theorem runEnd_end (p : Nat → Bool) (s) (i : Nat) (h : s.size ≤ i) : runEnd p s i = i := by
  unfold runEnd; rw [show s.size - i = 0 from by omega]; rfl
theorem runEnd_all (p : Nat → Bool) (s) (i : Nat) : ∀ j, i ≤ j → j < runEnd p s i → p (byteAt s j) = true := by
  obtain ⟨f, hf⟩ : ∃ f, f = s.size - i := ⟨_, rfl⟩
  induction f generalizing i with
  | zero => intro j h1 h2; rw [runEnd_end p s i (by omega)] at h2; omega
  | succ f ih =>
    intro j h1 h2
    cases hp : p (byteAt s i) with
    | false => rw [runEnd_stop p s i (by omega) hp] at h2; omega
    | true =>
      rw [runEnd_step p s i (by omega) hp] at h2
      rcases Nat.lt_or_ge i j with h | h
      · exact ih (i + 1) (by omega) j h h2
      · obtain rfl : j = i := by omega
        exact hp
theorem runEnd_next (p : Nat → Bool) (s) (i : Nat) (h : i ≤ s.size) : runEnd p s i < s.size → p (byteAt s (runEnd p s i)) = false := by
  obtain ⟨f, hf⟩ : ∃ f, f = s.size - i := ⟨_, rfl⟩
  induction f generalizing i with
  | zero => intro h2; rw [runEnd_end p s i (by omega)] at h2; omega
  | succ f ih =>
    intro h2
    cases hp : p (byteAt s i) with
    | false => rw [runEnd_stop p s i (by omega) hp]; exact hp
    | true =>
      rw [runEnd_step p s i (by omega) hp] at h2 ⊢
      exact ih (i + 1) (by omega) (by omega) h2

section
variable (kw : ByteArray → Bool) (num : ByteArray → Option Nat)
/-- The token at a place that is no blank and no remark, and where it ends. -/
def one (s : ByteArray) (i : Nat) : Option (Tok × Nat) :=
  let c := byteAt s i
  if isSmall c then
    let j := runEnd isWord s (i + 1)
    if j - i ≤ 20 then some (⟨if kw (s.extract i j) then 1 else 2, s.extract i j, 0, i⟩, j) else none
  else if isGreat c then
    let j := runEnd isCaps s (i + 1)
    if j - i ≤ 20 then some (⟨3, s.extract i j, 0, i⟩, j) else none
  else if isDigit c then
    let j := runEnd isDigit s (i + 1)
    match num (s.extract i j) with
    | some n => some (⟨4, ByteArray.empty, n, i⟩, j)
    | none => none
  else if isSign c then some (⟨5, s.extract i (i + 1), 0, i⟩, i + 1)
  else none
theorem one_gt (s i t j) (h : one kw num s i = some (t, j)) : i < j := by
  unfold one at h
  simp only at h
  repeat' split at h
  all_goals first
    | (cases h; done)
    | (simp only [Option.some.injEq, Prod.mk.injEq] at h; have := runEnd_ge isWord s (i + 1); have := runEnd_ge isCaps s (i + 1); have := runEnd_ge isDigit s (i + 1); omega)
theorem one_le (s i t j) (hi : i < s.size) (h : one kw num s i = some (t, j)) : j ≤ s.size := by
  unfold one at h
  simp only at h
  repeat' split at h
  all_goals first
    | (cases h; done)
    | (simp only [Option.some.injEq, Prod.mk.injEq] at h; have := runEnd_le isWord s (i + 1) (by omega); have := runEnd_le isCaps s (i + 1) (by omega); have := runEnd_le isDigit s (i + 1) (by omega); omega)
/-- The tokens from a place on, behind those that were told: ok, or where it is wrong. -/
def lexFrom (s : ByteArray) : Nat → Nat → List Tok → (List Tok × Nat × Nat)
  | 0, i, acc => (acc, i, 0)
  | f + 1, i, acc =>
    if s.size ≤ i then (acc, s.size, 0)
    else if isBlank (byteAt s i) then lexFrom s f (i + 1) acc
    else if byteAt s i = 35 then lexFrom s f (runEnd notFeed s (i + 1)) acc
    else match one kw num s i with
      | none => ([], i, 5)
      | some (t, j) => lexFrom s f j (acc ++ [t])
theorem lexFrom_s (s : ByteArray) (f i acc) : lexFrom kw num s (f + 1) i acc = (if s.size ≤ i then (acc, s.size, 0)
    else if isBlank (byteAt s i) then lexFrom kw num s f (i + 1) acc
    else if byteAt s i = 35 then lexFrom kw num s f (runEnd notFeed s (i + 1)) acc
    else match one kw num s i with
      | none => ([], i, 5)
      | some (t, j) => lexFrom kw num s f j (acc ++ [t])) := rfl
theorem lexFrom_more (s : ByteArray) (f i acc) (hi : i ≤ s.size) (h : s.size - i < f) : lexFrom kw num s (f + 1) i acc = lexFrom kw num s f i acc := by
  induction f generalizing i acc with
  | zero => omega
  | succ f ih =>
    rw [lexFrom_s kw num s (f + 1) i acc, lexFrom_s kw num s f i acc]
    by_cases hlt : s.size ≤ i
    · rw [if_pos hlt, if_pos hlt]
    · rw [if_neg hlt, if_neg hlt]
      split
      · exact ih (i + 1) acc (by omega) (by omega)
      · split
        · have := runEnd_ge notFeed s (i + 1); have := runEnd_le notFeed s (i + 1) (by omega)
          exact ih _ acc (by omega) (by omega)
        · cases ho : one kw num s i with
          | none => rfl
          | some x =>
            obtain ⟨t, j⟩ := x
            have := one_gt kw num s i t j ho; have := one_le kw num s i t j (by omega) ho
            exact ih j _ (by omega) (by omega)
def lexS (s : ByteArray) (i : Nat) (acc : List Tok) : List Tok × Nat × Nat := lexFrom kw num s (s.size - i + 1) i acc
theorem lexFrom_eq (s : ByteArray) (f i acc) (hi : i ≤ s.size) (h : s.size - i < f) : lexFrom kw num s f i acc = lexS kw num s i acc := by
  obtain ⟨d, hd⟩ : ∃ d, f = s.size - i + 1 + d := ⟨f - (s.size - i + 1), by omega⟩
  subst hd
  induction d with
  | zero => rfl
  | succ d ih => rw [← ih (by omega), ← Nat.add_assoc, lexFrom_more kw num s _ i acc hi (by omega)]
theorem lexS_end (s i acc) (h : s.size ≤ i) : lexS kw num s i acc = (acc, s.size, 0) := by
  unfold lexS; rw [lexFrom, if_pos h]
theorem lexS_blank (s i acc) (h : i < s.size) (hb : isBlank (byteAt s i) = true) : lexS kw num s i acc = lexS kw num s (i + 1) acc := by
  unfold lexS; rw [lexFrom, if_neg (by omega), if_pos hb]
  exact lexFrom_eq kw num s _ _ acc (by omega) (by omega)
theorem lexS_remark (s i acc) (h : i < s.size) (hb : isBlank (byteAt s i) = false) (hr : byteAt s i = 35) : lexS kw num s i acc = lexS kw num s (runEnd notFeed s (i + 1)) acc := by
  unfold lexS; rw [lexFrom, if_neg (by omega), if_neg (by simp [hb]), if_pos hr]
  have := runEnd_ge notFeed s (i + 1); have := runEnd_le notFeed s (i + 1) (by omega)
  exact lexFrom_eq kw num s _ _ acc (by omega) (by omega)
theorem lexS_none (s i acc) (h : i < s.size) (hb : isBlank (byteAt s i) = false) (hr : byteAt s i ≠ 35) (ho : one kw num s i = none) : lexS kw num s i acc = ([], i, 5) := by
  unfold lexS; rw [lexFrom, if_neg (by omega), if_neg (by simp [hb]), if_neg hr, ho]
theorem lexS_some (s i acc t j) (h : i < s.size) (hb : isBlank (byteAt s i) = false) (hr : byteAt s i ≠ 35) (ho : one kw num s i = some (t, j)) : lexS kw num s i acc = lexS kw num s j (acc ++ [t]) := by
  unfold lexS; rw [lexFrom, if_neg (by omega), if_neg (by simp [hb]), if_neg hr, ho]
  have := one_gt kw num s i t j ho; have := one_le kw num s i t j (by omega) ho
  exact lexFrom_eq kw num s _ _ _ (by omega) (by omega)
theorem lexS_blanks (s i acc) (h : i ≤ s.size) : lexS kw num s i acc = lexS kw num s (runEnd isBlank s i) acc := by
  obtain ⟨f, hf⟩ : ∃ f, f = s.size - i := ⟨_, rfl⟩
  induction f generalizing i with
  | zero => rw [runEnd_end isBlank s i (by omega)]
  | succ f ih =>
    cases hb : isBlank (byteAt s i) with
    | false => rw [runEnd_stop isBlank s i (by omega) hb]
    | true => rw [lexS_blank kw num s i acc (by omega) hb, runEnd_step isBlank s i (by omega) hb]; exact ih (i + 1) (by omega) (by omega)
end
end Go.Proofs.YtapmjkgndojdfaaDoor.LX
