/-
  Plain: a text of tokens, a blank behind each, is read as these tokens.
-/
import Derived.Test.YtapmjkgndojdfaaDoorLexS
namespace Go.Proofs.YtapmjkgndojdfaaDoor.LX
set_option linter.unusedVariables false
theorem runEnd_of (p : Nat → Bool) (s : ByteArray) (i j : Nat) (hij : i ≤ j) (hj : j ≤ s.size) (h : ∀ m, i ≤ m → m < j → p (byteAt s m) = true) (he : j < s.size → p (byteAt s j) = false) : runEnd p s i = j := by
  obtain ⟨f, hf⟩ : ∃ f, f = j - i := ⟨_, rfl⟩
  induction f generalizing i with
  | zero =>
    obtain rfl : i = j := by omega
    rcases Nat.lt_or_ge i s.size with h1 | h1
    · exact runEnd_stop p s i h1 (he h1)
    · exact runEnd_end p s i h1
  | succ f ih =>
    rw [runEnd_step p s i (by omega) (h i (Nat.le_refl _) (by omega))]
    exact ih (i + 1) (by omega) (fun m h1 h2 => h m (by omega) h2) (by omega)

section
variable (kw : ByteArray → Bool) (num : ByteArray → Option Nat) (dec : Nat → ByteArray)
/-- A token's text. -/
def txt (t : Tok) : ByteArray := if t.k = 4 then dec t.n else t.s
/-- What a token is made of. -/
def Fair (t : Tok) : Prop :=
  (t.n = 0 ∧ isSmall (byteAt t.s 0) = true ∧ (∀ m, m < t.s.size → isWord (byteAt t.s m) = true) ∧ 1 ≤ t.s.size ∧ t.s.size ≤ 20 ∧ t.k = (if kw t.s then 1 else 2)) ∨
  (t.k = 3 ∧ t.n = 0 ∧ isGreat (byteAt t.s 0) = true ∧ (∀ m, m < t.s.size → isCaps (byteAt t.s m) = true) ∧ 1 ≤ t.s.size ∧ t.s.size ≤ 20) ∨
  (t.k = 4 ∧ t.s = ByteArray.empty ∧ num (dec t.n) = some t.n ∧ (∀ m, m < (dec t.n).size → isDigit (byteAt (dec t.n) m) = true) ∧ 1 ≤ (dec t.n).size) ∨
  (t.k = 5 ∧ t.n = 0 ∧ t.s.size = 1 ∧ isSign (byteAt t.s 0) = true)
theorem byteAt_extract (s : ByteArray) (i j m : Nat) (hj : j ≤ s.size) (hm : i + m < j) : byteAt (s.extract i j) m = byteAt s (i + m) := by
  unfold byteAt
  rw [ByteArray.data_extract, Array.toList_extract]
  simp only [List.getD_eq_getElem?_getD]
  rw [List.extract_eq_take_drop, List.getElem?_take, if_pos (by omega), List.getElem?_drop]
theorem size_extract (s : ByteArray) (i j : Nat) (hij : i ≤ j) (hj : j ≤ s.size) : (s.extract i j).size = j - i := by
  rw [ByteArray.size_extract]; omega
theorem small_word (c : Nat) (h : isSmall c = true) : isWord c = true := by unfold isSmall at h; unfold isWord; simp at *; omega
theorem great_caps (c : Nat) (h : isGreat c = true) : isCaps c = true := by unfold isGreat at h; unfold isCaps; simp at *; omega
theorem one_fair (hnum : ∀ x n, num x = some n → x = dec n) (s : ByteArray) (i : Nat) (t : Tok) (j : Nat) (hi : i < s.size) (h : one kw num s i = some (t, j)) : Fair kw num dec t ∧ t.p = i ∧ j ≤ s.size := by
  have hle := one_le kw num s i t j hi h
  refine ⟨?_, ?_, hle⟩
  · unfold one at h
    simp only at h
    split at h
    · rename_i hs
      have h1 := runEnd_ge isWord s (i + 1); have h2 := runEnd_le isWord s (i + 1) (by omega)
      have h3 := runEnd_all isWord s (i + 1)
      split at h
      · simp only [Option.some.injEq, Prod.mk.injEq] at h
        obtain ⟨rfl, rfl⟩ := h
        generalize runEnd isWord s (i + 1) = j at *
        refine .inl ⟨rfl, ?_, fun m hm => ?_, ?_, ?_, rfl⟩
        · rw [byteAt_extract s i j 0 h2 (by omega)]; exact hs
        · rw [size_extract s i j (by omega) h2] at hm
          rw [byteAt_extract s i j m h2 (by omega)]
          rcases Nat.eq_zero_or_pos m with h0 | h0
          · subst h0; exact small_word _ hs
          · exact h3 (i + m) (by omega) (by omega)
        · show 1 ≤ (s.extract i j).size; rw [size_extract s i j (by omega) h2]; omega
        · show (s.extract i j).size ≤ 20; rw [size_extract s i j (by omega) h2]; omega
      · cases h
    · split at h
      · rename_i hs
        have h1 := runEnd_ge isCaps s (i + 1); have h2 := runEnd_le isCaps s (i + 1) (by omega)
        have h3 := runEnd_all isCaps s (i + 1)
        split at h
        · simp only [Option.some.injEq, Prod.mk.injEq] at h
          obtain ⟨rfl, rfl⟩ := h
          generalize runEnd isCaps s (i + 1) = j at *
          refine .inr (.inl ⟨rfl, rfl, ?_, fun m hm => ?_, ?_, ?_⟩)
          · rw [byteAt_extract s i j 0 h2 (by omega)]; exact hs
          · rw [size_extract s i j (by omega) h2] at hm
            rw [byteAt_extract s i j m h2 (by omega)]
            rcases Nat.eq_zero_or_pos m with h0 | h0
            · subst h0; exact great_caps _ hs
            · exact h3 (i + m) (by omega) (by omega)
          · show 1 ≤ (s.extract i j).size; rw [size_extract s i j (by omega) h2]; omega
          · show (s.extract i j).size ≤ 20; rw [size_extract s i j (by omega) h2]; omega
        · cases h
      · split at h
        · rename_i hs
          have h1 := runEnd_ge isDigit s (i + 1); have h2 := runEnd_le isDigit s (i + 1) (by omega)
          have h3 := runEnd_all isDigit s (i + 1)
          generalize runEnd isDigit s (i + 1) = j' at *
          split at h
          · rename_i n hn
            simp only [Option.some.injEq, Prod.mk.injEq] at h
            obtain ⟨rfl, rfl⟩ := h
            have hx := hnum _ _ hn
            refine .inr (.inr (.inl ⟨rfl, rfl, ?_, fun m hm => ?_, ?_⟩))
            · show num (dec n) = some n; rw [← hx]; exact hn
            · show isDigit (byteAt (dec n) m) = true
              have hm' : m < (dec n).size := hm
              rw [← hx] at hm' ⊢
              rw [size_extract s i j' (by omega) h2] at hm'
              rw [byteAt_extract s i j' m h2 (by omega)]
              rcases Nat.eq_zero_or_pos m with h0 | h0
              · subst h0; exact hs
              · exact h3 (i + m) (by omega) (by omega)
            · show 1 ≤ (dec n).size; rw [← hx, size_extract s i j' (by omega) h2]; omega
          · cases h
        · split at h
          · rename_i hs
            simp only [Option.some.injEq, Prod.mk.injEq] at h
            obtain ⟨rfl, rfl⟩ := h
            refine .inr (.inr (.inr ⟨rfl, rfl, ?_, ?_⟩))
            · show (s.extract i (i + 1)).size = 1; rw [size_extract s i (i + 1) (by omega) (by omega)]; omega
            · show isSign (byteAt (s.extract i (i + 1)) 0) = true; rw [byteAt_extract s i (i + 1) 0 (by omega) (by omega)]; exact hs
          · cases h
  · unfold one at h
    simp only at h
    repeat' split at h
    all_goals first
      | (cases h; done)
      | (simp only [Option.some.injEq, Prod.mk.injEq] at h; rw [← h.1])
theorem ext_of (t x : ByteArray) (i : Nat) (h : i + x.size ≤ t.size) (hb : ∀ m, m < x.size → byteAt t (i + m) = byteAt x m) : t.extract i (i + x.size) = x := by
  have hs : (t.extract i (i + x.size)).size = x.size := by rw [size_extract _ _ _ (by omega) h]; omega
  apply ByteArray.ext
  apply Array.ext
  · exact hs
  · intro m h1 h2
    have h3 : m < x.size := h2
    have := byteAt_extract t i (i + x.size) m h (by omega)
    rw [hb m h3] at this
    unfold byteAt at this
    rw [List.getD_eq_getElem?_getD, List.getD_eq_getElem?_getD, List.getElem?_eq_getElem (by rw [Array.length_toList]; exact h1), List.getElem?_eq_getElem (by rw [Array.length_toList]; exact h2)] at this
    simp only [Option.getD_some, Array.getElem_toList] at this
    exact UInt8.toNat_inj.1 this
theorem space_not : isWord 32 = false ∧ isCaps 32 = false ∧ isDigit 32 = false := by decide
/-- A token's text, with a blank behind, is read as the token. -/
theorem one_of (s : ByteArray) (t : Tok) (i : Nat) (hf : Fair kw num dec t) (hlen : i + (txt dec t).size < s.size) (hb : ∀ m, m < (txt dec t).size → byteAt s (i + m) = byteAt (txt dec t) m) (hsp : byteAt s (i + (txt dec t).size) = 32) :
    1 ≤ (txt dec t).size ∧ isBlank (byteAt s i) = false ∧ byteAt s i ≠ 35 ∧ one kw num s i = some ({ t with p := i }, i + (txt dec t).size) := by
  obtain ⟨n1, n2, n3⟩ := space_not
  rcases hf with ⟨h0, h1, h2, h3, h4, h5⟩ | ⟨h0, h0', h1, h2, h3, h4⟩ | ⟨h0, h1, h2, h3, h4⟩ | ⟨h0, h0', h1, h2⟩
  · have hk : t.k ≠ 4 := by rw [h5]; split <;> decide
    have hx : txt dec t = t.s := by unfold txt; rw [if_neg hk]
    rw [hx] at hlen hb hsp ⊢
    have hc := hb 0 (by omega); rw [Nat.add_zero] at hc
    have hext := ext_of s t.s i (by omega) hb
    have hrun : runEnd isWord s (i + 1) = i + t.s.size := runEnd_of isWord s (i + 1) (i + t.s.size) (by omega) (by omega) (fun m a b => by
      have := hb (m - i) (by omega); rw [show i + (m - i) = m from by omega] at this; rw [this]; exact h2 _ (by omega)) (fun _ => by rw [hsp]; exact n1)
    refine ⟨h3, ?_, ?_, ?_⟩
    · rw [hc]; unfold isSmall at h1; unfold isBlank; simp at *; omega
    · rw [hc]; unfold isSmall at h1; simp at *; omega
    · unfold one; simp only
      rw [hc, if_pos h1, hrun, if_pos (by omega), hext, ← h5]
      cases t; simp only at h0; subst h0; rfl
  · have hk : t.k ≠ 4 := by rw [h0]; decide
    have hx : txt dec t = t.s := by unfold txt; rw [if_neg hk]
    rw [hx] at hlen hb hsp ⊢
    have hc := hb 0 (by omega); rw [Nat.add_zero] at hc
    have hext := ext_of s t.s i (by omega) hb
    have hrun : runEnd isCaps s (i + 1) = i + t.s.size := runEnd_of isCaps s (i + 1) (i + t.s.size) (by omega) (by omega) (fun m a b => by
      have := hb (m - i) (by omega); rw [show i + (m - i) = m from by omega] at this; rw [this]; exact h2 _ (by omega)) (fun _ => by rw [hsp]; exact n2)
    have hns : isSmall (byteAt t.s 0) = false := by unfold isGreat at h1; unfold isSmall; simp at *; omega
    refine ⟨h3, ?_, ?_, ?_⟩
    · rw [hc]; unfold isGreat at h1; unfold isBlank; simp at *; omega
    · rw [hc]; unfold isGreat at h1; simp at *; omega
    · unfold one; simp only
      rw [hc, if_neg (by rw [hns]; decide), if_pos h1, hrun, if_pos (by omega), hext]
      cases t; simp only at h0 h0'; subst h0; subst h0'; rfl
  · have hx : txt dec t = dec t.n := by unfold txt; rw [if_pos h0]
    rw [hx] at hlen hb hsp ⊢
    have hc := hb 0 (by omega); rw [Nat.add_zero] at hc
    have hd := h3 0 (by omega)
    have hext := ext_of s (dec t.n) i (by omega) hb
    have hrun : runEnd isDigit s (i + 1) = i + (dec t.n).size := runEnd_of isDigit s (i + 1) (i + (dec t.n).size) (by omega) (by omega) (fun m a b => by
      have := hb (m - i) (by omega); rw [show i + (m - i) = m from by omega] at this; rw [this]; exact h3 _ (by omega)) (fun _ => by rw [hsp]; exact n3)
    have hns : isSmall (byteAt (dec t.n) 0) = false := by unfold isDigit at hd; unfold isSmall; simp at *; omega
    have hng : isGreat (byteAt (dec t.n) 0) = false := by unfold isDigit at hd; unfold isGreat; simp at *; omega
    refine ⟨h4, ?_, ?_, ?_⟩
    · rw [hc]; unfold isDigit at hd; unfold isBlank; simp at *; omega
    · rw [hc]; unfold isDigit at hd; simp at *; omega
    · unfold one; simp only
      rw [hc, if_neg (by rw [hns]; decide), if_neg (by rw [hng]; decide), if_pos hd, hrun, hext, h2]
      cases t; simp only at h0 h1; subst h0; subst h1; rfl
  · have hk : t.k ≠ 4 := by rw [h0]; decide
    have hx : txt dec t = t.s := by unfold txt; rw [if_neg hk]
    rw [hx] at hlen hb hsp ⊢
    have hc := hb 0 (by omega); rw [Nat.add_zero] at hc
    have hext := ext_of s t.s i (by omega) hb
    have hsg : byteAt t.s 0 = 58 ∨ byteAt t.s 0 = 59 ∨ byteAt t.s 0 = 124 ∨ byteAt t.s 0 = 40 ∨ byteAt t.s 0 = 41 ∨ byteAt t.s 0 = 63 ∨ byteAt t.s 0 = 42 ∨ byteAt t.s 0 = 43 ∨ byteAt t.s 0 = 61 ∨ byteAt t.s 0 = 44 := by
      unfold isSign at h2; simpa using h2
    have hns : isSmall (byteAt t.s 0) = false := by unfold isSmall; simp; omega
    have hng : isGreat (byteAt t.s 0) = false := by unfold isGreat; simp; omega
    have hnd : isDigit (byteAt t.s 0) = false := by unfold isDigit; simp; omega
    rw [h1] at hext
    refine ⟨by omega, ?_, ?_, ?_⟩
    · rw [hc]; unfold isBlank; simp; omega
    · rw [hc]; omega
    · unfold one; simp only
      rw [hc, if_neg (by rw [hns]; decide), if_neg (by rw [hng]; decide), if_neg (by rw [hnd]; decide), if_pos h2, hext, h1]
      cases t; simp only at h0 h0'; subst h0; subst h0'; rfl
/-- What was told of a text: fair tokens, whose places rise. -/
def Rises (s : ByteArray) (i : Nat) : List Tok → Prop
  | [] => True
  | t :: r => Fair kw num dec t ∧ i ≤ t.p ∧ t.p < s.size ∧ Rises s (t.p + 1) r
theorem Rises.mono {s : ByteArray} {i j : Nat} {l : List Tok} (h : Rises kw num dec s j l) (hij : i ≤ j) : Rises kw num dec s i l := by
  cases l with
  | nil => trivial
  | cons t r => exact ⟨h.1, Nat.le_trans hij h.2.1, h.2.2.1, h.2.2.2⟩
theorem lexFrom_rises (hnum : ∀ x n, num x = some n → x = dec n) (s : ByteArray) (f : Nat) : ∀ (i : Nat) (acc l : List Tok) (n : Nat), i ≤ s.size → lexFrom kw num s f i acc = (l, n, 0) → ∃ m, l = acc ++ m ∧ Rises kw num dec s i m := by
  induction f with
  | zero => intro i acc l n _ h; simp only [lexFrom, Prod.mk.injEq] at h; exact ⟨[], by simp [h.1], trivial⟩
  | succ f ih =>
    intro i acc l n hi h
    rw [lexFrom_s] at h
    split at h
    · simp only [Prod.mk.injEq] at h; exact ⟨[], by simp [h.1], trivial⟩
    · split at h
      · obtain ⟨m, h1, h2⟩ := ih (i + 1) acc l n (by omega) h
        exact ⟨m, h1, h2.mono kw num dec (by omega)⟩
      · split at h
        · have a := runEnd_ge notFeed s (i + 1); have b := runEnd_le notFeed s (i + 1) (by omega)
          obtain ⟨m, h1, h2⟩ := ih _ acc l n b h
          exact ⟨m, h1, h2.mono kw num dec (by omega)⟩
        · cases ho : one kw num s i with
          | none => rw [ho] at h; simp at h
          | some x =>
            obtain ⟨t, j⟩ := x
            rw [ho] at h
            obtain ⟨a, b, c⟩ := one_fair kw num dec hnum s i t j (by omega) ho
            have g := one_gt kw num s i t j ho
            obtain ⟨m, h1, h2⟩ := ih j _ l n c h
            refine ⟨t :: m, by rw [h1]; simp, a, by omega, by omega, h2.mono kw num dec (by omega)⟩
/-- The text of tokens, a blank behind each. -/
def join : List Tok → List UInt8
  | [] => []
  | t :: r => (txt dec t).data.toList ++ 32 :: join r
/-- The tokens, each at its place in that text. -/
def placed : Nat → List Tok → List Tok
  | _, [] => []
  | i, t :: r => { t with p := i } :: placed (i + (txt dec t).size + 1) r
theorem byteAt_mid (a x b : List UInt8) (m : Nat) (hm : m < x.length) : byteAt ⟨(a ++ x ++ b).toArray⟩ (a.length + m) = (x.getD m 0).toNat := by
  unfold byteAt
  show ((a ++ x ++ b).getD (a.length + m) 0).toNat = _
  rw [List.getD_eq_getElem?_getD, List.getD_eq_getElem?_getD, List.append_assoc, List.getElem?_append_right (by omega), List.getElem?_append_left (by omega)]
  rw [Nat.add_sub_cancel_left]
theorem again (l : List Tok) : ∀ (a : List UInt8) (acc : List Tok) (s : ByteArray) (i : Nat), (∀ t ∈ l, Fair kw num dec t) → s = ⟨(a ++ join dec l).toArray⟩ → i = a.length →
    lexS kw num s i acc = (acc ++ placed dec i l, s.size, 0) := by
  induction l with
  | nil =>
    intro a acc s i _ hs hi
    rw [lexS_end]
    · simp [placed]
    · rw [hs, hi]; show (a ++ []).toArray.size ≤ a.length; simp
  | cons t r ih =>
    intro a acc s i hf hs hi
    obtain ⟨x, hx⟩ : ∃ x, x = txt dec t := ⟨_, rfl⟩
    have hxl : x.data.toList.length = x.size := by rw [Array.length_toList]; rfl
    have hsz : s.size = a.length + (x.size + 1 + (join dec r).length) := by
      rw [hs]; show (a ++ join dec (t :: r)).toArray.size = _
      simp only [join, List.size_toArray, List.length_append, List.length_cons, ← hx, hxl]; omega
    have hb : ∀ m, m < (txt dec t).size → byteAt s (i + m) = byteAt (txt dec t) m := by
      intro m hm
      rw [hs, hi]
      have := byteAt_mid a x.data.toList (32 :: join dec r) m (by rw [hxl, hx]; exact hm)
      rw [← hx]
      simp only [join, ← hx]
      rw [← List.append_assoc]
      exact this
    have hsp : byteAt s (i + (txt dec t).size) = 32 := by
      rw [hs, hi, ← hx]
      have := byteAt_mid (a ++ x.data.toList) [32] (join dec r) 0 (by simp)
      rw [List.length_append, hxl, Nat.add_zero] at this
      simp only [join, ← hx]
      simpa [List.append_assoc] using this
    obtain ⟨h1, h2, h3, h4⟩ := one_of kw num dec s t i (hf t (by simp)) (by rw [← hx]; omega) hb hsp
    rw [lexS_some kw num s i acc _ _ (by omega) h2 h3 h4]
    rw [lexS_blank kw num s _ _ (by rw [← hx]; omega) (by rw [hsp]; rfl)]
    rw [ih (a ++ (x.data.toList ++ [32])) (acc ++ [({ t with p := i } : Tok)]) s (i + (txt dec t).size + 1) (fun u hu => hf u (by simp [hu])) (by rw [hs]; simp [join, hx]) (by rw [hi, ← hx]; simp [hxl]; omega)]
    simp [placed]
theorem rises_fair {s : ByteArray} {i : Nat} {l : List Tok} (h : Rises kw num dec s i l) : ∀ t ∈ l, Fair kw num dec t := by
  induction l generalizing i with
  | nil => intro t ht; cases ht
  | cons t r ih =>
    intro u hu
    rcases List.mem_cons.1 hu with rfl | hu
    · exact h.1
    · exact ih h.2.2.2 u hu
end
end Go.Proofs.YtapmjkgndojdfaaDoor.LX
