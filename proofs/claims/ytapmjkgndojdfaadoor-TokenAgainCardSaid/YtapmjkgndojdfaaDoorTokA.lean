/-
  Plain: a program's tokens, a blank behind each, are read as these tokens.
-/
import Derived.Test.YtapmjkgndojdfaaDoorTokS
namespace Go.Proofs.YtapmjkgndojdfaaDoor.LX
set_option linter.unusedVariables false
section
variable (kw : ByteArray → Bool) (num : ByteArray → Option Nat) (dec : Nat → ByteArray)
def FairT (t : Tok) : Prop :=
  (t.n = 0 ∧ isLetter (byteAt t.s 0) = true ∧ (∀ m, m < t.s.size → isLets (byteAt t.s m) = true) ∧ 1 ≤ t.s.size ∧ t.s.size ≤ 40 ∧ t.k = (if kw t.s then 1 else 2)) ∨
  (t.k = 4 ∧ t.s = ByteArray.empty ∧ num (dec t.n) = some t.n ∧ (∀ m, m < (dec t.n).size → isDigit (byteAt (dec t.n) m) = true) ∧ 1 ≤ (dec t.n).size) ∨
  (t.k = 5 ∧ t.n = 0 ∧ t.s.data.toList ∈ signT)
theorem letter_lets (c : Nat) (h : isLetter c = true) : isLets c = true := by unfold isLetter at h; unfold isLets; simp at *; omega
theorem ext_list (s : ByteArray) (i j : Nat) : (s.extract i j).data.toList = (s.data.toList.drop i).take (j - i) := by
  rw [ByteArray.data_extract, Array.toList_extract, List.extract_eq_take_drop]
theorem signLen_some (s : ByteArray) (i : Nat) (h : signLen s i ≠ 0) : ∃ x ∈ signT, signLen s i = x.length ∧ (s.extract i (i + signLen s i)).data.toList = x := by
  unfold signLen at h
  cases hf : signT.find? (fun x => x.isPrefixOf (s.data.toList.drop i)) with
  | none => rw [hf] at h; exact absurd rfl h
  | some x =>
    have hl : signLen s i = x.length := by unfold signLen; rw [hf]
    have := List.find?_some hf
    have h2 := List.isPrefixOf_iff_prefix.1 this
    refine ⟨x, List.mem_of_find?_eq_some hf, hl, ?_⟩
    rw [ext_list, hl, Nat.add_sub_cancel_left]
    exact (List.prefix_iff_eq_take.1 h2).symm
theorem oneT_fair (hnum : ∀ x n, num x = some n → x = dec n) (s : ByteArray) (i : Nat) (t : Tok) (j : Nat) (hi : i < s.size) (h : oneT kw num s i = some (t, j)) : FairT kw num dec t ∧ t.p = i ∧ j ≤ s.size := by
  have hle := oneT_le kw num s i t j hi h
  refine ⟨?_, ?_, hle⟩
  · unfold oneT at h
    simp only at h
    split at h
    · rename_i hs
      have h1 := runEnd_ge isLets s (i + 1); have h2 := runEnd_le isLets s (i + 1) (by omega)
      have h3 := runEnd_all isLets s (i + 1)
      split at h
      · simp only [Option.some.injEq, Prod.mk.injEq] at h
        obtain ⟨rfl, rfl⟩ := h
        generalize runEnd isLets s (i + 1) = j at *
        refine .inl ⟨rfl, ?_, fun m hm => ?_, ?_, ?_, rfl⟩
        · rw [byteAt_extract s i j 0 h2 (by omega)]; exact hs
        · rw [size_extract s i j (by omega) h2] at hm
          rw [byteAt_extract s i j m h2 (by omega)]
          rcases Nat.eq_zero_or_pos m with h0 | h0
          · subst h0; exact letter_lets _ hs
          · exact h3 (i + m) (by omega) (by omega)
        · show 1 ≤ (s.extract i j).size; rw [size_extract s i j (by omega) h2]; omega
        · show (s.extract i j).size ≤ 40; rw [size_extract s i j (by omega) h2]; omega
      · cases h
    · split at h
      · rename_i hs
        have h1 := runEnd_ge isDigit s (i + 1); have h2 := runEnd_le isDigit s (i + 1) (by omega)
        have h3 := runEnd_all isDigit s (i + 1)
        generalize runEnd isDigit s (i + 1) = j' at *
        split at h
        · rename_i n hn
          simp only [Option.some.injEq, Prod.mk.injEq] at h
          obtain ⟨rfl, rfl⟩ := h
          have hx := hnum _ _ hn
          refine .inr (.inl ⟨rfl, rfl, ?_, fun m hm => ?_, ?_⟩)
          · show num (dec n) = some n; rw [← hx]; exact hn
          · show isDigit (byteAt (dec n) m) = true
            have hm' : m < (dec n).size := hm
            rw [← hx] at hm' ⊢
            rw [size_extract s i j' (by omega) h2] at hm'
            rw [byteAt_extract s i j' m h2 (by omega)]
            rcases Nat.eq_zero_or_pos m with h0 | h0
            · subst h0; exact hs
            · exact h3 (i + m) (by omega) (by omega)
          · show 1 ≤ (dec n).size; rw [← hx, size_extract s i j' (by omega) h2]; omega
        · cases h
      · split at h
        · cases h
        · rename_i hs
          simp only [Option.some.injEq, Prod.mk.injEq] at h
          obtain ⟨rfl, rfl⟩ := h
          obtain ⟨x, hx, _, hx2⟩ := signLen_some s i hs
          refine .inr (.inr ⟨rfl, rfl, ?_⟩)
          show (s.extract i (i + signLen s i)).data.toList ∈ signT
          rw [hx2]; exact hx
  · unfold oneT at h
    simp only at h
    repeat' split at h
    all_goals first
      | (cases h; done)
      | (simp only [Option.some.injEq, Prod.mk.injEq] at h; rw [← h.1])
theorem sign_first : ∀ x ∈ signT, 1 ≤ x.length ∧ isSpace (x.getD 0 0).toNat = false ∧ (x.getD 0 0).toNat ≠ 10 ∧ isLetter (x.getD 0 0).toNat = false ∧ isDigit (x.getD 0 0).toNat = false := by decide
theorem sign_find (x : List UInt8) (r : List UInt8) (h : x ∈ signT) : signT.find? (fun y => y.isPrefixOf (x ++ 32 :: r)) = some x := by
  unfold signT at h
  simp only [List.mem_cons, List.not_mem_nil, or_false] at h
  rcases h with rfl | rfl | rfl | rfl | rfl | rfl | rfl | rfl | rfl | rfl | rfl | rfl | rfl | rfl | rfl | rfl | rfl | rfl | rfl <;> rfl
theorem drop_of (s x : ByteArray) (i : Nat) (hlen : i + x.size < s.size) (hb : ∀ m, m < x.size → byteAt s (i + m) = byteAt x m) (hsp : byteAt s (i + x.size) = 32) : ∃ r, s.data.toList.drop i = x.data.toList ++ 32 :: r := by
  have hext := ext_of s x i (by omega) hb
  have h1 := ext_list s i (i + x.size)
  rw [hext, Nat.add_sub_cancel_left] at h1
  have hl : s.data.toList.length = s.size := by rw [Array.length_toList]; rfl
  have h2 : s.data.toList.drop (i + x.size) = 32 :: s.data.toList.drop (i + x.size + 1) := by
    rw [List.drop_eq_getElem_cons (by rw [hl]; exact hlen)]
    congr 1
    unfold byteAt at hsp
    rw [List.getD_eq_getElem?_getD, List.getElem?_eq_getElem (by rw [hl]; exact hlen), Option.getD_some] at hsp
    exact UInt8.toNat_inj.1 hsp
  refine ⟨s.data.toList.drop (i + x.size + 1), ?_⟩
  rw [← h2, h1, ← List.drop_drop]
  exact (List.take_append_drop x.size (s.data.toList.drop i)).symm
theorem space_notT : isLets 32 = false ∧ isDigit 32 = false := by decide
theorem oneT_of (s : ByteArray) (t : Tok) (i : Nat) (hf : FairT kw num dec t) (hlen : i + (txt dec t).size < s.size) (hb : ∀ m, m < (txt dec t).size → byteAt s (i + m) = byteAt (txt dec t) m) (hsp : byteAt s (i + (txt dec t).size) = 32) :
    1 ≤ (txt dec t).size ∧ isSpace (byteAt s i) = false ∧ byteAt s i ≠ 10 ∧ oneT kw num s i = some ({ t with p := i }, i + (txt dec t).size) := by
  obtain ⟨n1, n3⟩ := space_notT
  rcases hf with ⟨h0, h1, h2, h3, h4, h5⟩ | ⟨h0, h1, h2, h3, h4⟩ | ⟨h0, h0', h1⟩
  · have hk : t.k ≠ 4 := by rw [h5]; split <;> decide
    have hx : txt dec t = t.s := by unfold txt; rw [if_neg hk]
    rw [hx] at hlen hb hsp ⊢
    have hc := hb 0 (by omega); rw [Nat.add_zero] at hc
    have hext := ext_of s t.s i (by omega) hb
    have hrun : runEnd isLets s (i + 1) = i + t.s.size := runEnd_of isLets s (i + 1) (i + t.s.size) (by omega) (by omega) (fun m a b => by
      have := hb (m - i) (by omega); rw [show i + (m - i) = m from by omega] at this; rw [this]; exact h2 _ (by omega)) (fun _ => by rw [hsp]; exact n1)
    refine ⟨h3, ?_, ?_, ?_⟩
    · rw [hc]; unfold isLetter at h1; unfold isSpace; simp at *; omega
    · rw [hc]; unfold isLetter at h1; simp at *; omega
    · unfold oneT; simp only
      rw [hc, if_pos h1, hrun, if_pos (by omega), hext, ← h5]
      cases t; simp only at h0; subst h0; rfl
  · have hx : txt dec t = dec t.n := by unfold txt; rw [if_pos h0]
    rw [hx] at hlen hb hsp ⊢
    have hc := hb 0 (by omega); rw [Nat.add_zero] at hc
    have hd := h3 0 (by omega)
    have hext := ext_of s (dec t.n) i (by omega) hb
    have hrun : runEnd isDigit s (i + 1) = i + (dec t.n).size := runEnd_of isDigit s (i + 1) (i + (dec t.n).size) (by omega) (by omega) (fun m a b => by
      have := hb (m - i) (by omega); rw [show i + (m - i) = m from by omega] at this; rw [this]; exact h3 _ (by omega)) (fun _ => by rw [hsp]; exact n3)
    have hns : isLetter (byteAt (dec t.n) 0) = false := by unfold isDigit at hd; unfold isLetter; simp at *; omega
    refine ⟨h4, ?_, ?_, ?_⟩
    · rw [hc]; unfold isDigit at hd; unfold isSpace; simp at *; omega
    · rw [hc]; unfold isDigit at hd; simp at *; omega
    · unfold oneT; simp only
      rw [hc, if_neg (by rw [hns]; decide), if_pos hd, hrun, hext, h2]
      cases t; simp only at h0 h1; subst h0; subst h1; rfl
  · have hk : t.k ≠ 4 := by rw [h0]; decide
    have hx : txt dec t = t.s := by unfold txt; rw [if_neg hk]
    rw [hx] at hlen hb hsp ⊢
    have hsl : t.s.data.toList.length = t.s.size := by rw [Array.length_toList]; rfl
    obtain ⟨g1, g2, g3, g4, g5⟩ := sign_first _ h1
    have hc := hb 0 (by omega); rw [Nat.add_zero] at hc
    have hc0 : (t.s.data.toList.getD 0 0).toNat = byteAt t.s 0 := rfl
    rw [hc0] at g2 g3 g4 g5
    have hext := ext_of s t.s i (by omega) hb
    obtain ⟨r, hr⟩ := drop_of s t.s i hlen hb hsp
    have hsg : signLen s i = t.s.size := by
      unfold signLen; rw [hr, sign_find _ r h1]; exact hsl
    refine ⟨by omega, by rw [hc]; exact g2, by rw [hc]; exact g3, ?_⟩
    unfold oneT; simp only
    rw [hc, if_neg (by rw [g4]; decide), if_neg (by rw [g5]; decide), hsg, if_neg (by omega), hext]
    cases t; simp only at h0 h0'; subst h0; subst h0'; rfl
/-- Tokens in groups: a line feed ahead, or none. -/
def flat (g : Option Nat × Tok) : List Tok := match g.1 with
  | some p => [nl p, g.2]
  | none => [g.2]
def RiseG (s : ByteArray) (lo : Nat) : List (Option Nat × Tok) → Prop
  | [] => True
  | (some p, t) :: r => lo ≤ p ∧ p < t.p ∧ t.p < s.size ∧ FairT kw num dec t ∧ RiseG s (t.p + 1) r
  | (none, t) :: r => lo ≤ t.p ∧ t.p < s.size ∧ FairT kw num dec t ∧ RiseG s (t.p + 1) r
theorem RiseG.mono {s : ByteArray} {i j : Nat} {l} (h : RiseG kw num dec s j l) (hij : i ≤ j) : RiseG kw num dec s i l := by
  cases l with
  | nil => trivial
  | cons g r =>
    obtain ⟨fd, t⟩ := g
    cases fd with
    | none => exact ⟨Nat.le_trans hij h.1, h.2⟩
    | some p => exact ⟨Nat.le_trans hij h.1, h.2⟩
theorem tokFrom_rises (hnum : ∀ x n, num x = some n → x = dec n) (s : ByteArray) (f : Nat) : ∀ (i lo : Nat) (fd : Option Nat) (acc l : List Tok) (n : Nat), i ≤ s.size → lo ≤ i → (∀ p, fd = some p → lo ≤ p ∧ p < i) → tokFrom kw num s f i fd acc = (l, n, 0) →
    ∃ gs, l = acc ++ gs.flatMap flat ∧ RiseG kw num dec s lo gs ∧ (acc = [] → ∀ g r, gs = g :: r → g.1 = none) := by
  induction f with
  | zero => intro i lo fd acc l n _ _ _ h; simp only [tokFrom, Prod.mk.injEq] at h; exact ⟨[], by simp [h.1], trivial, fun _ g r hg => by cases hg⟩
  | succ f ih =>
    intro i lo fd acc l n hi hlo hfd h
    rw [tokFrom_s] at h
    split at h
    · simp only [Prod.mk.injEq] at h; exact ⟨[], by simp [h.1], trivial, fun _ g r hg => by cases hg⟩
    · split at h
      · exact ih (i + 1) lo fd acc l n (by omega) (by omega) (fun p hp => by have := hfd p hp; omega) h
      · split at h
        · refine ih (i + 1) lo _ acc l n (by omega) (by omega) (fun p hp => ?_) h
          cases fd with
          | none => simp at hp; omega
          | some q => simp at hp; have := hfd q rfl; omega
        · cases ho : oneT kw num s i with
          | none => rw [ho] at h; simp at h
          | some x =>
            obtain ⟨t, j⟩ := x
            rw [ho] at h
            obtain ⟨a, b, c⟩ := oneT_fair kw num dec hnum s i t j (by omega) ho
            have g := oneT_gt kw num s i t j ho
            obtain ⟨gs, h1, h2, _⟩ := ih j (i + 1) none _ l n c (by omega) (fun p hp => by cases hp) h
            cases fd with
            | none => exact ⟨(none, t) :: gs, by rw [h1]; simp [withFeed, flat], ⟨by omega, by omega, a, by rw [b]; exact h2⟩, fun _ g r hg => by cases hg; rfl⟩
            | some p =>
              have := hfd p rfl
              cases acc with
              | nil => exact ⟨(none, t) :: gs, by rw [h1]; simp [withFeed, flat], ⟨by omega, by omega, a, by rw [b]; exact h2⟩, fun _ g r hg => by cases hg; rfl⟩
              | cons x xs => exact ⟨(some p, t) :: gs, by rw [h1]; simp [withFeed, flat], ⟨by omega, by omega, by omega, a, by rw [b]; exact h2⟩, fun h => by cases h⟩
/-- What a token is, wherever it stands. -/
def core (t : Tok) : Nat × ByteArray × Nat := (t.k, t.s, t.n)
theorem txt_nl (p : Nat) : txt dec (nl p) = ⟨#[10]⟩ := rfl
theorem againT (gs : List (Option Nat × Tok)) : ∀ (a : List UInt8) (acc : List Tok) (s : ByteArray) (i : Nat), (∀ g ∈ gs, FairT kw num dec g.2) → (acc = [] → ∀ g r, gs = g :: r → g.1 = none) →
    s = ⟨(a ++ join dec (gs.flatMap flat)).toArray⟩ → i = a.length →
    ∃ m, tokS kw num s i none acc = (acc ++ m, s.size, 0) ∧ m.map core = (gs.flatMap flat).map core := by
  induction gs with
  | nil =>
    intro a acc s i _ _ hs hi
    refine ⟨[], ?_, rfl⟩
    rw [tokS_end]
    · simp
    · rw [hs, hi]; show (a ++ []).toArray.size ≤ a.length; simp
  | cons g r ih =>
    intro a acc s i hf hacc hs hi
    obtain ⟨fd, t⟩ := g
    obtain ⟨x, hx⟩ : ∃ x, x = txt dec t := ⟨_, rfl⟩
    have hxl : x.data.toList.length = x.size := by rw [Array.length_toList]; rfl
    -- one token at a place i', behind a
    have step : ∀ (a' : List UInt8) (fd' : Option Nat) (i' : Nat), s = ⟨(a' ++ (x.data.toList ++ 32 :: join dec (r.flatMap flat))).toArray⟩ → i' = a'.length →
        i' < s.size ∧ isSpace (byteAt s i') = false ∧ byteAt s i' ≠ 10 ∧ tokS kw num s i' fd' acc = tokS kw num s (i' + x.size + 1) none (withFeed fd' acc ++ [{ t with p := i' }]) := by
      intro a' fd' i' hs' hi'
      have hsz : s.size = a'.length + (x.size + 1 + (join dec (r.flatMap flat)).length) := by
        rw [hs']; show (a' ++ (x.data.toList ++ 32 :: join dec (r.flatMap flat))).toArray.size = _
        simp only [List.size_toArray, List.length_append, List.length_cons, hxl]; omega
      have hb : ∀ m, m < (txt dec t).size → byteAt s (i' + m) = byteAt (txt dec t) m := by
        intro m hm
        rw [hs', hi']
        have := byteAt_mid a' x.data.toList (32 :: join dec (r.flatMap flat)) m (by rw [hxl, hx]; exact hm)
        rw [← hx]
        rw [← List.append_assoc]
        exact this
      have hsp : byteAt s (i' + (txt dec t).size) = 32 := by
        rw [hs', hi', ← hx]
        have := byteAt_mid (a' ++ x.data.toList) [32] (join dec (r.flatMap flat)) 0 (by simp)
        rw [List.length_append, hxl, Nat.add_zero] at this
        simpa [List.append_assoc] using this
      obtain ⟨h1, h2, h3, h4⟩ := oneT_of kw num dec s t i' (hf (fd, t) (by simp)) (by rw [← hx]; omega) hb hsp
      refine ⟨by omega, h2, h3, ?_⟩
      rw [tokS_some kw num s i' fd' acc _ _ (by omega) h2 h3 h4]
      rw [tokS_space kw num s _ _ _ (by rw [← hx]; omega) (by rw [hsp]; rfl), ← hx]
    cases fd with
    | none =>
      obtain ⟨_, _, _, h4⟩ := step a none i (by rw [hs]; simp [flat, join, hx]) hi
      obtain ⟨m, h5, h6⟩ := ih (a ++ (x.data.toList ++ [32])) (acc ++ [({ t with p := i } : Tok)]) s (i + x.size + 1) (fun u hu => hf u (by simp [hu])) (fun h => by simp at h) (by rw [hs]; simp [flat, join, hx]) (by rw [hi]; simp [hxl]; omega)
      refine ⟨({ t with p := i } : Tok) :: m, ?_, ?_⟩
      · rw [h4]; simp only [withFeed]; rw [h5]; simp
      · simp [flat, h6, core]
    | some p =>
      have hne : acc ≠ [] := fun h => by have := hacc h _ _ rfl; cases this
      have hlen : acc.length ≠ 0 := fun h => hne (List.length_eq_zero_iff.1 h)
      have hj : s = ⟨(a ++ [10, 32] ++ (x.data.toList ++ 32 :: join dec (r.flatMap flat))).toArray⟩ := by rw [hs]; simp [flat, join, hx, txt_nl]
      have hsz : s.size = a.length + 2 + (x.size + 1 + (join dec (r.flatMap flat)).length) := by
        rw [hj]; show (a ++ [10, 32] ++ (x.data.toList ++ 32 :: join dec (r.flatMap flat))).toArray.size = _
        simp only [List.size_toArray, List.length_append, List.length_cons, hxl, List.length_nil]; omega
      have hb0 : byteAt s i = 10 := by
        have := byteAt_mid a [10, 32] (x.data.toList ++ 32 :: join dec (r.flatMap flat)) 0 (by simp)
        rw [hj, hi]; exact this
      have hb1 : byteAt s (i + 1) = 32 := by
        have := byteAt_mid a [10, 32] (x.data.toList ++ 32 :: join dec (r.flatMap flat)) 1 (by simp)
        rw [hj, hi]; exact this
      obtain ⟨_, _, _, h4⟩ := step (a ++ [10, 32]) (some i) (i + 2) hj (by rw [hi]; simp)
      obtain ⟨m, h5, h6⟩ := ih (a ++ [10, 32] ++ (x.data.toList ++ [32])) (acc ++ [nl i] ++ [({ t with p := i + 2 } : Tok)]) s (i + 2 + x.size + 1) (fun u hu => hf u (by simp [hu])) (fun h => by simp at h) (by rw [hj]; simp) (by rw [hi]; simp [hxl]; omega)
      refine ⟨nl i :: ({ t with p := i + 2 } : Tok) :: m, ?_, ?_⟩
      · rw [tokS_feed kw num s i none acc (by omega) (by rw [hb0]; rfl) hb0, tokS_space kw num s (i + 1) _ acc (by omega) (by rw [hb1]; rfl)]
        show tokS kw num s (i + 2) (some i) acc = _
        rw [h4]; simp only [withFeed]; rw [if_neg hlen, h5]; simp
      · simp [flat, h6, core, nl]
theorem riseG_fair {s : ByteArray} {i : Nat} {gs} (h : RiseG kw num dec s i gs) : ∀ g ∈ gs, FairT kw num dec g.2 := by
  induction gs generalizing i with
  | nil => intro t ht; cases ht
  | cons g r ih =>
    intro u hu
    obtain ⟨fd, t⟩ := g
    cases fd with
    | none =>
      rcases List.mem_cons.1 hu with rfl | hu
      · exact h.2.2.1
      · exact ih h.2.2.2 u hu
    | some p =>
      rcases List.mem_cons.1 hu with rfl | hu
      · exact h.2.2.2.1
      · exact ih h.2.2.2.2 u hu
end
end Go.Proofs.YtapmjkgndojdfaaDoor.LX
