/-
  What a trie of some sets chooses, its sets and its heads, plain.
-/
import Derived.Test.YtbmaappambmhoaaTrjD
namespace Go.Proofs.Ytbmaappambmhoaa
open Go.RowKit PK
set_option linter.unusedVariables false
set_option linter.unusedSimpArgs false

theorem find_key {X : Type} (l : List (UInt8 × X)) (h : l.Pairwise fun a b => a.1 < b.1) (q : UInt8 × X) (hq : q ∈ l) (b : UInt8) (hb : q.1 = b) : l.find? (fun p => p.1 == b) = some q := by
  induction l with
  | nil => cases hq
  | cons a r ih =>
    obtain ⟨h1, h2⟩ := List.pairwise_cons.1 h
    rcases List.mem_cons.1 hq with rfl | hq
    · simp [hb]
    · have h3 := h1 q hq
      rw [List.find?_cons]
      have : (a.1 == b) = false := by
        rw [beq_eq_false_iff_ne]; intro e; rw [hb, e] at h3; exact UInt8.lt_irrefl _ h3
      rw [this]; exact ih h2 hq
theorem hd_pw {E : En} {n : Nat} (hl : ∀ e ∈ E, e.1.length = n + 1) (hp : E.Pairwise fun a b => a.1 < b.1) : (hdE E).Pairwise fun a b => a.1 :: a.2.1 < b.1 :: b.2.1 := by
  unfold hdE
  rw [List.pairwise_map]
  refine hp.imp_of_mem ?_
  intro a b ha hb hab
  have e1 : a.1.headD 0 :: a.1.tail = a.1 := by
    have := hl a ha
    cases h : a.1 with
    | nil => rw [h] at this; simp at this
    | cons => rfl
  have e2 : b.1.headD 0 :: b.1.tail = b.1 := by
    have := hl b hb
    cases h : b.1 with
    | nil => rw [h] at this; simp at this
    | cons => rfl
  show a.1.headD 0 :: a.1.tail < b.1.headD 0 :: b.1.tail
  rw [e1, e2]; exact hab
theorem chooseT_mk (n : Nat) : ∀ (E : En) (s : Tx) (x : Nat), (∀ e ∈ E, e.1.length = n) → E.Pairwise (fun a b => a.1 < b.1) → (s, x) ∈ E → chooseT n (mkT n E) s = some x := by
  induction n with
  | zero =>
    intro E s x hl hp hm
    have hs : s = [] := List.length_eq_zero_iff.1 (hl _ hm)
    subst hs
    cases E with
    | nil => cases hm
    | cons e E =>
      have he : e.1 = [] := List.length_eq_zero_iff.1 (hl e List.mem_cons_self)
      rcases List.mem_cons.1 hm with h | h
      · rw [← h]; rfl
      · have h2 := (List.pairwise_cons.1 hp).1 _ h
        rw [he] at h2; exact absurd h2 (tx_irrefl _)
  | succ n ih =>
    intro E s x hl hp hm
    cases s with
    | nil => have := hl _ hm; simp at this
    | cons b s =>
      obtain ⟨q, hq, hqb, hqm⟩ := mem_grp _ b _ (mem_hd hm)
      obtain ⟨g1, g2⟩ := grp_up _ (hd_pw hl hp)
      have hf := find_key ((grp (hdE E)).map fun p => (p.1, mkT n p.2)) (by rw [List.pairwise_map]; exact g1) (q.1, mkT n q.2) (List.mem_map.2 ⟨q, hq, rfl⟩) b hqb
      show (((grp (hdE E)).map fun p => (p.1, mkT n p.2)).find? fun p => p.1 == b).bind (fun p => chooseT n p.2 s) = some x
      rw [hf]
      exact ih q.2 s x (grp_lens hl q hq) (g2 q hq) hqm
theorem chooseT_no (n : Nat) : ∀ (E : En) (s : Tx), (∀ e ∈ E, e.1.length = n) → (n = 0 → E ≠ []) → (∀ x, (s, x) ∉ E) → chooseT n (mkT n E) s = none := by
  induction n with
  | zero =>
    intro E s hl hne hm
    cases s with
    | cons b s => rfl
    | nil =>
      cases E with
      | nil => exact absurd rfl (hne rfl)
      | cons e E =>
        have he : e.1 = [] := List.length_eq_zero_iff.1 (hl e List.mem_cons_self)
        exact absurd (show ([], e.2) ∈ e :: E by rw [← he]; exact List.mem_cons_self) (hm e.2)
  | succ n ih =>
    intro E s hl _ hm
    cases s with
    | nil => rfl
    | cons b s =>
      show (((grp (hdE E)).map fun p => (p.1, mkT n p.2)).find? fun p => p.1 == b).bind (fun p => chooseT n p.2 s) = none
      cases hf : ((grp (hdE E)).map fun p => (p.1, mkT n p.2)).find? (fun p => p.1 == b) with
      | none => rfl
      | some q =>
        have h1 := List.mem_of_find?_eq_some hf
        have h2 := List.find?_some hf
        simp only [beq_iff_eq] at h2
        obtain ⟨g, hg, rfl⟩ := List.mem_map.1 h1
        refine ih g.2 s (grp_lens hl g hg) (fun _ => grp_ne _ g hg) fun x hx => ?_
        have h3 := hd_mem hl (grp_mem _ g hg (s, x) hx)
        simp only at h2
        rw [h2] at h3
        exact hm x h3
theorem ents_mk (n : Nat) : ∀ (E : En) (p : Tx), (∀ e ∈ E, e.1.length = n) → E.Pairwise (fun a b => a.1 < b.1) → (n = 0 → E ≠ []) → ents n p (mkT n E) = E.map fun e => (p ++ e.1, e.2) := by
  induction n with
  | zero =>
    intro E p hl hp hne
    cases E with
    | nil => exact absurd rfl (hne rfl)
    | cons e E =>
      have he : e.1 = [] := List.length_eq_zero_iff.1 (hl e List.mem_cons_self)
      cases E with
      | nil => simp only [List.map_cons, List.map_nil, he, List.append_nil]; rfl
      | cons f E =>
        have h2 := (List.pairwise_cons.1 hp).1 f List.mem_cons_self
        have hf : f.1 = [] := List.length_eq_zero_iff.1 (hl f (by simp))
        rw [he, hf] at h2; exact absurd h2 (tx_irrefl _)
  | succ n ih =>
    intro E p hl hp _
    obtain ⟨g1, g2⟩ := grp_up _ (hd_pw hl hp)
    show ((grp (hdE E)).map fun q => (q.1, mkT n q.2)).flatMap (fun q => ents n (p ++ [q.1]) q.2) = _
    rw [List.flatMap_map]
    have h1 : ∀ q ∈ grp (hdE E), ents n (p ++ [q.1]) (mkT n q.2) = (q.2.map fun x => (q.1, x)).map fun z => (p ++ z.1 :: z.2.1, z.2.2) := fun q hq => by
      rw [ih q.2 (p ++ [q.1]) (grp_lens hl q hq) (g2 q hq) (fun _ => grp_ne _ q hq), List.map_map]
      apply List.map_congr_left
      intro x _
      simp
    have h2 : (grp (hdE E)).flatMap (fun q => ents n (p ++ [q.1]) (mkT n q.2)) = (grp (hdE E)).flatMap fun q => (q.2.map fun x => (q.1, x)).map fun z => (p ++ z.1 :: z.2.1, z.2.2) := by
      rw [List.flatMap_def, List.flatMap_def]
      congr 1
      exact List.map_congr_left h1
    rw [h2, ← List.map_flatMap, grp_flat]
    unfold hdE
    rw [List.map_map]
    apply List.map_congr_left
    intro e he
    have := hl e he
    cases h : e.1 with
    | nil => rw [h] at this; simp at this
    | cons b t => simp [h]
theorem extE_at (C : List (List Tx)) (x i : Nat) : ((extE C x)[i]?).getD [] = (C[i]?).getD [] := by
  unfold extE
  rcases Nat.lt_or_ge i C.length with h | h
  · rw [List.getElem?_append_left h]
  · rw [List.getElem?_append_right h, List.getElem?_eq_none h, List.getElem?_replicate]
    split <;> rfl
theorem addE_at (C : List (List Tx)) (e : Tx × Nat) (i : Nat) : ((addE C e)[i]?).getD [] = (C[i]?).getD [] ++ (if e.2 = i then [e.1] else []) := by
  unfold addE
  rw [List.getElem?_modify]
  by_cases h : e.2 = i
  · subst h
    rw [if_pos rfl]
    have hl : e.2 < (extE C e.2).length := by rw [extE_len]; omega
    have h2 := extE_at C e.2 e.2
    rw [List.getElem?_eq_getElem hl] at h2 ⊢
    simp only [Option.getD_some] at h2
    simp [h2]
  · rw [if_neg h, List.append_nil]
    have h3 : ∀ o : Option (List Tx), ((fun a => a) <$> o) = o := fun o => by cases o <;> rfl
    simp only [h, if_false]
    rw [h3]
    exact extE_at C e.2 i
theorem addAll_at (E : List (Tx × Nat)) : ∀ (C : List (List Tx)) (i : Nat), ((addAll C E)[i]?).getD [] = (C[i]?).getD [] ++ (E.filter fun e => e.2 = i).map (·.1) := by
  induction E with
  | nil => intro C i; simp [addAll]
  | cons e E ih =>
    intro C i
    have h := ih (addE C e) i
    show ((addAll (addE C e) E)[i]?).getD [] = _
    rw [h, addE_at, List.filter_cons]
    by_cases he : e.2 = i
    · simp [he]
    · simp [he]
theorem addAll_le (E : List (Tx × Nat)) : ∀ (C : List (List Tx)) (m : Nat), C.length ≤ m → (∀ e ∈ E, e.2 < m) → (addAll C E).length ≤ m := by
  induction E with
  | nil => intro C m h _; exact h
  | cons e E ih =>
    intro C m h hE
    exact ih (addE C e) m (by rw [addE_len]; have := hE e List.mem_cons_self; omega) fun x hx => hE x (List.mem_cons_of_mem _ hx)
theorem addAll_ge (E : List (Tx × Nat)) : ∀ (C : List (List Tx)), C.length ≤ (addAll C E).length ∧ ∀ e ∈ E, e.2 < (addAll C E).length := by
  induction E with
  | nil => intro C; exact ⟨Nat.le_refl _, fun e he => by cases he⟩
  | cons e E ih =>
    intro C
    obtain ⟨h1, h2⟩ := ih (addE C e)
    rw [addE_len] at h1
    refine ⟨Nat.le_trans (by omega) h1, fun x hx => ?_⟩
    rcases List.mem_cons.1 hx with rfl | hx
    · exact Nat.lt_of_lt_of_le (by omega) h1
    · exact h2 x hx

/-- All of a trie of some sets, if no text is in two of them. -/
theorem sets_math (K : Nat) (S : List (List Tx)) (h1 : 1 ≤ K) (hb : badS K S = false) (hE : errI K S = 0) (s : Tx) : chooseI K (mkT K (entS S)) s = whichI S s ∧ ents K [] (mkT K (entS S)) = entS S := by
  have hlen : ∀ t ∈ S.flatten, t.length = K := fun t ht => by
    rw [← badS_flat, List.any_eq_false] at hb
    have := hb t ht
    simp only [Bool.not_eq_true, Bool.not_eq_false', beq_iff_eq] at this
    exact_mod_cast this
  have hl : ∀ e ∈ entS S, e.1.length = K ∧ e.1 ∈ S.flatten := fun e he => by
    unfold entS at he
    obtain ⟨t, ht, rfl⟩ := List.mem_map.1 he
    rw [toSet_mem] at ht
    exact ⟨hlen t ht, ht⟩
  have hp : (entS S).Pairwise fun a b => a.1 < b.1 := by
    unfold entS; rw [List.pairwise_map]; exact toSet_set _
  have hne : K = 0 → entS S ≠ [] := fun h => by omega
  constructor
  · by_cases hs : s ∈ S.flatten
    · obtain ⟨x, _, hx⟩ := which_of S s hs
      have hm : (s, x) ∈ entS S := List.mem_map.2 ⟨s, by rw [toSet_mem]; exact hs, by rw [hx, Int.toNat_natCast]⟩
      unfold chooseI
      rw [chooseT_mk K _ s x (fun e he => (hl e he).1) hp hm, hx]
    · unfold chooseI
      rw [chooseT_no K _ s (fun e he => (hl e he).1) hne (fun x hx => hs (hl _ hx).2)]
      exact (whichI_not S s fun j hj _ h => hs (List.mem_flatten.2 ⟨_, List.getElem_mem hj, h⟩)).symm
  · rw [ents_mk K _ [] (fun e he => (hl e he).1) hp hne]
    simp
end Go.Proofs.Ytbmaappambmhoaa
