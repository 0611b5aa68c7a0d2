/-
  A trie's sets and heads against those of which it was made, plain.
-/
import Derived.Test.YtbmaappambmhoaaTrjE
import Derived.Test.YtbmaappambmhoaaPackQ
namespace Go.Proofs.Ytbmaappambmhoaa
open Go.RowKit PK
set_option linter.unusedVariables false
set_option linter.unusedSimpArgs false

theorem errI_clear {k : Int} {S : List (List Tx)} (h : errI k S = 0) : ∀ i (hi : i < S.length), ∀ j (hj : j < S.length), j < i → meetL S[i] S[j] = [] := by
  intro i hi j hj hji
  obtain ⟨K, hK, h1, h4, hb⟩ := errI_zero h
  subst hK
  rcases Decidable.em (meetL S[i] S[j] = []) with h5 | h5
  · exact h5
  · have := errI_clash (k := (K : Int)) (by omega) hb i j hi hj hji h5
    rw [h] at this; cases this
theorem one_set {k : Int} {S : List (List Tx)} (h : errI k S = 0) (t : Tx) (i : Nat) (hi : i < S.length) (ht : t ∈ S[i]) : whichI S t = (i : Nat) :=
  whichI_at S t i hi ht fun j hj hji hm => meet_ne ht hm (errI_clear h i hi j hj hji)
theorem sets_at {k : Int} {S : List (List Tx)} (h : errI k S = 0) (i : Nat) : ((addAll [] (entS S))[i]?).getD [] = toSet (S.getD i []) := by
  rw [addAll_at]
  simp only [List.getElem?_nil, Option.getD_none, List.nil_append]
  refine set_ext ?_ (toSet_set _) fun t => ?_
  · have hs : ((entS S).filter fun e => e.2 = i).map (·.1) |>.Sublist ((entS S).map (·.1)) := List.filter_sublist.map _
    have he : (entS S).map (·.1) = toSet S.flatten := by unfold entS; rw [List.map_map]; simp [Function.comp_def]
    rw [he] at hs
    exact List.Pairwise.sublist hs (toSet_set _)
  · rw [toSet_mem]
    simp only [List.mem_map, List.mem_filter, decide_eq_true_eq]
    constructor
    · rintro ⟨e, ⟨he, hei⟩, rfl⟩
      unfold entS at he
      obtain ⟨t, ht, rfl⟩ := List.mem_map.1 he
      rw [toSet_mem] at ht
      obtain ⟨l, hl, htl⟩ := List.mem_flatten.1 ht
      obtain ⟨j, hj, rfl⟩ := List.getElem_of_mem hl
      have hw := one_set h t j hj htl
      simp only at hei
      rw [hw, Int.toNat_natCast] at hei
      subst hei
      rw [getD_S S j hj]; exact htl
    · intro ht
      have hi : i < S.length := by
        rcases Nat.lt_or_ge i S.length with h1 | h1
        · exact h1
        · rw [List.getD_eq_getElem?_getD, List.getElem?_eq_none h1] at ht; cases ht
      rw [getD_S S i hi] at ht
      have hw := one_set h t i hi ht
      exact ⟨(t, (whichI S t).toNat), ⟨List.mem_map.2 ⟨t, by rw [toSet_mem]; exact List.mem_flatten.2 ⟨_, List.getElem_mem hi, ht⟩, rfl⟩, by rw [hw, Int.toNat_natCast]⟩, rfl⟩
/-- One more than the last of the first i sets that is not empty. -/
def wantW (S : List (List Tx)) : Nat → Nat
  | 0 => 0
  | i + 1 => if (S.getD i []).length = 0 then wantW S i else i + 1
theorem wantW_le (S : List (List Tx)) (i : Nat) : wantW S i ≤ i := by
  induction i with
  | zero => exact Nat.le_refl _
  | succ i ih => unfold wantW; split <;> omega
theorem wantW_gt (S : List (List Tx)) (i j : Nat) (hj : j < i) (h : (S.getD j []).length ≠ 0) : j < wantW S i := by
  induction i with
  | zero => omega
  | succ i ih =>
    unfold wantW
    by_cases e : j = i
    · subst e; rw [if_neg h]; omega
    · have := ih (by omega)
      split <;> omega
theorem wantW_at (S : List (List Tx)) (i : Nat) (h : 0 < wantW S i) : (S.getD (wantW S i - 1) []).length ≠ 0 := by
  induction i with
  | zero => simp [wantW] at h
  | succ i ih =>
    unfold wantW at h ⊢
    by_cases e : (S.getD i []).length = 0
    · rw [if_pos e] at h ⊢; exact ih h
    · rw [if_neg e]; simpa using e
theorem sets_len {k : Int} {S : List (List Tx)} (h : errI k S = 0) : (addAll [] (entS S)).length = wantW S S.length := by
  apply Nat.le_antisymm
  · refine addAll_le _ [] _ (Nat.zero_le _) fun e he => ?_
    unfold entS at he
    obtain ⟨t, ht, rfl⟩ := List.mem_map.1 he
    rw [toSet_mem] at ht
    obtain ⟨l, hl, htl⟩ := List.mem_flatten.1 ht
    obtain ⟨j, hj, rfl⟩ := List.getElem_of_mem hl
    show (whichI S t).toNat < _
    rw [one_set h t j hj htl, Int.toNat_natCast]
    exact wantW_gt S S.length j hj (by rw [getD_S S j hj]; have := List.length_pos_of_mem htl; omega)
  · rcases Nat.eq_zero_or_pos (wantW S S.length) with h0 | h0
    · omega
    · have h1 := wantW_at S S.length h0
      have h2 := wantW_le S S.length
      have hi : wantW S S.length - 1 < S.length := by omega
      rw [getD_S S _ hi] at h1
      obtain ⟨t, ht⟩ := List.exists_mem_of_length_pos (Nat.pos_of_ne_zero h1)
      have hw := one_set h t _ hi ht
      have h3 := (addAll_ge (entS S) []).2 (t, (whichI S t).toNat) (List.mem_map.2 ⟨t, by rw [toSet_mem]; exact List.mem_flatten.2 ⟨_, List.getElem_mem hi, ht⟩, rfl⟩)
      simp only at h3
      rw [hw, Int.toNat_natCast] at h3
      omega
theorem headsF_mem (a : List Tx) (z : Int) : z ∈ headsF a ↔ ∃ t ∈ a, z ∈ hd t := by
  unfold headsF; exact List.mem_flatMap
/-- The root's tokens. -/
def rootT : (n : Nat) → Tr n → List Int
  | 0, _ => []
  | _ + 1, ks => tokL (show List (UInt8 × Tr _) from ks)
theorem heads_math (K : Nat) (S : List (List Tx)) (hb : badS (K + 1 : Nat) S = false) (hup : Up (K + 1) (mkT (K + 1) (entS S))) : rootT (K + 1) (mkT (K + 1) (entS S)) = toSetI (headsF S.flatten) := by
  have hlen : ∀ t ∈ S.flatten, t.length = K + 1 := fun t ht => by
    rw [← badS_flat, List.any_eq_false] at hb
    have := hb t ht
    simp only [Bool.not_eq_true, Bool.not_eq_false', beq_iff_eq] at this
    exact_mod_cast this
  refine int_ext (tokL_up _ hup.1) (toSetI_set _) fun z => ?_
  rw [toSetI_mem, headsF_mem]
  show z ∈ tokL ((grp (hdE (entS S))).map fun p => (p.1, mkT K p.2)) ↔ _
  have hl : ∀ e ∈ entS S, e.1.length = K + 1 := fun e he => by
    unfold entS at he
    obtain ⟨t, ht, rfl⟩ := List.mem_map.1 he
    rw [toSet_mem] at ht
    exact hlen t ht
  unfold tokL
  rw [List.map_map]
  constructor
  · intro hz
    obtain ⟨q, hq, rfl⟩ := List.mem_map.1 hz
    obtain ⟨x, hx⟩ := List.exists_mem_of_ne_nil _ (grp_ne _ q hq)
    have h1 := hd_mem hl (grp_mem _ q hq x hx)
    unfold entS at h1
    obtain ⟨t, ht, e⟩ := List.mem_map.1 h1
    rw [toSet_mem] at ht
    have e1 : t = q.1 :: x.1 := congrArg Prod.fst e
    exact ⟨t, ht, by rw [e1]; simp [hd]⟩
  · rintro ⟨t, ht, hz⟩
    cases t with
    | nil => have := hlen _ ht; simp at this
    | cons b t =>
      simp only [hd, List.mem_singleton] at hz
      subst hz
      have h1 : (b :: t, (whichI S (b :: t)).toNat) ∈ entS S := List.mem_map.2 ⟨_, by rw [toSet_mem]; exact ht, rfl⟩
      obtain ⟨q, hq, hqb, _⟩ := mem_grp _ b _ (mem_hd h1)
      exact List.mem_map.2 ⟨q, hq, by show ((q.1.toNat : Nat) : Int) = _; rw [hqb]⟩
end Go.Proofs.Ytbmaappambmhoaa
