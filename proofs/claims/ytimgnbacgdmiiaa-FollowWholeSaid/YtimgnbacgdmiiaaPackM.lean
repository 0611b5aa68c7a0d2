/-
  Sets of texts as lists of bytes that rise strictly: plain.
-/
import Derived.Lib.SlicesCompact
import Derived.Sort.EncStr
import Derived.Sort.Walk0
namespace Go.Proofs.Ytimgnbacgdmiiaa.PK
set_option linter.unusedVariables false

abbrev Tx := List UInt8
theorem tx_irrefl (a : Tx) : ¬ a < a := List.lt_irrefl a
theorem tx_trans {a b c : Tx} (h : a < b) (k : b < c) : a < c := List.lt_trans h k
theorem tx_asymm {a b : Tx} (h : a < b) : ¬ b < a := List.lt_asymm h
theorem tx_eq {a b : Tx} (h : ¬ a < b) (k : ¬ b < a) : a = b := List.le_antisymm (List.not_lt.1 k) (List.not_lt.1 h)
theorem tx_le {a b : Tx} : a ≤ b ↔ ¬ b < a := List.not_lt.symm
section
variable {α : Type} [LT α]
/-- A list that rises strictly. -/
def IsSet (l : List α) : Prop := l.Pairwise (· < ·)
theorem isSet_ext (irr : ∀ a : α, ¬ a < a) (asy : ∀ {a b : α}, a < b → ¬ b < a) : ∀ {a b : List α}, IsSet a → IsSet b → (∀ x, x ∈ a ↔ x ∈ b) → a = b := by
  intro a
  induction a with
  | nil =>
    intro b _ _ h
    cases b with
    | nil => rfl
    | cons y s => exact absurd ((h y).2 (by simp)) (by simp)
  | cons x r ih =>
    intro b ha hb h
    cases b with
    | nil => exact absurd ((h x).1 (by simp)) (by simp)
    | cons y s =>
      have ha' := List.pairwise_cons.1 ha
      have hb' := List.pairwise_cons.1 hb
      have hxy : x = y := by
        rcases List.mem_cons.1 ((h x).1 (by simp)) with h1 | h1
        · exact h1
        · rcases List.mem_cons.1 ((h y).2 (by simp)) with h2 | h2
          · exact h2.symm
          · exact absurd (ha'.1 y h2) (asy (hb'.1 x h1))
      subst hxy
      congr 1
      refine ih ha'.2 hb'.2 fun z => ⟨fun hz => ?_, fun hz => ?_⟩
      · rcases List.mem_cons.1 ((h z).1 (by simp [hz])) with h1 | h1
        · subst h1; exact absurd (ha'.1 z hz) (irr z)
        · exact h1
      · rcases List.mem_cons.1 ((h z).2 (by simp [hz])) with h1 | h1
        · subst h1; exact absurd (hb'.1 z hz) (irr z)
        · exact h1
end
theorem set_ext {a b : List Tx} (ha : IsSet a) (hb : IsSet b) (h : ∀ x, x ∈ a ↔ x ∈ b) : a = b := isSet_ext tx_irrefl tx_asymm ha hb h
theorem int_ext {a b : List Int} (ha : IsSet a) (hb : IsSet b) (h : ∀ x, x ∈ a ↔ x ∈ b) : a = b := isSet_ext Int.lt_irrefl (fun h => by omega) ha hb h
/-- Of a list that does not fall, what is left when what is twice is struck. -/
theorem compact_mem {α : Type} [Inhabited α] [DecidableEq α] (l : List α) (x : α) : x ∈ Go.Lib.compact l ↔ x ∈ l := by
  unfold Go.Lib.compact Go.Lib.compactUpTo
  simp only [List.mem_map, List.mem_filter, List.mem_range]
  constructor
  · rintro ⟨j, ⟨hj, _⟩, rfl⟩
    rw [getElem!_pos _ j (by simpa using hj)]
    simp
  · intro hx
    obtain ⟨i, hi, rfl⟩ := List.getElem_of_mem hx
    -- the first place with that value in its run
    have key : ∀ n i (hi : i < l.length), i ≤ n → ∃ j, (j < l.length ∧ Go.Lib.keeps l.toArray j = true) ∧ l.toArray[j]! = l[i] := by
      intro n
      induction n with
      | zero =>
        intro i hi h0
        obtain rfl : i = 0 := by omega
        exact ⟨0, ⟨hi, Go.Lib.keeps_lt_one _ 0 (by omega)⟩, by rw [getElem!_pos _ 0 (by simpa using hi)]; simp⟩
      | succ n ih =>
        intro i hi hn
        cases hk : Go.Lib.keeps l.toArray i with
        | true => exact ⟨i, ⟨hi, hk⟩, by rw [getElem!_pos _ i (by simpa using hi)]; simp⟩
        | false =>
          unfold Go.Lib.keeps at hk
          simp only [decide_eq_false_iff_not, not_or, ne_eq, Decidable.not_not] at hk
          obtain ⟨h1, h2⟩ := hk
          rw [getElem!_pos _ i (by simpa using hi), getElem!_pos _ (i - 1) (by simp; omega)] at h2
          obtain ⟨j, h3, h4⟩ := ih (i - 1) (by omega) (by omega)
          refine ⟨j, h3, h4.trans ?_⟩
          simpa using h2.symm
    exact key i i hi (Nat.le_refl _)
theorem compact_set {α : Type} [Inhabited α] [DecidableEq α] [LT α] (le : α → α → Prop) (hst : ∀ a b, le a b → a ≠ b → a < b) (htr : ∀ a b c : α, le a b → b < c → a < c) (hlt : ∀ a b : α, a < b → le a b) (l : List α) (hs : l.Pairwise le) : IsSet (Go.Lib.compact l) := by
  unfold IsSet Go.Lib.compact Go.Lib.compactUpTo
  rw [List.pairwise_map]
  refine List.Pairwise.imp_of_mem ?_ (List.Pairwise.filter _ (List.pairwise_lt_range (n := l.length)))
  intro i j hi hj hij
  simp only [List.mem_filter, List.mem_range] at hi hj
  obtain ⟨hj1, hj2⟩ := hj
  unfold Go.Lib.keeps at hj2
  rw [decide_eq_true_eq] at hj2
  rcases hj2 with h0 | h0
  · omega
  · rw [getElem!_pos _ j (by simpa using hj1), getElem!_pos _ (j - 1) (by simp; omega)] at h0
    rw [getElem!_pos _ j (by simpa using hj1), getElem!_pos _ i (by simp; omega)]
    simp only [List.getElem_toArray] at h0 ⊢
    have hp := List.pairwise_iff_getElem.1 hs
    have h1 : l[j - 1] < l[j] := hst _ _ (hp (j - 1) j (by omega) hj1 (by omega)) (fun h => h0 h.symm)
    rcases Nat.lt_or_ge i (j - 1) with h2 | h2
    · exact htr _ _ _ (hp i (j - 1) (by omega) (by omega) h2) h1
    · obtain rfl : i = j - 1 := by omega
      exact h1
/-- The set of some texts. -/
def toSet (l : List Tx) : List Tx := Go.Lib.compact (l.mergeSort fun x y => decide (x ≤ y))
theorem toSet_mem (l : List Tx) (x : Tx) : x ∈ toSet l ↔ x ∈ l := by
  unfold toSet; rw [compact_mem, List.mem_mergeSort]
theorem toSet_set (l : List Tx) : IsSet (toSet l) := by
  refine compact_set (fun a b => a ≤ b) (fun a b h hne => ?_) (fun a b c h k => ?_) (fun a b h => ?_) _ ?_
  · refine Classical.byContradiction fun hn => hne ?_
    exact List.le_antisymm h (List.not_lt.1 hn)
  · refine Classical.byContradiction fun hn => ?_
    exact tx_le.1 (List.le_trans (List.not_lt.1 hn) h) k
  · exact List.le_of_lt h
  · have := List.pairwise_mergeSort (le := fun x y : Tx => decide (x ≤ y)) (fun a b c h k => by simp at *; exact List.le_trans h k) (fun a b => by simp; exact List.le_total a b) l
    exact this.imp fun h => by simpa using h
theorem toSet_id {l : List Tx} (h : IsSet l) : toSet l = l := set_ext (toSet_set l) h (toSet_mem l)
/-- The set of some numbers. -/
def toSetI (l : List Int) : List Int := Go.Lib.compact (l.mergeSort fun x y => decide (x ≤ y))
theorem toSetI_mem (l : List Int) (x : Int) : x ∈ toSetI l ↔ x ∈ l := by
  unfold toSetI; rw [compact_mem, List.mem_mergeSort]
theorem toSetI_set (l : List Int) : IsSet (toSetI l) := by
  refine compact_set (fun a b => a ≤ b) (fun a b h hne => by omega) (fun a b c h k => by omega) (fun a b h => by omega) _ ?_
  have := List.pairwise_mergeSort (le := fun x y : Int => decide (x ≤ y)) (fun a b c h k => by simp at *; omega) (fun a b => by simp; omega) l
  exact this.imp fun h => by simpa using h
end Go.Proofs.Ytimgnbacgdmiiaa.PK
