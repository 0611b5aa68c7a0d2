/-
  cmp.Compare of texts; pack.met and joined, of sets.
-/
import Derived.Test.YtimgnbacgdmiiaaKPackE
namespace Go.Proofs.Ytimgnbacgdmiiaa
open Go.RowKit PK
set_option linter.unusedVariables false
attribute [local go_sem ↓] append_appM

theorem isNaN_any (s : ByteArray) (w : World) : Calls Try.prog 112 #[.string s] w fun e w' => e = .returned (.bool false) ∧ w' = w := by
  go_enter Try.func112, Try.ntmps112
  go_wp2_with fail
  go_ret
  exact ⟨ret_boolP (by simp), rfl⟩
def cmpT (x y : Tx) : Int := if x < y then -1 else if y < x then 1 else 0
theorem compare_any (x y : Tx) (w : World) (s t : ByteArray) (hs : s = ⟨x.toArray⟩) (ht : t = ⟨y.toArray⟩) :
    Calls Try.prog 101 #[.string s, .string t] w fun e w' => e = .returned (.int .i64 (cmpT x y)) ∧ w' = w := by
  subst hs; subst ht
  have hless := bytesLess_eq x y
  by_cases h1 : x < y
  · have hc : cmpT x y = -1 := by unfold cmpT; rw [if_pos h1]
    rw [hc]
    rw [decide_eq_true h1] at hless
    clear h1 hc
    go_enter Try.func101, Try.ntmps101
    go_wp2_with fail
    refine (isNaN_any _ w).mono ?_
    rintro e w1 ⟨rfl, rfl⟩
    go_wp2_with fail
    refine (isNaN_any _ w1).mono ?_
    rintro e w2 ⟨rfl, rfl⟩
    go_wp2_with fail
    go_ret
    exact ⟨rfl, rfl⟩
  · rw [decide_eq_false h1] at hless
    by_cases h2 : y < x
    · have hc : cmpT x y = 1 := by unfold cmpT; rw [if_neg h1, if_pos h2]
      have he : (x == y) = false := by
        have : x ≠ y := fun e => by subst e; exact tx_irrefl _ h2
        simpa using this
      rw [hc]
      clear h1 h2 hc
      go_enter Try.func101, Try.ntmps101
      go_wp2_with fail
      refine (isNaN_any _ w).mono ?_
      rintro e w1 ⟨rfl, rfl⟩
      go_wp2_with fail
      refine (isNaN_any _ w1).mono ?_
      rintro e w2 ⟨rfl, rfl⟩
      go_wp2_with fail
      go_ret
      exact ⟨rfl, rfl⟩
    · have hc : cmpT x y = 0 := by unfold cmpT; rw [if_neg h1, if_neg h2]
      have he : (x == y) = true := by
        have : x = y := tx_eq h1 h2
        simpa using this
      rw [hc]
      clear h1 h2 hc
      go_enter Try.func101, Try.ntmps101
      go_wp2_with fail
      refine (isNaN_any _ w).mono ?_
      rintro e w1 ⟨rfl, rfl⟩
      go_wp2_with fail
      refine (isNaN_any _ w1).mono ?_
      rintro e w2 ⟨rfl, rfl⟩
      go_wp2_with fail
      go_ret
      exact ⟨rfl, rfl⟩

/-- What the merges come to. -/
def metR : List Tx → List Tx → List Tx
  | [], _ => []
  | _ :: _, [] => []
  | x :: a, y :: b => if x < y then metR a (y :: b) else if y < x then metR (x :: a) b else x :: metR a b
termination_by a b => a.length + b.length
def joinR : List Tx → List Tx → List Tx
  | [], b => b
  | x :: a, [] => x :: a
  | x :: a, y :: b => if x < y then x :: joinR a (y :: b) else if y < x then y :: joinR (x :: a) b else x :: joinR a b
termination_by a b => a.length + b.length
theorem metR_nil (a : List Tx) : metR a [] = [] := by cases a <;> simp [metR]
theorem joinR_nil (a : List Tx) : joinR a [] = a := by cases a <;> simp [joinR]
theorem metR_lt {x y : Tx} (a b : List Tx) (h : x < y) : metR (x :: a) (y :: b) = metR a (y :: b) := by rw [metR, if_pos h]
theorem metR_gt {x y : Tx} (a b : List Tx) (h1 : ¬ x < y) (h : y < x) : metR (x :: a) (y :: b) = metR (x :: a) b := by rw [metR, if_neg h1, if_pos h]
theorem metR_eq {x y : Tx} (a b : List Tx) (h1 : ¬ x < y) (h : ¬ y < x) : metR (x :: a) (y :: b) = x :: metR a b := by rw [metR, if_neg h1, if_neg h]
theorem joinR_lt {x y : Tx} (a b : List Tx) (h : x < y) : joinR (x :: a) (y :: b) = x :: joinR a (y :: b) := by rw [joinR, if_pos h]
theorem joinR_gt {x y : Tx} (a b : List Tx) (h1 : ¬ x < y) (h : y < x) : joinR (x :: a) (y :: b) = y :: joinR (x :: a) b := by rw [joinR, if_neg h1, if_pos h]
theorem joinR_eq {x y : Tx} (a b : List Tx) (h1 : ¬ x < y) (h : ¬ y < x) : joinR (x :: a) (y :: b) = x :: joinR a b := by rw [joinR, if_neg h1, if_neg h]
theorem joinR_mem : ∀ (n : Nat) (a b : List Tx), a.length + b.length ≤ n → ∀ z, z ∈ joinR a b ↔ z ∈ a ∨ z ∈ b := by
  intro n
  induction n with
  | zero =>
    intro a b h z
    have h1 := List.length_eq_zero_iff.1 (show a.length = 0 by omega)
    have h2 := List.length_eq_zero_iff.1 (show b.length = 0 by omega)
    subst h1; subst h2; simp [joinR]
  | succ n ih =>
    intro a b h z
    rcases a with _ | ⟨x, a⟩
    · simp [joinR]
    · rcases b with _ | ⟨y, b⟩
      · simp [joinR]
      · simp only [List.length_cons] at h
        by_cases h1 : x < y
        · rw [joinR_lt a b h1, List.mem_cons, ih a (y :: b) (by simp; omega) z]; simp only [List.mem_cons, or_assoc]
        · by_cases h2 : y < x
          · rw [joinR_gt a b h1 h2, List.mem_cons, ih (x :: a) b (by simp; omega) z]; simp only [List.mem_cons]
            constructor
            · rintro (h | (h | h) | h)
              · exact .inr (.inl h)
              · exact .inl (.inl h)
              · exact .inl (.inr h)
              · exact .inr (.inr h)
            · rintro ((h | h) | h | h)
              · exact .inr (.inl (.inl h))
              · exact .inr (.inl (.inr h))
              · exact .inl h
              · exact .inr (.inr h)
          · obtain rfl := tx_eq h1 h2
            rw [joinR_eq a b h1 h2, List.mem_cons, ih a b (by omega) z]; simp only [List.mem_cons]
            constructor
            · rintro (h | h | h)
              · exact .inl (.inl h)
              · exact .inl (.inr h)
              · exact .inr (.inr h)
            · rintro ((h | h) | h | h)
              · exact .inl h
              · exact .inr (.inl h)
              · exact .inl h
              · exact .inr (.inr h)
theorem joinR_set : ∀ (n : Nat) (a b : List Tx), a.length + b.length ≤ n → IsSet a → IsSet b → IsSet (joinR a b) := by
  intro n
  induction n with
  | zero =>
    intro a b h _ _
    have h1 := List.length_eq_zero_iff.1 (show a.length = 0 by omega)
    have h2 := List.length_eq_zero_iff.1 (show b.length = 0 by omega)
    subst h1; subst h2; simp [joinR, IsSet]
  | succ n ih =>
    intro a b h ha hb
    rcases a with _ | ⟨x, a⟩
    · simpa [joinR] using hb
    · rcases b with _ | ⟨y, b⟩
      · simpa [joinR] using ha
      · simp only [List.length_cons] at h
        have ha' := List.pairwise_cons.1 ha
        have hb' := List.pairwise_cons.1 hb
        by_cases h1 : x < y
        · rw [joinR_lt a b h1]
          refine List.pairwise_cons.2 ⟨fun z hz => ?_, ih _ _ (by simp; omega) ha'.2 hb⟩
          rcases (joinR_mem _ _ _ (Nat.le_refl _) z).1 hz with h | h
          · exact ha'.1 z h
          · rcases List.mem_cons.1 h with e | e
            · subst e; exact h1
            · exact tx_trans h1 (hb'.1 z e)
        · by_cases h2 : y < x
          · rw [joinR_gt a b h1 h2]
            refine List.pairwise_cons.2 ⟨fun z hz => ?_, ih _ _ (by simp; omega) ha hb'.2⟩
            rcases (joinR_mem _ _ _ (Nat.le_refl _) z).1 hz with h | h
            · rcases List.mem_cons.1 h with e | e
              · subst e; exact h2
              · exact tx_trans h2 (ha'.1 z e)
            · exact hb'.1 z h
          · obtain rfl := tx_eq h1 h2
            rw [joinR_eq a b h1 h2]
            refine List.pairwise_cons.2 ⟨fun z hz => ?_, ih _ _ (by omega) ha'.2 hb'.2⟩
            rcases (joinR_mem _ _ _ (Nat.le_refl _) z).1 hz with h | h
            · exact ha'.1 z h
            · exact hb'.1 z h
theorem metR_mem : ∀ (n : Nat) (a b : List Tx), a.length + b.length ≤ n → IsSet a → IsSet b → ∀ z, z ∈ metR a b ↔ z ∈ a ∧ z ∈ b := by
  intro n
  induction n with
  | zero =>
    intro a b h _ _ z
    have h1 := List.length_eq_zero_iff.1 (show a.length = 0 by omega)
    subst h1; simp [metR]
  | succ n ih =>
    intro a b h ha hb z
    rcases a with _ | ⟨x, a⟩
    · simp [metR]
    · rcases b with _ | ⟨y, b⟩
      · simp [metR]
      · simp only [List.length_cons] at h
        have ha' := List.pairwise_cons.1 ha
        have hb' := List.pairwise_cons.1 hb
        by_cases h1 : x < y
        · rw [metR_lt a b h1, ih a (y :: b) (by simp; omega) ha'.2 hb z]
          constructor
          · rintro ⟨h, k⟩; exact ⟨List.mem_cons_of_mem _ h, k⟩
          · rintro ⟨h, k⟩
            rcases List.mem_cons.1 h with e | e
            · subst e
              rcases List.mem_cons.1 k with e2 | e2
              · subst e2; exact absurd h1 (tx_irrefl _)
              · exact absurd (tx_trans h1 (hb'.1 z e2)) (tx_irrefl _)
            · exact ⟨e, k⟩
        · by_cases h2 : y < x
          · rw [metR_gt a b h1 h2, ih (x :: a) b (by simp; omega) ha hb'.2 z]
            constructor
            · rintro ⟨h, k⟩; exact ⟨h, List.mem_cons_of_mem _ k⟩
            · rintro ⟨h, k⟩
              rcases List.mem_cons.1 k with e | e
              · subst e
                rcases List.mem_cons.1 h with e2 | e2
                · subst e2; exact absurd h2 (tx_irrefl _)
                · exact absurd (tx_trans h2 (ha'.1 z e2)) (tx_irrefl _)
              · exact ⟨h, e⟩
          · obtain rfl := tx_eq h1 h2
            rw [metR_eq a b h1 h2, List.mem_cons, ih a b (by omega) ha'.2 hb'.2 z]
            constructor
            · rintro (h | ⟨h, k⟩)
              · subst h; exact ⟨List.mem_cons_self, List.mem_cons_self⟩
              · exact ⟨List.mem_cons_of_mem _ h, List.mem_cons_of_mem _ k⟩
            · rintro ⟨h, k⟩
              rcases List.mem_cons.1 h with e | e
              · exact .inl e
              · rcases List.mem_cons.1 k with e2 | e2
                · exact .inl e2
                · exact .inr ⟨e, e2⟩
theorem metR_set : ∀ (n : Nat) (a b : List Tx), a.length + b.length ≤ n → IsSet a → IsSet b → IsSet (metR a b) := by
  intro n
  induction n with
  | zero =>
    intro a b h _ _
    have h1 := List.length_eq_zero_iff.1 (show a.length = 0 by omega)
    subst h1; simp [metR, IsSet]
  | succ n ih =>
    intro a b h ha hb
    rcases a with _ | ⟨x, a⟩
    · simp [metR, IsSet]
    · rcases b with _ | ⟨y, b⟩
      · simp [metR, IsSet]
      · simp only [List.length_cons] at h
        have ha' := List.pairwise_cons.1 ha
        have hb' := List.pairwise_cons.1 hb
        by_cases h1 : x < y
        · rw [metR_lt a b h1]; exact ih _ _ (by simp; omega) ha'.2 hb
        · by_cases h2 : y < x
          · rw [metR_gt a b h1 h2]; exact ih _ _ (by simp; omega) ha hb'.2
          · obtain rfl := tx_eq h1 h2
            rw [metR_eq a b h1 h2]
            exact List.pairwise_cons.2 ⟨fun z hz => ha'.1 z ((metR_mem _ _ _ (Nat.le_refl _) ha'.2 hb'.2 z).1 hz).1, ih _ _ (by omega) ha'.2 hb'.2⟩
theorem metR_sets (a b : List Tx) : metR (toSet a) (toSet b) = meetL a b := set_ext (metR_set _ _ _ (Nat.le_refl _) (toSet_set _) (toSet_set _)) (toSet_set _) fun z => by
  rw [metR_mem _ _ _ (Nat.le_refl _) (toSet_set _) (toSet_set _), toSet_mem, toSet_mem]
  unfold meetL
  rw [toSet_mem, List.mem_filter, decide_eq_true_eq]
theorem joinR_sets (a b : List Tx) : joinR (toSet a) (toSet b) = joinL a b := set_ext (joinR_set _ _ _ (Nat.le_refl _) (toSet_set _) (toSet_set _)) (toSet_set _) fun z => by
  rw [joinR_mem _ _ _ (Nat.le_refl _), toSet_mem, toSet_mem]
  unfold joinL
  rw [toSet_mem, List.mem_append]
/-- The rest of a row. -/
theorem rowTail {w : World} {B n c : Nat} {ao : Option Addr} {x : Value} {xs : List Value} (h : Row w B 1 (.slice ao (n + 1) c) (n + 1) (x :: xs)) :
    ∃ b o, ao = some ⟨b, o, none⟩ ∧ b < B ∧ w.cell? ⟨b, o, none⟩ = some x ∧ 1 ≤ c ∧ (c = 1 → Row w B 1 (.slice (some ⟨b, o, none⟩) n (c - 1)) n xs) ∧ (c ≠ 1 → Row w B 1 (.slice (some ⟨b, o + 1, none⟩) n (c - 1)) n xs) := by
  obtain ⟨_, _, hv, h1, h2⟩ := h.val
  simp only [Value.slice.injEq] at hv
  obtain ⟨_, _, rfl⟩ := hv
  obtain ⟨b, o, rfl, hb, hc⟩ := h.at (by simp)
  have hd := h.drop 1 (by omega)
  refine ⟨b, o, rfl, hb, ?_, by omega, fun e => ?_, fun _ => by simpa using hd⟩
  · simpa using hc 0 x rfl
  · subst e
    obtain rfl : n = 0 := by omega
    have hx : xs = [] := by have := h.1; simp at this; exact this
    subst hx
    exact ⟨rfl, Nat.zero_le _, .inr ⟨_, _, rfl, Nat.zero_le _, Nat.zero_le _, .inl rfl, fun j u hu => by simp at hu⟩⟩
def slen : Value → Nat
  | .slice _ n _ => n
  | _ => 0
end Go.Proofs.Ytimgnbacgdmiiaa
