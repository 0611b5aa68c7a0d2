/-
  What a look at a production does to sets, plain.
-/
import Derived.Test.YtimgnbacgdmiiaaFirD
import Derived.Test.YtimgnbacgdmiiaaSetC
namespace Go.Proofs.Ytimgnbacgdmiiaa
open Go.RowKit PK
set_option linter.unusedVariables false
set_option linter.unusedSimpArgs false

def overB (k : Int) (most : Nat) (S : Sts) (l : List Sy) : Bool := (List.range l.length).any fun i => decide (most < (rowS k S (l.take (i + 1))).length)
theorem overB_iff (k : Int) (most : Nat) (S : Sts) (l : List Sy) : overB k most S l = true ↔ OverR k most S l := by
  unfold overB OverR
  rw [List.any_eq_true]
  constructor
  · rintro ⟨i, h1, h2⟩; exact ⟨i, List.mem_range.1 h1, of_decide_eq_true h2⟩
  · rintro ⟨i, h1, h2⟩; exact ⟨i, List.mem_range.2 h1, decide_eq_true h2⟩
theorem overB_not (k : Int) (most : Nat) (S : Sts) (l : List Sy) : overB k most S l = false ↔ ¬ OverR k most S l := by
  rw [← overB_iff, Bool.not_eq_true]
/-- A production's look: a state without sets is one in which too much was found. -/
def lookG (b : Bn) (k : Int) (most : Nat) (st : Option Sts) (i : Nat) : Option Sts × Int :=
  match st with
  | none => (none, -1)
  | some S => match b.l[i]? with
    | none => (some S, -1)
    | some p =>
      if overB k most S p.right = true ∨ most < (joinL (stAt S p.left) (rowS k S p.right)).length then (none, 0)
      else if (joinL (stAt S p.left) (rowS k S p.right)).length = (stAt S p.left).length then (some S, -1)
      else (some (S.set p.left.toNat (joinL (stAt S p.left) (rowS k S p.right))), p.left)
def muG (most : Nat) (st : Option Sts) : Nat := match st with
  | none => 0
  | some S => 1 + (S.map fun a => most - a.length).sum
structure InvS (b : Bn) (k : Int) (most : Nat) (S : Sts) : Prop where
  sound : Sound b k S
  le : ∀ a ∈ S, Le k a
  few : ∀ a ∈ S, a.length ≤ most
def InvG (b : Bn) (k : Int) (most : Nat) (st : Option Sts) : Prop := match st with
  | none => True
  | some S => InvS b k most S
theorem lookG_at {b : Bn} {k : Int} {most : Nat} {S : Sts} {i : Nat} {p : Pr} (hp : b.l[i]? = some p) : lookG b k most (some S) i =
    if overB k most S p.right = true ∨ most < (joinL (stAt S p.left) (rowS k S p.right)).length then (none, 0)
      else if (joinL (stAt S p.left) (rowS k S p.right)).length = (stAt S p.left).length then (some S, -1)
      else (some (S.set p.left.toNat (joinL (stAt S p.left) (rowS k S p.right))), p.left) := by
  unfold lookG; simp only [hp]
theorem lookG_none (b : Bn) (k : Int) (most : Nat) (i : Nat) : lookG b k most none i = (none, -1) := rfl
theorem sum_set_lt (l : List Nat) (j v : Nat) (hj : j < l.length) (h : v < l[j]) : (l.set j v).sum < l.sum := by
  induction l generalizing j with
  | nil => simp at hj
  | cons x r ih =>
    cases j with
    | zero => simp at h ⊢; omega
    | succ j => simp at h ⊢; exact ih j (by simpa using hj) h
theorem InvS.put {b : Bn} {k : Int} {most : Nat} {S : Sts} (hok : ∀ p ∈ b.l, prOk b p = true) (hk : 0 ≤ k) (h : InvS b k most S) (p : Pr) (hp : p ∈ b.l) (hm : ¬ most < (joinL (stAt S p.left) (rowS k S p.right)).length) : InvS b k most (S.set p.left.toNat (joinL (stAt S p.left) (rowS k S p.right))) := by
  refine ⟨h.sound.put hok p hp, fun a ha => ?_, fun a ha => ?_⟩
  · rcases List.mem_or_eq_of_mem_set ha with h1 | h1
    · exact h.le a h1
    · rw [h1]
      intro x hx
      rcases (joinL_mem _ _ _).1 hx with h2 | h2
      · unfold stAt at h2
        cases e : S[p.left.toNat]? with
        | none => rw [e] at h2; cases h2
        | some c => rw [e] at h2; exact h.le c (List.mem_of_getElem? e) x h2
      · exact rowS_le hk S _ x h2
  · rcases List.mem_or_eq_of_mem_set ha with h1 | h1
    · exact h.few a h1
    · rw [h1]; omega
theorem stAt_few {most : Nat} {S : Sts} (n : Int) (h : ∀ a ∈ S, a.length ≤ most) : (stAt S n).length ≤ most := by
  unfold stAt
  cases e : S[n.toNat]? with
  | none => simp
  | some a => exact h a (List.mem_of_getElem? e)
theorem stAt_isSet {b : Bn} {k : Int} {most : Nat} {S : Sts} (h : InvS b k most S) (n : Int) : IsSet (stAt S n) := stAt_set S n h.sound.set
/-- A look is as Settle asks. -/
theorem look_grow (b : Bn) (k : Int) (most : Nat) (ask : Int → List Int) (hok : ∀ p ∈ b.l, prOk b p = true) (hk : 0 ≤ k) (hN : b.of.length ≤ 500)
    (hask : ∀ (j : Nat) p, b.l[j]? = some p → ∀ s ∈ p.right, s.tok = false → (j : Int) ∈ ask s.n) : Look b.l.length ask (lookG b k most) (muG most) (InvG b k most) := by
  have hat : ∀ i, i < b.l.length → ∃ p, b.l[i]? = some p ∧ p ∈ b.l := fun i hi => ⟨_, List.getElem?_eq_getElem hi, List.getElem_mem hi⟩
  refine ⟨fun st i hi hI hl => ?_, fun st i hi hI => ?_, fun st i hi hI hl => ?_, fun st i j hi hj hI hl hn hor => ?_, fun st i hi hI => ?_⟩
  · cases st with
    | none => rfl
    | some S =>
      obtain ⟨p, hp, hpm⟩ := hat i hi
      have h1 := prOk_left (hok p hpm)
      rw [lookG_at hp] at hl ⊢
      split at hl
      · simp at hl
      · split at hl
        · rename_i h2 h3; rw [if_neg h2, if_pos h3]
        · simp only at hl; omega
  · cases st with
    | none => trivial
    | some S =>
      obtain ⟨p, hp, hpm⟩ := hat i hi
      rw [lookG_at hp]
      split
      · trivial
      · rename_i h2
        split
        · exact hI
        · exact InvS.put hok hk hI p hpm fun h => h2 (.inr h)
  · cases st with
    | none => rw [lookG_none] at hl; simp at hl
    | some S =>
      obtain ⟨p, hp, hpm⟩ := hat i hi
      have h1 := prOk_left (hok p hpm)
      rw [lookG_at hp] at hl ⊢
      split
      · show 0 < 1 + _; omega
      · rename_i h2
        rw [if_neg h2] at hl
        split
        · rename_i h3; rw [if_pos h3] at hl; simp at hl
        · rename_i h3
          have hjl : p.left.toNat < S.length := by rw [hI.sound.len]; omega
          show 1 + _ < 1 + _
          rw [List.map_set]
          have e : stAt S p.left = S[p.left.toNat] := by unfold stAt; rw [List.getElem?_eq_getElem hjl]; rfl
          have h4 := join_le (b := rowS k S p.right) (stAt_isSet hI p.left)
          have h5 : (joinL (stAt S p.left) (rowS k S p.right)).length ≤ most := Nat.not_lt.1 fun h => h2 (.inr h)
          have := sum_set_lt (S.map fun a => most - a.length) p.left.toNat (most - (joinL (stAt S p.left) (rowS k S p.right)).length) (by simpa using hjl) (by
            rw [List.getElem_map, ← e]; omega)
          omega
  · cases st with
    | none => rw [lookG_none] at hl; simp at hl
    | some S =>
      obtain ⟨p, hp, hpm⟩ := hat i hi
      obtain ⟨q, hq, hqm⟩ := hat j hj
      have h1 := prOk_left (hok p hpm)
      have h1q := prOk_left (hok q hqm)
      have hjl : p.left.toNat < S.length := by rw [hI.sound.len]; omega
      rw [lookG_at hp] at hl hn ⊢
      split at hl
      · rename_i h2; rw [if_pos h2]; exact (by decide : (-1 : Int) < 0)
      · rename_i h2
        rw [if_neg h2] at hn ⊢
        split at hl
        · simp at hl
        · rename_i h3
          rw [if_neg h3] at hn ⊢
          simp only at hn ⊢
          have hr : rowS k (S.set p.left.toNat (joinL (stAt S p.left) (rowS k S p.right))) q.right = rowS k S q.right := rowS_congr k q.right fun s hs ht => by
            rw [stAt_put S _ _ hjl]
            by_cases e : s.n.toNat = p.left.toNat
            · have hs2 := prOk_sym (hok q hqm) hs ht
              have e2 : s.n = p.left := by omega
              exact absurd (e2 ▸ hask j q hq s hs ht) hn
            · rw [if_neg e]
          have hrt : ∀ m, rowS k (S.set p.left.toNat (joinL (stAt S p.left) (rowS k S p.right))) (q.right.take m) = rowS k S (q.right.take m) := fun m => rowS_congr k _ fun s hs ht => by
            rw [stAt_put S _ _ hjl]
            by_cases e : s.n.toNat = p.left.toNat
            · have hs1 := List.mem_of_mem_take hs
              have hs2 := prOk_sym (hok q hqm) hs1 ht
              have e2 : s.n = p.left := by omega
              exact absurd (e2 ▸ hask j q hq s hs1 ht) hn
            · rw [if_neg e]
          have hov : overB k most (S.set p.left.toNat (joinL (stAt S p.left) (rowS k S p.right))) q.right = overB k most S q.right := by
            unfold overB; simp only [hrt]
          have hIq := InvS.put hok hk hI p hpm fun h => h2 (.inr h)
          -- what the row of q holds is in the set of its left side by now
          have hin : (overB k most S q.right = false) ∧ ∀ x ∈ rowS k S q.right, x ∈ stAt (S.set p.left.toNat (joinL (stAt S p.left) (rowS k S p.right))) q.left := by
            rcases hor with h4 | h4
            · rw [lookG_at hq] at h4
              split at h4
              · simp at h4
              · rename_i h5
                split at h4
                · rename_i h6
                  refine ⟨?_, fun x hx => ?_⟩
                  · cases e : overB k most S q.right with
                    | false => rfl
                    | true => exact absurd (.inl e) h5
                  · exact sub_put p _ hjl (fun y hy => (joinL_mem _ _ _).2 (.inl hy)) _ _ ((join_same (stAt_isSet hI q.left) h6).2 x hx)
                · simp only at h4; omega
            · subst h4
              rw [hp] at hq
              cases hq
              refine ⟨?_, fun x hx => ?_⟩
              · cases e : overB k most S p.right with
                | false => rfl
                | true => exact absurd (.inl e) h2
              · rw [stAt_put S _ _ hjl, if_pos rfl]; exact (joinL_mem _ _ _).2 (.inr hx)
          have hsame : joinL (stAt (S.set p.left.toNat (joinL (stAt S p.left) (rowS k S p.right))) q.left) (rowS k S q.right) = stAt (S.set p.left.toNat (joinL (stAt S p.left) (rowS k S p.right))) q.left := by
            refine set_ext (toSet_set _) (stAt_isSet hIq q.left) fun x => ?_
            rw [joinL_mem]
            exact ⟨fun h => h.elim id (hin.2 x), .inl⟩
          have hfew : ¬ most < (stAt (S.set p.left.toNat (joinL (stAt S p.left) (rowS k S p.right))) q.left).length := by
            intro h6
            have := stAt_few q.left hIq.few
            omega
          rw [lookG_at hq, hr, hov, hsame, hin.1, if_neg (by simp [hfew]), if_pos rfl]
          exact (by decide : (-1 : Int) < 0)
  · cases st with
    | none => rw [lookG_none]; unfold In64; simp
    | some S =>
      obtain ⟨p, hp, hpm⟩ := hat i hi
      have h1 := prOk_left (hok p hpm)
      rw [lookG_at hp]
      split
      · unfold In64; simp
      · split
        · unfold In64; simp
        · unfold In64; simp only; omega
/-- When all is quiet, sets are closed, and nothing is too much. -/
theorem quiet_grow {b : Bn} {k : Int} {most : Nat} {S : Sts} (hI : InvS b k most S) (hok : ∀ p ∈ b.l, prOk b p = true) (h : ∀ q, q < b.l.length → (lookG b k most (some S) q).2 < 0) : Closed b k S ∧ ∀ p ∈ b.l, ¬ OverR k most S p.right := by
  have key : ∀ p ∈ b.l, ¬ OverR k most S p.right ∧ ∀ x ∈ rowS k S p.right, x ∈ stAt S p.left := fun p hp => by
    obtain ⟨i, hi, rfl⟩ := List.getElem_of_mem hp
    have h1 := h i hi
    have h2 := prOk_left (hok _ hp)
    rw [lookG_at (List.getElem?_eq_getElem hi)] at h1
    split at h1
    · simp at h1
    · rename_i h5
      split at h1
      · rename_i h6
        exact ⟨fun ho => h5 (.inl ((overB_iff _ _ _ _).2 ho)), (join_same (stAt_isSet hI _) h6).2⟩
      · simp only at h1; omega
  exact ⟨fun p hp => (key p hp).2, fun p hp => (key p hp).1⟩
end Go.Proofs.Ytimgnbacgdmiiaa
