/-
  What follows, plain.
-/
import Derived.Test.YtimgnbacgdmiiaaKnH
namespace Go.Proofs.Ytimgnbacgdmiiaa
open Go.RowKit PK
set_option linter.unusedVariables false
set_option linter.unusedSimpArgs false

/-- Where something stands: in what, what, with what behind. -/
abbrev Tri := Int × Int × List Tx
/-- What follows, by derivation. -/
inductive FolD (L : List Tri) (k : Int) (z : Tx) : Nat → Tx → Prop
  | zero : FolD L k z 0 z
  | step {t : Tri} {x y : Tx} : t ∈ L → FolD L k z t.1.toNat x → y ∈ t.2.2 → FolD L k z t.2.1.toNat (catT y x k)
structure SoundF (L : List Tri) (k : Int) (z : Tx) (N : Nat) (F : Sts) : Prop where
  len : F.length = N
  set : ∀ l ∈ F, IsSet l
  der : ∀ n x, x ∈ stAt F n → FolD L k z n.toNat x
def cutF (k : Int) (F : Sts) (t : Tri) : List Tx := catL t.2.2 (stAt F t.1) k
def ClosedF (L : List Tri) (k : Int) (z : Tx) (F : Sts) : Prop := z ∈ stAt F 0 ∧ ∀ t ∈ L, ∀ x ∈ cutF k F t, x ∈ stAt F t.2.1
theorem stAt_toNat (F : Sts) {a b : Int} (h : a.toNat = b.toNat) : stAt F a = stAt F b := by unfold stAt; rw [h]
theorem ClosedF.der {L : List Tri} {k : Int} {z : Tx} {F : Sts} (h : ClosedF L k z F) {n : Nat} {x : Tx} (hd : FolD L k z n x) : x ∈ stAt F (n : Int) := by
  induction hd with
  | zero => exact h.1
  | @step t x y ht h1 hy ih =>
    have h2 := h.2 t ht (catT y x k) ((catL_mem _ _ _ _).2 ⟨y, hy, x, by rw [stAt_toNat F (b := t.1) (Int.toNat_natCast _)] at ih; exact ih, rfl⟩)
    rw [stAt_toNat F (b := t.2.1) (Int.toNat_natCast _)]; exact h2
theorem SoundF.sub {L : List Tri} {k : Int} {z : Tx} {N : Nat} {F G : Sts} (h : SoundF L k z N F) (hG : ClosedF L k z G) : Sub F G := fun n x hx => by
  have h1 := hG.der (h.der n x hx)
  rw [stAt_toNat G (b := n) (Int.toNat_natCast _)] at h1; exact h1
theorem SoundF.uniq {L : List Tri} {k : Int} {z : Tx} {N : Nat} {F G : Sts} (hF : SoundF L k z N F) (hG : SoundF L k z N G) (cF : ClosedF L k z F) (cG : ClosedF L k z G) : F = G := by
  refine List.ext_getElem (hF.len.trans hG.len.symm) fun j h1 h2 => ?_
  rw [← stAt_nat F j h1, ← stAt_nat G j h2]
  exact set_ext (stAt_set F _ hF.set) (stAt_set G _ hG.set) fun x => ⟨hF.sub cG _ x, hG.sub cF _ x⟩
def OverF (L : List Tri) (k : Int) (most : Nat) (F : Sts) : Prop := ∃ t ∈ L, most < (joinL (stAt F t.2.1) (cutF k F t)).length
theorem cutF_sub {k : Int} {F G : Sts} (h : Sub F G) (t : Tri) : ∀ x, x ∈ cutF k F t → x ∈ cutF k G t := fun x hx => by
  obtain ⟨y, hy, u, hu, rfl⟩ := (catL_mem _ _ _ _).1 hx
  exact (catL_mem _ _ _ _).2 ⟨y, hy, u, h _ _ hu, rfl⟩
theorem OverF.not {L : List Tri} {k : Int} {most : Nat} {z : Tx} {F G : Sts} (h : OverF L k most F) (hs : Sub F G) (hG : ∀ l ∈ G, IsSet l) (cG : ClosedF L k z G) (h2 : ∀ n, (stAt G n).length ≤ most) : False := by
  obtain ⟨t, ht, h3⟩ := h
  have : (joinL (stAt F t.2.1) (cutF k F t)).length ≤ (stAt G t.2.1).length := tset_sub (toSet_set _) fun x hx => by
    rcases (joinL_mem _ _ _).1 hx with h4 | h4
    · exact hs _ _ h4
    · exact cG.2 t ht x (cutF_sub hs t x h4)
  have := h2 t.2.1
  omega
/-- What stands is of nonterminals that there are. -/
def TriOk (L : List Tri) (N : Nat) : Prop := ∀ t ∈ L, (0 ≤ t.1 ∧ t.1 < N) ∧ (0 ≤ t.2.1 ∧ t.2.1 < N)
theorem SoundF.put {L : List Tri} {k : Int} {z : Tx} {N : Nat} {F : Sts} (hok : TriOk L N) (h : SoundF L k z N F) (t : Tri) (ht : t ∈ L) : SoundF L k z N (F.set t.2.1.toNat (joinL (stAt F t.2.1) (cutF k F t))) := by
  have h2 := hok t ht
  have hj : t.2.1.toNat < F.length := by rw [h.len]; omega
  refine ⟨by rw [List.length_set]; exact h.len, fun l hl => ?_, fun n x hx => ?_⟩
  · rcases List.mem_or_eq_of_mem_set hl with h1 | h1
    · exact h.set l h1
    · rw [h1]; exact toSet_set _
  · rw [stAt_put F _ _ hj] at hx
    by_cases e : n.toNat = t.2.1.toNat
    · rw [if_pos e] at hx
      rw [e]
      rcases (joinL_mem _ _ _).1 hx with h1 | h1
      · exact h.der _ x h1
      · obtain ⟨y, hy, u, hu, rfl⟩ := (catL_mem _ _ _ _).1 h1
        exact .step ht (h.der _ u hu) hy
    · rw [if_neg e] at hx; exact h.der n x hx
/-- A look at one stand: a state without sets is one in which too much was found. -/
def lookF (L : List Tri) (k : Int) (most : Nat) (st : Option Sts) (i : Nat) : Option Sts × Int :=
  match st with
  | none => (none, -1)
  | some F => match L[i]? with
    | none => (some F, -1)
    | some t =>
      if most < (joinL (stAt F t.2.1) (cutF k F t)).length then (none, 0)
      else if (joinL (stAt F t.2.1) (cutF k F t)).length = (stAt F t.2.1).length then (some F, -1)
      else (some (F.set t.2.1.toNat (joinL (stAt F t.2.1) (cutF k F t))), t.2.1)
structure InvF (L : List Tri) (k : Int) (most : Nat) (z : Tx) (N : Nat) (F : Sts) : Prop where
  sound : SoundF L k z N F
  le : ∀ a ∈ F, Le k a
  few : ∀ a ∈ F, a.length ≤ most
  zero : z ∈ stAt F 0
def InvFG (L : List Tri) (k : Int) (most : Nat) (z : Tx) (N : Nat) (st : Option Sts) : Prop := match st with
  | none => True
  | some F => InvF L k most z N F
theorem lookF_at {L : List Tri} {k : Int} {most : Nat} {F : Sts} {i : Nat} {t : Tri} (ht : L[i]? = some t) : lookF L k most (some F) i =
    if most < (joinL (stAt F t.2.1) (cutF k F t)).length then (none, 0)
      else if (joinL (stAt F t.2.1) (cutF k F t)).length = (stAt F t.2.1).length then (some F, -1)
      else (some (F.set t.2.1.toNat (joinL (stAt F t.2.1) (cutF k F t))), t.2.1) := by
  unfold lookF; simp only [ht]
theorem lookF_none (L : List Tri) (k : Int) (most : Nat) (i : Nat) : lookF L k most none i = (none, -1) := rfl
theorem stAt_isSetF {L : List Tri} {k : Int} {most : Nat} {z : Tx} {N : Nat} {F : Sts} (h : InvF L k most z N F) (n : Int) : IsSet (stAt F n) := stAt_set F n h.sound.set
theorem InvF.put {L : List Tri} {k : Int} {most : Nat} {z : Tx} {N : Nat} {F : Sts} (hok : TriOk L N) (hk : 0 ≤ k) (h : InvF L k most z N F) (t : Tri) (ht : t ∈ L) (hm : ¬ most < (joinL (stAt F t.2.1) (cutF k F t)).length) : InvF L k most z N (F.set t.2.1.toNat (joinL (stAt F t.2.1) (cutF k F t))) := by
  have h2 := hok t ht
  have hj : t.2.1.toNat < F.length := by rw [h.sound.len]; omega
  refine ⟨h.sound.put hok t ht, fun a ha => ?_, fun a ha => ?_, ?_⟩
  · rcases List.mem_or_eq_of_mem_set ha with h1 | h1
    · exact h.le a h1
    · rw [h1]
      intro x hx
      rcases (joinL_mem _ _ _).1 hx with h2 | h2
      · unfold stAt at h2
        cases e : F[t.2.1.toNat]? with
        | none => rw [e] at h2; cases h2
        | some c => rw [e] at h2; exact h.le c (List.mem_of_getElem? e) x h2
      · exact catL_le _ _ _ hk x h2
  · rcases List.mem_or_eq_of_mem_set ha with h1 | h1
    · exact h.few a h1
    · rw [h1]; omega
  · rw [stAt_put F _ _ hj]
    split
    · rename_i e
      refine (joinL_mem _ _ _).2 (.inl ?_)
      rw [stAt_toNat F (b := (0 : Int)) (by omega)]; exact h.zero
    · exact h.zero
/-- A look is as Settle asks. -/
theorem look_follow (L : List Tri) (k : Int) (most : Nat) (z : Tx) (N : Nat) (ask : Int → List Int) (hok : TriOk L N) (hk : 0 ≤ k) (hN : N ≤ 500)
    (hask : ∀ (j : Nat) t, L[j]? = some t → (j : Int) ∈ ask t.1) : Look L.length ask (lookF L k most) (muG most) (InvFG L k most z N) := by
  have hat : ∀ i, i < L.length → ∃ t, L[i]? = some t ∧ t ∈ L := fun i hi => ⟨_, List.getElem?_eq_getElem hi, List.getElem_mem hi⟩
  refine ⟨fun st i hi hI hl => ?_, fun st i hi hI => ?_, fun st i hi hI hl => ?_, fun st i j hi hj hI hl hn hor => ?_, fun st i hi hI => ?_⟩
  · cases st with
    | none => rfl
    | some F =>
      obtain ⟨t, ht, htm⟩ := hat i hi
      have h1 := hok t htm
      rw [lookF_at ht] at hl ⊢
      split at hl
      · simp at hl
      · split at hl
        · rename_i h2 h3; rw [if_neg h2, if_pos h3]
        · simp only at hl; omega
  · cases st with
    | none => trivial
    | some F =>
      obtain ⟨t, ht, htm⟩ := hat i hi
      rw [lookF_at ht]
      split
      · trivial
      · rename_i h2
        split
        · exact hI
        · exact InvF.put hok hk hI t htm h2
  · cases st with
    | none => rw [lookF_none] at hl; simp at hl
    | some F =>
      obtain ⟨t, ht, htm⟩ := hat i hi
      have h1 := hok t htm
      rw [lookF_at ht] at hl ⊢
      split
      · show 0 < 1 + _; omega
      · rename_i h2
        rw [if_neg h2] at hl
        split
        · rename_i h3; rw [if_pos h3] at hl; simp at hl
        · rename_i h3
          have hjl : t.2.1.toNat < F.length := by rw [hI.sound.len]; omega
          show 1 + _ < 1 + _
          rw [List.map_set]
          have e : stAt F t.2.1 = F[t.2.1.toNat] := by unfold stAt; rw [List.getElem?_eq_getElem hjl]; rfl
          have h4 := join_le (b := cutF k F t) (stAt_isSetF hI t.2.1)
          have h5 : (joinL (stAt F t.2.1) (cutF k F t)).length ≤ most := Nat.not_lt.1 h2
          have := sum_set_lt (F.map fun a => most - a.length) t.2.1.toNat (most - (joinL (stAt F t.2.1) (cutF k F t)).length) (by simpa using hjl) (by
            rw [List.getElem_map, ← e]; omega)
          omega
  · cases st with
    | none => rw [lookF_none] at hl; simp at hl
    | some F =>
      obtain ⟨t, ht, htm⟩ := hat i hi
      obtain ⟨q, hq, hqm⟩ := hat j hj
      have h1 := hok t htm
      have h1q := hok q hqm
      have hjl : t.2.1.toNat < F.length := by rw [hI.sound.len]; omega
      rw [lookF_at ht] at hl hn ⊢
      split at hl
      · rename_i h2; rw [if_pos h2]; exact (by decide : (-1 : Int) < 0)
      · rename_i h2
        rw [if_neg h2] at hn ⊢
        split at hl
        · simp at hl
        · rename_i h3
          rw [if_neg h3] at hn ⊢
          simp only at hn ⊢
          have hr : cutF k (F.set t.2.1.toNat (joinL (stAt F t.2.1) (cutF k F t))) q = cutF k F q := by
            unfold cutF
            rw [stAt_put F _ _ hjl]
            by_cases e : q.1.toNat = t.2.1.toNat
            · have e2 : q.1 = t.2.1 := by omega
              exact absurd (e2 ▸ hask j q hq) hn
            · rw [if_neg e]
          have hIq := InvF.put hok hk hI t htm h2
          have hin : ∀ x ∈ cutF k F q, x ∈ stAt (F.set t.2.1.toNat (joinL (stAt F t.2.1) (cutF k F t))) q.2.1 := by
            rcases hor with h4 | h4
            · rw [lookF_at hq] at h4
              split at h4
              · simp at h4
              · split at h4
                · rename_i h6
                  intro x hx
                  rw [stAt_put F _ _ hjl]
                  have h7 := (join_same (stAt_isSetF hI q.2.1) h6).2 x hx
                  split
                  · rename_i e
                    refine (joinL_mem _ _ _).2 (.inl ?_)
                    rw [← stAt_toNat F e]; exact h7
                  · exact h7
                · simp only at h4; omega
            · subst h4
              rw [ht] at hq
              cases hq
              intro x hx
              rw [stAt_put F _ _ hjl, if_pos rfl]; exact (joinL_mem _ _ _).2 (.inr hx)
          have hsame : joinL (stAt (F.set t.2.1.toNat (joinL (stAt F t.2.1) (cutF k F t))) q.2.1) (cutF k F q) = stAt (F.set t.2.1.toNat (joinL (stAt F t.2.1) (cutF k F t))) q.2.1 := by
            refine set_ext (toSet_set _) (stAt_isSetF hIq q.2.1) fun x => ?_
            rw [joinL_mem]
            exact ⟨fun h => h.elim id (hin x), .inl⟩
          have hfew : ¬ most < (stAt (F.set t.2.1.toNat (joinL (stAt F t.2.1) (cutF k F t))) q.2.1).length := by
            have := stAt_few q.2.1 hIq.few
            omega
          rw [lookF_at hq, hr, hsame, if_neg hfew, if_pos rfl]
          exact (by decide : (-1 : Int) < 0)
  · cases st with
    | none => rw [lookF_none]; unfold In64; simp
    | some F =>
      obtain ⟨t, ht, htm⟩ := hat i hi
      have h1 := hok t htm
      rw [lookF_at ht]
      split
      · unfold In64; simp
      · split
        · unfold In64; simp
        · unfold In64; simp only; omega
/-- When all is quiet, sets are closed. -/
theorem quiet_follow {L : List Tri} {k : Int} {most : Nat} {z : Tx} {N : Nat} {F : Sts} (hI : InvF L k most z N F) (hok : TriOk L N) (h : ∀ q, q < L.length → (lookF L k most (some F) q).2 < 0) : ClosedF L k z F := by
  refine ⟨hI.zero, fun t ht => ?_⟩
  obtain ⟨i, hi, rfl⟩ := List.getElem_of_mem ht
  have h1 := h i hi
  have h2 := hok _ ht
  rw [lookF_at (List.getElem?_eq_getElem hi)] at h1
  split at h1
  · simp at h1
  · split at h1
    · rename_i h6; exact (join_same (stAt_isSetF hI _) h6).2
    · simp only at h1; omega
/-- Where all begins: what follows rule 0 is the end. -/
theorem inv_startF (L : List Tri) (k : Int) (most : Nat) (z : Tx) (N : Nat) (hN : 1 ≤ N) (hz : (z.length : Int) ≤ k) (hm : 1 ≤ most) : InvF L k most z N ([z] :: List.replicate (N - 1) []) := by
  have hmem : ∀ a ∈ ([z] :: List.replicate (N - 1) ([] : List Tx)), a = [z] ∨ a = [] := fun a ha => by
    rcases List.mem_cons.1 ha with h | h
    · exact .inl h
    · exact .inr (List.eq_of_mem_replicate h)
  refine ⟨⟨by simp; omega, fun l hl => ?_, fun n x hx => ?_⟩, fun a ha x hx => ?_, fun a ha => ?_, ?_⟩
  · rcases hmem l hl with rfl | rfl
    · exact List.pairwise_singleton _ _
    · exact List.Pairwise.nil
  · unfold stAt at hx
    cases e : n.toNat with
    | zero =>
      rw [e] at hx
      have : x = z := by simpa using hx
      rw [this]; exact .zero
    | succ m =>
      rw [e, List.getElem?_cons_succ, List.getElem?_replicate] at hx
      split at hx <;> cases hx
  · rcases hmem a ha with rfl | rfl
    · rw [List.mem_singleton.1 hx]; exact hz
    · cases hx
  · rcases hmem a ha with rfl | rfl
    · simpa using hm
    · simp
  · simp [stAt]
end Go.Proofs.Ytimgnbacgdmiiaa
