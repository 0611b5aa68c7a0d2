/-
  The least words of plain rules, plain.
-/
import Derived.Test.YtfmcigodfihlcaaEmpA
namespace Go.Proofs.Ytfmcigodfihlcaa
open Go.RowKit
set_option linter.unusedVariables false
set_option linter.unusedSimpArgs false

def cap : Int := 1000000
/-- A derivation's tokens, counted up to the cap. -/
inductive DerC (L : List Pr) : Int → Int → Prop
  | mk (p : Pr) (v : Nat → Int) : p ∈ L → (∀ k (h : k < p.right.length), p.right[k].tok = true → v k = 1) → (∀ k (h : k < p.right.length), p.right[k].tok = false → DerC L p.right[k].n (v k)) →
      DerC L p.left (min (((List.range p.right.length).map v).sum) cap)
def valS (st : List Int) (s : Sy) : Int := if s.tok then 1 else (st[s.n.toNat]?).getD (-1)
def lenS (st : List Int) (r : List Sy) : Int := if r.all (fun s => decide (0 ≤ valS st s)) = true then min ((r.map (valS st)).sum) cap else -1
structure LInv (b : Bn) (st : List Int) : Prop where
  len : st.length = b.of.length
  low : ∀ x ∈ st, -1 ≤ x ∧ x ≤ cap
  sound : ∀ (x : Nat) (v : Int), st[x]? = some v → 0 ≤ v → DerC b.l (x : Int) v
structure FixL (b : Bn) (st : List Int) : Prop extends LInv b st where
  closed : ∀ p ∈ b.l, 0 ≤ lenS st p.right → ∃ v, st[p.left.toNat]? = some v ∧ 0 ≤ v ∧ v ≤ lenS st p.right
theorem sum_nonneg (l : List Int) (h : ∀ x ∈ l, 0 ≤ x) : 0 ≤ l.sum := by
  induction l with
  | nil => simp
  | cons a r ih =>
    rw [List.sum_cons]
    have := h a List.mem_cons_self
    have := ih fun x hx => h x (List.mem_cons_of_mem _ hx)
    omega
theorem lenS_nonneg {st : List Int} {r : List Sy} (h : r.all (fun s => decide (0 ≤ valS st s)) = true) : 0 ≤ lenS st r ∧ lenS st r = min ((r.map (valS st)).sum) cap := by
  unfold lenS
  rw [if_pos h]
  have h1 : 0 ≤ (r.map (valS st)).sum := sum_nonneg _ fun x hx => by
    obtain ⟨s, hs, rfl⟩ := List.mem_map.1 hx
    rw [List.all_eq_true] at h
    exact of_decide_eq_true (h s hs)
  exact ⟨by unfold cap; omega, rfl⟩
theorem lenS_le (st : List Int) (r : List Sy) : -1 ≤ lenS st r ∧ lenS st r ≤ cap := by
  by_cases h : r.all (fun s => decide (0 ≤ valS st s)) = true
  · have := lenS_nonneg h; exact ⟨by omega, by rw [this.2]; omega⟩
  · unfold lenS; rw [if_neg h]; unfold cap; omega
theorem sum_le_sum (r : List Sy) (st : List Int) (v : Nat → Int) (h : ∀ k (hk : k < r.length), valS st r[k] ≤ v k) : (r.map (valS st)).sum ≤ ((List.range r.length).map v).sum := by
  induction r generalizing v with
  | nil => simp
  | cons s r ih =>
    rw [List.map_cons, List.sum_cons, List.length_cons, List.range_succ_eq_map, List.map_cons, List.sum_cons, List.map_map]
    have h1 := h 0 (by simp)
    have h2 := ih (v ∘ Nat.succ) fun k hk => by have := h (k + 1) (by simpa using hk); simpa using this
    simp only [List.getElem_cons_zero] at h1
    omega
theorem FixL.der {b : Bn} {st : List Int} (hF : FixL b st) (hok : ∀ p ∈ b.l, prOk b p = true) {x m : Int} (h : DerC b.l x m) : ∃ v, st[x.toNat]? = some v ∧ 0 ≤ v ∧ v ≤ m := by
  induction h with
  | mk p v hp h1 h2 ih =>
    have hval : ∀ k (hk : k < p.right.length), 0 ≤ valS st p.right[k] ∧ valS st p.right[k] ≤ v k := fun k hk => by
      cases ht : p.right[k].tok with
      | true => have := h1 k hk ht; unfold valS; rw [ht]; simp; omega
      | false =>
        obtain ⟨u, e, q1, q2⟩ := ih k hk ht
        unfold valS; rw [ht]; simp only [Bool.false_eq_true, if_false]; rw [e]; exact ⟨q1, q2⟩
    have hall : p.right.all (fun s => decide (0 ≤ valS st s)) = true := by
      rw [List.all_eq_true]
      intro s hs
      obtain ⟨k, hk, rfl⟩ := List.getElem_of_mem hs
      exact decide_eq_true (hval k hk).1
    obtain ⟨q1, q2⟩ := lenS_nonneg hall
    obtain ⟨u, e, q3, q4⟩ := hF.closed p hp q1
    have := sum_le_sum p.right st v fun k hk => (hval k hk).2
    exact ⟨u, e, q3, by rw [q2] at q4; omega⟩
theorem FixL.uniq {b : Bn} {s1 s2 : List Int} (hok : ∀ p ∈ b.l, prOk b p = true) (h1 : FixL b s1) (h2 : FixL b s2) : s1 = s2 := by
  apply List.ext_getElem?
  intro x
  rcases Nat.lt_or_ge x b.of.length with hx | hx
  · have q1 : x < s1.length := by rw [h1.len]; exact hx
    have q2 : x < s2.length := by rw [h2.len]; exact hx
    have e1 : s1[x]? = some s1[x] := List.getElem?_eq_getElem q1
    have e2 : s2[x]? = some s2[x] := List.getElem?_eq_getElem q2
    have l1 := h1.low _ (List.getElem_mem q1)
    have l2 := h2.low _ (List.getElem_mem q2)
    have k1 : 0 ≤ s1[x] → 0 ≤ s2[x] ∧ s2[x] ≤ s1[x] := fun h => by
      obtain ⟨v, e, a, c⟩ := h2.der hok (h1.sound x _ e1 h)
      rw [Int.toNat_natCast, e2] at e
      cases e; exact ⟨a, c⟩
    have k2 : 0 ≤ s2[x] → 0 ≤ s1[x] ∧ s1[x] ≤ s2[x] := fun h => by
      obtain ⟨v, e, a, c⟩ := h1.der hok (h2.sound x _ e2 h)
      rw [Int.toNat_natCast, e1] at e
      cases e; exact ⟨a, c⟩
    rw [e1, e2]
    have : s1[x] = s2[x] := by
      rcases Int.lt_or_le s1[x] 0 with h | h
      · rcases Int.lt_or_le s2[x] 0 with h' | h'
        · omega
        · have := k2 h'; omega
      · have := k1 h; have := k2 this.1; omega
    rw [this]
  · rw [List.getElem?_eq_none (by rw [h1.len]; exact hx), List.getElem?_eq_none (by rw [h2.len]; exact hx)]
/-- A look at production i. -/
def lookL (b : Bn) (st : List Int) (i : Nat) : List Int × Int := match b.l[i]? with
  | none => (st, -1)
  | some p => if lenS st p.right < 0 ∨ (0 ≤ (st[p.left.toNat]?).getD (-1) ∧ (st[p.left.toNat]?).getD (-1) ≤ lenS st p.right) then (st, -1) else (st.set p.left.toNat (lenS st p.right), p.left)
theorem lookL_at (b : Bn) (st : List Int) (i : Nat) (hi : i < b.l.length) : lookL b st i = if lenS st b.l[i].right < 0 ∨ (0 ≤ (st[b.l[i].left.toNat]?).getD (-1) ∧ (st[b.l[i].left.toNat]?).getD (-1) ≤ lenS st b.l[i].right) then (st, -1) else (st.set b.l[i].left.toNat (lenS st b.l[i].right), b.l[i].left) := by
  unfold lookL; rw [List.getElem?_eq_getElem hi]
def wei (x : Int) : Nat := if x < 0 then 1000001 else x.toNat
def muL (st : List Int) : Nat := (st.map wei).sum
theorem muL_set (st : List Int) (c : Nat) (n : Int) (hc : c < st.length) (h : wei n < wei st[c]) : muL (st.set c n) < muL st := by
  unfold muL
  induction st generalizing c with
  | nil => simp at hc
  | cons a r ih =>
    cases c with
    | zero => simp only [List.set_cons_zero, List.map_cons, List.sum_cons, List.getElem_cons_zero] at h ⊢; omega
    | succ c =>
      have := ih c (by simpa using hc) (by simpa using h)
      simp only [List.set_cons_succ, List.map_cons, List.sum_cons]; omega
theorem valS_set {st : List Int} {s : Sy} {c : Nat} {n : Int} (h : s.tok = false → s.n.toNat ≠ c) : valS (st.set c n) s = valS st s := by
  unfold valS
  cases ht : s.tok with
  | true => rfl
  | false => simp only [Bool.false_eq_true, if_false]; rw [List.getElem?_set, if_neg (Ne.symm (h ht))]
theorem lenS_set {st : List Int} {r : List Sy} {c : Nat} {n : Int} (h : ∀ s ∈ r, s.tok = false → s.n.toNat ≠ c) : lenS (st.set c n) r = lenS st r := by
  have e : ∀ s ∈ r, valS (st.set c n) s = valS st s := fun s hs => valS_set (h s hs)
  unfold lenS
  have e1 : r.map (valS (st.set c n)) = r.map (valS st) := List.map_congr_left e
  have e2 : r.all (fun s => decide (0 ≤ valS (st.set c n) s)) = r.all (fun s => decide (0 ≤ valS st s)) := by
    refine Bool.eq_iff_iff.2 ?_
    simp only [List.all_eq_true]
    exact ⟨fun h s hs => by have := h s hs; rwa [e s hs] at this, fun h s hs => by rw [e s hs]; exact h s hs⟩
  rw [e1, e2]
theorem linv_set {b : Bn} {st : List Int} (hok : ∀ p ∈ b.l, prOk b p = true) (hI : LInv b st) (i : Nat) (hi : i < b.l.length) (h1 : 0 ≤ lenS st b.l[i].right) : LInv b (st.set b.l[i].left.toNat (lenS st b.l[i].right)) := by
  have hpo := hok _ (List.getElem_mem hi)
  have hp := prOk_left hpo
  refine ⟨by rw [List.length_set]; exact hI.len, fun x hx => ?_, fun x v hx hv => ?_⟩
  · rcases List.mem_or_eq_of_mem_set hx with h | rfl
    · exact hI.low x h
    · exact lenS_le _ _
  · rw [List.getElem?_set] at hx
    split at hx
    · rename_i e
      split at hx
      · cases hx
        have hx2 : (x : Int) = b.l[i].left := by omega
        rw [hx2]
        have hall : b.l[i].right.all (fun s => decide (0 ≤ valS st s)) = true := by
          unfold lenS at h1; split at h1
          · assumption
          · omega
        rw [(lenS_nonneg hall).2]
        have e2 : b.l[i].right.map (valS st) = (List.range b.l[i].right.length).map (fun k => valS st (b.l[i].right.getD k ⟨true, 0⟩)) := by
          apply List.ext_getElem
          · simp
          · intro k h3 h4
            simp only [List.getElem_map, List.getElem_range]
            rw [List.getD_eq_getElem?_getD, List.getElem?_eq_getElem (by simpa using h3)]; rfl
        rw [e2]
        rw [List.all_eq_true] at hall
        refine DerC.mk b.l[i] _ (List.getElem_mem hi) (fun k hk ht => ?_) (fun k hk ht => ?_)
        · simp only [List.getD_eq_getElem?_getD, List.getElem?_eq_getElem hk, Option.getD_some]; unfold valS; rw [ht]; rfl
        · simp only [List.getD_eq_getElem?_getD, List.getElem?_eq_getElem hk, Option.getD_some]
          have h5 := of_decide_eq_true (hall _ (List.getElem_mem hk))
          have h6 := prOk_sym hpo (List.getElem_mem hk) ht
          unfold valS at h5 ⊢
          rw [ht] at h5 ⊢
          simp only [Bool.false_eq_true, if_false] at h5 ⊢
          cases h7 : st[b.l[i].right[k].n.toNat]? with
          | none => rw [h7] at h5; simp at h5
          | some u =>
            rw [h7] at h5
            have := hI.sound _ u h7 h5
            rw [Int.toNat_of_nonneg h6.1] at this
            exact this
      · cases hx
    · exact hI.sound x v hx hv
theorem look_least (b : Bn) (ask : Int → List Int) (hok : ∀ p ∈ b.l, prOk b p = true) (hl : b.of.length ≤ 500)
    (hask : ∀ (j : Nat) (x : Pr), b.l[j]? = some x → ∀ s ∈ x.right, s.tok = false → (j : Int) ∈ ask s.n) : Look b.l.length ask (lookL b) muL (LInv b) := by
  have hpl : ∀ i (hi : i < b.l.length), 0 ≤ b.l[i].left ∧ b.l[i].left < b.of.length := fun i hi => prOk_left (hok _ (List.getElem_mem hi))
  refine ⟨fun st i hi hI hn => ?_, fun st i hi hI => ?_, fun st i hi hI hn => ?_, fun st i j hi hj hI hn hm hq => ?_, fun st i hi hI => ?_⟩
  · rw [lookL_at b st i hi] at hn ⊢
    have := hpl i hi
    split at hn
    · rename_i h1; rw [if_pos h1]
    · exfalso; simp only at hn; omega
  · rw [lookL_at b st i hi]
    split
    · exact hI
    · rename_i h1; exact linv_set hok hI i hi (by omega)
  · rw [lookL_at b st i hi] at hn ⊢
    have hp := hpl i hi
    split at hn
    · simp at hn
    · rename_i h1
      rw [if_neg h1]
      have h3 : b.l[i].left.toNat < st.length := by rw [hI.len]; omega
      refine muL_set st _ _ h3 ?_
      rw [List.getElem?_eq_getElem h3, Option.getD_some] at h1
      have h4 := lenS_le st b.l[i].right
      unfold cap at h4
      unfold wei
      rw [if_neg (by omega)]
      split <;> omega
  · have hpi := hpl i hi
    have hpj := hpl j hj
    rw [lookL_at b st i hi] at hn hm ⊢
    split at hn
    · simp at hn
    · rename_i h1
      rw [if_neg h1] at hm ⊢
      simp only at hm ⊢
      rw [lookL_at b _ j hj]
      have h3 : b.l[i].left.toNat < st.length := by rw [hI.len]; omega
      have hnot : ∀ s ∈ b.l[j].right, s.tok = false → s.n.toNat ≠ b.l[i].left.toNat := fun s hs ht e => by
        have h4 := prOk_sym (hok _ (List.getElem_mem hj)) hs ht
        have e2 : s.n = b.l[i].left := by omega
        exact hm (by rw [← e2]; exact hask j _ (List.getElem?_eq_getElem hj) s hs ht)
      rw [lenS_set hnot]
      by_cases he : b.l[j].left.toNat = b.l[i].left.toNat
      · rw [he, List.getElem?_set, if_pos rfl, if_pos h3, Option.getD_some]
        rcases hq with hq | hq
        · rw [lookL_at b st j hj] at hq
          split at hq
          · rename_i h5
            rw [he] at h5
            rw [if_pos (by omega)]; simp
          · exfalso; simp only at hq; omega
        · subst hq
          rw [if_pos (by omega)]; simp
      · rw [List.getElem?_set, if_neg (Ne.symm he)]
        rcases hq with hq | hq
        · rw [lookL_at b st j hj] at hq
          split at hq
          · rename_i h5; rw [if_pos h5]; simp
          · exfalso; simp only at hq; omega
        · subst hq; exact absurd rfl he
  · rw [lookL_at b st i hi]
    have hp := hpl i hi
    split
    · exact ⟨by simp, by simp⟩
    · exact ⟨by simp only; omega, by simp only; omega⟩
theorem fixL_of_quiet {b : Bn} {st : List Int} (hok : ∀ p ∈ b.l, prOk b p = true) (hI : LInv b st) (hq : ∀ q, q < b.l.length → (lookL b st q).2 < 0) : FixL b st :=
  ⟨hI, fun p hp hr => by
    obtain ⟨i, hi, rfl⟩ := List.getElem_of_mem hp
    have h := hq i hi
    have hpl := prOk_left (hok _ hp)
    have h3 : b.l[i].left.toNat < st.length := by rw [hI.len]; omega
    rw [lookL_at b st i hi] at h
    split at h
    · rename_i h1
      rw [List.getElem?_eq_getElem h3, Option.getD_some] at h1
      exact ⟨_, List.getElem?_eq_getElem h3, by omega, by omega⟩
    · exfalso; simp only at h; omega⟩
end Go.Proofs.Ytfmcigodfihlcaa
