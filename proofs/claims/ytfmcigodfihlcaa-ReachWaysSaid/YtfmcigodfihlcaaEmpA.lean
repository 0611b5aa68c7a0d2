/-
  What plain rules derive, plain: marks.
-/
import Derived.Test.YtfmcigodfihlcaaSetA
import Derived.Test.YtfmcigodfihlcaaBnfB
namespace Go.Proofs.Ytfmcigodfihlcaa
open Go.RowKit
set_option linter.unusedVariables false
set_option linter.unusedSimpArgs false

/-- Nonterminals that come to an end by productions, tokens being let by or not. -/
inductive Der (L : List Pr) (tk : Bool) : Int → Prop
  | mk (p : Pr) : p ∈ L → (∀ s ∈ p.right, s.tok = true → tk = true) → (∀ s ∈ p.right, s.tok = false → Der L tk s.n) → Der L tk p.left
def goodB (tk : Bool) (st : List Bool) (s : Sy) : Bool := if s.tok then tk else (st[s.n.toNat]?).getD false
def rowB (tk : Bool) (st : List Bool) (r : List Sy) : Bool := r.all (goodB tk st)
/-- Marks: of what is derived, and closed. -/
structure Fix (b : Bn) (tk : Bool) (st : List Bool) : Prop where
  len : st.length = b.of.length
  sound : ∀ x : Nat, st[x]? = some true → Der b.l tk (x : Int)
  closed : ∀ p ∈ b.l, rowB tk st p.right = true → st[p.left.toNat]? = some true
theorem prOk_left {b : Bn} {p : Pr} (h : prOk b p = true) : 0 ≤ p.left ∧ p.left < b.of.length := by
  unfold prOk at h; simp only [Bool.and_eq_true, decide_eq_true_eq] at h; exact h.1
theorem prOk_sym {b : Bn} {p : Pr} (h : prOk b p = true) {s : Sy} (hs : s ∈ p.right) (ht : s.tok = false) : 0 ≤ s.n ∧ s.n < b.of.length := by
  unfold prOk at h; simp only [Bool.and_eq_true, List.all_eq_true] at h
  have := h.2 s hs
  unfold symOk at this
  rw [ht] at this
  simpa using this
theorem Fix.der {b : Bn} {tk : Bool} {st : List Bool} (h : Fix b tk st) (hok : ∀ p ∈ b.l, prOk b p = true) {x : Int} (hd : Der b.l tk x) : st[x.toNat]? = some true := by
  induction hd with
  | mk p hp h1 h2 ih =>
    refine h.closed p hp ?_
    unfold rowB
    rw [List.all_eq_true]
    intro s hs
    unfold goodB
    cases ht : s.tok with
    | true => simpa using h1 s hs ht
    | false => simp [ih s hs ht]
theorem Fix.uniq {b : Bn} {tk : Bool} {s1 s2 : List Bool} (hok : ∀ p ∈ b.l, prOk b p = true) (h1 : Fix b tk s1) (h2 : Fix b tk s2) : s1 = s2 := by
  have key : ∀ x : Nat, s1[x]? = some true ↔ s2[x]? = some true := fun x =>
    ⟨fun h => by have := h2.der hok (h1.sound x h); simpa using this, fun h => by have := h1.der hok (h2.sound x h); simpa using this⟩
  apply List.ext_getElem?
  intro x
  rcases Nat.lt_or_ge x b.of.length with hx | hx
  · have q1 : x < s1.length := by rw [h1.len]; exact hx
    have q2 : x < s2.length := by rw [h2.len]; exact hx
    have e1 : s1[x]? = some s1[x] := List.getElem?_eq_getElem q1
    have e2 : s2[x]? = some s2[x] := List.getElem?_eq_getElem q2
    have k := key x
    rw [e1, e2] at k ⊢
    cases ha : s1[x] <;> cases hb : s2[x] <;> simp_all
  · rw [List.getElem?_eq_none (by rw [h1.len]; exact hx), List.getElem?_eq_none (by rw [h2.len]; exact hx)]
/-- A look at production i. -/
def lookM (b : Bn) (tk : Bool) (st : List Bool) (i : Nat) : List Bool × Int := match b.l[i]? with
  | none => (st, -1)
  | some p => if (st[p.left.toNat]?).getD false = true then (st, -1) else if rowB tk st p.right = true then (st.set p.left.toNat true, p.left) else (st, -1)
structure MInv (b : Bn) (tk : Bool) (st : List Bool) : Prop where
  len : st.length = b.of.length
  sound : ∀ x : Nat, st[x]? = some true → Der b.l tk (x : Int)
theorem good_set {tk : Bool} {st : List Bool} {s : Sy} {c : Nat} (h : s.tok = false → s.n.toNat ≠ c) : goodB tk (st.set c true) s = goodB tk st s := by
  unfold goodB
  cases ht : s.tok with
  | true => rfl
  | false => simp only [Bool.false_eq_true, if_false]; rw [List.getElem?_set, if_neg (Ne.symm (h ht))]
theorem count_set_lt (st : List Bool) (c : Nat) (hc : st[c]? = some false) : (st.set c true).count false < st.count false := by
  obtain ⟨h, e⟩ := List.getElem?_eq_some_iff.1 hc
  rw [List.count_set h, e]
  have : 0 < st.count false := List.count_pos_iff.2 (by rw [← e]; exact List.getElem_mem h)
  simp; omega
theorem look_marks (b : Bn) (tk : Bool) (ask : Int → List Int) (hok : ∀ p ∈ b.l, prOk b p = true) (hl : b.of.length ≤ 500)
    (hask : ∀ (j : Nat) (x : Pr), b.l[j]? = some x → ∀ s ∈ x.right, s.tok = false → (j : Int) ∈ ask s.n) : Look b.l.length ask (lookM b tk) (fun st => st.count false) (MInv b tk) := by
  have hlk : ∀ (st : List Bool) (i : Nat) (hi : i < b.l.length), lookM b tk st i = if (st[b.l[i].left.toNat]?).getD false = true then (st, -1) else if rowB tk st b.l[i].right = true then (st.set b.l[i].left.toNat true, b.l[i].left) else (st, -1) := fun st i hi => by
    unfold lookM; rw [List.getElem?_eq_getElem hi]
  have hpl : ∀ i (hi : i < b.l.length), 0 ≤ b.l[i].left ∧ b.l[i].left < b.of.length := fun i hi => prOk_left (hok _ (List.getElem_mem hi))
  refine ⟨fun st i hi hI hn => ?_, fun st i hi hI => ?_, fun st i hi hI hn => ?_, fun st i j hi hj hI hn hm hq => ?_, fun st i hi hI => ?_⟩
  · rw [hlk st i hi] at hn ⊢
    have := hpl i hi
    split at hn
    · rename_i h1; rw [if_pos h1]
    · rename_i h1; rw [if_neg h1]
      split at hn
      · exfalso; simp only at hn; omega
      · rename_i h2; rw [if_neg h2]
  · rw [hlk st i hi]
    have hp := hpl i hi
    split
    · exact hI
    · split
      · rename_i h1 h2
        refine ⟨by rw [List.length_set]; exact hI.len, fun x hx => ?_⟩
        rcases set_at st b.l[i].left.toNat x true true hx with ⟨hx, _⟩ | ⟨_, hx⟩
        · have e : (x : Int) = b.l[i].left := by omega
          rw [e]
          have hr := h2
          unfold rowB at hr
          rw [List.all_eq_true] at hr
          refine Der.mk b.l[i] (List.getElem_mem hi) (fun s hs ht => ?_) (fun s hs ht => ?_)
          · have := hr s hs; unfold goodB at this; rw [ht] at this; simpa using this
          · have h3 := hr s hs
            unfold goodB at h3
            rw [ht] at h3
            simp only [Bool.false_eq_true, if_false] at h3
            have h4 := prOk_sym (hok _ (List.getElem_mem hi)) hs ht
            have h5 : st[s.n.toNat]? = some true := by
              cases h6 : st[s.n.toNat]? with
              | none => rw [h6] at h3; cases h3
              | some v => rw [h6] at h3; simp at h3; rw [h3]
            have h7 := hI.sound _ h5
            rwa [Int.toNat_of_nonneg h4.1] at h7
        · exact hI.sound x hx
      · exact hI
  · rw [hlk st i hi] at hn ⊢
    have hp := hpl i hi
    split at hn
    · simp at hn
    · rename_i h1
      rw [if_neg h1]
      split at hn
      · rename_i h2
        rw [if_pos h2]
        refine count_set_lt st _ ?_
        have h3 : b.l[i].left.toNat < st.length := by rw [hI.len]; omega
        rw [List.getElem?_eq_getElem h3] at h1 ⊢
        simp at h1; rw [h1]
      · simp at hn
  · have hpi := hpl i hi
    have hpj := hpl j hj
    rw [hlk st i hi] at hn hm ⊢
    split at hn
    · simp at hn
    · rename_i h1
      rw [if_neg h1] at hm ⊢
      split at hn
      · rename_i h2
        rw [if_pos h2] at hm ⊢
        simp only at hm ⊢
        rw [hlk _ j hj]
        have hnot : ∀ s ∈ b.l[j].right, s.tok = false → s.n.toNat ≠ b.l[i].left.toNat := fun s hs ht e => by
          have h4 := prOk_sym (hok _ (List.getElem_mem hj)) hs ht
          have e2 : s.n = b.l[i].left := by omega
          exact hm (by rw [← e2]; exact hask j _ (List.getElem?_eq_getElem hj) s hs ht)
        have hrow : rowB tk (st.set b.l[i].left.toNat true) b.l[j].right = rowB tk st b.l[j].right := by
          unfold rowB
          refine Bool.eq_iff_iff.2 ?_
          simp only [List.all_eq_true]
          constructor
          · intro h s hs; have := h s hs; rwa [good_set (hnot s hs)] at this
          · intro h s hs; rw [good_set (hnot s hs)]; exact h s hs
        by_cases he : b.l[j].left.toNat = b.l[i].left.toNat
        · rw [if_pos (by rw [he, List.getElem?_set, if_pos rfl, if_pos (by rw [hI.len]; omega)]; rfl)]; simp
        · rcases hq with hq | hq
          · rw [hlk st j hj] at hq
            rw [List.getElem?_set, if_neg (Ne.symm he), hrow]
            split at hq
            · rename_i h5; rw [if_pos h5]; exact hq
            · rename_i h5; rw [if_neg h5]
              by_cases hr : rowB tk st b.l[j].right = true
              · rw [if_pos hr] at hq ⊢; exact hq
              · rw [if_neg hr] at hq ⊢; exact hq
          · subst hq; exact absurd rfl he
      · simp at hn
  · rw [hlk st i hi]
    have hp := hpl i hi
    split
    · exact ⟨by simp, by simp⟩
    · split
      · exact ⟨by simp only; omega, by simp only; omega⟩
      · exact ⟨by simp, by simp⟩
theorem fix_of_quiet {b : Bn} {tk : Bool} {st : List Bool} (hok : ∀ p ∈ b.l, prOk b p = true) (hI : MInv b tk st) (hq : ∀ q, q < b.l.length → (lookM b tk st q).2 < 0) : Fix b tk st :=
  ⟨hI.len, hI.sound, fun p hp hr => by
    obtain ⟨i, hi, rfl⟩ := List.getElem_of_mem hp
    have h := hq i hi
    have hpl := prOk_left (hok _ hp)
    unfold lookM at h
    rw [List.getElem?_eq_getElem hi] at h
    simp only at h
    split at h
    · rename_i h1
      have h3 : b.l[i].left.toNat < st.length := by rw [hI.len]; omega
      rw [List.getElem?_eq_getElem h3] at h1 ⊢
      simp at h1; rw [h1]
    · first
      | (simp only at h; omega)
      | (rw [if_pos hr] at h; simp only at h; omega)⟩
end Go.Proofs.Ytfmcigodfihlcaa
