/-
  What begins with what, plain.
-/
import Derived.Test.YtfmcigodfihlcaaEmpI
import Derived.Test.YtfmcigodfihlcaaPackM
namespace Go.Proofs.Ytfmcigodfihlcaa
open Go.RowKit PK
set_option linter.unusedVariables false
set_option linter.unusedSimpArgs false

/-- Is a symbol gone by? -/
def goneF (all : Bool) (st : List Bool) (s : Sy) : Bool := all || goodB false st s
def nts (l : List Sy) : List Int := l.flatMap fun s => if s.tok then [] else [s.n]
/-- The nonterminals of a row, as long as symbols are gone by. -/
def collect (f : Sy → Bool) : List Sy → List Int
  | [] => []
  | s :: r => (if s.tok then [] else [s.n]) ++ (if f s then collect f r else [])
theorem nts_succ (l : List Sy) (k : Nat) (h : k < l.length) : nts (l.take (k + 1)) = nts (l.take k) ++ (if l[k].tok then [] else [l[k].n]) := by
  rw [List.take_succ_eq_append_getElem h]; unfold nts; rw [List.flatMap_append]; simp
theorem collect_all (f : Sy → Bool) (l : List Sy) (h : l.all f = true) : collect f l = nts l := by
  induction l with
  | nil => rfl
  | cons s r ih =>
    rw [List.all_cons, Bool.and_eq_true] at h
    unfold collect
    rw [h.1, if_pos rfl, ih h.2]; rfl
theorem collect_stop (f : Sy → Bool) (l : List Sy) (k : Nat) (hk : k < l.length) (h : (l.take k).all f = true) (hs : f l[k] = false) : collect f l = nts (l.take (k + 1)) := by
  induction l generalizing k with
  | nil => simp at hk
  | cons s r ih =>
    unfold collect
    cases k with
    | zero =>
      simp only [List.getElem_cons_zero] at hs
      simp [hs, nts]
    | succ k =>
      rw [List.take_succ_cons, List.all_cons, Bool.and_eq_true] at h
      rw [h.1, if_pos rfl, ih k (by simpa using hk) h.2 (by simpa using hs)]; rfl
theorem collect_mem {f : Sy → Bool} {l : List Sy} {y : Int} (h : y ∈ collect f l) : ∃ s ∈ l, s.tok = false ∧ s.n = y := by
  induction l with
  | nil => cases h
  | cons s r ih =>
    unfold collect at h
    rcases List.mem_append.1 h with h | h
    · cases ht : s.tok with
      | true => rw [ht] at h; cases h
      | false => rw [ht] at h; simp at h; exact ⟨s, List.mem_cons_self, ht, h.symm⟩
    · split at h
      · obtain ⟨s2, h1, h2⟩ := ih h; exact ⟨s2, List.mem_cons_of_mem _ h1, h2⟩
      · cases h
/-- What the first i productions give to n. -/
def rowTo (b : Bn) (f : Sy → Bool) (i : Nat) (n : Int) : List Int := (b.l.take i).flatMap fun p => if p.left = n then collect f p.right else []
def nextI (b : Bn) (f : Sy → Bool) (n : Int) : List Int := toSetI (rowTo b f b.l.length n)
theorem rowTo_succ (b : Bn) (f : Sy → Bool) (i : Nat) (n : Int) (h : i < b.l.length) : rowTo b f (i + 1) n = rowTo b f i n ++ (if b.l[i].left = n then collect f b.l[i].right else []) := by
  unfold rowTo; rw [List.take_succ_eq_append_getElem h, List.flatMap_append]; simp
theorem rowTo_range {b : Bn} (hok : ∀ p ∈ b.l, prOk b p = true) {f : Sy → Bool} {i : Nat} {n y : Int} (h : y ∈ rowTo b f i n) : 0 ≤ y ∧ y < b.of.length := by
  obtain ⟨p, hp, hy⟩ := List.mem_flatMap.1 h
  split at hy
  · obtain ⟨s, h1, h2, rfl⟩ := collect_mem hy
    exact prOk_sym (hok p (List.mem_of_mem_take hp)) h1 h2
  · cases hy
theorem nextI_range {b : Bn} (hok : ∀ p ∈ b.l, prOk b p = true) {f : Sy → Bool} {n y : Int} (h : y ∈ nextI b f n) : 0 ≤ y ∧ y < b.of.length := rowTo_range hok ((toSetI_mem _ _).1 h)
theorem collect_len (f : Sy → Bool) (l : List Sy) : (collect f l).length ≤ l.length := by
  induction l with
  | nil => exact Nat.le_refl _
  | cons s r ih =>
    unfold collect
    rw [List.length_append, List.length_cons]
    have h1 : (if s.tok then [] else [s.n] : List Int).length ≤ 1 := by split <;> simp
    have h2 : (if f s then collect f r else [] : List Int).length ≤ r.length := by
      split
      · exact ih
      · exact Nat.zero_le _
    omega
theorem nts_len (l : List Sy) : (nts l).length ≤ l.length := by
  have := collect_len (fun _ => true) l
  rwa [collect_all _ _ (by simp)] at this
theorem rowTo_len (b : Bn) (f : Sy → Bool) (i : Nat) (n : Int) (h : ∀ p ∈ b.l, p.right.length ≤ 500) : (rowTo b f i n).length ≤ 500 * i := by
  induction i with
  | zero => simp [rowTo]
  | succ i ih =>
    rcases Nat.lt_or_ge i b.l.length with hi | hi
    · rw [rowTo_succ b f i n hi, List.length_append]
      have h1 := collect_len f b.l[i].right
      have h2 := h _ (List.getElem_mem hi)
      have h3 : (if b.l[i].left = n then collect f b.l[i].right else [] : List Int).length ≤ 500 := by
        split
        · exact Nat.le_trans h1 h2
        · exact Nat.zero_le _
      omega
    · have e : rowTo b f (i + 1) n = rowTo b f i n := by unfold rowTo; rw [List.take_of_length_le (by omega), List.take_of_length_le (by omega)]
      rw [e]; omega
theorem rowTo_full (b : Bn) (f : Sy → Bool) (i : Nat) (n : Int) (h : b.l.length ≤ i) : rowTo b f i n = rowTo b f b.l.length n := by
  unfold rowTo; rw [List.take_of_length_le h, List.take_length]
/-- What is come to. -/
inductive Rc (F : Int → List Int) (S : List Int) : Int → Prop
  | base {y : Int} : y ∈ S → Rc F S y
  | step {x y : Int} : Rc F S x → y ∈ F x → Rc F S y
theorem Rc.mono {F : Int → List Int} {S T : List Int} (h : ∀ y ∈ S, Rc F T y) {x : Int} (hx : Rc F S x) : Rc F T x := by
  induction hx with
  | base h1 => exact h _ h1
  | step _ h1 ih => exact .step ih h1
theorem Rc.closed {F : Int → List Int} {S L : List Int} (h0 : ∀ y ∈ S, y ∈ L) (hc : ∀ x ∈ L, ∀ y ∈ F x, y ∈ L) {x : Int} (hx : Rc F S x) : x ∈ L := by
  induction hx with
  | base h1 => exact h0 _ h1
  | step _ h1 ih => exact hc _ ih _ h1
theorem Rc.range {F : Int → List Int} {S : List Int} {N : Int} (h0 : ∀ y ∈ S, 0 ≤ y ∧ y < N) (hc : ∀ x y, y ∈ F x → 0 ≤ y ∧ y < N) {x : Int} (hx : Rc F S x) : 0 ≤ x ∧ x < N := by
  cases hx with
  | base h1 => exact h0 _ h1
  | step _ h1 => exact hc _ _ h1
end Go.Proofs.Ytfmcigodfihlcaa
