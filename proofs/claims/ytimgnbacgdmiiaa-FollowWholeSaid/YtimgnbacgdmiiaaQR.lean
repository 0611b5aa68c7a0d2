/-
  What begins with what, plain.
  The closures of reach; come's list.
  reach.come.
  reach.come, whole.
  reach.Left.
  The document's Next.
  The document's from and Begins.
  reach.Reached, and the document's Reached.
-/
import Derived.Test.YtimgnbacgdmiiaaQE
import Derived.Test.YtimgnbacgdmiiaaAskB
import Derived.Deep.RegionHeld3
namespace Go.Proofs.Ytimgnbacgdmiiaa
open Go.RowKit PK
set_option linter.unusedVariables false
set_option linter.unusedSimpArgs false

/-- Is a symbol gone by? -/
def goneF (all : Bool) (st : List Bool) (s : Sy) : Bool := all || goodB false st s
def nts (l : List Sy) : List Int := l.flatMap fun s => if s.tok then [] else [s.n]
/-- The nonterminals of a row, as long as symbols are gone by. -/
def collect (f : Sy → Bool) : List Sy → List Int
  | [] => []
  | s :: r => (if s.tok then [] else [s.n]) ++ (if f s then collect f r else [])
theorem nts_succ (l : List Sy) (k : Nat) (h : k < l.length) : nts (l.take (k + 1)) = nts (l.take k) ++ (if l[k].tok then [] else [l[k].n]) := by
  rw [List.take_succ_eq_append_getElem h]; unfold nts; rw [List.flatMap_append]; simp
theorem collect_all (f : Sy → Bool) (l : List Sy) (h : l.all f = true) : collect f l = nts l := by
  induction l with
  | nil => rfl
  | cons s r ih =>
    rw [List.all_cons, Bool.and_eq_true] at h
    unfold collect
    rw [h.1, if_pos rfl, ih h.2]; rfl
theorem collect_stop (f : Sy → Bool) (l : List Sy) (k : Nat) (hk : k < l.length) (h : (l.take k).all f = true) (hs : f l[k] = false) : collect f l = nts (l.take (k + 1)) := by
  induction l generalizing k with
  | nil => simp at hk
  | cons s r ih =>
    unfold collect
    cases k with
    | zero =>
      simp only [List.getElem_cons_zero] at hs
      simp [hs, nts]
    | succ k =>
      rw [List.take_succ_cons, List.all_cons, Bool.and_eq_true] at h
      rw [h.1, if_pos rfl, ih k (by simpa using hk) h.2 (by simpa using hs)]; rfl
theorem collect_mem {f : Sy → Bool} {l : List Sy} {y : Int} (h : y ∈ collect f l) : ∃ s ∈ l, s.tok = false ∧ s.n = y := by
  induction l with
  | nil => cases h
  | cons s r ih =>
    unfold collect at h
    rcases List.mem_append.1 h with h | h
    · cases ht : s.tok with
      | true => rw [ht] at h; cases h
      | false => rw [ht] at h; simp at h; exact ⟨s, List.mem_cons_self, ht, h.symm⟩
    · split at h
      · obtain ⟨s2, h1, h2⟩ := ih h; exact ⟨s2, List.mem_cons_of_mem _ h1, h2⟩
      · cases h
/-- What the first i productions give to n. -/
def rowTo (b : Bn) (f : Sy → Bool) (i : Nat) (n : Int) : List Int := (b.l.take i).flatMap fun p => if p.left = n then collect f p.right else []
def nextI (b : Bn) (f : Sy → Bool) (n : Int) : List Int := toSetI (rowTo b f b.l.length n)
theorem rowTo_succ (b : Bn) (f : Sy → Bool) (i : Nat) (n : Int) (h : i < b.l.length) : rowTo b f (i + 1) n = rowTo b f i n ++ (if b.l[i].left = n then collect f b.l[i].right else []) := by
  unfold rowTo; rw [List.take_succ_eq_append_getElem h, List.flatMap_append]; simp
theorem rowTo_range {b : Bn} (hok : ∀ p ∈ b.l, prOk b p = true) {f : Sy → Bool} {i : Nat} {n y : Int} (h : y ∈ rowTo b f i n) : 0 ≤ y ∧ y < b.of.length := by
  obtain ⟨p, hp, hy⟩ := List.mem_flatMap.1 h
  split at hy
  · obtain ⟨s, h1, h2, rfl⟩ := collect_mem hy
    exact prOk_sym (hok p (List.mem_of_mem_take hp)) h1 h2
  · cases hy
theorem nextI_range {b : Bn} (hok : ∀ p ∈ b.l, prOk b p = true) {f : Sy → Bool} {n y : Int} (h : y ∈ nextI b f n) : 0 ≤ y ∧ y < b.of.length := rowTo_range hok ((toSetI_mem _ _).1 h)
theorem collect_len (f : Sy → Bool) (l : List Sy) : (collect f l).length ≤ l.length := by
  induction l with
  | nil => exact Nat.le_refl _
  | cons s r ih =>
    unfold collect
    rw [List.length_append, List.length_cons]
    have h1 : (if s.tok then [] else [s.n] : List Int).length ≤ 1 := by split <;> simp
    have h2 : (if f s then collect f r else [] : List Int).length ≤ r.length := by
      split
      · exact ih
      · exact Nat.zero_le _
    omega
theorem nts_len (l : List Sy) : (nts l).length ≤ l.length := by
  have := collect_len (fun _ => true) l
  rwa [collect_all _ _ (by simp)] at this
theorem rowTo_len (b : Bn) (f : Sy → Bool) (i : Nat) (n : Int) (h : ∀ p ∈ b.l, p.right.length ≤ 500) : (rowTo b f i n).length ≤ 500 * i := by
  induction i with
  | zero => simp [rowTo]
  | succ i ih =>
    rcases Nat.lt_or_ge i b.l.length with hi | hi
    · rw [rowTo_succ b f i n hi, List.length_append]
      have h1 := collect_len f b.l[i].right
      have h2 := h _ (List.getElem_mem hi)
      have h3 : (if b.l[i].left = n then collect f b.l[i].right else [] : List Int).length ≤ 500 := by
        split
        · exact Nat.le_trans h1 h2
        · exact Nat.zero_le _
      omega
    · have e : rowTo b f (i + 1) n = rowTo b f i n := by unfold rowTo; rw [List.take_of_length_le (by omega), List.take_of_length_le (by omega)]
      rw [e]; omega
theorem rowTo_full (b : Bn) (f : Sy → Bool) (i : Nat) (n : Int) (h : b.l.length ≤ i) : rowTo b f i n = rowTo b f b.l.length n := by
  unfold rowTo; rw [List.take_of_length_le h, List.take_length]
/-- What is come to. -/
inductive Rc (F : Int → List Int) (S : List Int) : Int → Prop
  | base {y : Int} : y ∈ S → Rc F S y
  | step {x y : Int} : Rc F S x → y ∈ F x → Rc F S y
theorem Rc.mono {F : Int → List Int} {S T : List Int} (h : ∀ y ∈ S, Rc F T y) {x : Int} (hx : Rc F S x) : Rc F T x := by
  induction hx with
  | base h1 => exact h _ h1
  | step _ h1 ih => exact .step ih h1
theorem Rc.closed {F : Int → List Int} {S L : List Int} (h0 : ∀ y ∈ S, y ∈ L) (hc : ∀ x ∈ L, ∀ y ∈ F x, y ∈ L) {x : Int} (hx : Rc F S x) : x ∈ L := by
  induction hx with
  | base h1 => exact h0 _ h1
  | step _ h1 ih => exact hc _ ih _ h1
theorem Rc.range {F : Int → List Int} {S : List Int} {N : Int} (h0 : ∀ y ∈ S, 0 ≤ y ∧ y < N) (hc : ∀ x y, y ∈ F x → 0 ≤ y ∧ y < N) {x : Int} (hx : Rc F S x) : 0 ≤ x ∧ x < N := by
  cases hx with
  | base h1 => exact h0 _ h1
  | step _ h1 => exact hc _ _ h1
end Go.Proofs.Ytimgnbacgdmiiaa
namespace Go.Proofs.Ytimgnbacgdmiiaa
open Go.RowKit PK
set_option linter.unusedVariables false
set_option linter.unusedSimpArgs false
attribute [local go_sem ↓] append_appM

/-- Numbers that are put behind others, each once. -/
def noteL (L : List Int) : List Int → List Int
  | [] => L
  | y :: r => noteL (if y ∈ L then L else L ++ [y]) r
theorem noteL_succ (L l : List Int) (k : Nat) (hk : k < l.length) : noteL L (l.take (k + 1)) = (if l[k] ∈ noteL L (l.take k) then noteL L (l.take k) else noteL L (l.take k) ++ [l[k]]) := by
  induction l generalizing L k with
  | nil => simp at hk
  | cons y r ih =>
    cases k with
    | zero => simp [noteL]
    | succ k =>
      simp only [List.take_succ_cons, noteL, List.getElem_cons_succ]
      exact ih _ k (by simpa using hk)
theorem noteL_mem (L l : List Int) (x : Int) : x ∈ noteL L l ↔ x ∈ L ∨ x ∈ l := by
  induction l generalizing L with
  | nil => simp [noteL]
  | cons y r ih =>
    unfold noteL
    rw [ih]
    split
    · rename_i h
      constructor
      · rintro (h1 | h1)
        · exact .inl h1
        · exact .inr (List.mem_cons_of_mem _ h1)
      · rintro (h1 | h1)
        · exact .inl h1
        · rcases List.mem_cons.1 h1 with rfl | h1
          · exact .inl h
          · exact .inr h1
    · rw [List.mem_append, List.mem_singleton, List.mem_cons, or_assoc]
theorem noteL_nodup (L l : List Int) (h : L.Nodup) : (noteL L l).Nodup := by
  induction l generalizing L with
  | nil => exact h
  | cons y r ih =>
    unfold noteL
    apply ih
    split
    · exact h
    · rename_i h1
      rw [List.nodup_append]
      exact ⟨h, by simp, fun a ha b hb e => h1 (by rw [← List.mem_singleton.1 hb, ← e]; exact ha)⟩
theorem noteL_pre (L l : List Int) : L <+: noteL L l := by
  induction l generalizing L with
  | nil => exact List.prefix_refl _
  | cons y r ih =>
    unfold noteL
    refine List.IsPrefix.trans ?_ (ih _)
    split
    · exact List.prefix_refl _
    · exact List.prefix_append _ _
/-- Marks of what stands in a list. -/
def marksL (N : Nat) (L : List Int) : List Bool := (List.range N).map fun j => decide (((j : Nat) : Int) ∈ L)
theorem marksL_len (N : Nat) (L : List Int) : (marksL N L).length = N := by simp [marksL]
theorem marksL_at (N : Nat) (L : List Int) (j : Nat) (h : j < N) : (marksL N L)[j]? = some (decide ((j : Int) ∈ L)) := by simp [marksL, h]
theorem marksL_put (N : Nat) (L : List Int) (j : Nat) : (marksL N L).set j true = marksL N (L ++ [(j : Int)]) := by
  apply List.ext_getElem?
  intro k
  rw [List.getElem?_set]
  by_cases hk : k < N
  · rw [marksL_at _ _ _ hk, marksL_at _ _ _ hk, marksL_len]
    by_cases e : j = k
    · subst e; simp [hk]
    · rw [if_neg e]
      have : ((k : Int) = (j : Int)) = False := by simp; omega
      simp [this]
  · rw [List.getElem?_eq_none (by rw [marksL_len]; omega), List.getElem?_eq_none (by rw [marksL_len]; omega), marksL_len]
    split
    · split
      · omega
      · rfl
    · rfl
theorem nodup_leN (N : Nat) : ∀ L : List Nat, L.Nodup → (∀ x ∈ L, x < N) → L.length ≤ N := by
  induction N with
  | zero =>
    intro L _ h
    cases L with
    | nil => simp
    | cons a r => exact absurd (h a List.mem_cons_self) (by omega)
  | succ N ih =>
    intro L hn h
    by_cases hm : N ∈ L
    · have h1 := ih (L.erase N) (hn.erase N) fun x hx => by
        have h2 := (List.Nodup.mem_erase_iff hn).1 hx
        have h3 := h x h2.2
        have := h2.1
        omega
      rw [List.length_erase_of_mem hm] at h1
      omega
    · have h1 := ih L hn fun x hx => by
        have h3 := h x hx
        have : x ≠ N := fun e => hm (by rw [← e]; exact hx)
        omega
      omega
theorem nodup_le {L : List Int} {N : Nat} (h : L.Nodup) (hr : ∀ x ∈ L, 0 ≤ x ∧ x < N) : L.length ≤ N := by
  have h1 : (L.map Int.toNat).Nodup := by
    unfold List.Nodup at *
    rw [List.pairwise_map]
    refine List.Pairwise.imp_of_mem ?_ h
    intro a b ha hb hne e
    have := hr a ha; have := hr b hb
    exact hne (by omega)
  have h2 := nodup_leN N _ h1 (fun x hx => by
    obtain ⟨y, hy, rfl⟩ := List.mem_map.1 hx
    have := hr y hy
    omega)
  simpa using h2
end Go.Proofs.Ytimgnbacgdmiiaa
namespace Go.Proofs.Ytimgnbacgdmiiaa
open Go.RowKit PK
set_option linter.unusedVariables false
set_option linter.unusedSimpArgs false
attribute [local go_sem ↓] append_appM

/-- What come owns: marks, and the list of what is marked. -/
structure Cm (w : World) (n gi gl g N : Nat) (lv : Value) (L : List Int) : Prop where
  hi : n ≤ w.heap.size
  lo : n ≤ gi ∧ n ≤ gl
  ptrI : w.heap[gi]? = some (.cells #[.slice (some ⟨g, 0, none⟩) N N] 50 (0, 0))
  ptrL : w.heap[gl]? = some (.cells #[lv] 22 (0, 0))
  row : w.ownsRow n 4 1 (.slice (some ⟨g, 0, none⟩) N N) N (bools (marksL N L))
  lst : w.ownsRow n 3 1 lv L.length (ints L)
  ne : gi ≠ gl ∧ gi ≠ g ∧ gl ≠ g
  nl : ∀ k, lv.ownBlock = some k → k ≠ gi ∧ k ≠ gl ∧ k ≠ g
theorem Cm.lt {w n gi gl g N lv L} (h : Cm w n gi gl g N lv L) : gi < w.heap.size ∧ gl < w.heap.size ∧ n ≤ g ∧ g < w.heap.size :=
  ⟨(Array.getElem?_eq_some_iff.1 h.ptrI).1, (Array.getElem?_eq_some_iff.1 h.ptrL).1, (h.row.lt g rfl).1, (h.row.lt g rfl).2⟩
theorem Cm.below {w w' n gi gl g N lv L} (h : Cm w n gi gl g N lv L) (hb : Below w.heap.size w w') : Cm w' n gi gl g N lv L :=
  ⟨Nat.le_trans h.hi hb.size, h.lo, (hb.block _ h.lt.1).trans h.ptrI, (hb.block _ h.lt.2.1).trans h.ptrL, owns_belowP h.row hb, owns_belowP h.lst hb, h.ne, h.nl⟩
theorem Cm.cells {w n gi gl g N lv L} (h : Cm w n gi gl g N lv L) : w.cell? ⟨gi, 0, none⟩ = some (.slice (some ⟨g, 0, none⟩) N N) ∧ w.cell? ⟨gl, 0, none⟩ = some lv ∧ w.frozen? ⟨gl, 0, none⟩ = false := by
  refine ⟨?_, ?_, by simp [World.frozen?, h.ptrL]⟩
  · rw [cell_of_row w gi _ _ _ (0, 0) h.ptrI]; rfl
  · rw [cell_of_row w gl _ _ _ (0, 0) h.ptrL]; rfl
theorem Cm.mark {w n gi gl g N lv L} (h : Cm w n gi gl g N lv L) (j : Nat) (hj : j < N) : w.cell? ⟨g, j, none⟩ = some (.bool (decide ((j : Int) ∈ L))) ∧ w.frozen? ⟨g, j, none⟩ = false := by
  obtain ⟨g', hv, _, _, hc, hf⟩ := owns_cellN h.row (by omega)
  simp only [Option.some.injEq, Addr.mk.injEq, and_true] at hv
  subst hv
  have e : (bools (marksL N L))[j]? = some (.bool (decide ((j : Int) ∈ L))) := by unfold bools; rw [List.getElem?_map, marksL_at _ _ _ hj]; rfl
  exact ⟨hc j _ e, hf j⟩
theorem Cm.push {w n gi gl g N lv L} (h : Cm w n gi gl g N lv L) (j : Nat) (hj : j < N) (hl : L.length + 1 ≤ 10000000) :
    ∃ a c w3, Sem.run Try.prog (appM #[22, 22] 22 #[lv, .slice (some ⟨w.heap.size, 0, none⟩) 1 1]) ((w.setCell ⟨g, j, none⟩ (.bool true)).alloc (.cells #[.int .i64 (j : Int)] 3)) = .ok (.slice a (L.length + 1) c) w3 ∧
      w3.cell? ⟨gl, 0, none⟩ = some lv ∧ w3.frozen? ⟨gl, 0, none⟩ = false ∧ gl < w3.heap.size ∧
      Cm (w3.setCell ⟨gl, 0, none⟩ (.slice a (L.length + 1) c)) n gi gl g N (.slice a (L.length + 1) c) (L ++ [(j : Int)]) ∧ Below n w (w3.setCell ⟨gl, 0, none⟩ (.slice a (L.length + 1) c)) := by
  obtain ⟨l1, l2, l3, l4⟩ := h.lt
  obtain ⟨i0, hi0, hz0, hz1, hz2⟩ := info_parts info_intT
  obtain ⟨w1, hw1⟩ : ∃ w1, w1 = w.setCell ⟨g, j, none⟩ (.bool true) := ⟨_, rfl⟩
  have hs1 : w1.heap.size = w.heap.size := by rw [hw1]; simp [World.setCell]
  have hk1 : ∀ k, k ≠ g → w1.heap[k]? = w.heap[k]? := fun k hk => by rw [hw1]; exact Below.heap_setCell _ _ _ _ hk
  have hrow1 : w1.ownsRow n 4 1 (.slice (some ⟨g, 0, none⟩) N N) N (bools (marksL N (L ++ [(j : Int)]))) := by
    rw [hw1, ← marksL_put, ← bools_set]
    exact owns_setN h.row j (by rw [bools_length, marksL_len]; exact hj) _
  have hlst1 : w1.ownsRow n 3 1 lv L.length (ints L) := owns_blockN h.lst fun k e => hk1 k (h.nl k e).2.2
  have hB1 : Below n w w1 := by rw [hw1]; exact (Below.refl n w).setCell (p := ⟨g, j, none⟩) l3 _
  rw [← hw1, ← hs1]
  have rt : Row (w1.alloc (.cells #[.int .i64 (j : Int)] 3)) (w1.heap.size + 1) 1 (.slice (some ⟨w1.heap.size, 0, none⟩) 1 1) 1 (ints [(j : Int)]) := row_cellsB w1 (ints [(j : Int)]) 1 1 1 _ rfl (Nat.le_refl _) (by unfold maxLen; omega)
  have hn1 : n ≤ w1.heap.size := by rw [hs1]; exact h.hi
  obtain ⟨v', w3, h1, h2, h3, h4⟩ := run_append_row (P := Try.prog) (w1.alloc (.cells #[.int .i64 (j : Int)] 3)) 22 22 n 3 i0 (.int .i64 0) 1 8 Try.underlying22 hi0 hz0 hz1 hz2 rfl (by decide) lv L.length (ints L) (hlst1.alloc _) (w1.heap.size + 1) _ 1 (ints [(j : Int)]) rt (ints_oneT _) (by unfold maxLen; omega) (by omega) (by simp; omega)
  obtain ⟨a, c, rfl, hc1, hc2⟩ := owns_valP h2
  rw [World.size_alloc] at h4
  have hs3 := h3.size
  rw [World.size_alloc] at hs3
  have hkeep : ∀ k, k < w1.heap.size → some k ≠ lv.ownBlock → w3.heap[k]? = w1.heap[k]? := fun k hk hn => by
    rw [h3.block k (by simp; omega) hn, Below.heap_alloc _ _ _ hk]
  have hgl3 : w3.heap[gl]? = some (.cells #[lv] 22 (0, 0)) := by
    rw [hkeep gl (by omega) (fun e => (h.nl gl e.symm).2.1 rfl), hk1 gl h.ne.2.2]; exact h.ptrL
  have hgi3 : w3.heap[gi]? = some (.cells #[.slice (some ⟨g, 0, none⟩) N N] 50 (0, 0)) := by
    rw [hkeep gi (by omega) (fun e => (h.nl gi e.symm).1 rfl), hk1 gi h.ne.2.1]; exact h.ptrI
  have hB3 : Below n w1 w3 := ((Below.refl n w1).alloc hn1 _).grown h3 (by simp; omega) fun k e => (h.lst.lt k e).1
  have hnew : ∀ k, (Value.slice a (L.length + 1) c).ownBlock = some k → k ≠ gi ∧ k ≠ gl ∧ k ≠ g := fun k hk => by
    rcases h4 with h5 | h5
    · rw [h5] at hk; exact h.nl k hk
    · rw [h5] at hk; cases hk; omega
  refine ⟨a, c, w3, h1, ?_, by simp [World.frozen?, hgl3], by omega, ⟨by simp [World.setCell]; omega, h.lo, ?_, ptr_set hgl3 0 _, ?_, ?_, h.ne, hnew⟩, (hB1.trans hB3).setCell (p := ⟨gl, 0, none⟩) h.lo.2 _⟩
  · rw [cell_of_row w3 gl _ _ _ (0, 0) hgl3]; rfl
  · rw [Below.heap_setCell _ _ _ _ (by show gi ≠ gl; exact h.ne.1)]; exact hgi3
  · refine owns_blockN (w := w3) (owns_blockN (w := w1) hrow1 fun k e => ?_) fun k e => Below.heap_setCell _ _ _ _ ?_
    · cases e; exact hkeep g (by omega) fun e => (h.nl g e.symm).2.2 rfl
    · cases e; show g ≠ gl; exact Ne.symm h.ne.2.2
  · refine owns_blockN (w := w3) (by rw [List.length_append]; simpa [ints] using h2) fun k e => Below.heap_setCell _ _ _ _ ?_
    show k ≠ gl
    exact (hnew k e).2.1
end Go.Proofs.Ytimgnbacgdmiiaa
namespace Go.Proofs.Ytimgnbacgdmiiaa
open Go.RowKit PK
set_option linter.unusedVariables false
set_option linter.unusedSimpArgs false
attribute [local go_sem ↓] append_appM

structure CI (N : Nat) (F : Int → List Int) (S L : List Int) (i : Nat) : Prop where
  nd : L.Nodup
  rg : ∀ x ∈ L, 0 ≤ x ∧ x < N
  rc : ∀ x ∈ L, Rc F S x
  st : ∀ x ∈ S, x ∈ L
  cl : ∀ j (h : j < L.length), j < i → ∀ y ∈ F L[j], y ∈ L
  le : i ≤ L.length
theorem CI.start {N : Nat} {F : Int → List Int} {S : List Int} (hS : ∀ x ∈ S, 0 ≤ x ∧ x < N) : CI N F S (noteL [] S) 0 :=
  ⟨noteL_nodup _ _ List.nodup_nil, fun x hx => by
    rcases (noteL_mem _ _ _).1 hx with h | h
    · cases h
    · exact hS x h, fun x hx => by
    rcases (noteL_mem _ _ _).1 hx with h | h
    · cases h
    · exact .base h, fun x hx => (noteL_mem _ _ _).2 (.inr hx), fun j _ h => by omega, Nat.zero_le _⟩
theorem CI.next {N : Nat} {F : Int → List Int} {S L : List Int} {i : Nat} (h : CI N F S L i) (hi : i < L.length) (hF : ∀ y ∈ F L[i], 0 ≤ y ∧ y < N) : CI N F S (noteL L (F L[i])) (i + 1) := by
  obtain ⟨t, ht⟩ := noteL_pre L (F L[i])
  have hat : ∀ j (h1 : j < L.length) (h2 : j < (noteL L (F L[i])).length), (noteL L (F L[i]))[j] = L[j] := fun j h1 h2 => by
    simp only [← ht, List.getElem_append_left h1]
  refine ⟨noteL_nodup _ _ h.nd, fun x hx => ?_, fun x hx => ?_, fun x hx => (noteL_mem _ _ _).2 (.inl (h.st x hx)), fun j hj hji y hy => ?_, ?_⟩
  · rcases (noteL_mem _ _ _).1 hx with h1 | h1
    · exact h.rg x h1
    · exact hF x h1
  · rcases (noteL_mem _ _ _).1 hx with h1 | h1
    · exact h.rc x h1
    · exact .step (h.rc _ (List.getElem_mem hi)) h1
  · have hjl : j < L.length := by omega
    rw [hat j hjl hj] at hy
    rcases Nat.lt_or_ge j i with h1 | h1
    · exact (noteL_mem _ _ _).2 (.inl (h.cl j hjl h1 y hy))
    · obtain rfl : j = i := by omega
      exact (noteL_mem _ _ _).2 (.inr hy)
  · have : (noteL L (F L[i])).length = L.length + t.length := by rw [← ht, List.length_append]
    omega
theorem CI.done {N : Nat} {F : Int → List Int} {S L : List Int} {i : Nat} (h : CI N F S L i) (hi : L.length ≤ i) (x : Int) : x ∈ L ↔ Rc F S x :=
  ⟨h.rc x, Rc.closed h.st fun z hz y hy => by
    obtain ⟨j, hj, rfl⟩ := List.getElem_of_mem hz
    exact h.cl j hj (by omega) y hy⟩
/-- What come answers. -/
def ComeP (w : World) (N : Nat) (F : Int → List Int) (S : List Int) (e : Ending) (w' : World) : Prop := ∃ a c st, e = .returned (.slice a N c) ∧ Row w' w'.heap.size 1 (.slice a N c) N (bools st) ∧ st.length = N ∧ (∀ j : Nat, j < N → (st[j]? = some true ↔ Rc F S (j : Int))) ∧ Below w.heap.size w w'
end Go.Proofs.Ytimgnbacgdmiiaa
namespace Go.Proofs.Ytimgnbacgdmiiaa
open Go.RowKit PK
set_option linter.unusedVariables false
set_option linter.unusedSimpArgs false
attribute [local go_sem ↓] append_appM

/-- The numbers below N of which p holds. -/
def FN (b : Bn) (st : List Bool) : Int → List Int := nextI b (goneF false st)
theorem own_push {w : World} {n : Nat} {lv : Value} {L : List Int} (hn : n ≤ w.heap.size) (h : w.ownsRow n 3 1 lv L.length (ints L)) (x : Int) (hl : L.length + 1 ≤ 10000000) :
    ∃ a c w3, Sem.run Try.prog (appM #[22, 22] 22 #[lv, .slice (some ⟨w.heap.size, 0, none⟩) 1 1]) (w.alloc (.cells #[.int .i64 x] 3)) = .ok (.slice a (L.length + 1) c) w3 ∧ w3.ownsRow n 3 1 (.slice a (L.length + 1) c) (L ++ [x]).length (ints (L ++ [x])) ∧ Below n w w3 := by
  obtain ⟨i0, hi0, hz0, hz1, hz2⟩ := info_parts info_intT
  have rt : Row (w.alloc (.cells #[.int .i64 x] 3)) (w.heap.size + 1) 1 (.slice (some ⟨w.heap.size, 0, none⟩) 1 1) 1 (ints [x]) := row_cellsB w (ints [x]) 1 1 1 _ rfl (Nat.le_refl _) (by unfold maxLen; omega)
  obtain ⟨v', w2, h1, h2, h3, h4⟩ := run_append_row (P := Try.prog) (w.alloc (.cells #[.int .i64 x] 3)) 22 22 n 3 i0 (.int .i64 0) 1 8 Try.underlying22 hi0 hz0 hz1 hz2 rfl (by decide) lv L.length (ints L) (h.alloc _) (w.heap.size + 1) _ 1 (ints [x]) rt (ints_oneT _) (by unfold maxLen; omega) (by omega) (by simp; omega)
  obtain ⟨a, c, rfl, _, _⟩ := owns_valP h2
  exact ⟨a, c, w2, h1, by rw [List.length_append]; simpa [ints] using h2, ((Below.refl n w).alloc hn _).grown h3 (by simp; omega) fun k e => (h.lt k e).1⟩
def pick (p : Nat → Bool) (N : Nat) : List Int := ((List.range N).filter p).map fun j => ((j : Nat) : Int)
theorem pick_succ (p : Nat → Bool) (k : Nat) : pick p (k + 1) = pick p k ++ (if p k = true then [(k : Int)] else []) := by
  unfold pick; rw [List.range_succ, List.filter_append, List.map_append]; by_cases h : p k <;> simp [h]
theorem pick_len (p : Nat → Bool) (k : Nat) : (pick p k).length ≤ k := by
  unfold pick; rw [List.length_map]; exact Nat.le_trans (List.length_filter_le _ _) (by simp)
theorem pick_mem (p : Nat → Bool) (N : Nat) (x : Int) : x ∈ pick p N ↔ ∃ j : Nat, j < N ∧ p j = true ∧ x = (j : Int) := by
  unfold pick
  simp only [List.mem_map, List.mem_filter, List.mem_range]
  constructor
  · rintro ⟨j, ⟨h1, h2⟩, rfl⟩; exact ⟨j, h1, h2, rfl⟩
  · rintro ⟨j, h1, h2, rfl⟩; exact ⟨j, ⟨h1, h2⟩, rfl⟩
theorem pick_congr (p q : Nat → Bool) (N : Nat) (h : ∀ j < N, p j = q j) : pick p N = pick q N := by
  induction N with
  | zero => rfl
  | succ n ih => rw [pick_succ, pick_succ, ih fun j hj => h j (by omega), h n (by omega)]
theorem prop_bool (P : Nat → Prop) : ∃ p : Nat → Bool, ∀ j, p j = true ↔ P j := ⟨fun j => @decide (P j) (Classical.propDecidable _), fun j => by simp⟩
/-- What reach.Left answers. -/
def LeftP (w : World) (b : Bn) (e : Ending) (w' : World) : Prop :=
  ((bmay b ≠ 0 ∧ e = .returned (.tuple #[.slice none 0 0, .int .i64 (bmay b)])) ∨ (bmay b = 0 ∧ ∃ v p st, e = .returned (.tuple #[v, .int .i64 0]) ∧ Fix b false st ∧ (∀ j : Nat, p j = true ↔ Rc (FN b st) (FN b st (j : Int)) (j : Int)) ∧ w'.ownsRow w.heap.size 3 1 v (pick p b.of.length).length (ints (pick p b.of.length)))) ∧ Below w.heap.size w w'
end Go.Proofs.Ytimgnbacgdmiiaa
namespace Go.Proofs.Ytimgnbacgdmiiaa
open Go.RowKit PK
set_option linter.unusedVariables false
set_option linter.unusedSimpArgs false
attribute [local go_sem ↓] append_appM

theorem fix_exists (b : Bn) (tk : Bool) (hok : ∀ p ∈ b.l, prOk b p = true) : ∃ st, Fix b tk st := by
  obtain ⟨p, hp⟩ := prop_bool fun j => Der b.l tk (j : Int)
  have hat : ∀ x : Nat, ((List.range b.of.length).map p)[x]? = some true → Der b.l tk (x : Int) := fun x hx => by
    rw [List.getElem?_map] at hx
    rcases Nat.lt_or_ge x b.of.length with h | h
    · rw [List.getElem?_range h] at hx; exact (hp x).1 (Option.some.inj hx)
    · rw [List.getElem?_eq_none (by simpa using h)] at hx; cases hx
  refine ⟨(List.range b.of.length).map p, by simp, hat, fun q hq hr => ?_⟩
  obtain ⟨h1, h2⟩ := prOk_left (hok q hq)
  have hd : Der b.l tk q.left := by
    unfold rowB at hr
    rw [List.all_eq_true] at hr
    refine .mk q hq (fun s hs ht => ?_) (fun s hs ht => ?_)
    · have := hr s hs; unfold goodB at this; rw [ht] at this; simpa using this
    · have := hr s hs
      unfold goodB at this
      rw [ht] at this
      obtain ⟨h3, h4⟩ := prOk_sym (hok q hq) hs ht
      have e : (((List.range b.of.length).map p)[s.n.toNat]?).getD false = true := by simpa using this
      have e2 : ((List.range b.of.length).map p)[s.n.toNat]? = some true := by
        revert e; cases ((List.range b.of.length).map p)[s.n.toNat]? <;> simp
      have := hat _ e2
      rwa [Int.toNat_of_nonneg h3] at this
  rw [List.getElem?_map, List.getElem?_range (by omega)]
  refine congrArg some ((hp _).2 ?_)
  rw [Int.toNat_of_nonneg h1]; exact hd
theorem pick_set (p : Nat → Bool) (N : Nat) : IsSet (pick p N) := by
  induction N with
  | zero => exact List.Pairwise.nil
  | succ n ih =>
    rw [pick_succ]
    refine List.pairwise_append.2 ⟨ih, by split <;> simp, fun x hx y hy => ?_⟩
    obtain ⟨j, hj, _, rfl⟩ := (pick_mem _ _ _).1 hx
    split at hy
    · simp at hy; omega
    · cases hy
theorem pick_next (b : Bn) (hok : ∀ p ∈ b.l, prOk b p = true) (f : Sy → Bool) (n : Int) : pick (fun j => decide ((j : Int) ∈ rowTo b f b.l.length n)) b.of.length = nextI b f n := by
  refine int_ext (pick_set _ _) (toSetI_set _) fun x => ?_
  rw [pick_mem]
  unfold nextI
  rw [toSetI_mem]
  constructor
  · rintro ⟨j, h1, h2, rfl⟩; exact of_decide_eq_true h2
  · intro h
    obtain ⟨h1, h2⟩ := rowTo_range hok h
    exact ⟨x.toNat, by omega, decide_eq_true (by rw [Int.toNat_of_nonneg h1]; exact h), by omega⟩
theorem boolV {a b : Bool} (h : a = b) : Value.bool a = Value.bool b := by rw [h]
set_option maxHeartbeats 4000000 in
set_option maxRecDepth 100000 in
theorem refNext_any (all : Bool) (n : Int) (st : List Bool) (b : Bn) (ov lv : Value) (B : Nat) (w : World) (hB : B ≤ w.heap.size) (r : BR w B ov lv b) (h0 : bmay b = 0) (hst : Fix b false st) :
    Calls Try.prog 81 #[.agg #[.int .i64 b.toks, .int .i64 b.look, ov, lv], .int .i64 n, .bool all] w (OwnI w (nextI b (goneF all st) n)) := by
  obtain ⟨oa, oc, rfl, ho1, ho2⟩ := r.of.val
  obtain ⟨la, lc, rfl, hl1, hl2⟩ := r.l.val
  obtain ⟨z1, z2, z3, z4, z5, z6, _⟩ := bmay_zero h0
  have hbox := BoxB.new b.toks b.look 25 hB r
  have hb1 := (Below.refl w.heap.size w).alloc (Nat.le_refl _) (.cells #[.int .i64 b.toks, .int .i64 b.look, .slice oa b.of.length oc, .slice la b.l.length lc] 25)
  have hno := refNothing_any b (.slice oa b.of.length oc) (.slice la b.l.length lc) B _ hbox.le hbox.r h0
  obtain ⟨ol, hol⟩ : ∃ ol, ol = b.of.length := ⟨_, rfl⟩
  obtain ⟨ll, hll⟩ : ∃ ll, ll = b.l.length := ⟨_, rfl⟩
  obtain ⟨tk, htk⟩ : ∃ tk, tk = b.toks := ⟨_, rfl⟩
  obtain ⟨lk, hlk⟩ : ∃ lk, lk = b.look := ⟨_, rfl⟩
  rw [← hol, ← hll, ← htk, ← hlk] at hbox hb1 hno
  rw [← hol, ← hll, ← htk, ← hlk]
  have Hbox := Lib.hid hbox; have Hb1 := Lib.hid hb1; have Hol := Lib.hid hol; have Hll := Lib.hid hll; have Hno := Lib.hid hno; have Hst := Lib.hid hst
  have Hz := Lib.hid (And.intro z1 (And.intro z2 (And.intro z3 (And.intro z4 (And.intro z5 z6)))))
  have ho500 : ol ≤ 500 := by omega
  have hl2000 : ll ≤ 2000 := by omega
  have Hpn := Lib.hid (pick_next b z6 (goneF all st) n)
  have Hf : Hid (∀ s, goneF all st s = (all || goodB false st s)) := Lib.hid fun _ => rfl
  generalize goneF all st = f at *
  clear r hbox hb1 hol hll htk hlk ho1 ho2 hl1 hl2 hB z1 z2 z3 z4 z5 z6 h0 hno hst
  go_enter Try.func81, Try.ntmps81
  go_upto_region 1 with fail
  generalize w.alloc (.cells #[.int .i64 tk, .int .i64 lk, .slice oa ol oc, .slice la ll lc] 25) = w1 at *
  obtain ⟨c0, c1, c2, c3, _, _, _⟩ := Hbox.out
  go_wp2_with fail
  refine (Hno.out).mono ?_
  rintro e w2 ⟨v2, st2, rfl, hF2, hown2, hb2⟩
  obtain rfl := Fix.uniq Hz.out.2.2.2.2.2 hF2 Hst.out
  have hsl : st2.length = ol := by rw [hF2.len]; exact Hol.out.symm
  obtain ⟨na, nc, rfl, _, _⟩ := owns_valP hown2
  obtain ⟨gn, hgn, _, hglt, hcl, _⟩ := owns_cellN hown2 (by rw [hsl]; have := Hz.out.1; have := Hol.out; omega)
  subst hgn
  have Hcl := Lib.hid (fun W (hW : Below w2.heap.size w2 W) j hj => (hW.cell (p := ⟨gn, j, none⟩) hglt).trans (hcl j _ (bools_at st2 j hj)))
  have Hbx2 := Lib.hid (Hbox.out.keep hb2)
  have HB2 := Lib.hid (Hb1.out.trans (hb2.mono Hb1.out.size))
  have Hsl := Lib.hid hsl
  have Hc := Lib.hid (fun W (hW : Below w2.heap.size w2 W) => And.intro (Hbx2.out.keep hW).c2 (Hbx2.out.keep hW).c3)
  rw [hsl]
  have hown0 := World.ownsRow_made (base := w2.heap.size) (e := 3) (size := 1) w2 #[] 0 (Nat.le_refl _) (Nat.zero_le _) rfl
  have Hown0 := Lib.hid hown0
  clear hF2 hown2 hb2 hcl hglt hsl hown0 Hno Hbox Hb1 c0 c1 c2 c3
  go_wp2_with fail
  go_loopw [8, 9] (fun ov mv wr => ∃ m : Nat, m ≤ ol ∧ mv = .int .i64 (m : Nat) ∧ Hid (wr.ownsRow w2.heap.size 3 1 ov (pick (fun j => decide ((j : Int) ∈ rowTo b f b.l.length n)) m).length (ints (pick (fun j => decide ((j : Int) ∈ rowTo b f b.l.length n)) m))) ∧ Hid (Below w2.heap.size w2 wr)) (fun _ mv _ => ol - (intOf mv).toNat)
  case atStart => exact ⟨0, Nat.zero_le _, rfl, Hown0, Lib.hid ((Below.refl _ w2).alloc (Nat.le_refl _) _)⟩
  case round =>
    clear Hown0
    obtain ⟨m, hm, rfl, HO, HB⟩ := hrel
    obtain ⟨c2, c3⟩ := Hc.out _ HB.out
    obtain ⟨xa, xc, rfl, _, _⟩ := owns_valP HO.out
    have hplen := pick_len (fun j => decide ((j : Int) ∈ rowTo b f b.l.length n)) m
    obtain ⟨ln, hln⟩ : ∃ ln, ln = (pick (fun j => decide ((j : Int) ∈ rowTo b f b.l.length n)) m).length := ⟨_, rfl⟩
    rw [← hln] at HO
    by_cases hlt : m < ol
    · have hm1 : (m : Int) < (ol : Int) := by omega
      have Hlt := Lib.hid hlt
      have Hln := Lib.hid hln
      clear hln hplen hlt hm
      rw [← Hln.out]
      obtain ⟨wo, rfl⟩ : ∃ wo : World, wo = wr := ⟨_, rfl⟩
      go_wp2_with fail
      clear c2 c3
      go_loopw [10, 11] (fun sv iv wx => ∃ i : Nat, i ≤ ll ∧ sv = .bool (decide ((m : Int) ∈ rowTo b f i n)) ∧ iv = .int .i64 (i : Nat) ∧ Hid (Below wo.heap.size wo wx)) (fun _ iv _ => ll - (intOf iv).toNat)
      case atStart => exact ⟨0, Nat.zero_le _, by simp [rowTo], rfl, Lib.hid (Below.refl _ _)⟩
      case round =>
        obtain ⟨i, hi, rfl, rfl, HBx⟩ := hrel
        have Hbx := Lib.hid (HB.out.trans (HBx.out.mono HB.out.size))
        obtain ⟨c2, c3⟩ := Hc.out _ Hbx.out
        by_cases hil : i < ll
        · have hlt' : i < b.l.length := by have := Hll.out; omega
          obtain ⟨b1, o1, a1, d1, hao, hbb, e0, e1, rk, m1, m2⟩ := Hbx2.out.r.l.get i hlt'
          subst hao
          have hpo := Hz.out.2.2.2.2.2 _ (List.getElem_mem hlt')
          have hps := fun s hs ht => prOk_sym (s := s) hpo hs ht
          have hr5 := Hz.out.2.2.2.2.1 _ (List.getElem_mem hlt')
          have hrs := rowTo_succ b f i n hlt'
          have hb2 : b1 < w2.heap.size := Nat.lt_of_lt_of_le hbb Hbx2.out.le
          have Hg := Lib.hid (fun W (hW : Below w2.heap.size w2 W) => And.intro ((hW.cell (p := ⟨b1, o1 + i * 2, none⟩) hb2).trans e0) (And.intro ((hW.cell (p := ⟨b1, o1 + i * 2 + 1, none⟩) hb2).trans e1) (show SR W B (.slice a1 b.l[i].right.length d1) b.l[i].right from Row.below rk (hW.mono Hbx2.out.le))))
          clear e0 e1 rk m1 m2 hpo
          generalize b.l[i] = p at *
          obtain ⟨x, rt⟩ := p
          simp only at hps hr5 hrs Hg
          have Hrs := Lib.hid hrs; have Hps := Lib.hid hps
          obtain ⟨e0, e1, _⟩ := Hg.out _ Hbx.out
          have hi1 : (i : Int) < (ll : Int) := by omega
          have hi2 : (0 : Int) ≤ (i : Int) := by omega
          have Hil := Lib.hid hil
          obtain ⟨rn, hrn⟩ : ∃ rn, rn = rt.length := ⟨_, rfl⟩
          rw [← hrn] at Hg e1 hr5
          have Hrn := Lib.hid hrn
          clear hrs hps hil hlt' hi hrn hb2 hbb
          by_cases hxn : x = n
          · have hne : (x != n) = false := by simp [hxn]
            have Hre := Lib.hid (show rowTo b f (i + 1) n = rowTo b f i n ++ collect f rt by rw [Hrs.out, if_pos hxn])
            clear Hrs hxn
            obtain ⟨wi, rfl⟩ : ∃ wi : World, wi = wr := ⟨_, rfl⟩
            go_wp2_with fail
            clear c2 c3 e0 e1
            go_loopw [10, 12] (fun sv kv wy => ∃ k : Nat, k ≤ rn ∧ sv = .bool (decide ((m : Int) ∈ rowTo b f i n ++ nts (rt.take k))) ∧ kv = .int .i64 (k : Nat) ∧ Hid ((rt.take k).all f = true) ∧ Hid (Below wi.heap.size wi wy)) (fun _ kv _ => rn - (intOf kv).toNat)
            case atStart => exact ⟨0, Nat.zero_le _, by simp [nts], rfl, Lib.hid rfl, Lib.hid (Below.refl _ _)⟩
            case round =>
              obtain ⟨k, hk, rfl, rfl, Hal, HBy⟩ := hrel
              have Hbo := Lib.hid (HBx.out.trans (HBy.out.mono HBx.out.size))
              have Hby := Lib.hid (Hbx.out.trans (HBy.out.mono Hbx.out.size))
              obtain ⟨c2, c3⟩ := Hc.out _ Hby.out
              obtain ⟨e0, e1, rk⟩ := Hg.out _ Hby.out
              have Rk := Lib.hid rk
              clear rk
              by_cases hkr : k < rn
              · have hkl : k < rt.length := by have := Hrn.out; omega
                obtain ⟨b6, o6, hao, hb6, f0, f1⟩ := SR.get Rk.out k hkl
                subst hao
                have hsn := Hps.out rt[k] (List.getElem_mem hkl)
                have Hnt := Lib.hid (nts_succ rt k hkl)
                have Hstop := Lib.hid (collect_stop f rt k hkl Hal.out)
                have Hyes := Lib.hid (all_step rt f k hkl Hal.out)
                have hk1 : (k : Int) < (rn : Int) := by omega
                have hk2 : (0 : Int) ≤ (k : Int) := by omega
                have Hkr := Lib.hid hkr
                generalize rt[k] = s at *
                obtain ⟨t, y⟩ := s
                simp only at f0 f1 hsn
                have hbs := (Below.refl wr.heap.size wr).alloc (Nat.le_refl _) (.cells #[.bool t, .int .i64 y] 39)
                have hs0 : (wr.alloc (.cells #[.bool t, .int .i64 y] 39)).cell? ⟨wr.heap.size, 0, none⟩ = some (.bool t) := cell_new wr _ _ 0 _ rfl
                have hs1 : (wr.alloc (.cells #[.bool t, .int .i64 y] 39)).cell? ⟨wr.heap.size, 1, none⟩ = some (.int .i64 y) := cell_new wr _ _ 1 _ rfl
                have HBs := Lib.hid (HBy.out.trans (hbs.mono HBy.out.size))
                have HBo := Lib.hid (Hbo.out.trans (hbs.mono Hbo.out.size))
                have HB2s := Lib.hid (Hby.out.trans (hbs.mono Hby.out.size))
                clear hk hkl hkr hb6 hbs Hal
                cases t with
                | true =>
                  clear hsn
                  have Hft : Hid (f ⟨true, y⟩ = all) := Lib.hid (by rw [Hf.out]; unfold goodB; simp)
                  simp only [if_true, List.append_nil] at Hnt
                  go_upto_region 14 with fail
                  generalize wr.alloc (.cells #[.bool true, .int .i64 y] 39) = ws at *
                  clear f0 f1
                  cases all with
                  | true =>
                    have HY := Lib.hid (Hyes.out Hft.out)
                    go_wp2_with fail
                    go_roundw
                    case rel => exact ⟨k + 1, Hkr.out, by rw [Hnt.out], by go_num, HY, HBs⟩
                    case measure => have := Hkr.out; simp [intOf]; omega
                  | false =>
                    have HY := Lib.hid (Hstop.out Hft.out)
                    go_wp2_with fail
                    go_roundw
                    case rel => exact ⟨i + 1, Hil.out, boolV (by rw [Hre.out, HY.out, Hnt.out]), by go_num, HBo⟩
                    case measure => have := Hil.out; simp [intOf]; omega
                | false =>
                  obtain ⟨h0, h1⟩ := hsn rfl
                  obtain ⟨q, rfl⟩ : ∃ q : Nat, y = (q : Int) := ⟨y.toNat, by omega⟩
                  have hq : q < ol := by have := Hol.out; omega
                  have hqs : q < st2.length := by have := Hsl.out; omega
                  have c9 := Hcl.out _ HB2s.out q hqs
                  have Hft : Hid (f ⟨false, (q : Int)⟩ = (all || st2[q])) := Lib.hid (by rw [Hf.out]; unfold goodB; simp [List.getElem?_eq_getElem hqs])
                  have hq1 : (q : Int) < (ol : Int) := by omega
                  have hq2 : (0 : Int) ≤ (q : Int) := by omega
                  simp only [Bool.false_eq_true, if_false] at Hnt
                  generalize st2[q] = v at *
                  clear h0 h1 hq hqs
                  go_upto_region 14 with fail
                  generalize wr.alloc (.cells #[.bool false, .int .i64 (q : Int)] 39) = ws at *
                  clear f0 f1
                  have Hsv : Hid (decide ((m : Int) ∈ rowTo b f i n ++ nts (rt.take (k + 1))) = (decide ((m : Int) ∈ rowTo b f i n ++ nts (rt.take k)) || decide ((q : Int) = (m : Int)))) := Lib.hid (by
                    rw [Hnt.out, ← List.append_assoc, ← Bool.decide_or]
                    refine decide_eq_decide.2 ?_
                    rw [List.mem_append, List.mem_singleton]
                    exact or_congr Iff.rfl eq_comm)
                  by_cases hqm : q = m
                  · subst hqm
                    have Hs2 : Hid (decide ((q : Int) ∈ rowTo b f i n ++ nts (rt.take (k + 1))) = true) := Lib.hid (by rw [Hsv.out]; simp)
                    have hqq : ((q : Int) == (q : Int)) = true := by simp
                    clear Hsv
                    cases all with
                    | true =>
                      have HY := Lib.hid (Hyes.out (by rw [Hft.out]; rfl))
                      go_wp2_with fail
                      go_roundw
                      case rel => exact ⟨k + 1, Hkr.out, by rw [Hs2.out], by go_num, HY, HBs⟩
                      case measure => have := Hkr.out; simp [intOf]; omega
                    | false =>
                      cases v with
                      | true =>
                        have HY := Lib.hid (Hyes.out (by rw [Hft.out]; rfl))
                        go_wp2_with fail
                        go_roundw
                        case rel => exact ⟨k + 1, Hkr.out, by rw [Hs2.out], by go_num, HY, HBs⟩
                        case measure => have := Hkr.out; simp [intOf]; omega
                      | false =>
                        have HY := Lib.hid (Hstop.out (by rw [Hft.out]; rfl))
                        go_wp2_with fail
                        go_roundw
                        case rel => exact ⟨i + 1, Hil.out, boolV (by rw [Hre.out, HY.out, Hs2.out]), by go_num, HBo⟩
                        case measure => have := Hil.out; simp [intOf]; omega
                  · have Hs2 : Hid (decide ((m : Int) ∈ rowTo b f i n ++ nts (rt.take (k + 1))) = decide ((m : Int) ∈ rowTo b f i n ++ nts (rt.take k))) := Lib.hid (Hsv.out.trans (by rw [show decide ((q : Int) = (m : Int)) = false from decide_eq_false (by omega), Bool.or_false]))
                    have hqq : ((q : Int) == (m : Int)) = false := by rw [beq_eq_false_iff_ne]; omega
                    have hqq2 : (q == m) = false := by rw [beq_eq_false_iff_ne]; omega
                    clear Hsv hqm
                    cases all with
                    | true =>
                      have HY := Lib.hid (Hyes.out (by rw [Hft.out]; rfl))
                      go_wp2_with fail
                      go_roundw
                      case rel => exact ⟨k + 1, Hkr.out, by rw [Hs2.out], by go_num, HY, HBs⟩
                      case measure => have := Hkr.out; simp [intOf]; omega
                    | false =>
                      cases v with
                      | true =>
                        have HY := Lib.hid (Hyes.out (by rw [Hft.out]; rfl))
                        go_wp2_with fail
                        go_roundw
                        case rel => exact ⟨k + 1, Hkr.out, by rw [Hs2.out], by go_num, HY, HBs⟩
                        case measure => have := Hkr.out; simp [intOf]; omega
                      | false =>
                        have HY := Lib.hid (Hstop.out (by rw [Hft.out]; rfl))
                        go_wp2_with fail
                        go_roundw
                        case rel => exact ⟨i + 1, Hil.out, boolV (by rw [Hre.out, HY.out, Hs2.out]), by go_num, HBo⟩
                        case measure => have := Hil.out; simp [intOf]; omega
              · have hkn : k = rt.length := by have := Hrn.out; omega
                have Hre2 : Hid (rowTo b f (i + 1) n = rowTo b f i n ++ nts (rt.take k)) := Lib.hid (by
                  rw [Hre.out, hkn, List.take_length, collect_all]
                  have := Hal.out; rw [hkn, List.take_length] at this; exact this)
                have hk0 : decide (k < rn) = false := decide_eq_false hkr
                clear hkn hkr
                go_wp2_with fail
                go_roundw
                case rel => exact ⟨i + 1, Hil.out, boolV (by rw [Hre2.out]), by go_num, Hbo⟩
                case measure => have := Hil.out; simp [intOf]; omega
          · have hne : (x != n) = true := by simp [hxn]
            have Hre := Lib.hid (show rowTo b f (i + 1) n = rowTo b f i n by rw [Hrs.out, if_neg hxn, List.append_nil])
            clear Hrs hxn
            go_wp2_with fail
            go_roundw
            case rel => exact ⟨i + 1, Hil.out, boolV (by rw [Hre.out]), by go_num, HBx⟩
            case measure => have := Hil.out; simp [intOf]; omega
        · obtain rfl : i = ll := by omega
          have Hps := Lib.hid (pick_succ (fun j => decide ((j : Int) ∈ rowTo b f b.l.length n)) m)
          have hiv : i = b.l.length := Hll.out
          have HOx := Lib.hid (owns_belowP HO.out HBx.out)
          rw [← hiv] at Hps HOx Hln
          by_cases hin : (m : Int) ∈ rowTo b f i n
          · rw [decide_eq_true hin] at Hps ⊢
            rw [if_pos rfl] at Hps
            obtain ⟨a5, d5, w5, happ, hown5, hb5⟩ := own_push (L := pick (fun j => decide ((j : Int) ∈ rowTo b f i n)) m) Hbx.out.size (by rw [← Hln.out]; exact HOx.out) (m : Int) (by have := pick_len (fun j => decide ((j : Int) ∈ rowTo b f i n)) m; have := Hlt.out; omega)
            rw [← Hps.out] at hown5
            rw [← Hln.out] at happ hown5
            have Hown5 := Lib.hid hown5
            have Hb5 := Lib.hid (Hbx.out.trans hb5)
            have Hl5 : Hid (ln + 1 = (pick (fun j => decide ((j : Int) ∈ rowTo b f i n)) (m + 1)).length) := Lib.hid (by rw [Hps.out, List.length_append, Hln.out]; rfl)
            clear hown5 hb5 hin hiv
            go_wp2_with fail
            go_roundw
            case rel => exact ⟨m + 1, Hlt.out, by go_num, Lib.hid (by rw [← Hll.out]; exact Hown5.out), Hb5⟩
            case measure => have := Hlt.out; simp [intOf]; omega
          · rw [decide_eq_false hin] at Hps ⊢
            rw [if_neg (by decide), List.append_nil] at Hps
            clear hin hiv
            go_wp2_with fail
            go_roundw
            case rel => exact ⟨m + 1, Hlt.out, by go_num, Lib.hid (by rw [← Hll.out, Hps.out, ← Hln.out]; exact HOx.out), Hbx⟩
            case measure => have := Hlt.out; simp [intOf]; omega
    · obtain rfl : m = ol := by omega
      have HE : Hid (OwnI w (nextI b f n) (.returned (.slice xa ln xc)) wr) := Lib.hid ⟨_, rfl, by
        have := HO.out
        rw [hln] at this ⊢
        have e := Hpn.out
        rw [← Hol.out] at e
        rw [e] at this ⊢
        exact owns_baseP this HB2.out.size, HB2.out.trans (HB.out.mono HB2.out.size)⟩
      rw [← hln]
      clear hln hplen hlt hm
      go_wp2_with fail
      go_ret
      exact HE.out
end Go.Proofs.Ytimgnbacgdmiiaa
namespace Go.Proofs.Ytimgnbacgdmiiaa
open Go.RowKit PK
set_option linter.unusedVariables false
set_option linter.unusedSimpArgs false
attribute [local go_sem ↓] append_appM

theorem own_push2 {w : World} {n : Nat} {lv : Value} {L : List Int} (hn : n ≤ w.heap.size) (h : w.ownsRow n 3 1 lv L.length (ints L)) (x : Int) (hl : L.length + 1 ≤ 10000000) :
    ∃ a c w3, Sem.run Try.prog (appM #[22, 22] 22 #[lv, .slice (some ⟨w.heap.size, 0, none⟩) 1 1]) (w.alloc (.cells #[.int .i64 x] 3)) = .ok (.slice a (L.length + 1) c) w3 ∧ w3.ownsRow n 3 1 (.slice a (L.length + 1) c) (L ++ [x]).length (ints (L ++ [x])) ∧ Below n w w3 ∧
      (∀ k, k < w.heap.size → lv.ownBlock ≠ some k → w3.heap[k]? = w.heap[k]?) ∧ ((Value.slice a (L.length + 1) c).ownBlock = lv.ownBlock ∨ ∃ k, (Value.slice a (L.length + 1) c).ownBlock = some k ∧ w.heap.size ≤ k) := by
  obtain ⟨i0, hi0, hz0, hz1, hz2⟩ := info_parts info_intT
  have rt : Row (w.alloc (.cells #[.int .i64 x] 3)) (w.heap.size + 1) 1 (.slice (some ⟨w.heap.size, 0, none⟩) 1 1) 1 (ints [x]) := row_cellsB w (ints [x]) 1 1 1 _ rfl (Nat.le_refl _) (by unfold maxLen; omega)
  obtain ⟨v', w2, h1, h2, h3, h4⟩ := run_append_row (P := Try.prog) (w.alloc (.cells #[.int .i64 x] 3)) 22 22 n 3 i0 (.int .i64 0) 1 8 Try.underlying22 hi0 hz0 hz1 hz2 rfl (by decide) lv L.length (ints L) (h.alloc _) (w.heap.size + 1) _ 1 (ints [x]) rt (ints_oneT _) (by unfold maxLen; omega) (by omega) (by simp; omega)
  obtain ⟨a, c, rfl, _, _⟩ := owns_valP h2
  refine ⟨a, c, w2, h1, by rw [List.length_append]; simpa [ints] using h2, ((Below.refl n w).alloc hn _).grown h3 (by simp; omega) fun k e => (h.lt k e).1, fun k hk hne => ?_, ?_⟩
  · rw [h3.block k (by simp; omega) (fun e => hne e.symm), Below.heap_alloc _ _ _ hk]
  · rcases h4 with h5 | h5
    · exact .inl h5
    · exact .inr ⟨_, h5, by simp⟩
theorem CI.start2 {N : Nat} {F : Int → List Int} {S : List Int} (hS : ∀ x ∈ S, 0 ≤ x ∧ x < N) (hnd : S.Nodup) : CI N F S S 0 :=
  ⟨hnd, hS, fun x hx => .base hx, fun x hx => hx, fun j _ h => by omega, Nat.zero_le _⟩
theorem set_nodup {l : List Int} (h : IsSet l) : l.Nodup := List.Pairwise.imp (fun h e => by omega) h
/-- What from answers. -/
def FromP (w : World) (F : Int → List Int) (S : List Int) (e : Ending) (w' : World) : Prop := ∃ L v, e = .returned v ∧ (∀ x, x ∈ L ↔ Rc F S x) ∧ w'.ownsRow w.heap.size 3 1 v L.length (ints L) ∧ Below w.heap.size w w'
set_option maxHeartbeats 4000000 in
set_option maxRecDepth 100000 in
theorem refFrom_any (all : Bool) (S : List Int) (sv : Value) (st : List Bool) (b : Bn) (ov lv : Value) (B BS : Nat) (w : World) (hB : B ≤ w.heap.size) (r : BR w B ov lv b) (h0 : bmay b = 0) (hst : Fix b false st) (hBS : BS ≤ w.heap.size) (rs : Row w BS 1 sv S.length (ints S)) (hS : ∀ x ∈ S, 0 ≤ x ∧ x < b.of.length) (hnd : S.Nodup) :
    Calls Try.prog 50 #[.agg #[.int .i64 b.toks, .int .i64 b.look, ov, lv], sv, .bool all] w (FromP w (nextI b (goneF all st)) S) := by
  obtain ⟨oa, oc, rfl, ho1, ho2⟩ := r.of.val
  obtain ⟨la, lc, rfl, hl1, hl2⟩ := r.l.val
  obtain ⟨sa, sc, rfl, _, _⟩ := rs.val
  obtain ⟨z1, z2, z3, z4, z5, z6, _⟩ := bmay_zero h0
  have hbox := BoxB.new b.toks b.look 25 hB r
  have hb1 := (Below.refl w.heap.size w).alloc (Nat.le_refl _) (.cells #[.int .i64 b.toks, .int .i64 b.look, .slice oa b.of.length oc, .slice la b.l.length lc] 25)
  have hSl := nodup_le hnd hS
  have hin := baseInts_any (.slice sa S.length sc) S BS _ (Nat.le_trans hBS hb1.size) (rs.below (hb1.mono hBS)) (by omega)
  have hnx := fun (y : Int) W BW hBW hr => refNext_any all y st b (.slice oa b.of.length oc) (.slice la b.l.length lc) BW W hBW hr h0 hst
  have hrg := fun (x y : Int) (h : y ∈ nextI b (goneF all st) x) => nextI_range z6 h
  have hset := fun (x : Int) => set_nodup (toSetI_set (rowTo b (goneF all st) b.l.length x))
  have hset2 : ∀ x, (nextI b (goneF all st) x).Nodup := hset
  have hCI := CI.start2 (F := nextI b (goneF all st)) hS hnd
  obtain ⟨ol, hol⟩ : ∃ ol, ol = b.of.length := ⟨_, rfl⟩
  obtain ⟨ll, hll⟩ : ∃ ll, ll = b.l.length := ⟨_, rfl⟩
  obtain ⟨tk, htk⟩ : ∃ tk, tk = b.toks := ⟨_, rfl⟩
  obtain ⟨lk, hlk⟩ : ∃ lk, lk = b.look := ⟨_, rfl⟩
  rw [← hol, ← hll, ← htk, ← hlk] at hbox hb1 hin hnx
  rw [← hol] at hrg hCI
  rw [← hll] at hset
  rw [← hol, ← hll, ← htk, ← hlk]
  have ho500 : ol ≤ 500 := by omega
  generalize nextI b (goneF all st) = F at *
  have Hbox := Lib.hid hbox; have Hb1 := Lib.hid hb1; have Hin := Lib.hid hin; have Hnx := Lib.hid hnx; have Hrg := Lib.hid hrg; have Hset := Lib.hid hset2; have HCI := Lib.hid hCI
  clear r hbox hb1 hol hll htk hlk ho1 ho2 hl1 hl2 hB z1 z2 z3 z4 z5 z6 h0 hst hin hnx hrg hset hset2 hCI hBS hS hnd hSl
  have ec : ((w.alloc (.cells #[.int .i64 tk, .int .i64 lk, .slice oa ol oc, .slice la ll lc] 25))).heap.size = w.heap.size + 1 := by simp
  go_enter Try.func50, Try.ntmps50
  go_upto_region 1 with fail
  generalize w.alloc (.cells #[.int .i64 tk, .int .i64 lk, .slice oa ol oc, .slice la ll lc] 25) = w1 at *
  go_wp2_with fail
  refine (Hin.out).mono ?_
  rintro e w2 ⟨v2, rfl, hown2, hb2⟩
  obtain ⟨a2, d2, rfl, _, _⟩ := owns_valP hown2
  have Hown2 := Lib.hid hown2; have Hb2 := Lib.hid hb2
  clear hown2 hb2 Hin ec
  go_wp2_with fail
  go_loopw [7, 8] (fun ov iv wr => ∃ (i : Nat) (L : List Int), iv = .int .i64 (i : Nat) ∧ Hid (CI ol F S L i) ∧ Hid (wr.ownsRow w1.heap.size 3 1 ov L.length (ints L)) ∧ Hid (Below w1.heap.size w1 wr)) (fun _ iv _ => ol - (intOf iv).toNat)
  case atStart => exact ⟨0, S, rfl, HCI, Hown2, Hb2⟩
  case round =>
    clear HCI Hown2 Hb2
    obtain ⟨i, L, rfl, HI, HO, HB⟩ := hrel
    have hle := nodup_le HI.out.nd HI.out.rg
    have hci := HI.out.le
    obtain ⟨va, vc, rfl, _, _⟩ := owns_valP HO.out
    by_cases hlt : i < L.length
    · obtain ⟨gb, hv, hg1, hg2, hcl, _⟩ := owns_cellN HO.out (by omega)
      subst hv
      have c9 := hcl i _ (ints_at L i hlt)
      have Hnxt := Lib.hid (HI.out.next hlt (Hrg.out _))
      have hyr := HI.out.rg _ (List.getElem_mem hlt)
      generalize hLi : L[i] = y at *
      have Hd0 : Hid (Below w1.heap.size w1 wr.drew) := Lib.hid (HB.out.trans ((Below.refl wr.heap.size wr).drew.mono HB.out.size))
      have HbxA := Hbox.out.keep Hd0.out
      have Hnext := Lib.hid (Hnx.out y wr.drew B HbxA.le HbxA.r)
      obtain ⟨s0, s1, s2, s3⟩ := HbxA.four
      have hi1 : (i : Int) < (L.length : Int) := by omega
      have hi2 : (0 : Int) ≤ (i : Int) := by omega
      have hi3 : (i : Int) ≤ 1000 := by omega
      have Hlt := Lib.hid (show i < ol by omega)
      have HS4 := Lib.hid (show wr.drew.cell? ⟨w.heap.size, 0, none⟩ = some (.int .i64 tk) ∧ wr.drew.cell? ⟨w.heap.size, 1, none⟩ = some (.int .i64 lk) ∧ wr.drew.cell? ⟨w.heap.size, 2, none⟩ = some (.slice oa ol oc) ∧ wr.drew.cell? ⟨w.heap.size, 3, none⟩ = some (.slice la ll lc) ∧ wr.drew.cell? ⟨gb, i, none⟩ = some (.int .i64 y) from ⟨s0, s1, s2, s3, c9⟩)
      have HL := Lib.hid (And.intro HI.out.nd HI.out.rg)
      have Hrgy := Lib.hid (Hrg.out y)
      have Hsety := Lib.hid (Hset.out y)
      obtain ⟨ln, hln⟩ : ∃ ln, ln = L.length := ⟨_, rfl⟩
      rw [← hln] at HO hi1
      have Hln := Lib.hid hln
      rw [← hln]
      clear hcl hle hci hlt hLi HbxA s0 s1 s2 s3 hyr hln HI hg1 hg2 c9
      go_upto_region 5 with fail
      refine wp_region_ord 7 [(0, true), (1, true), (2, true), (3, true), (4, true), (5, true), (6, false), (7, false)] (fun w' => w'.cell? ⟨w.heap.size, 0, none⟩ = some (.int .i64 tk) ∧ w'.cell? ⟨w.heap.size, 1, none⟩ = some (.int .i64 lk) ∧ w'.cell? ⟨w.heap.size, 2, none⟩ = some (.slice oa ol oc) ∧ w'.cell? ⟨w.heap.size, 3, none⟩ = some (.slice la ll lc) ∧ w'.cell? ⟨gb, i, none⟩ = some (.int .i64 y)) (by kernel_rfl) (by kernel_rfl) HS4.out ?_
      simp only [ordL, List.getElem?_toArray, List.getElem?_cons_succ, List.getElem?_cons_zero]
      iterate 6 (
        refine ordW_read (v := ?_) (by rfl) ?_ (fun _ _ _ h => h) ?_
        rotate_left
        focus (intro w' hS; obtain ⟨s0, s1, s2, s3, s4⟩ := hS; go_simp; (try with_reducible rfl); done)
        try simp only [Act.put, List.setIfInBounds_toArray, List.set_cons_zero, List.set_cons_succ])
      refine ordW_do (by rfl) (fun K' HK => ?_)
      go_simp
      refine (Hnext.out).mono ?_
      rintro e w3 ⟨v3, rfl, hown3, hb3⟩
      have Hown3 := Lib.hid hown3
      have HB3 := Lib.hid (Hd0.out.trans (hb3.mono Hd0.out.size))
      have HO3 := Lib.hid (owns_belowP (owns_drewN HO.out) hb3)
      have Hap : Hid (∀ g, v3.ownBlock = some g → (Value.slice (some ⟨gb, 0, none⟩) ln vc).ownBlock ≠ some g) := Lib.hid fun g hg he => by
        have h1 := (hown3.lt g hg).1
        have h2 := (HO.out.lt g he).2
        have h3 : wr.drew.heap.size = wr.heap.size := rfl
        omega
      refine HK.out _ _ (fun _ => ⟨(Hbox.out.keep HB3.out).four.1, (Hbox.out.keep HB3.out).four.2.1, (Hbox.out.keep HB3.out).four.2.2.1, (Hbox.out.keep HB3.out).four.2.2.2, (hb3.cell (p := ⟨gb, i, none⟩) (HO.out.lt gb rfl).2).trans HS4.out.2.2.2.2⟩) ?_
      clear HK K' hb3 hown3 Hnext HS4
      try simp only [Act.put, List.setIfInBounds_toArray, List.set_cons_zero, List.set_cons_succ]
      refine ordW_do (by rfl) (fun K' HK => ?_)
      go_simp
      refine HK.out _ _ (fun h => absurd rfl h) (ordW_nil ?_)
      clear HK K'
      generalize F y = l at *
      obtain ⟨a3, d3, rfl, _, _⟩ := owns_valP Hown3.out
      have hl5 := nodup_le Hsety.out (fun x hx => Hrgy.out x hx)
      obtain ⟨xn, hxn⟩ : ∃ xn, xn = l.length := ⟨_, rfl⟩
      rw [← hxn] at Hown3 Hap hl5 ⊢
      have Hxn := Lib.hid hxn
      clear hxn
      go_wp2_with fail
      go_loopw [7, 10] (fun ov kv wx => ∃ (k : Nat), k ≤ xn ∧ kv = .int .i64 (k : Nat) ∧ Hid (wx.ownsRow w1.heap.size 3 1 ov (noteL L (l.take k)).length (ints (noteL L (l.take k)))) ∧ Hid (wx.ownsRow wr.drew.heap.size 3 1 (.slice a3 xn d3) xn (ints l)) ∧ Hid (∀ g, (Value.slice a3 xn d3).ownBlock = some g → ov.ownBlock ≠ some g) ∧ Hid (Below w1.heap.size w1 wx)) (fun _ kv _ => xn - (intOf kv).toNat)
      case atStart => exact ⟨0, Nat.zero_le _, rfl, Lib.hid (by have := HO3.out; rw [Hln.out] at this ⊢; exact this), Hown3, Hap, HB3⟩
      case round =>
        clear HO3 Hown3 Hap HB3
        obtain ⟨k, hk, rfl, HM, Hl, Hap, HBx⟩ := hrel
        by_cases hkl : k < xn
        · have hkl2 : k < l.length := by have := Hxn.out; omega
          obtain ⟨gx, hv, _, hgx, hclx, _⟩ := owns_cellN Hl.out (by omega)
          subst hv
          have c9 := hclx k _ (ints_at l k hkl2)
          have Hsu := Lib.hid (noteL_succ L l k hkl2)
          have hnd := noteL_nodup L (l.take k) HL.out.1
          have hrg2 : ∀ x ∈ noteL L (l.take k), 0 ≤ x ∧ x < ol := fun x hx => by
            rcases (noteL_mem _ _ _).1 hx with h1 | h1
            · exact HL.out.2 x h1
            · exact Hrgy.out x (List.mem_of_mem_take h1)
          have hle := nodup_le hnd hrg2
          generalize noteL L (l.take k) = M at *
          generalize l[k] = z at *
          obtain ⟨xa, xc, rfl, _, _⟩ := owns_valP HM.out
          have Hhas := Lib.hid (hasInt_any (.slice xa M.length xc) M z wr.heap.size wr (Nat.le_refl _) (Row.of_owns HM.out))
          have hk1 : (k : Int) < (xn : Int) := by omega
          have hk2 : (0 : Int) ≤ (k : Int) := by omega
          have hk3 : (k : Int) ≤ 1000 := by omega
          have Hkl := Lib.hid hkl
          have Hle := Lib.hid hle
          obtain ⟨mn, hmn⟩ : ∃ mn, mn = M.length := ⟨_, rfl⟩
          rw [← hmn] at Hhas HM Hap
          have Hmn := Lib.hid hmn
          rw [← hmn]
          clear hclx hnd hrg2 hle hkl hkl2 hk hmn
          go_wp2_with fail
          refine (Hhas.out).mono ?_
          rintro e w5 ⟨rfl, hb5⟩
          have c95 := (hb5.cell (p := ⟨gx, k, none⟩) hgx).trans c9
          have HM5 := Lib.hid (owns_belowP HM.out hb5)
          have Hl5 := Lib.hid (owns_belowP Hl.out hb5)
          have HB5 := Lib.hid (HBx.out.trans (hb5.mono HBx.out.size))
          clear hb5 c9 Hhas
          by_cases hin : z ∈ M
          · rw [decide_eq_true hin]
            have Hs2 := Lib.hid (Hsu.out.trans (if_pos hin))
            clear hin Hsu
            go_wp2_with fail
            go_roundw
            case rel => exact ⟨k + 1, Hkl.out, by go_num, Lib.hid (by rw [Hs2.out, ← Hmn.out]; exact HM5.out), Hl5, Hap, HB5⟩
            case measure => have := Hkl.out; simp [intOf]; omega
          · rw [decide_eq_false hin]
            have Hs2 := Lib.hid (Hsu.out.trans (if_neg hin))
            obtain ⟨a6, d6, w6, happ, hown6, hb6, hkp, hnew⟩ := own_push2 (L := M) HB5.out.size (by rw [← Hmn.out]; exact HM5.out) z (by have := Hle.out; omega)
            rw [← Hs2.out] at hown6
            rw [← Hmn.out] at happ hown6 hnew
            have Hown6 := Lib.hid hown6
            have Hl6 := Lib.hid (owns_blockN Hl5.out fun g hg => hkp g (Hl5.out.lt g hg).2 (Hap.out g hg))
            have Hap6 : Hid (∀ g, (Value.slice (some ⟨gx, 0, none⟩) xn d3).ownBlock = some g → (Value.slice a6 (mn + 1) d6).ownBlock ≠ some g) := Lib.hid fun g hg he => by
              rcases hnew with h1 | ⟨q, h1, h2⟩
              · rw [h1] at he; exact Hap.out g hg he
              · rw [h1] at he
                have h3 := (Hl5.out.lt g hg).2
                have : q = g := Option.some.inj he
                omega
            have HB6 := Lib.hid (HB5.out.trans hb6)
            have Hl7 : Hid (mn + 1 = (noteL L (l.take (k + 1))).length) := Lib.hid (by rw [Hs2.out, List.length_append, Hmn.out]; rfl)
            clear hown6 hb6 hkp hnew hin Hsu
            go_wp2_with fail
            go_roundw
            case rel => exact ⟨k + 1, Hkl.out, by go_num, Hown6, Hl6, Hap6, HB6⟩
            case measure => have := Hkl.out; simp [intOf]; omega
        · obtain rfl : k = xn := by omega
          have hM2 := HM.out
          rw [Hxn.out, List.take_length] at hM2
          have HM2 := Lib.hid hM2
          clear hM2
          clear HM
          go_wp2_with fail
          go_roundw
          case rel => exact ⟨i + 1, noteL L l, by go_num, Hnxt, HM2, HBx⟩
          case measure => have := Hlt.out; simp [intOf]; omega
    · have hd := HI.out.done (by omega)
      have hlt2 : decide (i < L.length) = false := decide_eq_false hlt
      have HE : Hid (FromP w F S (.returned (.slice va L.length vc)) wr) := Lib.hid ⟨L, _, rfl, hd, owns_baseP HO.out Hb1.out.size, Hb1.out.trans (HB.out.mono Hb1.out.size)⟩
      generalize L.length = ln at *
      clear hd hlt hle hci
      go_wp2_with fail
      go_ret
      exact HE.out
/-- What the document's Begins answers. -/
def RBeginsP (w : World) (b : Bn) (st : List Bool) (n m : Int) (e : Ending) (w' : World) : Prop := ∃ x, e = .returned (.bool x) ∧ (x = true ↔ Rc (FN b st) (FN b st n) m) ∧ Below w.heap.size w w'
end Go.Proofs.Ytimgnbacgdmiiaa
namespace Go.Proofs.Ytimgnbacgdmiiaa
open Go.RowKit PK
set_option linter.unusedVariables false
set_option linter.unusedSimpArgs false
attribute [local go_sem ↓] append_appM

theorem bools_oneT (l : List Bool) : ∀ u ∈ bools l, u.oneCell' = true := by
  intro u hu; simp only [bools, List.mem_map] at hu; obtain ⟨x, _, rfl⟩ := hu; rfl
theorem own_pushB {w : World} {n : Nat} {lv : Value} {L : List Bool} (hn : n ≤ w.heap.size) (h : w.ownsRow n 4 1 lv L.length (bools L)) (x : Bool) (hl : L.length + 1 ≤ 10000000) :
    ∃ a c w3, Sem.run Try.prog (appM #[50, 50] 50 #[lv, .slice (some ⟨w.heap.size, 0, none⟩) 1 1]) (w.alloc (.cells #[.bool x] 4)) = .ok (.slice a (L.length + 1) c) w3 ∧ w3.ownsRow n 4 1 (.slice a (L.length + 1) c) (L ++ [x]).length (bools (L ++ [x])) ∧ Below n w w3 := by
  obtain ⟨i0, hi0, hz0, hz1, hz2⟩ := info_parts info_boolT
  have rt : Row (w.alloc (.cells #[.bool x] 4)) (w.heap.size + 1) 1 (.slice (some ⟨w.heap.size, 0, none⟩) 1 1) 1 (bools [x]) := row_cellsB w (bools [x]) 1 1 1 _ rfl (Nat.le_refl _) (by unfold maxLen; omega)
  obtain ⟨v', w2, h1, h2, h3, h4⟩ := run_append_row (P := Try.prog) (w.alloc (.cells #[.bool x] 4)) 50 50 n 4 i0 (.bool false) 1 1 Try.underlying50 hi0 hz0 hz1 hz2 rfl (by decide) lv L.length (bools L) (h.alloc _) (w.heap.size + 1) _ 1 (bools [x]) rt (bools_oneT _) (by unfold maxLen; omega) (by omega) (by simp; omega)
  obtain ⟨a, c, rfl, _, _⟩ := owns_valP h2
  exact ⟨a, c, w2, h1, by rw [List.length_append]; simpa [bools] using h2, ((Below.refl n w).alloc hn _).grown h3 (by simp; omega) fun k e => (h.lt k e).1⟩
theorem marksL_succ (k : Nat) (L : List Int) : marksL (k + 1) L = marksL k L ++ [decide ((k : Int) ∈ L)] := by
  unfold marksL; rw [List.range_succ, List.map_append]; rfl
/-- What the document's Reached answers. -/
def RReachedP (w : World) (b : Bn) (e : Ending) (w' : World) : Prop := ∃ v st, e = .returned v ∧ st.length = b.of.length ∧ (∀ j : Nat, j < b.of.length → (st[j]? = some true ↔ Rc (nextI b fun _ => true) [0] (j : Int))) ∧ w'.ownsRow w.heap.size 4 1 v st.length (bools st) ∧ Below w.heap.size w w'
set_option maxHeartbeats 4000000 in
set_option maxRecDepth 100000 in
theorem refReached_any (b : Bn) (ov lv : Value) (B : Nat) (w : World) (hB : B ≤ w.heap.size) (r : BR w B ov lv b) (h0 : bmay b = 0) :
    Calls Try.prog 26 #[.agg #[.int .i64 b.toks, .int .i64 b.look, ov, lv]] w (RReachedP w b) := by
  obtain ⟨oa, oc, rfl, ho1, ho2⟩ := r.of.val
  obtain ⟨la, lc, rfl, hl1, hl2⟩ := r.l.val
  obtain ⟨z1, z2, z3, z4, z5, z6, _⟩ := bmay_zero h0
  obtain ⟨st, hst⟩ := fix_exists b false z6
  have hbox := BoxB.new b.toks b.look 25 hB r
  have hb1 := (Below.refl w.heap.size w).alloc (Nat.le_refl _) (.cells #[.int .i64 b.toks, .int .i64 b.look, .slice oa b.of.length oc, .slice la b.l.length lc] 25)
  have hfr : ∀ sv W BW BS, BW ≤ W.heap.size → BR W BW (.slice oa b.of.length oc) (.slice la b.l.length lc) b → BS ≤ W.heap.size → Row W BS 1 sv 1 (ints [0]) → Calls Try.prog 50 #[.agg #[.int .i64 b.toks, .int .i64 b.look, .slice oa b.of.length oc, .slice la b.l.length lc], sv, .bool true] W (FromP W (nextI b fun _ => true) [0]) :=
    fun sv W BW BS hBW hr hBS rs => refFrom_any true [0] sv st b (.slice oa b.of.length oc) (.slice la b.l.length lc) BW BS W hBW hr h0 hst hBS rs (fun x hx => by rw [List.mem_singleton] at hx; omega) (by simp)
  obtain ⟨ol, hol⟩ : ∃ ol, ol = b.of.length := ⟨_, rfl⟩
  obtain ⟨ll, hll⟩ : ∃ ll, ll = b.l.length := ⟨_, rfl⟩
  obtain ⟨tk, htk⟩ : ∃ tk, tk = b.toks := ⟨_, rfl⟩
  obtain ⟨lk, hlk⟩ : ∃ lk, lk = b.look := ⟨_, rfl⟩
  rw [← hol, ← hll, ← htk, ← hlk] at hbox hb1 hfr
  rw [← hol, ← hll, ← htk, ← hlk]
  have ho500 : ol ≤ 500 := by omega
  have Hbox := Lib.hid hbox; have Hb1 := Lib.hid hb1; have Hfr := Lib.hid hfr; have Hol := Lib.hid hol
  clear r hbox hb1 hol hll htk hlk ho1 ho2 hl1 hl2 hB z1 z2 z3 z4 z5 z6 h0 hst hfr
  go_enter Try.func26, Try.ntmps26
  go_upto_region 1 with fail
  generalize w.alloc (.cells #[.int .i64 tk, .int .i64 lk, .slice oa ol oc, .slice la ll lc] 25) = w1 at *
  obtain ⟨c0, c1, c2, c3⟩ := Hbox.out.four
  have hb2 := (Below.refl w1.heap.size w1).alloc (Nat.le_refl _) (.cells #[.int .i64 0] 3)
  have Hr0 : Hid (Row (w1.alloc (.cells #[.int .i64 0] 3)) (w1.heap.size + 1) 1 (.slice (some ⟨w1.heap.size, 0, none⟩) 1 1) 1 (ints [0])) := Lib.hid (row_cellsB w1 (ints [0]) 1 1 1 _ rfl (Nat.le_refl _) (by unfold maxLen; omega))
  have Hf := Lib.hid (Hfr.out _ (w1.alloc (.cells #[.int .i64 0] 3)) B (w1.heap.size + 1) (Hbox.out.keep hb2).le (Hbox.out.keep hb2).r (by simp) Hr0.out)
  have Hb2 := Lib.hid hb2
  clear hb2 Hfr Hr0
  go_wp2_with fail
  refine (Hf.out).mono ?_
  rintro e w3 ⟨L, v3, rfl, hL, hown3, hb3⟩
  have Hb3 := Lib.hid (Hb2.out.trans (hb3.mono Hb2.out.size))
  have Hrow3 := Lib.hid (Row.of_owns hown3)
  have HL := Lib.hid hL
  obtain ⟨la3, lc3, rfl, _, _⟩ := owns_valP hown3
  have hown0 := World.ownsRow_made (base := w3.heap.size) (e := 4) (size := 1) w3 #[] 0 (Nat.le_refl _) (Nat.zero_le _) rfl
  have Hown0 := Lib.hid hown0
  have Hbx3 := Lib.hid (Hbox.out.keep Hb3.out)
  have Hc : Hid (∀ W, Below w3.heap.size w3 W → W.cell? ⟨w.heap.size, 2, none⟩ = some (.slice oa ol oc)) := Lib.hid fun W hW => (Hbx3.out.keep hW).c2
  have HB3 := Lib.hid (Hb1.out.trans (Hb3.out.mono Hb1.out.size))
  clear hown0 hL hb3 hown3 Hf Hbox Hb1 Hb2 Hb3 c0 c1 c2 c3
  go_wp2_with fail
  go_loopw [4, 5] (fun xv iv wr => ∃ (k : Nat), k ≤ ol ∧ iv = .int .i64 (k : Nat) ∧ Hid (wr.ownsRow w3.heap.size 4 1 xv (marksL k L).length (bools (marksL k L))) ∧ Hid (Below w3.heap.size w3 wr)) (fun _ iv _ => ol - (intOf iv).toNat)
  case atStart => exact ⟨0, Nat.zero_le _, rfl, Hown0, Lib.hid ((Below.refl _ w3).alloc (Nat.le_refl _) _)⟩
  case round =>
    clear Hown0
    obtain ⟨q, hk, rfl, HM, HB⟩ := hrel
    have c2 := Hc.out _ HB.out
    obtain ⟨va, vc, rfl, _, _⟩ := owns_valP HM.out
    have hml := marksL_len q L
    by_cases hlt : q < ol
    · have hq1 : (q : Int) < (ol : Int) := by omega
      have hq3 : (q : Int) ≤ 1000 := by omega
      have Hlt := Lib.hid hlt
      have Hhas := Lib.hid (hasInt_any (.slice la3 L.length lc3) L (q : Int) w3.heap.size wr HB.out.size (Hrow3.out.below HB.out))
      have Hms := Lib.hid (marksL_succ q L)
      rw [hml] at HM ⊢
      have Hml := Lib.hid hml
      clear hml hlt hk
      go_wp2_with fail
      refine (Hhas.out).mono ?_
      rintro e w4 ⟨rfl, hb4⟩
      have HM4 := owns_belowP HM.out hb4
      have Hb4 := Lib.hid (HB.out.trans (hb4.mono HB.out.size))
      obtain ⟨a5, d5, w5, happ, hown5, hb5⟩ := own_pushB (L := marksL q L) Hb4.out.size (by rw [Hml.out]; exact HM4) (decide ((q : Int) ∈ L)) (by have := Hml.out; have := Hlt.out; omega)
      rw [← Hms.out] at hown5
      rw [Hml.out] at happ hown5
      have Hown5 := Lib.hid hown5
      have Hb5 := Lib.hid (Hb4.out.trans hb5)
      clear hown5 hb5 hb4 HM4 Hhas
      generalize decide ((q : Int) ∈ L) = y at *
      go_wp2_with fail
      go_roundw
      case rel => exact ⟨q + 1, Hlt.out, by go_num, Hown5, Hb5⟩
      case measure => have := Hlt.out; simp [intOf]; omega
    · obtain rfl : q = ol := by omega
      have HE : Hid (RReachedP w b (.returned (.slice va (marksL q L).length vc)) wr) := Lib.hid ⟨_, marksL q L, rfl, hml.trans Hol.out, fun j hj => by
        rw [marksL_at _ _ _ (by rw [Hol.out]; exact hj), ← HL.out]; simp, owns_baseP HM.out HB3.out.size, HB3.out.trans (HB.out.mono HB3.out.size)⟩
      have hq0 : decide (q < q) = false := by simp
      rw [hml] at HE ⊢
      clear hlt hml hk
      go_wp2_with fail
      go_ret
      exact HE.out
/-- What reach.Reached answers. -/
def ReachedP (w : World) (b : Bn) (e : Ending) (w' : World) : Prop :=
  ((bmay b ≠ 0 ∧ e = .returned (.tuple #[.slice none 0 0, .int .i64 (bmay b)])) ∨ (bmay b = 0 ∧ ∃ v st, e = .returned (.tuple #[v, .int .i64 0]) ∧ st.length = b.of.length ∧ (∀ j : Nat, j < b.of.length → (st[j]? = some true ↔ Rc (nextI b fun _ => true) [0] (j : Int))) ∧ Row w' w'.heap.size 1 v st.length (bools st))) ∧ Below w.heap.size w w'
end Go.Proofs.Ytimgnbacgdmiiaa
