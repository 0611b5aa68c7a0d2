/-
  A trie that is being made: a node more, a leaf's number, an edge's token and kid.
-/
import Derived.Test.YtbmaappambmhoaaTriN
import Derived.OneCell
namespace Go.Proofs.Ytbmaappambmhoaa
open Go.RowKit PK
set_option linter.unusedVariables false
set_option linter.unusedSimpArgs false

theorem owns_setN {w : World} {base e size n c g : Nat} {xs : List Value} (h : w.ownsRow base e size (.slice (some ⟨g, 0, none⟩) n c) n xs) (j : Nat) (hj : j < xs.length) (u : Value) :
    (w.setCell ⟨g, j, none⟩ u).ownsRow base e size (.slice (some ⟨g, 0, none⟩) n c) n (xs.set j u) := by
  refine ⟨by rw [List.length_set]; exact h.1, ?_⟩
  rcases h.2 with ⟨hv, _⟩ | ⟨g', cap, cur, hv, hb, hg, h1, h2, h3, h4⟩
  · simp at hv
  · simp only [Value.slice.injEq, Option.some.injEq, Addr.mk.injEq, and_true, true_and] at hv
    obtain ⟨rfl, rfl⟩ := hv
    refine .inr ⟨g, c, cur.setIfInBounds j u, rfl, hb, ?_, h1, h2, by rw [Array.size_setIfInBounds]; exact h3, ?_⟩
    · have hlt := lt_of_block hg
      have h' : w.heap[g] = .cells cur e (0, 0) := by simpa [Array.getElem?_eq_getElem hlt] using hg
      show (w.heap.modify g _)[g]? = _
      rw [Array.getElem?_eq_getElem (by simpa using hlt), Array.getElem_modify_self, h']
      rfl
    · rw [Array.toList_setIfInBounds, ← h4, List.take_set]
/-- A cell of a struct behind a pointer is set. -/
theorem ptr_set {w : World} {g : Nat} {cs : Array Value} {T : TypeId} (h : w.heap[g]? = some (.cells cs T (0, 0))) (j : Nat) (u : Value) :
    (w.setCell ⟨g, j, none⟩ u).heap[g]? = some (.cells (cs.setIfInBounds j u) T (0, 0)) := by
  have hlt := lt_of_block h
  have h' : w.heap[g] = .cells cs T (0, 0) := by simpa [Array.getElem?_eq_getElem hlt] using h
  show (w.heap.modify g _)[g]? = _
  rw [Array.getElem?_eq_getElem (by simpa using hlt), Array.getElem_modify_self, h']
  rfl
theorem blkN_len (X : List Cn) : (blkN X).length = X.length * 2 := by
  induction X with
  | nil => rfl
  | cons t r ih =>
    have : blkN (t :: r) = [t.tv, t.kv] ++ blkN r := rfl
    rw [this, List.length_append, ih]; simp; omega
theorem blkN_at (X : List Cn) (k : Nat) (hk : k < X.length) : (blkN X)[k * 2]? = some X[k].tv ∧ (blkN X)[k * 2 + 1]? = some X[k].kv := by
  induction X generalizing k with
  | nil => simp at hk
  | cons t r ih =>
    have e : blkN (t :: r) = [t.tv, t.kv] ++ blkN r := rfl
    rw [e]
    cases k with
    | zero => exact ⟨rfl, rfl⟩
    | succ k =>
      have := ih k (by simpa using hk)
      rw [List.getElem?_append_right (by simp; omega), List.getElem?_append_right (by simp; omega)]
      simpa [Nat.succ_mul, Nat.add_sub_cancel] using this
theorem blkN_set (X : List Cn) (k : Nat) (hk : k < X.length) (x : Cn) : blkN (X.set k x) = ((blkN X).set (k * 2) x.tv).set (k * 2 + 1) x.kv := by
  induction X generalizing k with
  | nil => simp at hk
  | cons t r ih =>
    have e : blkN (t :: r) = t.tv :: t.kv :: blkN r := rfl
    cases k with
    | zero => rfl
    | succ k =>
      rw [e, List.set_cons_succ]
      have e2 : blkN (t :: r.set k x) = t.tv :: t.kv :: blkN (r.set k x) := rfl
      rw [e2, ih k (by simpa using hk), Nat.succ_mul]
      rfl
theorem set_same {α : Type} (l : List α) (k : Nat) (u : α) (h : l[k]? = some u) : l.set k u = l := by
  apply List.ext_getElem?
  intro j
  rw [List.getElem?_set]
  by_cases e : k = j
  · subst e
    have hk : k < l.length := by
      rcases Nat.lt_or_ge k l.length with h1 | h1
      · exact h1
      · rw [List.getElem?_eq_none h1] at h; cases h
    rw [if_pos rfl, if_pos hk, h]
  · rw [if_neg e]
theorem apart_ne {L : List Value} (h : Apart L) {p q : Nat} {a b : Value} (hp : L[p]? = some a) (hq : L[q]? = some b) (hne : p ≠ q) : a.ownBlock = none ∨ a.ownBlock ≠ b.ownBlock := by
  obtain ⟨h1, rfl⟩ := List.getElem?_eq_some_iff.1 hp
  obtain ⟨h2, rfl⟩ := List.getElem?_eq_some_iff.1 hq
  have h' := List.pairwise_iff_getElem.1 h
  rcases Nat.lt_or_gt_of_ne hne with hlt | hlt
  · exact h' p q h1 h2 hlt
  · exact apart_symm (h' q p h2 h1 hlt)
theorem apart_set {L : List Value} (h : Apart L) (p : Nat) (a v : Value) (k : Nat) (hp : L[p]? = some a) (hlt : ∀ u ∈ L, ∀ j, u.ownBlock = some j → j < k) (hv : v.ownBlock = a.ownBlock ∨ v.ownBlock = some k) : Apart (L.set p v) := by
  have key : ∀ q b, L[q]? = some b → p ≠ q → v.ownBlock = none ∨ v.ownBlock ≠ b.ownBlock := fun q b hq hne => by
    rcases hv with hv | hv
    · rw [hv]; exact apart_ne h hp hq hne
    · right
      rw [hv]
      intro e
      have := hlt b (List.mem_of_getElem? hq) k e.symm
      omega
  unfold Apart
  rw [List.pairwise_iff_getElem]
  intro i j hi hj hij
  have hi' : i < L.length := by simpa using hi
  have hj' : j < L.length := by simpa using hj
  rw [List.getElem_set, List.getElem_set]
  by_cases e1 : p = i
  · rw [if_pos e1, if_neg (by omega)]
    exact key j _ (List.getElem?_eq_getElem hj') (by omega)
  · rw [if_neg e1]
    by_cases e2 : p = j
    · rw [if_pos e2]; exact apart_symm (key i _ (List.getElem?_eq_getElem hi') (by omega))
    · rw [if_neg e2]; exact List.pairwise_iff_getElem.1 h i j hi' hj' hij
theorem apart_snoc {L : List Value} (h : Apart L) (v : Value) (hv : v.ownBlock = none) : Apart (L ++ [v]) := by
  unfold Apart
  rw [List.pairwise_append]
  refine ⟨h, List.pairwise_singleton _ _, fun x _ y hy => ?_⟩
  simp only [List.mem_singleton] at hy
  subst hy
  rw [hv]
  cases x.ownBlock with
  | none => exact .inl rfl
  | some k => exact .inr (by simp)
/-- The first of them grows. -/
theorem Nds.grow {w w2 : World} {B : Nat} {vo v' : Value} {X : List Cn} (h : Nds w B vo X) (o : Obj) (hg : (w.alloc o).grownBy w2 vo.ownBlock) (x : Cn) (hx : x.tv = .slice none 0 0) (hx2 : x.kv = .slice none 0 0) (ht : x.toks = []) (hk : x.kids = [])
    (hown : w2.ownsRow B 59 3 v' (X.length + 1) (outN (X ++ [x]))) (hat : v'.ownBlock = vo.ownBlock ∨ v'.ownBlock = some (w.heap.size + 1)) : Nds w2 B v' (X ++ [x]) := by
  have hsame : ∀ u ∈ blkN X, ∀ k, u.ownBlock = some k → w2.heap[k]? = w.heap[k]? := fun u hu k hk => by
    have hl := (h.lt (List.mem_cons_of_mem _ hu) hk).2
    rw [hg.block k (by simp; omega) (fun e => ?_), Below.heap_alloc _ _ _ hl]
    have h1 := (List.pairwise_cons.1 h.apart).1 u hu
    rcases apart_symm h1 with h1 | h1
    · rw [hk] at h1; cases h1
    · rw [hk] at h1; exact h1 e
  refine ⟨by rw [List.length_append]; exact hown, fun y hy => ?_, ?_⟩
  · rcases List.mem_append.1 hy with hy | hy
    · have := h.each y hy
      exact ⟨owns_blockN this.1 fun k e => hsame _ ((blkN_mem X _).2 ⟨y, hy, .inl rfl⟩) k e, owns_blockN this.2 fun k e => hsame _ ((blkN_mem X _).2 ⟨y, hy, .inr rfl⟩) k e⟩
    · simp only [List.mem_singleton] at hy
      subst hy
      rw [hx, hx2, ht, hk]
      exact ⟨World.ownsRow_nil _ _ _ _, World.ownsRow_nil _ _ _ _⟩
  · have h1 : Apart ((vo :: blkN X).set 0 v') := apart_set h.apart 0 vo v' (w.heap.size + 1) rfl (fun u hu j hj => by have := (h.lt hu hj).2; omega) hat
    rw [List.set_cons_zero] at h1
    have h2 := apart_snoc (apart_snoc h1 x.tv (by rw [hx]; rfl)) x.kv (by rw [hx2]; rfl)
    rw [blkN_snoc]
    simpa using h2
/-- One node turns: what its two slices are now. -/
theorem Nds.turn {w w2 : World} {B b c : Nat} {X : List Cn} (h : Nds w B (.slice (some ⟨b, 0, none⟩) X.length c) X) (i : Nat) (hi : i < X.length) (x : Cn) (j : Nat) (u : Value) (hj : j < X.length * 3)
    (hsame : ∀ k, k < w.heap.size → some k ≠ X[i].tv.ownBlock ∨ x.tv = X[i].tv ∧ x.toks = X[i].toks → some k ≠ X[i].kv.ownBlock ∨ x.kv = X[i].kv ∧ x.kids = X[i].kids → w2.heap[k]? = w.heap[k]?)
    (hout : outN (X.set i x) = (outN X).set j u)
    (ho1 : w2.ownsRow B 3 1 x.tv x.toks.length (ints x.toks)) (ho2 : w2.ownsRow B 3 1 x.kv x.kids.length (ints x.kids))
    (h1 : x.tv.ownBlock = X[i].tv.ownBlock ∨ x.tv.ownBlock = some (w.heap.size + 1)) (h2 : x.kv.ownBlock = X[i].kv.ownBlock ∨ x.kv.ownBlock = some (w.heap.size + 1))
    (hone : x.tv = X[i].tv ∧ x.toks = X[i].toks ∨ x.kv = X[i].kv ∧ x.kids = X[i].kids) :
    Nds (w2.setCell ⟨b, j, none⟩ u) B (.slice (some ⟨b, 0, none⟩) X.length c) (X.set i x) := by
  have hbl := h.out.lt b rfl
  obtain ⟨a1, a2⟩ := blkN_at X i hi
  have e0 : ((.slice (some ⟨b, 0, none⟩) X.length c : Value) :: blkN X)[0]? = some (.slice (some ⟨b, 0, none⟩) X.length c) := rfl
  have e1 : ((.slice (some ⟨b, 0, none⟩) X.length c : Value) :: blkN X)[i * 2 + 1]? = some X[i].tv := a1
  have e2 : ((.slice (some ⟨b, 0, none⟩) X.length c : Value) :: blkN X)[i * 2 + 2]? = some X[i].kv := a2
  have hne : ∀ {p q : Nat} {a d : Value} {k : Nat}, ((.slice (some ⟨b, 0, none⟩) X.length c : Value) :: blkN X)[p]? = some a → ((.slice (some ⟨b, 0, none⟩) X.length c : Value) :: blkN X)[q]? = some d → p ≠ q → a.ownBlock = some k → some k ≠ d.ownBlock := fun hp hq hpq hk e => by
    rcases apart_ne h.apart hp hq hpq with h3 | h3
    · rw [hk] at h3; cases h3
    · rw [hk] at h3; exact h3 e
  have hb2 : w2.heap[b]? = w.heap[b]? := hsame b hbl.2 (.inl (hne e0 e1 (by omega) rfl)) (.inl (hne e0 e2 (by omega) rfl))
  have hold : ∀ {p : Nat} {a : Value} {k : Nat}, ((.slice (some ⟨b, 0, none⟩) X.length c : Value) :: blkN X)[p]? = some a → p ≠ i * 2 + 1 → p ≠ i * 2 + 2 → a.ownBlock = some k → w2.heap[k]? = w.heap[k]? := fun hp h3 h4 hk => hsame _ (h.lt (List.mem_of_getElem? hp) hk).2 (.inl (hne hp e1 h3 hk)) (.inl (hne hp e2 h4 hk))
  have hnb : ∀ {p : Nat} {a : Value} {k : Nat}, ((.slice (some ⟨b, 0, none⟩) X.length c : Value) :: blkN X)[p]? = some a → p ≠ 0 → a.ownBlock = some k → k ≠ b := fun hp h0 hk e => by
    subst e
    exact hne hp e0 h0 hk rfl
  have hother : ∀ {v : Value} {m : Nat} {xs : List Value}, w2.ownsRow B 3 1 v m xs → (∀ k, v.ownBlock = some k → k ≠ b) → (w2.setCell ⟨b, j, none⟩ u).ownsRow B 3 1 v m xs := fun hv hk =>
    owns_blockN hv fun k e => Below.heap_setCell _ _ _ _ (hk k e)
  refine ⟨?_, ?_, ?_⟩
  · rw [List.length_set, hout]
    exact owns_setN (owns_blockN h.out fun k e => by cases e; exact hb2) j (by rw [outN_length]; omega) u
  · intro y hy
    obtain ⟨d, hd, rfl⟩ := List.getElem_of_mem hy
    have hd' : d < X.length := by simpa using hd
    rw [List.getElem_set]
    by_cases hid : i = d
    · rw [if_pos hid]
      refine ⟨hother ho1 fun k hk => ?_, hother ho2 fun k hk => ?_⟩
      · rcases h1 with h3 | h3
        · exact hnb e1 (by omega) (h3 ▸ hk)
        · rw [h3] at hk; cases hk; omega
      · rcases h2 with h3 | h3
        · exact hnb e2 (by omega) (h3 ▸ hk)
        · rw [h3] at hk; cases hk; omega
    · rw [if_neg hid]
      obtain ⟨d1, d2⟩ := blkN_at X d hd'
      have f1 : ((.slice (some ⟨b, 0, none⟩) X.length c : Value) :: blkN X)[d * 2 + 1]? = some X[d].tv := d1
      have f2 : ((.slice (some ⟨b, 0, none⟩) X.length c : Value) :: blkN X)[d * 2 + 2]? = some X[d].kv := d2
      have he := h.each _ (List.getElem_mem hd')
      exact ⟨hother (owns_blockN he.1 fun k e => hold f1 (by omega) (by omega) e) fun k e => hnb f1 (by omega) e, hother (owns_blockN he.2 fun k e => hold f2 (by omega) (by omega) e) fun k e => hnb f2 (by omega) e⟩
  · rw [blkN_set X i hi]
    have hlt : ∀ u ∈ ((.slice (some ⟨b, 0, none⟩) X.length c : Value) :: blkN X), ∀ j, u.ownBlock = some j → j < w.heap.size + 1 := fun u hu j hj => by have := (h.lt hu hj).2; omega
    rcases hone with ⟨h3, _⟩ | ⟨h3, _⟩
    · rw [h3, set_same _ _ _ a1]
      exact apart_set h.apart (i * 2 + 2) _ x.kv _ e2 hlt h2
    · rw [h3]
      have h4 := apart_set h.apart (i * 2 + 1) _ x.tv _ e1 hlt h1
      rw [set_same ((blkN X).set (i * 2) x.tv) (i * 2 + 1) X[i].kv (by rw [List.getElem?_set]; rw [if_neg (by omega)]; exact a2)]
      exact h4
end Go.Proofs.Ytbmaappambmhoaa
