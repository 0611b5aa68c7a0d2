/-
  A trie's maker: what its steps do to memory; a map from texts to numbers; rows of texts that it reads.
-/
import Derived.Test.YtbmaappambmhoaaTriO
import Derived.Test.YtbmaappambmhoaaTriH
namespace Go.Proofs.Ytbmaappambmhoaa
open Go.RowKit PK Go.Maps Go.WideMaps
set_option linter.unusedVariables false
set_option linter.unusedSimpArgs false

theorem info_node : (Try.prog.info? 59).map (fun i => (i.zero, i.size, i.bytes)) = some (some (.agg #[.int .i64 0, .slice none 0 0, .slice none 0 0]), 3, 56) := by kernel_rfl
theorem info_intT : (Try.prog.info? 3).map (fun i => (i.zero, i.size, i.bytes)) = some (some (.int .i64 0), 1, 8) := by kernel_rfl
theorem owns_drewN {w : World} {base e size v n xs} (h : w.ownsRow base e size v n xs) : w.drew.ownsRow base e size v n xs := h
theorem ints_oneT (l : List Int) : ∀ u ∈ ints l, u.oneCell' = true := by
  intro u hu; simp only [ints, List.mem_map] at hu; obtain ⟨x, _, rfl⟩ := hu; rfl
/-- A new node is put behind the others. -/
theorem MSt.push {w : World} {n g : Nat} {K : Int} {mv vo : Value} {X : List Cn} (h : MSt w n g K mv vo X) (hl : X.length + 1 ≤ 1000000) :
    ∃ ao c w2, Sem.run Try.prog (appM #[39, 39] 39 #[vo, .slice (some ⟨w.heap.size, 0, none⟩) 1 1]) (w.alloc (.cells #[.int .i64 (-1), .slice none 0 0, .slice none 0 0] 59)) = .ok (.slice ao (X.length + 1) c) w2 ∧
      w2.cell? ⟨g, 1, none⟩ = some vo ∧ w2.frozen? ⟨g, 1, none⟩ = false ∧ g < w2.heap.size ∧ X.length + 1 ≤ c ∧ c ≤ maxLen ∧
      MSt (w2.setCell ⟨g, 1, none⟩ (.slice ao (X.length + 1) c)) n g K mv (.slice ao (X.length + 1) c) (X ++ [⟨-1, .slice none 0 0, .slice none 0 0, [], []⟩]) ∧
      KB n g w (w2.setCell ⟨g, 1, none⟩ (.slice ao (X.length + 1) c)) := by
  obtain ⟨i0, hi, hz0, hz1, hz2⟩ := info_parts info_node
  have rt : Row (w.alloc (.cells #[.int .i64 (-1), .slice none 0 0, .slice none 0 0] 59)) (w.heap.size + 1) 3 (.slice (some ⟨w.heap.size, 0, none⟩) 1 1) 1 [.int .i64 (-1), .slice none 0 0, .slice none 0 0] := row_cellsB w [.int .i64 (-1), .slice none 0 0, .slice none 0 0] 3 1 1 _ rfl (Nat.le_refl _) (by unfold maxLen; omega)
  obtain ⟨v', w2, h1, h2, h3, h4⟩ := run_append_row (P := Try.prog) (w.alloc (.cells #[.int .i64 (-1), .slice none 0 0, .slice none 0 0] 59)) 39 39 n 59 i0 (.agg #[.int .i64 0, .slice none 0 0, .slice none 0 0]) 3 56 Try.underlying39 hi hz0 hz1 hz2 rfl (by decide) vo X.length (outN X) (h.nds.out.alloc _) (w.heap.size + 1) _ 1 [.int .i64 (-1), .slice none 0 0, .slice none 0 0] rt (by intro u hu; simp only [List.mem_cons, List.not_mem_nil, or_false] at hu; rcases hu with rfl | rfl | rfl <;> rfl) (by unfold maxLen; omega) (by omega) (by have := h.hi; simp; omega)
  obtain ⟨ao, c, rfl, hc1, hc2⟩ := owns_valP h2
  rw [World.size_alloc] at h4
  have hgl := h.cell.2.2.2.2.2
  have hg0 : w2.heap[g]? = w.heap[g]? := by
    rw [h3.block g (by simp; omega) (fun e => ?_), Below.heap_alloc _ _ _ hgl]
    have := (h.nds.out.lt g e.symm).1; have := h.lo; omega
  have hptr : w2.heap[g]? = some (.cells #[.int .i64 K, vo, mv, .bool false] 73 (0, 0)) := hg0.trans h.ptr
  have hs3 := h3.size
  rw [World.size_alloc] at hs3
  have hnds := h.nds.grow _ h3 ⟨-1, .slice none 0 0, .slice none 0 0, [], []⟩ rfl rfl rfl rfl (by rw [outN_snoc]; exact h2) h4
  refine ⟨ao, c, w2, h1, by rw [cell_of_row w2 g _ _ _ (0, 0) hptr]; rfl, by simp [World.frozen?, hptr], by omega, hc1, hc2, ⟨h.lo, by have := h.hi; simp [World.setCell]; omega, ?_, ?_⟩, ?_⟩
  · exact ptr_set hptr 1 _
  · refine hnds.keep fun k ⟨u, hu, hk⟩ => Below.heap_setCell _ _ _ _ fun e => ?_
    have e' : k = g := e
    have := (hnds.lt hu hk).1; have := h.lo; omega
  · refine KB.setCell (g := g) (p := ⟨g, 1, none⟩) (KB.grown (row := vo.ownBlock) (w := w.alloc (.cells #[.int .i64 (-1), .slice none 0 0, .slice none 0 0] 59)) ?_ h3 (by have := h.hi; simp; omega) fun k e => .inl (h.nds.out.lt k e).1) (.inr rfl) _
    exact KB.of_below ((Below.refl n w).alloc h.hi _)
theorem outN_setT (X : List Cn) (i : Nat) (x : Cn) (hx : X[i]? = some x) (v : Value) (t : List Int) : outN (X.set i ⟨x.leaf, v, x.kv, t, x.kids⟩) = (outN X).set (i * 3 + 1) v := by
  obtain ⟨hi, rfl⟩ := List.getElem?_eq_some_iff.1 hx
  obtain ⟨a1, a2, a3⟩ := outN_at X i hi
  rw [outN_set X i hi, set_same _ _ _ a1]
  exact set_same _ _ _ (by rw [List.getElem?_set, if_neg (by omega)]; exact a3)
theorem outN_setK (X : List Cn) (i : Nat) (x : Cn) (hx : X[i]? = some x) (v : Value) (t : List Int) : outN (X.set i ⟨x.leaf, x.tv, v, x.toks, t⟩) = (outN X).set (i * 3 + 2) v := by
  obtain ⟨hi, rfl⟩ := List.getElem?_eq_some_iff.1 hx
  obtain ⟨a1, a2, a3⟩ := outN_at X i hi
  rw [outN_set X i hi, set_same _ _ _ a1, set_same _ _ _ a2]
theorem outN_setL (X : List Cn) (i : Nat) (x : Cn) (hx : X[i]? = some x) (f : Int) : outN (X.set i ⟨f, x.tv, x.kv, x.toks, x.kids⟩) = (outN X).set (i * 3) (.int .i64 f) := by
  obtain ⟨hi, rfl⟩ := List.getElem?_eq_some_iff.1 hx
  obtain ⟨a1, a2, a3⟩ := outN_at X i hi
  rw [outN_set X i hi, set_same _ (i * 3 + 1) _ (by rw [List.getElem?_set, if_neg (by omega)]; exact a2)]
  exact set_same _ _ _ (by rw [List.getElem?_set, if_neg (by omega)]; exact a3)
/-- The cells that an append onto a node's slice leaves. -/
structure AppC (w w2 : World) (g b c len i j : Nat) (v : Value) : Prop where
  c1 : w2.cell? ⟨g, 1, none⟩ = some (.slice (some ⟨b, 0, none⟩) len c)
  d1 : w2.cell? ⟨b, i * 3 + j, none⟩ = some v
  f1 : w2.frozen? ⟨b, i * 3 + j, none⟩ = false
  bl : b < w2.heap.size
theorem MSt.app {w : World} {n g b c : Nat} {K : Int} {mv : Value} {X : List Cn} (h : MSt w n g K mv (.slice (some ⟨b, 0, none⟩) X.length c) X) (i : Nat) (x : Cn) (hx : X[i]? = some x) (sv : Value) (l : List Int) (p : Nat) (hp : ((.slice (some ⟨b, 0, none⟩) X.length c : Value) :: blkN X)[p]? = some sv) (hp0 : p ≠ 0)
    (hown : w.ownsRow n 3 1 sv l.length (ints l)) (t : Int) (hl : l.length + 1 ≤ 1000000) :
    ∃ ao' c' w2, Sem.run Try.prog (appM #[33, 33] 33 #[sv, .slice (some ⟨w.heap.size, 0, none⟩) 1 1]) (w.alloc (.cells #[.int .i64 t] 3)).drew = .ok (.slice ao' (l.length + 1) c') w2 ∧ l.length + 1 ≤ c' ∧ c' ≤ maxLen ∧
      w2.ownsRow n 3 1 (.slice ao' (l.length + 1) c') (l.length + 1) (ints (l ++ [t])) ∧ (w.alloc (.cells #[.int .i64 t] 3)).grownBy w2 sv.ownBlock ∧ ((Value.slice ao' (l.length + 1) c').ownBlock = sv.ownBlock ∨ (Value.slice ao' (l.length + 1) c').ownBlock = some (w.heap.size + 1)) ∧
      w2.heap[b]? = w.heap[b]? ∧ w2.heap[g]? = w.heap[g]? := by
  obtain ⟨i0, hi, hz0, hz1, hz2⟩ := info_parts info_intT
  have rt : Row (w.alloc (.cells #[.int .i64 t] 3)).drew (w.heap.size + 1) 1 (.slice (some ⟨w.heap.size, 0, none⟩) 1 1) 1 (ints [t]) := row_cellsB w (ints [t]) 1 1 1 _ rfl (Nat.le_refl _) (by unfold maxLen; omega)
  obtain ⟨v', w2, h1, h2, h3, h4⟩ := run_append_row (P := Try.prog) (w.alloc (.cells #[.int .i64 t] 3)).drew 33 33 n 3 i0 (.int .i64 0) 1 8 Try.underlying33 hi hz0 hz1 hz2 rfl (by decide) sv l.length (ints l) (owns_drewN (hown.alloc _)) (w.heap.size + 1) _ 1 (ints [t]) rt (ints_oneT _) (by unfold maxLen; omega) (by omega) (by have := h.hi; simp; omega)
  obtain ⟨ao, c', rfl, hc1, hc2⟩ := owns_valP h2
  have h3' : (w.alloc (.cells #[.int .i64 t] 3)).grownBy w2 sv.ownBlock := ⟨h3.os, h3.tape, h3.output, h3.size, h3.block⟩
  have hs : (w.alloc (.cells #[.int .i64 t] 3)).drew.heap.size = w.heap.size + 1 := by simp
  rw [hs] at h4
  have hbl := h.nds.out.lt b rfl
  have hgl := h.cell.2.2.2.2.2
  refine ⟨ao, c', w2, h1, hc1, hc2, by simpa [ints] using h2, h3', h4, ?_, ?_⟩
  · rw [h3'.block b (by simp; omega) (fun e => ?_), Below.heap_alloc _ _ _ hbl.2]
    rcases apart_ne h.nds.apart (p := 0) (q := p) rfl hp (Ne.symm hp0) with h5 | h5
    · cases h5
    · exact h5 e
  · rw [h3'.block g (by simp; omega) (fun e => ?_), Below.heap_alloc _ _ _ hgl]
    have := (hown.lt g e.symm).1; have := h.lo; omega
theorem cell_eq {w w2 : World} {p : Addr} (h : w2.heap[p.block]? = w.heap[p.block]?) : w2.cell? p = w.cell? p := World.cell?_of_block (w := w) h
theorem frozen_eq {w w2 : World} {p : Addr} (h : w2.heap[p.block]? = w.heap[p.block]?) : w2.frozen? p = w.frozen? p := by
  unfold World.frozen?; rw [h]
/-- What stands when a node's slice has grown. -/
structure Grew (w w2 w3 : World) (n g b c i j : Nat) (K : Int) (mv v0 : Value) (X X' : List Cn) : Prop where
  c1 : w2.cell? ⟨g, 1, none⟩ = some (.slice (some ⟨b, 0, none⟩) X.length c)
  d1 : w2.cell? ⟨b, i * 3 + j, none⟩ = some v0
  f1 : w2.frozen? ⟨b, i * 3 + j, none⟩ = false
  bl : b < w2.heap.size
  st : MSt w3 n g K mv (.slice (some ⟨b, 0, none⟩) X.length c) X'
  kb : KB n g w w3
theorem MSt.pushTok {w : World} {n g b c : Nat} {K : Int} {mv : Value} {X : List Cn} (h : MSt w n g K mv (.slice (some ⟨b, 0, none⟩) X.length c) X) (i : Nat) (x : Cn) (hx : X[i]? = some x) (t : Int) (hl : x.toks.length + 1 ≤ 1000000) :
    ∃ ao' c' w2, Sem.run Try.prog (appM #[33, 33] 33 #[x.tv, .slice (some ⟨w.heap.size, 0, none⟩) 1 1]) (w.alloc (.cells #[.int .i64 t] 3)).drew = .ok (.slice ao' (x.toks.length + 1) c') w2 ∧ x.toks.length + 1 ≤ c' ∧ c' ≤ maxLen ∧
      Grew w w2 (w2.setCell ⟨b, i * 3 + 1, none⟩ (.slice ao' (x.toks.length + 1) c')) n g b c i 1 K mv x.tv X (X.set i ⟨x.leaf, .slice ao' (x.toks.length + 1) c', x.kv, x.toks ++ [t], x.kids⟩) := by
  obtain ⟨hi, hxe⟩ := List.getElem?_eq_some_iff.1 hx
  obtain ⟨a1, a2⟩ := blkN_at X i hi
  rw [hxe] at a1 a2
  obtain ⟨ao', c', w2, h1, h2, h3, h4, h5, h6, h7, h8⟩ := h.app i x hx x.tv x.toks (i * 2 + 1) a1 (by omega) (h.nds.each x (List.mem_of_getElem? hx)).1 t hl
  obtain ⟨b', hb', hbB, hbl, e0, e1, e2, ef⟩ := h.nds.at i hi
  simp only [Option.some.injEq, Addr.mk.injEq, and_true] at hb'
  subst hb'
  rw [hxe] at e0 e1 e2
  have hown := h.nds.each x (List.mem_of_getElem? hx)
  have hs := h5.size
  rw [World.size_alloc] at hs
  have hc := h.cell
  refine ⟨ao', c', w2, h1, h2, h3, (cell_eq (p := ⟨g, 1, none⟩) h8).trans hc.2.1, (cell_eq (p := ⟨b, i * 3 + 1, none⟩) h7).trans e1, (frozen_eq (p := ⟨b, i * 3 + 1, none⟩) h7).trans (ef _), by omega, ⟨h.lo, by have := h.hi; simp [World.setCell]; omega, ?_, ?_⟩, ?_⟩
  · rw [Below.heap_setCell _ _ _ _ (by have := h.lo; show g ≠ b; omega), h8]; exact h.ptr
  · refine h.nds.turn i hi _ (i * 3 + 1) _ (by omega) (fun k hk hk1 hk2 => ?_) (outN_setT X i x hx _ _) (by simpa using h4) ?_ ?_ ?_ ?_
    · rw [hxe] at hk1
      rw [h5.block k (by simp; omega) (fun e => ?_), Below.heap_alloc _ _ _ hk]
      rcases hk1 with hk1 | hk1
      · exact hk1 e
      · have := congrArg List.length hk1.2; simp at this
    · refine owns_blockN hown.2 fun k hk => ?_
      have hk' := (hown.2.lt k hk).2
      rw [h5.block k (by simp; omega) (fun e => ?_), Below.heap_alloc _ _ _ hk']
      rcases apart_ne h.nds.apart (p := i * 2 + 2) (q := i * 2 + 1) a2 a1 (by omega) with h9 | h9
      · rw [hk] at h9; cases h9
      · rw [hk] at h9; exact h9 e
    · rw [hxe]; exact h6
    · rw [hxe]; exact .inl rfl
    · rw [hxe]; exact .inr ⟨rfl, rfl⟩
  · refine KB.setCell (KB.grown (KB.of_below ((Below.refl n w).alloc h.hi _)) h5 (by have := h.hi; simp; omega) fun k e => .inl (hown.1.lt k e).1) (.inl hbB) _
theorem MSt.pushKid {w : World} {n g b c : Nat} {K : Int} {mv : Value} {X : List Cn} (h : MSt w n g K mv (.slice (some ⟨b, 0, none⟩) X.length c) X) (i : Nat) (x : Cn) (hx : X[i]? = some x) (t : Int) (hl : x.kids.length + 1 ≤ 1000000) :
    ∃ ao' c' w2, Sem.run Try.prog (appM #[33, 33] 33 #[x.kv, .slice (some ⟨w.heap.size, 0, none⟩) 1 1]) (w.alloc (.cells #[.int .i64 t] 3)).drew = .ok (.slice ao' (x.kids.length + 1) c') w2 ∧ x.kids.length + 1 ≤ c' ∧ c' ≤ maxLen ∧
      Grew w w2 (w2.setCell ⟨b, i * 3 + 2, none⟩ (.slice ao' (x.kids.length + 1) c')) n g b c i 2 K mv x.kv X (X.set i ⟨x.leaf, x.tv, .slice ao' (x.kids.length + 1) c', x.toks, x.kids ++ [t]⟩) := by
  obtain ⟨hi, hxe⟩ := List.getElem?_eq_some_iff.1 hx
  obtain ⟨a1, a2⟩ := blkN_at X i hi
  rw [hxe] at a1 a2
  obtain ⟨ao', c', w2, h1, h2, h3, h4, h5, h6, h7, h8⟩ := h.app i x hx x.kv x.kids (i * 2 + 2) a2 (by omega) (h.nds.each x (List.mem_of_getElem? hx)).2 t hl
  obtain ⟨b', hb', hbB, hbl, e0, e1, e2, ef⟩ := h.nds.at i hi
  simp only [Option.some.injEq, Addr.mk.injEq, and_true] at hb'
  subst hb'
  rw [hxe] at e0 e1 e2
  have hown := h.nds.each x (List.mem_of_getElem? hx)
  have hs := h5.size
  rw [World.size_alloc] at hs
  have hc := h.cell
  refine ⟨ao', c', w2, h1, h2, h3, (cell_eq (p := ⟨g, 1, none⟩) h8).trans hc.2.1, (cell_eq (p := ⟨b, i * 3 + 2, none⟩) h7).trans e2, (frozen_eq (p := ⟨b, i * 3 + 2, none⟩) h7).trans (ef _), by omega, ⟨h.lo, by have := h.hi; simp [World.setCell]; omega, ?_, ?_⟩, ?_⟩
  · rw [Below.heap_setCell _ _ _ _ (by have := h.lo; show g ≠ b; omega), h8]; exact h.ptr
  · refine h.nds.turn i hi _ (i * 3 + 2) _ (by omega) (fun k hk hk1 hk2 => ?_) (outN_setK X i x hx _ _) ?_ (by simpa using h4) ?_ ?_ ?_
    · rw [hxe] at hk2
      rw [h5.block k (by simp; omega) (fun e => ?_), Below.heap_alloc _ _ _ hk]
      rcases hk2 with hk2 | hk2
      · exact hk2 e
      · have := congrArg List.length hk2.2; simp at this
    · refine owns_blockN hown.1 fun k hk => ?_
      have hk' := (hown.1.lt k hk).2
      rw [h5.block k (by simp; omega) (fun e => ?_), Below.heap_alloc _ _ _ hk']
      rcases apart_ne h.nds.apart (p := i * 2 + 1) (q := i * 2 + 2) a1 a2 (by omega) with h9 | h9
      · rw [hk] at h9; cases h9
      · rw [hk] at h9; exact h9 e
    · rw [hxe]; exact .inl rfl
    · rw [hxe]; exact h6
    · rw [hxe]; exact .inl ⟨rfl, rfl⟩
  · refine KB.setCell (KB.grown (KB.of_below ((Below.refl n w).alloc h.hi _)) h5 (by have := h.hi; simp; omega) fun k e => .inl (hown.2.lt k e).1) (.inl hbB) _
theorem MSt.setLeaf {w : World} {n g b c : Nat} {K : Int} {mv : Value} {X : List Cn} (h : MSt w n g K mv (.slice (some ⟨b, 0, none⟩) X.length c) X) (i : Nat) (x : Cn) (hx : X[i]? = some x) (f : Int) :
    MSt (w.setCell ⟨b, i * 3, none⟩ (.int .i64 f)) n g K mv (.slice (some ⟨b, 0, none⟩) X.length c) (X.set i ⟨f, x.tv, x.kv, x.toks, x.kids⟩) ∧ KB n g w (w.setCell ⟨b, i * 3, none⟩ (.int .i64 f)) := by
  obtain ⟨hi, hxe⟩ := List.getElem?_eq_some_iff.1 hx
  have hbl := h.nds.out.lt b rfl
  have hown := h.nds.each x (List.mem_of_getElem? hx)
  refine ⟨⟨h.lo, by have := h.hi; simp [World.setCell]; omega, ?_, ?_⟩, KB.setCell (KB.refl _ _ _) (.inl hbl.1) _⟩
  · rw [Below.heap_setCell _ _ _ _ (by have := h.lo; show g ≠ b; omega)]; exact h.ptr
  · exact h.nds.turn i hi _ (i * 3) _ (by omega) (fun k hk _ _ => rfl) (outN_setL X i x hx _) hown.1 hown.2 (by rw [hxe]; exact .inl rfl) (by rw [hxe]; exact .inl rfl) (by rw [hxe]; exact .inl ⟨rfl, rfl⟩)
theorem MSt.setFull {w : World} {n g : Nat} {K : Int} {mv vo : Value} {X : List Cn} (h : MSt w n g K mv vo X) :
    MSt (w.setCell ⟨g, 3, none⟩ (.bool false)) n g K mv vo X ∧ KB n g w (w.setCell ⟨g, 3, none⟩ (.bool false)) := by
  refine ⟨⟨h.lo, by have := h.hi; simp [World.setCell]; omega, ptr_set h.ptr 3 _, h.nds.keep fun k ⟨u, hu, hk⟩ => Below.heap_setCell _ _ _ _ fun e => ?_⟩, KB.setCell (g := g) (p := ⟨g, 3, none⟩) (KB.refl _ _ _) (.inr rfl) _⟩
  have e' : k = g := e
  have := (h.nds.lt hu hk).1; have := h.lo; omega

/-- A map from texts to numbers. -/
def MapS (w : World) (b n : Nat) (f : Tx → Option Nat) : Prop :=
  ∃ D : DataW Value, w.ownsMap Try.prog 9 RV b n D ∧ IsMap D ∧ ∀ k : Tx, Maps.has D (.string k) = (f k).isSome ∧ ∀ v zd, f k = some v → D.atKey (.string k) zd = .held (.int .i64 (v : Nat))
theorem keyStr : Keyed Try.prog 9 := string_keyed Try.underlying9
theorem zeroIntT (w : World) : (zeroValue 3).run Try.prog w = .ok (.int .i64 0) w := by kernel_rfl
theorem keyAtS {k : Tx} (h : k.length ≤ maxLen) : keyOf Try.prog 9 (.string ⟨k.toArray⟩) = some (.string k) := by
  have := keyOf_string_mk Try.underlying9 (s := ⟨k.toArray⟩) (by rw [tx_size]; exact h)
  simpa using this
theorem MapS.made (w : World) : MapS (w.alloc (.map #[] 0)) w.heap.size 0 fun _ => none :=
  ⟨.map [], World.ownsMap_made _ _ _ _, ⟨[], rfl⟩, fun k => ⟨rfl, fun v zd h => by cases h⟩⟩
theorem MapS.look_ok {w : World} {b n : Nat} {f : Tx → Option Nat} (h : MapS w b n f) (k : Tx) (hk : k.length ≤ maxLen) :
    ∃ v, (Instr.lookup 70 (.map (some b)) (.string ⟨k.toArray⟩) true).run Try.prog w = .ok (.tuple #[v, .bool (f k).isSome]) w ∧ ∀ x, f k = some x → v = .int .i64 (x : Nat) := by
  obtain ⟨D, hD, _, hf⟩ := h
  obtain ⟨v, ps, hrun, hu⟩ := hD.look_ok keyStr Try.underlying70 (zeroIntT w) (zd := .held (.int .i64 0)) (zp := []) rfl (keyAtS hk)
  rw [(hf k).1] at hrun
  refine ⟨v, hrun, fun x hx => ?_⟩
  rw [(hf k).2 x _ hx] at hu
  simp only [RV, Option.some.injEq, Prod.mk.injEq, DataW.held.injEq] at hu
  exact hu.1
theorem MapS.look {w : World} {b n : Nat} {f : Tx → Option Nat} (h : MapS w b n f) (k : Tx) (hk : k.length ≤ maxLen) (v : Nat) (hv : f k = some v) :
    (Instr.lookup 70 (.map (some b)) (.string ⟨k.toArray⟩) false).run Try.prog w = .ok (.int .i64 (v : Nat)) w := by
  obtain ⟨D, hD, _, hf⟩ := h
  obtain ⟨u, ps, hrun, hu⟩ := hD.lookup keyStr Try.underlying70 (zeroIntT w) (zd := .held (.int .i64 0)) (zp := []) rfl (keyAtS hk)
  rw [(hf k).2 v _ hv] at hu
  simp only [RV, Option.some.injEq, Prod.mk.injEq, DataW.held.injEq] at hu
  rw [← hu.1]; exact hrun
theorem MapS.update {w : World} {b n : Nat} {f : Tx → Option Nat} (h : MapS w b n f) (hn : n < maxLen) (k : Tx) (hk : k.length ≤ maxLen) (v : Nat) :
    ∃ w', (Instr.mapUpdate 70 (.map (some b)) (.string ⟨k.toArray⟩) (.int .i64 (v : Nat))).run Try.prog w = .ok () w' ∧ MapS w' b (n + 1) (fun j => if j = k then some v else f j) ∧ w.grownBy w' (some b) := by
  obtain ⟨D, hD, hm, hf⟩ := h
  obtain ⟨w', hrun, hD', hg⟩ := hD.update keyStr Try.underlying70 hn (keyAtS hk) (val := .int .i64 (v : Nat)) (d := .held (.int .i64 (v : Nat))) (ps := []) rfl
  refine ⟨w', hrun, ⟨_, hD', ?_, fun j => ?_⟩, hg⟩
  · obtain ⟨es, rfl⟩ := hm; exact ⟨_, rfl⟩
  · by_cases e : j = k
    · subst e
      rw [has_put_same hm (by trivial)]
      simp only [if_true, Option.isSome_some]
      refine ⟨trivial, fun u zd hu => ?_⟩
      cases hu
      exact atKey_put_same hm (by trivial) ..
    · have hne : (Lit.string j) ≠ .string k := fun h => e (by injection h)
      rw [has_put_other hne]
      simp only [if_neg e]
      refine ⟨(hf j).1, fun u zd hu => ?_⟩
      rw [atKey_put_other hne]; exact (hf j).2 u zd hu
theorem MapS.kept {w w' : World} {b n : Nat} {f : Tx → Option Nat} {row : Option Nat} (h : MapS w b n f) (hg : w.grownBy w' row) (hne : some b ≠ row) : MapS w' b n f := by
  obtain ⟨D, hD, r⟩ := h; exact ⟨D, hD.kept hg hne, r⟩
theorem MapS.lt {w : World} {b n : Nat} {f : Tx → Option Nat} (h : MapS w b n f) : b < w.heap.size := by
  obtain ⟨D, hD, r⟩ := h; exact hD.lt
theorem MapS.kb {w w' : World} {b n m g : Nat} {f : Tx → Option Nat} (h : MapS w b n f) (hk : KB m g w w') (h1 : b < m) (h2 : b ≠ g) : MapS w' b n f := by
  obtain ⟨D, ⟨es, clock, e1, rest⟩, r⟩ := h
  exact ⟨D, ⟨es, clock, (hk.block b h1 h2).trans e1, rest⟩, r⟩
end Go.Proofs.Ytbmaappambmhoaa
