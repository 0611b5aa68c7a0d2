/-
  A trie's sets, plain and in memory: a row of rows of one's own, in a box.
-/
import Derived.Test.YtbmaappambmhoaaTriY
namespace Go.Proofs.Ytbmaappambmhoaa
open Go.RowKit PK
set_option linter.unusedVariables false
set_option linter.unusedSimpArgs false

/-- A text is put into the set of its number. -/
def extE (C : List (List Tx)) (x : Nat) : List (List Tx) := C ++ List.replicate (x + 1 - C.length) []
def addE (C : List (List Tx)) (e : Tx × Nat) : List (List Tx) := (extE C e.2).modify e.2 (· ++ [e.1])
/-- A tree's texts with their leaves' numbers, in order. -/
def ents : (n : Nat) → Tx → Tr n → List (Tx × Nat)
  | 0, p, x => [(p, (show Nat from x))]
  | n + 1, p, ks => (show List (UInt8 × Tr n) from ks).flatMap fun q => ents n (p ++ [q.1]) q.2
def addAll (C : List (List Tx)) (E : List (Tx × Nat)) : List (List Tx) := E.foldl addE C
theorem addAll_app (C : List (List Tx)) (E F : List (Tx × Nat)) : addAll C (E ++ F) = addAll (addAll C E) F := List.foldl_append
theorem extE_len (C : List (List Tx)) (x : Nat) : (extE C x).length = max C.length (x + 1) := by unfold extE; simp; omega
theorem addE_len (C : List (List Tx)) (e : Tx × Nat) : (addE C e).length = max C.length (e.2 + 1) := by unfold addE; rw [List.length_modify, extE_len]

/-- A row of rows, each of its own. -/
structure Srs (w : World) (B : Nat) (vo : Value) (X : List (Value × List Tx)) : Prop where
  out : w.ownsRow B 22 1 vo X.length (X.map (·.1))
  each : ∀ x ∈ X, w.ownsRow B 9 1 x.1 x.2.length (svt x.2)
  apart : Apart (vo :: X.map (·.1))
theorem Srs.lt {w B vo X} (h : Srs w B vo X) {u : Value} (hu : u ∈ vo :: X.map (·.1)) {k : Nat} (hk : u.ownBlock = some k) : B ≤ k ∧ k < w.heap.size := by
  rcases List.mem_cons.1 hu with rfl | hu
  · exact h.out.lt k hk
  · obtain ⟨x, hx, rfl⟩ := List.mem_map.1 hu
    exact (h.each x hx).lt k hk
theorem Srs.keep {w w' B vo X} (h : Srs w B vo X) (hk : ∀ k, (∃ u ∈ vo :: X.map (·.1), u.ownBlock = some k) → w'.heap[k]? = w.heap[k]?) : Srs w' B vo X :=
  ⟨owns_blockN h.out fun k e => hk k ⟨vo, List.mem_cons_self, e⟩, fun x hx => owns_blockN (h.each x hx) fun k e => hk k ⟨x.1, List.mem_cons_of_mem _ (List.mem_map.2 ⟨x, hx, rfl⟩), e⟩, h.apart⟩
theorem Srs.below {w w' B vo X} (h : Srs w B vo X) (hb : Below w.heap.size w w') : Srs w' B vo X := h.keep fun k ⟨u, hu, hk⟩ => hb.block k (h.lt hu hk).2
/-- A box that holds such a row: block g. -/
structure SBox (w : World) (n g : Nat) (vo : Value) (X : List (Value × List Tx)) : Prop where
  lo : g < n
  hi : n ≤ w.heap.size
  ptr : w.heap[g]? = some (.cells #[vo] 37 (0, 0))
  rows : Srs w n vo X
theorem SBox.keep {w w' n g vo X} (h : SBox w n g vo X) (hb : Below w.heap.size w w') : SBox w' n g vo X :=
  ⟨h.lo, Nat.le_trans h.hi hb.size, (hb.block g (by have := h.lo; have := h.hi; omega)).trans h.ptr, h.rows.below hb⟩
theorem SBox.cell {w n g vo X} (h : SBox w n g vo X) : w.cell? ⟨g, 0, none⟩ = some vo ∧ w.frozen? ⟨g, 0, none⟩ = false ∧ g < w.heap.size := by
  refine ⟨?_, by simp [World.frozen?, h.ptr], (Array.getElem?_eq_some_iff.1 h.ptr).1⟩
  rw [cell_of_row w g _ _ _ (0, 0) h.ptr]; rfl
/-- What is as it was: all but the box and its rows' blocks; and whose blocks the rows have now. -/
structure KS (g : Nat) (w w' : World) (vo : Value) (X : List (Value × List Tx)) (vo' : Value) (X' : List (Value × List Tx)) : Prop where
  os : w'.os = w.os
  tape : w'.tape = w.tape
  output : w'.output = w.output
  size : w.heap.size ≤ w'.heap.size
  block : ∀ k, k < w.heap.size → k ≠ g → (∀ u ∈ vo :: X.map (·.1), u.ownBlock ≠ some k) → w'.heap[k]? = w.heap[k]?
  foot : ∀ u' ∈ vo' :: X'.map (·.1), ∀ k, u'.ownBlock = some k → (∃ u ∈ vo :: X.map (·.1), u.ownBlock = some k) ∨ w.heap.size ≤ k
theorem KS.refl (g : Nat) (w : World) (vo : Value) (X : List (Value × List Tx)) : KS g w w vo X vo X := ⟨rfl, rfl, rfl, Nat.le_refl _, fun _ _ _ _ => rfl, fun u hu k hk => .inl ⟨u, hu, hk⟩⟩
theorem KS.trans {g : Nat} {a b c : World} {vo v1 v2 : Value} {X X1 X2 : List (Value × List Tx)} (h : KS g a b vo X v1 X1) (k : KS g b c v1 X1 v2 X2) : KS g a c vo X v2 X2 :=
  ⟨k.os.trans h.os, k.tape.trans h.tape, k.output.trans h.output, Nat.le_trans h.size k.size, fun j hj hg hn => by
    refine (k.block j (Nat.lt_of_lt_of_le hj h.size) hg fun u hu e => ?_).trans (h.block j hj hg hn)
    rcases h.foot u hu j e with ⟨u0, hu0, e0⟩ | h1
    · exact hn u0 hu0 e0
    · omega, fun u hu j e => by
    rcases k.foot u hu j e with ⟨u1, hu1, e1⟩ | h1
    · exact h.foot u1 hu1 j e1
    · exact .inr (Nat.le_trans h.size h1)⟩
theorem KS.of_below {g : Nat} {w w' : World} (vo : Value) (X : List (Value × List Tx)) (h : Below w.heap.size w w') : KS g w w' vo X vo X := ⟨h.os, h.tape, h.output, h.size, fun k hk _ _ => h.block k hk, fun u hu k hk => .inl ⟨u, hu, hk⟩⟩
theorem KS.kb {n g : Nat} {w w' : World} {vo vo' : Value} {X X' : List (Value × List Tx)} (h : KS g w w' vo X vo' X') (hs : Srs w n vo X) (hn : n ≤ w.heap.size) : KB n g w w' :=
  ⟨h.os, h.tape, h.output, h.size, fun k hk hg => h.block k (by omega) hg fun u hu e => by have := (hs.lt hu e).1; omega⟩
/-- A new, empty row is put behind the others. -/
theorem SBox.push {w : World} {n g : Nat} {vo : Value} {X : List (Value × List Tx)} (h : SBox w n g vo X) (hl : X.length + 1 ≤ 1000000) :
    ∃ ao c w2, Sem.run Try.prog (appM #[37, 37] 37 #[vo, .slice (some ⟨w.heap.size, 0, none⟩) 1 1]) (w.alloc (.cells #[.slice none 0 0] 22)) = .ok (.slice ao (X.length + 1) c) w2 ∧
      w2.cell? ⟨g, 0, none⟩ = some vo ∧ w2.frozen? ⟨g, 0, none⟩ = false ∧ g < w2.heap.size ∧ X.length + 1 ≤ c ∧ c ≤ maxLen ∧
      SBox (w2.setCell ⟨g, 0, none⟩ (.slice ao (X.length + 1) c)) n g (.slice ao (X.length + 1) c) (X ++ [(.slice none 0 0, [])]) ∧
      KS g w (w2.setCell ⟨g, 0, none⟩ (.slice ao (X.length + 1) c)) vo X (.slice ao (X.length + 1) c) (X ++ [(.slice none 0 0, [])]) := by
  obtain ⟨i0, hi, hz0, hz1, hz2⟩ := info_parts info_strs
  have rt : Row (w.alloc (.cells #[.slice none 0 0] 22)) (w.heap.size + 1) 1 (.slice (some ⟨w.heap.size, 0, none⟩) 1 1) 1 [.slice none 0 0] := row_cellsB w [.slice none 0 0] 1 1 1 _ rfl (Nat.le_refl _) (by unfold maxLen; omega)
  obtain ⟨v', w2, h1, h2, h3, h4⟩ := run_append_row (P := Try.prog) (w.alloc (.cells #[.slice none 0 0] 22)) 37 37 n 22 i0 (.slice none 0 0) 1 24 Try.underlying37 hi hz0 hz1 hz2 rfl (by decide) vo X.length (X.map (·.1)) (h.rows.out.alloc _) (w.heap.size + 1) _ 1 [.slice none 0 0] rt (by intro u hu; rw [List.mem_singleton.1 hu]; rfl) (by unfold maxLen; omega) (by omega) (by have := h.hi; simp; omega)
  obtain ⟨ao, c, rfl, hc1, hc2⟩ := owns_valP h2
  rw [World.size_alloc] at h4
  have hgl := h.cell.2.2
  have hg0 : w2.heap[g]? = w.heap[g]? := by
    rw [h3.block g (by simp; omega) (fun e => ?_), Below.heap_alloc _ _ _ hgl]
    have := (h.rows.out.lt g e.symm).1; have := h.lo; omega
  have hptr : w2.heap[g]? = some (.cells #[vo] 37 (0, 0)) := hg0.trans h.ptr
  have hs3 := h3.size
  rw [World.size_alloc] at hs3
  have hsame : ∀ x ∈ X, ∀ k, x.1.ownBlock = some k → w2.heap[k]? = w.heap[k]? := fun x hx k hk => by
    have hl := (h.rows.lt (List.mem_cons_of_mem _ (List.mem_map.2 ⟨x, hx, rfl⟩)) hk).2
    rw [h3.block k (by simp; omega) (fun e => ?_), Below.heap_alloc _ _ _ hl]
    have h5 := (List.pairwise_cons.1 h.rows.apart).1 x.1 (List.mem_map.2 ⟨x, hx, rfl⟩)
    rcases apart_symm h5 with h5 | h5
    · rw [hk] at h5; cases h5
    · rw [hk] at h5; exact h5 e
  have hrows : Srs w2 n (.slice ao (X.length + 1) c) (X ++ [(.slice none 0 0, [])]) := by
    refine ⟨by rw [List.length_append, List.map_append]; exact h2, fun x hx => ?_, ?_⟩
    · rcases List.mem_append.1 hx with hx | hx
      · exact owns_blockN (h.rows.each x hx) fun k e => hsame x hx k e
      · rw [List.mem_singleton.1 hx]; exact World.ownsRow_nil _ _ _ _
    · have h6 : Apart ((vo :: X.map (·.1)).set 0 (.slice ao (X.length + 1) c)) := apart_set h.rows.apart 0 vo _ (w.heap.size + 1) rfl (fun u hu j hj => by have := (h.rows.lt hu hj).2; omega) h4
      rw [List.set_cons_zero] at h6
      have h7 := apart_snoc h6 (.slice none 0 0) rfl
      rw [List.map_append]; simpa using h7
  refine ⟨ao, c, w2, h1, by rw [cell_of_row w2 g _ _ _ (0, 0) hptr]; rfl, by simp [World.frozen?, hptr], by omega, hc1, hc2, ⟨h.lo, by have := h.hi; simp [World.setCell]; omega, ptr_set hptr 0 _, ?_⟩, ?_⟩
  · refine hrows.keep fun k ⟨u, hu, hk⟩ => Below.heap_setCell _ _ _ _ fun e => ?_
    have e' : k = g := e
    have := (hrows.lt hu hk).1; have := h.lo; omega
  · refine ⟨h3.os, h3.tape, h3.output, by simp [World.setCell]; omega, fun k hk hkg hn => ?_, fun u hu k hk => ?_⟩
    · rw [Below.heap_setCell _ _ _ _ (by show k ≠ g; exact hkg), h3.block k (by simp; omega) (fun e => hn vo List.mem_cons_self e.symm), Below.heap_alloc _ _ _ hk]
    · rcases List.mem_cons.1 hu with rfl | hu
      · rcases h4 with h5 | h5
        · exact .inl ⟨vo, List.mem_cons_self, by rw [← h5]; exact hk⟩
        · rw [h5] at hk; cases hk; exact .inr (by omega)
      · rw [List.map_append, List.mem_append] at hu
        rcases hu with hu | hu
        · exact .inl ⟨u, List.mem_cons_of_mem _ hu, hk⟩
        · simp only [List.map_cons, List.map_nil, List.mem_singleton] at hu
          subst hu; cases hk
end Go.Proofs.Ytbmaappambmhoaa
