/-
  A trie that is being made, in memory: its nodes, each with rows of its own; the maker that holds it; what keeps them.
-/
import Derived.Test.YtbmaappambmhoaaTriM
import Derived.Test.YtbmaappambmhoaaPackJ
import Derived.Laws.Rows
namespace Go.Proofs.Ytbmaappambmhoaa
open Go.RowKit PK
set_option linter.unusedVariables false

/-- A node as it lies. -/
structure Cn where
  leaf : Int
  tv : Value
  kv : Value
  toks : List Int
  kids : List Int
def outN (X : List Cn) : List Value := X.flatMap fun x => [.int .i64 x.leaf, x.tv, x.kv]
def blkN (X : List Cn) : List Value := X.flatMap fun x => [x.tv, x.kv]
def ndsOf (X : List Cn) : List Nd := X.map fun x => ⟨x.leaf, x.toks, x.kids⟩
theorem outN_length (X : List Cn) : (outN X).length = X.length * 3 := by
  induction X with
  | nil => rfl
  | cons t r ih =>
    have : outN (t :: r) = [.int .i64 t.leaf, t.tv, t.kv] ++ outN r := rfl
    rw [this, List.length_append, ih]; simp; omega
theorem outN_snoc (X : List Cn) (x : Cn) : outN (X ++ [x]) = outN X ++ [.int .i64 x.leaf, x.tv, x.kv] := by simp [outN]
theorem blkN_snoc (X : List Cn) (x : Cn) : blkN (X ++ [x]) = blkN X ++ [x.tv, x.kv] := by simp [blkN]
theorem ndsOf_snoc (X : List Cn) (x : Cn) : ndsOf (X ++ [x]) = ndsOf X ++ [⟨x.leaf, x.toks, x.kids⟩] := by simp [ndsOf]
theorem ndsOf_len (X : List Cn) : (ndsOf X).length = X.length := by simp [ndsOf]
theorem outN_at (X : List Cn) (k : Nat) (hk : k < X.length) : (outN X)[k * 3]? = some (.int .i64 X[k].leaf) ∧ (outN X)[k * 3 + 1]? = some X[k].tv ∧ (outN X)[k * 3 + 2]? = some X[k].kv := by
  induction X generalizing k with
  | nil => simp at hk
  | cons t r ih =>
    have e : outN (t :: r) = [.int .i64 t.leaf, t.tv, t.kv] ++ outN r := rfl
    rw [e]
    cases k with
    | zero => exact ⟨rfl, rfl, rfl⟩
    | succ k =>
      have := ih k (by simpa using hk)
      rw [List.getElem?_append_right (by simp; omega), List.getElem?_append_right (by simp; omega), List.getElem?_append_right (by simp; omega)]
      simpa [Nat.succ_mul, Nat.add_sub_cancel] using this
theorem outN_set (X : List Cn) (k : Nat) (hk : k < X.length) (x : Cn) : outN (X.set k x) = (((outN X).set (k * 3) (.int .i64 x.leaf)).set (k * 3 + 1) x.tv).set (k * 3 + 2) x.kv := by
  induction X generalizing k with
  | nil => simp at hk
  | cons t r ih =>
    have e : outN (t :: r) = (.int .i64 t.leaf) :: t.tv :: t.kv :: outN r := rfl
    cases k with
    | zero => rfl
    | succ k =>
      rw [e, List.set_cons_succ]
      have e2 : outN (t :: r.set k x) = (.int .i64 t.leaf) :: t.tv :: t.kv :: outN (r.set k x) := rfl
      rw [e2, ih k (by simpa using hk), Nat.succ_mul]
      rfl
theorem blkN_mem (X : List Cn) (u : Value) : u ∈ blkN X ↔ ∃ x ∈ X, u = x.tv ∨ u = x.kv := by
  simp [blkN, List.mem_flatMap]
/-- No two of some slices lie in one block. -/
def Apart (L : List Value) : Prop := L.Pairwise fun a b => a.ownBlock = none ∨ a.ownBlock ≠ b.ownBlock
theorem apart_symm {a b : Value} (h : a.ownBlock = none ∨ a.ownBlock ≠ b.ownBlock) : b.ownBlock = none ∨ b.ownBlock ≠ a.ownBlock := by
  rcases h with h | h
  · cases hb : b.ownBlock with
    | none => exact .inl rfl
    | some k => rw [h]; exact .inr (by simp)
  · exact .inr fun e => h e.symm
/-- Nodes in memory. -/
structure Nds (w : World) (B : Nat) (vo : Value) (X : List Cn) : Prop where
  out : w.ownsRow B 59 3 vo X.length (outN X)
  each : ∀ x ∈ X, w.ownsRow B 3 1 x.tv x.toks.length (ints x.toks) ∧ w.ownsRow B 3 1 x.kv x.kids.length (ints x.kids)
  apart : Apart (vo :: blkN X)
theorem Nds.lt {w B vo X} (h : Nds w B vo X) {u : Value} (hu : u ∈ vo :: blkN X) {k : Nat} (hk : u.ownBlock = some k) : B ≤ k ∧ k < w.heap.size := by
  rcases List.mem_cons.1 hu with rfl | hu
  · exact h.out.lt k hk
  · obtain ⟨x, hx, rfl | rfl⟩ := (blkN_mem X u).1 hu
    · exact (h.each x hx).1.lt k hk
    · exact (h.each x hx).2.lt k hk
theorem owns_blockN {w w' : World} {base e size v n xs} (h : w.ownsRow base e size v n xs) (hk : ∀ k, v.ownBlock = some k → w'.heap[k]? = w.heap[k]?) : w'.ownsRow base e size v n xs := by
  refine ⟨h.1, ?_⟩
  rcases h.2 with hn | ⟨g, cap, cur, rfl, hb', hg, rest⟩
  · exact .inl hn
  · exact .inr ⟨g, cap, cur, rfl, hb', by rw [hk g rfl]; exact hg, rest⟩
theorem Nds.keep {w w' B vo X} (h : Nds w B vo X) (hk : ∀ k, (∃ u ∈ vo :: blkN X, u.ownBlock = some k) → w'.heap[k]? = w.heap[k]?) : Nds w' B vo X :=
  ⟨owns_blockN h.out fun k e => hk k ⟨vo, List.mem_cons_self, e⟩, fun x hx => ⟨owns_blockN (h.each x hx).1 fun k e => hk k ⟨x.tv, List.mem_cons_of_mem _ ((blkN_mem X _).2 ⟨x, hx, .inl rfl⟩), e⟩, owns_blockN (h.each x hx).2 fun k e => hk k ⟨x.kv, List.mem_cons_of_mem _ ((blkN_mem X _).2 ⟨x, hx, .inr rfl⟩), e⟩⟩, h.apart⟩
theorem Nds.below {w w' B vo X} (h : Nds w B vo X) (hb : Below w.heap.size w w') : Nds w' B vo X := h.keep fun k ⟨u, hu, hk⟩ => hb.block k (h.lt hu hk).2
/-- What is as it was: all below block n but block g. -/
structure KB (n g : Nat) (w w' : World) : Prop where
  os : w'.os = w.os
  tape : w'.tape = w.tape
  output : w'.output = w.output
  size : w.heap.size ≤ w'.heap.size
  block : ∀ k, k < n → k ≠ g → w'.heap[k]? = w.heap[k]?
theorem KB.refl (n g : Nat) (w : World) : KB n g w w := ⟨rfl, rfl, rfl, Nat.le_refl _, fun _ _ _ => rfl⟩
theorem KB.trans {n g : Nat} {a b c : World} (h : KB n g a b) (k : KB n g b c) : KB n g a c :=
  ⟨k.os.trans h.os, k.tape.trans h.tape, k.output.trans h.output, Nat.le_trans h.size k.size, fun j hj hg => (k.block j hj hg).trans (h.block j hj hg)⟩
theorem KB.of_below {n g : Nat} {w w' : World} (h : Below n w w') : KB n g w w' := ⟨h.os, h.tape, h.output, h.size, fun j hj _ => h.block j hj⟩
theorem KB.below {n g B : Nat} {w w' : World} (h : KB n g w w') (h1 : B ≤ g) (h2 : B ≤ n) : Below B w w' := ⟨h.os, h.tape, h.output, h.size, fun j hj => h.block j (by omega) (by omega)⟩
theorem KB.grown {n g : Nat} {a w w' : World} {row : Option Nat} (h : KB n g a w) (hg : w.grownBy w' row) (hn : n ≤ w.heap.size) (hr : ∀ k, row = some k → n ≤ k ∨ k = g) : KB n g a w' :=
  ⟨hg.os.trans h.os, hg.tape.trans h.tape, hg.output.trans h.output, Nat.le_trans h.size hg.size, fun j hj hne => (hg.block j (by omega) (fun e => by rcases hr j e.symm with h | h <;> omega)).trans (h.block j hj hne)⟩
theorem KB.setCell {n g : Nat} {a w : World} (h : KB n g a w) {p : Addr} (hp : n ≤ p.block ∨ p.block = g) (u : Value) : KB n g a (w.setCell p u) :=
  ⟨h.os, h.tape, h.output, by simpa [World.setCell] using h.size, fun j hj hs => by
    rw [Below.heap_setCell _ _ _ _ (fun e => by subst e; rcases hp with h | h <;> omega)]; exact h.block j hj hs⟩
theorem KB.drews {n g : Nat} {a w : World} (h : KB n g a w) (m : Nat) : KB n g a (w.drewN m) := ⟨h.os, h.tape, h.output, h.size, h.block⟩
/-- A maker: a block of four cells, of which the second holds the nodes. -/
structure MSt (w : World) (n g : Nat) (K : Int) (mv vo : Value) (X : List Cn) : Prop where
  lo : g < n
  hi : n ≤ w.heap.size
  ptr : w.heap[g]? = some (.cells #[.int .i64 K, vo, mv, .bool false] 73 (0, 0))
  nds : Nds w n vo X
theorem MSt.keep {w w' n g K mv vo X} (h : MSt w n g K mv vo X) (hb : Below w.heap.size w w') : MSt w' n g K mv vo X :=
  ⟨h.lo, Nat.le_trans h.hi hb.size, (hb.block g (by have := h.lo; have := h.hi; omega)).trans h.ptr, h.nds.below hb⟩
theorem MSt.cell {w n g K mv vo X} (h : MSt w n g K mv vo X) : w.cell? ⟨g, 0, none⟩ = some (.int .i64 K) ∧ w.cell? ⟨g, 1, none⟩ = some vo ∧ w.cell? ⟨g, 2, none⟩ = some mv ∧ w.cell? ⟨g, 3, none⟩ = some (.bool false) ∧ (∀ j, w.frozen? ⟨g, j, none⟩ = false) ∧ g < w.heap.size := by
  refine ⟨?_, ?_, ?_, ?_, fun j => by simp [World.frozen?, h.ptr], (Array.getElem?_eq_some_iff.1 h.ptr).1⟩ <;> (rw [cell_of_row w g _ _ _ (0, 0) h.ptr]; rfl)
theorem owns_cellN {w : World} {base e size ao n c xs} (h : w.ownsRow base e size (.slice ao n c) n xs) (hn : 0 < n) : ∃ g, ao = some ⟨g, 0, none⟩ ∧ base ≤ g ∧ g < w.heap.size ∧ (∀ j u, xs[j]? = some u → w.cell? ⟨g, j, none⟩ = some u) ∧ (∀ j, w.frozen? ⟨g, j, none⟩ = false) := by
  rcases h.2 with ⟨_, h0⟩ | ⟨g, cap, cur, hv, hb', hg, h1, h2, h3, h4⟩
  · omega
  · simp only [Value.slice.injEq] at hv
    obtain ⟨rfl, _, rfl⟩ := hv
    refine ⟨g, rfl, hb', (Array.getElem?_eq_some_iff.1 hg).1, fun j u hu => ?_, fun j => by simp [World.frozen?, hg]⟩
    rw [cell_of_row w g j cur e (0, 0) hg]
    rw [← h4, List.getElem?_take] at hu
    split at hu
    · simpa using hu
    · cases hu
/-- A node's cells. -/
theorem Nds.at {w B X ao c} (h : Nds w B (.slice ao X.length c) X) (i : Nat) (hi : i < X.length) : ∃ b, ao = some ⟨b, 0, none⟩ ∧ B ≤ b ∧ b < w.heap.size ∧ w.cell? ⟨b, i * 3, none⟩ = some (.int .i64 X[i].leaf) ∧ w.cell? ⟨b, i * 3 + 1, none⟩ = some X[i].tv ∧ w.cell? ⟨b, i * 3 + 2, none⟩ = some X[i].kv ∧ (∀ j, w.frozen? ⟨b, j, none⟩ = false) := by
  obtain ⟨g, rfl, hb, hl, hc, hf⟩ := owns_cellN h.out (by omega)
  obtain ⟨h1, h2, h3⟩ := outN_at X i hi
  exact ⟨g, rfl, hb, hl, hc _ _ h1, hc _ _ h2, hc _ _ h3, hf⟩
end Go.Proofs.Ytbmaappambmhoaa
