/-
  Stores in memory: objects, each with a row of fields of its own; what keeps them, and what may change.
-/
import Derived.Test.YtfmhdmgkbaicbaaSl
import Derived.Laws.Rows
namespace Go.Proofs.Ytfmhdmgkbaicbaa
open Go.RowKit
set_option linter.unusedVariables false

/-- An object as it lies: its type's number, its fields' slice, and what that holds. -/
structure Cel where
  ty : Int
  v : Value
  L : List (Int × Int)
def valC (L : List (Int × Int)) : List Value := L.flatMap fun p => [.int .i64 p.1, .int .i64 p.2]
def outC (X : List Cel) : List Value := X.flatMap fun x => [.int .i64 x.ty, x.v]
theorem valC_length (L : List (Int × Int)) : (valC L).length = L.length * 2 := by
  induction L with
  | nil => rfl
  | cons t r ih =>
    have : valC (t :: r) = [.int .i64 t.1, .int .i64 t.2] ++ valC r := rfl
    rw [this, List.length_append, ih]; simp; omega
theorem outC_length (X : List Cel) : (outC X).length = X.length * 2 := by
  induction X with
  | nil => rfl
  | cons t r ih =>
    have : outC (t :: r) = [.int .i64 t.ty, t.v] ++ outC r := rfl
    rw [this, List.length_append, ih]; simp; omega
theorem valC_snoc (L : List (Int × Int)) (p : Int × Int) : valC (L ++ [p]) = valC L ++ [.int .i64 p.1, .int .i64 p.2] := by simp [valC]
theorem outC_snoc (X : List Cel) (x : Cel) : outC (X ++ [x]) = outC X ++ [.int .i64 x.ty, x.v] := by simp [outC]
theorem valC_one (L : List (Int × Int)) : ∀ u ∈ valC L, u.oneCell' = true := by
  intro u hu
  simp only [valC, List.mem_flatMap, List.mem_cons, List.not_mem_nil, or_false] at hu
  obtain ⟨p, _, rfl | rfl⟩ := hu <;> rfl
theorem valC_at (L : List (Int × Int)) (k : Nat) (hk : k < L.length) : (valC L)[k * 2]? = some (.int .i64 L[k].1) ∧ (valC L)[k * 2 + 1]? = some (.int .i64 L[k].2) := by
  induction L generalizing k with
  | nil => simp at hk
  | cons t r ih =>
    have e : valC (t :: r) = [.int .i64 t.1, .int .i64 t.2] ++ valC r := rfl
    rw [e]
    cases k with
    | zero => exact ⟨rfl, rfl⟩
    | succ k =>
      have := ih k (by simpa using hk)
      rw [List.getElem?_append_right (by simp; omega), List.getElem?_append_right (by simp; omega)]
      simpa [Nat.succ_mul, Nat.add_sub_cancel] using this
theorem outC_at (X : List Cel) (k : Nat) (hk : k < X.length) : (outC X)[k * 2]? = some (.int .i64 X[k].ty) ∧ (outC X)[k * 2 + 1]? = some X[k].v := by
  induction X generalizing k with
  | nil => simp at hk
  | cons t r ih =>
    have e : outC (t :: r) = [.int .i64 t.ty, t.v] ++ outC r := rfl
    rw [e]
    cases k with
    | zero => exact ⟨rfl, rfl⟩
    | succ k =>
      have := ih k (by simpa using hk)
      rw [List.getElem?_append_right (by simp; omega), List.getElem?_append_right (by simp; omega)]
      simpa [Nat.succ_mul, Nat.add_sub_cancel] using this
theorem valC_set (L : List (Int × Int)) (k : Nat) (hk : k < L.length) (p : Int × Int) : valC (L.set k p) = ((valC L).set (k * 2) (.int .i64 p.1)).set (k * 2 + 1) (.int .i64 p.2) := by
  induction L generalizing k with
  | nil => simp at hk
  | cons t r ih =>
    have e : valC (t :: r) = (.int .i64 t.1) :: (.int .i64 t.2) :: valC r := rfl
    cases k with
    | zero => rfl
    | succ k =>
      rw [e, List.set_cons_succ]
      have e2 : valC (t :: r.set k p) = (.int .i64 t.1) :: (.int .i64 t.2) :: valC (r.set k p) := rfl
      rw [e2, ih k (by simpa using hk), Nat.succ_mul]
      rfl

/-- What is as it was: all but the blocks of S, and what is new. -/
structure Keep (S : Nat → Prop) (w w' : World) : Prop where
  os : w'.os = w.os
  tape : w'.tape = w.tape
  output : w'.output = w.output
  size : w.heap.size ≤ w'.heap.size
  block : ∀ k, k < w.heap.size → ¬ S k → w'.heap[k]? = w.heap[k]?
theorem Keep.refl (S : Nat → Prop) (w : World) : Keep S w w := ⟨rfl, rfl, rfl, Nat.le_refl _, fun _ _ _ => rfl⟩
theorem Keep.trans {S T : Nat → Prop} {a b c : World} (h : Keep S a b) (k : Keep T b c) (hT : ∀ j, j < a.heap.size → T j → S j) : Keep S a c :=
  ⟨k.os.trans h.os, k.tape.trans h.tape, k.output.trans h.output, Nat.le_trans h.size k.size, fun j hj hS => (k.block j (Nat.lt_of_lt_of_le hj h.size) (fun ht => hS (hT j hj ht))).trans (h.block j hj hS)⟩
theorem Keep.of_below {S : Nat → Prop} {w w' : World} (h : Below w.heap.size w w') : Keep S w w' := ⟨h.os, h.tape, h.output, h.size, fun j hj _ => h.block j hj⟩
theorem Keep.of_grown {S : Nat → Prop} {w w' : World} {row : Option Nat} (h : w.grownBy w' row) (hS : ∀ k, row = some k → k < w.heap.size → S k) : Keep S w w' :=
  ⟨h.os, h.tape, h.output, h.size, fun j hj hs => h.block j hj (fun e => hs (hS j e.symm hj))⟩
theorem Keep.mono {S T : Nat → Prop} {w w' : World} (h : Keep S w w') (hT : ∀ j, j < w.heap.size → S j → T j) : Keep T w w' := ⟨h.os, h.tape, h.output, h.size, fun j hj ht => h.block j hj (fun hs => ht (hT j hj hs))⟩
theorem Keep.below {S : Nat → Prop} {B : Nat} {w w' : World} (h : Keep S w w') (hS : ∀ k, S k → B ≤ k) (hB : B ≤ w.heap.size) : Below B w w' :=
  ⟨h.os, h.tape, h.output, h.size, fun j hj => h.block j (by omega) (fun hs => by have := hS j hs; omega)⟩
theorem Keep.setCell {S : Nat → Prop} {a w : World} (h : Keep S a w) {p : Addr} (hp : p.block < a.heap.size → S p.block) (u : Value) : Keep S a (w.setCell p u) :=
  ⟨h.os, h.tape, h.output, by simpa [World.setCell] using h.size, fun j hj hs => by
    rw [Below.heap_setCell _ _ _ _ (fun e => by subst e; exact hs (hp hj))]; exact h.block j hj hs⟩
theorem Keep.drew {S : Nat → Prop} {a w : World} (h : Keep S a w) : Keep S a w.drew := ⟨h.os, h.tape, h.output, h.size, h.block⟩
theorem Keep.alloc {S : Nat → Prop} {a w : World} (h : Keep S a w) (o : Obj) : Keep S a (w.alloc o) :=
  ⟨h.os, h.tape, h.output, by have := h.size; simp; omega, fun j hj hs => by rw [Below.heap_alloc _ _ _ (Nat.lt_of_lt_of_le hj h.size)]; exact h.block j hj hs⟩

theorem owns_block {w w' : World} {base e size v n xs} (h : w.ownsRow base e size v n xs) (hk : ∀ k, v.ownBlock = some k → w'.heap[k]? = w.heap[k]?) : w'.ownsRow base e size v n xs := by
  refine ⟨h.1, ?_⟩
  rcases h.2 with hn | ⟨g, cap, cur, rfl, hb', hg, rest⟩
  · exact .inl hn
  · exact .inr ⟨g, cap, cur, rfl, hb', by rw [hk g rfl]; exact hg, rest⟩
theorem owns_base {w : World} {base base' e size v n xs} (h : w.ownsRow base e size v n xs) (hb : base' ≤ base) : w.ownsRow base' e size v n xs := by
  refine ⟨h.1, ?_⟩
  rcases h.2 with hn | ⟨g, cap, cur, rfl, hb', rest⟩
  · exact .inl hn
  · exact .inr ⟨g, cap, cur, rfl, Nat.le_trans hb hb', rest⟩
/-- What a row's value looks like, and its cells. -/
theorem owns_val {w : World} {base e size v n xs} (h : w.ownsRow base e size v n xs) : ∃ ao c, v = .slice ao n c ∧ n ≤ c ∧ c ≤ maxLen := by
  rcases h.2 with ⟨rfl, rfl⟩ | ⟨g, cap, cur, rfl, hb', hg, h1, h2, _⟩
  · exact ⟨none, 0, rfl, Nat.le_refl _, Nat.zero_le _⟩
  · exact ⟨_, cap, rfl, h1, h2⟩
theorem owns_cell {w : World} {base e size ao n c xs} (h : w.ownsRow base e size (.slice ao n c) n xs) (hn : 0 < n) : ∃ g, ao = some ⟨g, 0, none⟩ ∧ base ≤ g ∧ g < w.heap.size ∧ (∀ j u, xs[j]? = some u → w.cell? ⟨g, j, none⟩ = some u) ∧ (∀ j, w.frozen? ⟨g, j, none⟩ = false) := by
  rcases h.2 with ⟨_, h0⟩ | ⟨g, cap, cur, hv, hb', hg, h1, h2, h3, h4⟩
  · omega
  · simp only [Value.slice.injEq] at hv
    obtain ⟨rfl, _, rfl⟩ := hv
    refine ⟨g, rfl, hb', (Array.getElem?_eq_some_iff.1 hg).1, fun j u hu => ?_, fun j => by simp [World.frozen?, hg]⟩
    rw [cell_of_row w g j cur e (0, 0) hg]
    rw [← h4, List.getElem?_take] at hu
    split at hu
    · simpa using hu
    · cases hu
theorem owns_cap {w : World} {base e size ao n c xs} (h : w.ownsRow base e size (.slice ao n c) n xs) : n ≤ c ∧ c ≤ maxLen := by
  obtain ⟨ao', c', hv, h1, h2⟩ := owns_val h
  simp only [Value.slice.injEq] at hv
  obtain ⟨rfl, _, rfl⟩ := hv
  exact ⟨h1, h2⟩

/-- A row of objects, each with fields of its own; no two of these rows are one. -/
structure Objs (w : World) (B : Nat) (vo : Value) (X : List Cel) : Prop where
  out : w.ownsRow B 49 2 vo X.length (outC X)
  each : ∀ x ∈ X, w.ownsRow B 30 2 x.v x.L.length (valC x.L) ∧ (x.v.ownBlock = none ∨ x.v.ownBlock ≠ vo.ownBlock)
  apart : X.Pairwise fun x y => x.v.ownBlock = none ∨ x.v.ownBlock ≠ y.v.ownBlock
/-- The blocks of such a row. -/
def ofoot (vo : Value) (X : List Cel) (k : Nat) : Prop := vo.ownBlock = some k ∨ ∃ x ∈ X, x.v.ownBlock = some k
theorem Objs.lt {w B vo X} (h : Objs w B vo X) {k : Nat} (hk : ofoot vo X k) : B ≤ k ∧ k < w.heap.size := by
  rcases hk with hk | ⟨x, hx, hk⟩
  · exact h.out.lt k hk
  · exact (h.each x hx).1.lt k hk
theorem Objs.keep {w w' B vo X} (h : Objs w B vo X) (hk : ∀ k, ofoot vo X k → w'.heap[k]? = w.heap[k]?) : Objs w' B vo X :=
  ⟨owns_block h.out fun k e => hk k (.inl e), fun x hx => ⟨owns_block (h.each x hx).1 fun k e => hk k (.inr ⟨x, hx, e⟩), (h.each x hx).2⟩, h.apart⟩
theorem Objs.below {w w' B vo X} (h : Objs w B vo X) (hb : Below w.heap.size w w') : Objs w' B vo X := h.keep fun k hk => hb.block k (h.lt hk).2
theorem Objs.kept {w w' B vo X} {S : Nat → Prop} (h : Objs w B vo X) (hK : Keep S w w') (hS : ∀ k, ofoot vo X k → ¬ S k) : Objs w' B vo X := h.keep fun k hk => hK.block k (h.lt hk).2 (hS k hk)
/-- A store: a cell that holds such a row. -/
structure St (T : TypeId) (w : World) (B g : Nat) (vo : Value) (X : List Cel) : Prop where
  ge : B ≤ g
  ptr : w.heap[g]? = some (.cells #[vo] T (0, 0))
  objs : Objs w B vo X
  far : ¬ ofoot vo X g
def foot (g : Nat) (vo : Value) (X : List Cel) (k : Nat) : Prop := k = g ∨ ofoot vo X k
theorem St.gl {T w B g vo X} (h : St T w B g vo X) : g < w.heap.size := (Array.getElem?_eq_some_iff.1 h.ptr).1
theorem St.lt {T w B g vo X} (h : St T w B g vo X) {k : Nat} (hk : foot g vo X k) : B ≤ k ∧ k < w.heap.size := by
  rcases hk with rfl | hk
  · exact ⟨h.ge, h.gl⟩
  · exact h.objs.lt hk
theorem St.keep {T w w' B g vo X} (h : St T w B g vo X) (hk : ∀ k, foot g vo X k → w'.heap[k]? = w.heap[k]?) : St T w' B g vo X :=
  ⟨h.ge, by rw [hk g (.inl rfl)]; exact h.ptr, h.objs.keep fun k e => hk k (.inr e), h.far⟩
theorem St.below {T w w' B g vo X} (h : St T w B g vo X) (hb : Below w.heap.size w w') : St T w' B g vo X := h.keep fun k hk => hb.block k (h.lt hk).2
theorem St.kept {T w w' B g vo X} {S : Nat → Prop} (h : St T w B g vo X) (hK : Keep S w w') (hS : ∀ k, foot g vo X k → ¬ S k) : St T w' B g vo X := h.keep fun k hk => hK.block k (h.lt hk).2 (hS k hk)
theorem St.cell {T w B g vo X} (h : St T w B g vo X) : w.cell? ⟨g, 0, none⟩ = some vo ∧ w.frozen? ⟨g, 0, none⟩ = false := by
  refine ⟨?_, by simp [World.frozen?, h.ptr]⟩
  rw [cell_of_row w g 0 _ _ (0, 0) h.ptr]; rfl
/-- One object's cells. -/
theorem Objs.at {w B X ao c} (h : Objs w B (.slice ao X.length c) X) (i : Nat) (hi : i < X.length) : ∃ b, ao = some ⟨b, 0, none⟩ ∧ B ≤ b ∧ b < w.heap.size ∧ w.cell? ⟨b, i * 2, none⟩ = some (.int .i64 X[i].ty) ∧ w.cell? ⟨b, i * 2 + 1, none⟩ = some X[i].v ∧ w.frozen? ⟨b, i * 2, none⟩ = false ∧ w.frozen? ⟨b, i * 2 + 1, none⟩ = false := by
  obtain ⟨g, rfl, hb, hl, hc, hf⟩ := owns_cell h.out (by omega)
  obtain ⟨h1, h2⟩ := outC_at X i hi
  exact ⟨g, rfl, hb, hl, hc _ _ h1, hc _ _ h2, hf _, hf _⟩
theorem Objs.vat {w B vo X} (h : Objs w B vo X) (i : Nat) (hi : i < X.length) : ∃ ao c, X[i].v = .slice ao X[i].L.length c ∧ X[i].L.length ≤ c ∧ c ≤ maxLen := owns_val (h.each _ (List.getElem_mem hi)).1
theorem Objs.field {w B vo X} (h : Objs w B vo X) (i : Nat) (hi : i < X.length) {ao : Option Addr} {c : Nat} (hv : X[i].v = .slice ao X[i].L.length c) (k : Nat) (hk : k < X[i].L.length) : ∃ b, ao = some ⟨b, 0, none⟩ ∧ B ≤ b ∧ b < w.heap.size ∧ w.cell? ⟨b, k * 2, none⟩ = some (.int .i64 X[i].L[k].1) ∧ w.cell? ⟨b, k * 2 + 1, none⟩ = some (.int .i64 X[i].L[k].2) ∧ w.frozen? ⟨b, k * 2, none⟩ = false ∧ w.frozen? ⟨b, k * 2 + 1, none⟩ = false := by
  have ho := (h.each _ (List.getElem_mem hi)).1
  rw [hv] at ho
  obtain ⟨g, rfl, hb, hl, hc, hf⟩ := owns_cell ho (by omega)
  obtain ⟨h1, h2⟩ := valC_at X[i].L k hk
  exact ⟨g, rfl, hb, hl, hc _ _ h1, hc _ _ h2, hf _, hf _⟩
/-- What the objects are, wherever they lie. -/
def objOf (X : List Cel) : List (Int × List (Int × Int)) := X.map fun x => (x.ty, x.L)
end Go.Proofs.Ytfmhdmgkbaicbaa
