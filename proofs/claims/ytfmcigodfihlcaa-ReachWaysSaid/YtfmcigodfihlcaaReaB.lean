/-
  A row of rows of ints in a box.
-/
import Derived.Test.YtfmcigodfihlcaaReaA
import Derived.Test.YtfmcigodfihlcaaBnfD
namespace Go.Proofs.Ytfmcigodfihlcaa
open Go.RowKit PK
set_option linter.unusedVariables false
set_option linter.unusedSimpArgs false

def boxV (g : Nat) : Value := .slice (some ⟨g, 0, none⟩) 1 1
/-- A box (block g) that holds a row of rows of its own. -/
structure Ofs (w : World) (n g : Nat) (vo : Value) (X : List (Value × List Int)) : Prop where
  hi : n ≤ w.heap.size
  gn : n ≤ g
  ptr : w.heap[g]? = some (.cells #[vo] 77 (0, 0))
  out : w.ownsRow n 22 1 vo X.length (X.map (·.1))
  each : ∀ x ∈ X, w.ownsRow n 3 1 x.1 x.2.length (ints x.2)
  apart : Apart (boxV g :: vo :: X.map (·.1))
theorem Ofs.lt {w n g vo X} (h : Ofs w n g vo X) {u : Value} (hu : u ∈ boxV g :: vo :: X.map (·.1)) {k : Nat} (hk : u.ownBlock = some k) : n ≤ k ∧ k < w.heap.size := by
  rcases List.mem_cons.1 hu with rfl | hu
  · have e : k = g := by cases hk; rfl
    subst e
    exact ⟨h.gn, (Array.getElem?_eq_some_iff.1 h.ptr).1⟩
  · rcases List.mem_cons.1 hu with rfl | hu
    · exact h.out.lt k hk
    · obtain ⟨x, hx, rfl⟩ := List.mem_map.1 hu
      exact (h.each x hx).lt k hk
theorem Ofs.keepB {w w' n g vo X} (h : Ofs w n g vo X) (hs : w.heap.size ≤ w'.heap.size) (hk : ∀ k, (∃ u ∈ boxV g :: vo :: X.map (·.1), u.ownBlock = some k) → w'.heap[k]? = w.heap[k]?) : Ofs w' n g vo X :=
  ⟨Nat.le_trans h.hi hs, h.gn, (hk g ⟨_, List.mem_cons_self, rfl⟩).trans h.ptr, owns_blockN h.out fun k e => hk k ⟨vo, List.mem_cons_of_mem _ List.mem_cons_self, e⟩,
    fun x hx => owns_blockN (h.each x hx) fun k e => hk k ⟨x.1, List.mem_cons_of_mem _ (List.mem_cons_of_mem _ (List.mem_map.2 ⟨x, hx, rfl⟩)), e⟩, h.apart⟩
theorem Ofs.below {w w' n g vo X} (h : Ofs w n g vo X) (hb : Below w.heap.size w w') : Ofs w' n g vo X := h.keepB hb.size fun k ⟨u, hu, hk⟩ => hb.block k (h.lt hu hk).2
theorem Ofs.box {w n g vo X} (h : Ofs w n g vo X) : w.cell? ⟨g, 0, none⟩ = some vo ∧ w.frozen? ⟨g, 0, none⟩ = false ∧ g < w.heap.size := by
  refine ⟨?_, by simp [World.frozen?, h.ptr], (Array.getElem?_eq_some_iff.1 h.ptr).1⟩
  rw [cell_of_row w g _ _ _ (0, 0) h.ptr]; rfl
theorem map_atI (X : List (Value × List Int)) (i : Nat) (x : Value × List Int) (hx : X[i]? = some x) : (X.map (·.1))[i]? = some x.1 := by rw [List.getElem?_map, hx]; rfl
theorem Ofs.at {w n g X ao c} (h : Ofs w n g (.slice ao X.length c) X) (i : Nat) (x : Value × List Int) (hx : X[i]? = some x) : ∃ b, ao = some ⟨b, 0, none⟩ ∧ n ≤ b ∧ b < w.heap.size ∧ w.cell? ⟨b, i, none⟩ = some x.1 ∧ (∀ j, w.frozen? ⟨b, j, none⟩ = false) ∧ b ≠ g := by
  have hi := (List.getElem?_eq_some_iff.1 hx).1
  obtain ⟨d, rfl, hb, hl, hc, hf⟩ := owns_cellN h.out (by omega)
  refine ⟨d, rfl, hb, hl, hc _ _ (map_atI X i x hx), hf, fun e => ?_⟩
  have h1 := (List.pairwise_cons.1 h.apart).1 _ List.mem_cons_self
  rcases h1 with h1 | h1
  · cases h1
  · exact h1 (by rw [e]; rfl)
/-- Another row stands in the place of one: what it needs of the world between. -/
theorem Ofs.repl {w w2 : World} {n g b c : Nat} {X : List (Value × List Int)} (h : Ofs w n g (.slice (some ⟨b, 0, none⟩) X.length c) X) (i : Nat) (x : Value × List Int) (hx : X[i]? = some x) (v : Value) (l : List Int)
    (hs : w.heap.size ≤ w2.heap.size) (hkeep : ∀ k, k < w.heap.size → some k ≠ x.1.ownBlock → w2.heap[k]? = w.heap[k]?) (hv : w2.ownsRow n 3 1 v l.length (ints l)) (h4 : v.ownBlock = x.1.ownBlock ∨ ∃ m, v.ownBlock = some m ∧ w.heap.size ≤ m) :
    w2.cell? ⟨g, 0, none⟩ = some (.slice (some ⟨b, 0, none⟩) X.length c) ∧ w2.cell? ⟨b, i, none⟩ = some x.1 ∧ w2.frozen? ⟨b, i, none⟩ = false ∧ b < w2.heap.size ∧
      Ofs (w2.setCell ⟨b, i, none⟩ v) n g (.slice (some ⟨b, 0, none⟩) X.length c) (X.set i (v, l)) := by
  obtain ⟨hi, hxe⟩ := List.getElem?_eq_some_iff.1 hx
  have hmem := List.mem_of_getElem? hx
  have hbl := h.out.lt b rfl
  have hgl := h.box.2.2
  have eg : (boxV g :: (.slice (some ⟨b, 0, none⟩) X.length c : Value) :: X.map (·.1))[0]? = some (boxV g) := rfl
  have e0 : (boxV g :: (.slice (some ⟨b, 0, none⟩) X.length c : Value) :: X.map (·.1))[1]? = some (.slice (some ⟨b, 0, none⟩) X.length c) := rfl
  have ex : (boxV g :: (.slice (some ⟨b, 0, none⟩) X.length c : Value) :: X.map (·.1))[i + 1 + 1]? = some x.1 := by rw [List.getElem?_cons_succ, List.getElem?_cons_succ]; exact map_atI X i x hx
  have hne : ∀ {p q : Nat} {a d : Value} {k : Nat}, (boxV g :: (.slice (some ⟨b, 0, none⟩) X.length c : Value) :: X.map (·.1))[p]? = some a → (boxV g :: (.slice (some ⟨b, 0, none⟩) X.length c : Value) :: X.map (·.1))[q]? = some d → p ≠ q → a.ownBlock = some k → some k ≠ d.ownBlock := fun hp hq hpq hk e => by
    rcases apart_ne h.apart hp hq hpq with h5 | h5
    · rw [hk] at h5; cases h5
    · rw [hk] at h5; exact h5 e
  have hb2 : w2.heap[b]? = w.heap[b]? := hkeep b hbl.2 (hne e0 ex (by omega) rfl)
  have hg2 : w2.heap[g]? = w.heap[g]? := hkeep g hgl (hne eg ex (by omega) rfl)
  obtain ⟨b', hb', _, _, y1, yf, hbg⟩ := h.at i x hx
  simp only [Option.some.injEq, Addr.mk.injEq, and_true] at hb'
  subst hb'
  refine ⟨(cell_eq (p := ⟨g, 0, none⟩) hg2).trans h.box.1, (cell_eq (p := ⟨b, i, none⟩) hb2).trans y1, (frozen_eq (p := ⟨b, i, none⟩) hb2).trans (yf _), by omega, by have := h.hi; simp [World.setCell]; omega, h.gn, ?_, ?_, ?_, ?_⟩
  · rw [Below.heap_setCell _ _ _ _ (by show g ≠ b; omega), hg2]; exact h.ptr
  · rw [List.length_set, List.map_set]
    exact owns_setN (owns_blockN h.out fun k e => by cases e; exact hb2) i (by rw [List.length_map]; exact hi) _
  · intro y hy
    obtain ⟨d, hd, rfl⟩ := List.getElem_of_mem hy
    have hd' : d < X.length := by simpa using hd
    rw [List.getElem_set]
    by_cases hid : i = d
    · rw [if_pos hid]
      refine owns_blockN (w := w2) hv fun k hk => Below.heap_setCell _ _ _ _ ?_
      show k ≠ b
      intro e
      subst e
      rcases h4 with h5 | ⟨m, h5, h6⟩
      · exact hne e0 ex (by omega) rfl (h5 ▸ hk.symm)
      · rw [h5] at hk; cases hk; omega
    · rw [if_neg hid]
      have ed : (boxV g :: (.slice (some ⟨b, 0, none⟩) X.length c : Value) :: X.map (·.1))[d + 1 + 1]? = some X[d].1 := by rw [List.getElem?_cons_succ, List.getElem?_cons_succ]; exact map_atI X d X[d] (List.getElem?_eq_getElem hd')
      refine owns_blockN (h.each _ (List.getElem_mem hd')) fun k hk => ?_
      have hkl := (h.lt (List.mem_of_getElem? ed) hk).2
      rw [Below.heap_setCell _ _ _ _ (by show k ≠ b; intro e; subst e; exact hne ed e0 (by omega) hk rfl), hkeep k hkl (hne ed ex (by omega) hk)]
  · rw [List.map_set]
    rcases h4 with h5 | ⟨m, h5, h6⟩
    · exact apart_set h.apart (i + 1 + 1) x.1 v (w.heap.size + 1) ex (fun u hu j hj => by have := (h.lt hu hj).2; omega) (.inl h5)
    · exact apart_set h.apart (i + 1 + 1) x.1 v m ex (fun u hu j hj => by have := (h.lt hu hj).2; omega) (.inr h5)
/-- A number more in a row. -/
theorem Ofs.append {w : World} {n g b c : Nat} {X : List (Value × List Int)} (h : Ofs w n g (.slice (some ⟨b, 0, none⟩) X.length c) X) (i : Nat) (x : Value × List Int) (hx : X[i]? = some x) (t : Int) (hl : x.2.length + 1 ≤ 10000000) :
    ∃ ao' c' w2, Sem.run Try.prog (appM #[22, 22] 22 #[x.1, .slice (some ⟨w.heap.size, 0, none⟩) 1 1]) (w.alloc (.cells #[.int .i64 t] 3)) = .ok (.slice ao' (x.2.length + 1) c') w2 ∧
      w2.cell? ⟨g, 0, none⟩ = some (.slice (some ⟨b, 0, none⟩) X.length c) ∧ w2.cell? ⟨b, i, none⟩ = some x.1 ∧ w2.frozen? ⟨b, i, none⟩ = false ∧ b < w2.heap.size ∧
      Ofs (w2.setCell ⟨b, i, none⟩ (.slice ao' (x.2.length + 1) c')) n g (.slice (some ⟨b, 0, none⟩) X.length c) (X.set i (.slice ao' (x.2.length + 1) c', x.2 ++ [t])) ∧ Below n w (w2.setCell ⟨b, i, none⟩ (.slice ao' (x.2.length + 1) c')) ∧ Below n w w2 ∧
      (∀ k, k < w.heap.size → some k ≠ x.1.ownBlock → w2.heap[k]? = w.heap[k]?) := by
  obtain ⟨i0, hi0, hz0, hz1, hz2⟩ := info_parts info_intT
  have hmem := List.mem_of_getElem? hx
  have hown := h.each x hmem
  have rt : Row (w.alloc (.cells #[.int .i64 t] 3)) (w.heap.size + 1) 1 (.slice (some ⟨w.heap.size, 0, none⟩) 1 1) 1 (ints [t]) := row_cellsB w (ints [t]) 1 1 1 _ rfl (Nat.le_refl _) (by unfold maxLen; omega)
  obtain ⟨v', w2, h1, h2, h3, h4⟩ := run_append_row (P := Try.prog) (w.alloc (.cells #[.int .i64 t] 3)) 22 22 n 3 i0 (.int .i64 0) 1 8 Try.underlying22 hi0 hz0 hz1 hz2 rfl (by decide) x.1 x.2.length (ints x.2) (hown.alloc _) (w.heap.size + 1) _ 1 (ints [t]) rt (ints_oneT _) (by unfold maxLen; omega) (by omega) (by have := h.hi; simp; omega)
  obtain ⟨ao, c', rfl, hc1, hc2⟩ := owns_valP h2
  rw [World.size_alloc] at h4
  have hs3 := h3.size
  rw [World.size_alloc] at hs3
  have hkeep : ∀ k, k < w.heap.size → some k ≠ x.1.ownBlock → w2.heap[k]? = w.heap[k]? := fun k hk hn => by
    rw [h3.block k (by simp; omega) hn, Below.heap_alloc _ _ _ hk]
  have h2' : w2.ownsRow n 3 1 (.slice ao (x.2.length + 1) c') (x.2 ++ [t]).length (ints (x.2 ++ [t])) := by
    rw [List.length_append]; simpa [ints] using h2
  obtain ⟨r1, r2, r3, r4, r5⟩ := h.repl i x hx _ _ (by omega) hkeep h2' (by
    rcases h4 with h5 | h5
    · exact .inl h5
    · exact .inr ⟨_, h5, by omega⟩)
  have hB : Below n w w2 := ((Below.refl n w).alloc h.hi _).grown h3 (by have := h.hi; simp; omega) fun k e => (hown.lt k e).1
  exact ⟨ao, c', w2, h1, r1, r2, r3, r4, r5, hB.setCell (p := ⟨b, i, none⟩) (h.out.lt b rfl).1 _, hB, hkeep⟩
def foot (g : Nat) (vo : Value) (X : List (Value × List Int)) : List Value := boxV g :: vo :: X.map (·.1)
/-- What is as it was: all but the blocks of F; and whose blocks are the new ones. -/
structure KO (w w' : World) (F F' : List Value) : Prop where
  size : w.heap.size ≤ w'.heap.size
  block : ∀ k, k < w.heap.size → (∀ u ∈ F, u.ownBlock ≠ some k) → w'.heap[k]? = w.heap[k]?
  foot : ∀ u' ∈ F', ∀ k, u'.ownBlock = some k → (∃ u ∈ F, u.ownBlock = some k) ∨ w.heap.size ≤ k
theorem KO.refl (w : World) (F : List Value) : KO w w F F := ⟨Nat.le_refl _, fun _ _ _ => rfl, fun u hu k hk => .inl ⟨u, hu, hk⟩⟩
theorem KO.trans {a b c : World} {F F1 F2 : List Value} (h : KO a b F F1) (k : KO b c F1 F2) : KO a c F F2 :=
  ⟨Nat.le_trans h.size k.size, fun j hj hn => by
    refine (k.block j (Nat.lt_of_lt_of_le hj h.size) fun u hu e => ?_).trans (h.block j hj hn)
    rcases h.foot u hu j e with ⟨u0, hu0, e0⟩ | h1
    · exact hn u0 hu0 e0
    · omega, fun u hu j e => by
    rcases k.foot u hu j e with ⟨u1, hu1, e1⟩ | h1
    · exact h.foot u1 hu1 j e1
    · exact .inr (Nat.le_trans h.size h1)⟩
theorem KO.of_below {w w' : World} (F : List Value) (h : Below w.heap.size w w') : KO w w' F F := ⟨h.size, fun k hk _ => h.block k hk, fun u hu k hk => .inl ⟨u, hu, hk⟩⟩
theorem KO.cell {w w' : World} {F F' : List Value} (h : KO w w' F F') {p : Addr} (hp : p.block < w.heap.size) (hn : ∀ u ∈ F, u.ownBlock ≠ some p.block) : w'.cell? p = w.cell? p := cell_eq (h.block _ hp hn)
theorem Ofs.new {w n g vo X} (h : Ofs w n g vo X) {k : Nat} (hk : w.heap.size ≤ k) : ∀ u ∈ foot g vo X, u.ownBlock ≠ some k := fun u hu e => by have := (h.lt hu e).2; omega
theorem Ofs.replN {w w2 : World} {n g b c N : Nat} {X : List (Value × List Int)} (hN : X.length = N) (h : Ofs w n g (.slice (some ⟨b, 0, none⟩) N c) X) (i : Nat) (x : Value × List Int) (hx : X[i]? = some x) (v : Value) (l : List Int)
    (hs : w.heap.size ≤ w2.heap.size) (hkeep : ∀ k, k < w.heap.size → some k ≠ x.1.ownBlock → w2.heap[k]? = w.heap[k]?) (hv : w2.ownsRow n 3 1 v l.length (ints l)) (h4 : v.ownBlock = x.1.ownBlock ∨ ∃ m, v.ownBlock = some m ∧ w.heap.size ≤ m) :
    w2.cell? ⟨g, 0, none⟩ = some (.slice (some ⟨b, 0, none⟩) N c) ∧ w2.cell? ⟨b, i, none⟩ = some x.1 ∧ w2.frozen? ⟨b, i, none⟩ = false ∧ b < w2.heap.size ∧
      Ofs (w2.setCell ⟨b, i, none⟩ v) n g (.slice (some ⟨b, 0, none⟩) N c) (X.set i (v, l)) ∧ KO w (w2.setCell ⟨b, i, none⟩ v) (foot g (.slice (some ⟨b, 0, none⟩) N c) X) (foot g (.slice (some ⟨b, 0, none⟩) N c) (X.set i (v, l))) ∧
      KO w w2 (foot g (.slice (some ⟨b, 0, none⟩) N c) X) (foot g (.slice (some ⟨b, 0, none⟩) N c) X) := by
  subst hN
  obtain ⟨r1, r2, r3, r4, r5⟩ := h.repl i x hx v l hs hkeep hv h4
  have hmem := List.mem_of_getElem? hx
  have hxf : x.1 ∈ foot g (.slice (some ⟨b, 0, none⟩) X.length c) X := List.mem_cons_of_mem _ (List.mem_cons_of_mem _ (List.mem_map.2 ⟨x, hmem, rfl⟩))
  have hbf : (.slice (some ⟨b, 0, none⟩) X.length c : Value) ∈ foot g (.slice (some ⟨b, 0, none⟩) X.length c) X := List.mem_cons_of_mem _ List.mem_cons_self
  refine ⟨r1, r2, r3, r4, r5, ⟨by simpa [World.setCell] using hs, fun k hk hn => ?_, fun u hu k hk => ?_⟩, ⟨hs, fun k hk hn => hkeep k hk fun e => hn _ hxf e.symm, fun u hu k hk => .inl ⟨u, hu, hk⟩⟩⟩
  · rw [Below.heap_setCell _ _ _ _ (by show k ≠ b; intro e; subst e; exact hn _ hbf rfl)]
    exact hkeep k hk fun e => hn _ hxf e.symm
  · rcases List.mem_cons.1 hu with rfl | hu
    · exact .inl ⟨_, List.mem_cons_self, hk⟩
    · rcases List.mem_cons.1 hu with rfl | hu
      · exact .inl ⟨_, hbf, hk⟩
      · rw [List.map_set] at hu
        rcases List.mem_or_eq_of_mem_set hu with hu | rfl
        · exact .inl ⟨u, List.mem_cons_of_mem _ (List.mem_cons_of_mem _ hu), hk⟩
        · rcases h4 with h5 | ⟨m, h5, h6⟩
          · exact .inl ⟨x.1, hxf, by rw [← h5]; exact hk⟩
          · rw [h5] at hk; cases hk; exact .inr h6
theorem Ofs.appendN {w : World} {n g b c N : Nat} {X : List (Value × List Int)} (hN : X.length = N) (h : Ofs w n g (.slice (some ⟨b, 0, none⟩) N c) X) (i : Nat) (x : Value × List Int) (hx : X[i]? = some x) (t : Int) (hl : x.2.length + 1 ≤ 10000000) :
    ∃ ao' c' w2, Sem.run Try.prog (appM #[22, 22] 22 #[x.1, .slice (some ⟨w.heap.size, 0, none⟩) 1 1]) (w.alloc (.cells #[.int .i64 t] 3)) = .ok (.slice ao' (x.2.length + 1) c') w2 ∧
      w2.cell? ⟨g, 0, none⟩ = some (.slice (some ⟨b, 0, none⟩) N c) ∧ w2.cell? ⟨b, i, none⟩ = some x.1 ∧ w2.frozen? ⟨b, i, none⟩ = false ∧ b < w2.heap.size ∧
      Ofs (w2.setCell ⟨b, i, none⟩ (.slice ao' (x.2.length + 1) c')) n g (.slice (some ⟨b, 0, none⟩) N c) (X.set i (.slice ao' (x.2.length + 1) c', x.2 ++ [t])) ∧ Below n w (w2.setCell ⟨b, i, none⟩ (.slice ao' (x.2.length + 1) c')) ∧
      KO w (w2.setCell ⟨b, i, none⟩ (.slice ao' (x.2.length + 1) c')) (foot g (.slice (some ⟨b, 0, none⟩) N c) X) (foot g (.slice (some ⟨b, 0, none⟩) N c) (X.set i (.slice ao' (x.2.length + 1) c', x.2 ++ [t]))) ∧
      KO w w2 (foot g (.slice (some ⟨b, 0, none⟩) N c) X) (foot g (.slice (some ⟨b, 0, none⟩) N c) X) := by
  obtain ⟨i0, hi0, hz0, hz1, hz2⟩ := info_parts info_intT
  have hmem := List.mem_of_getElem? hx
  have hown := h.each x hmem
  have rt : Row (w.alloc (.cells #[.int .i64 t] 3)) (w.heap.size + 1) 1 (.slice (some ⟨w.heap.size, 0, none⟩) 1 1) 1 (ints [t]) := row_cellsB w (ints [t]) 1 1 1 _ rfl (Nat.le_refl _) (by unfold maxLen; omega)
  obtain ⟨v', w2, h1, h2, h3, h4⟩ := run_append_row (P := Try.prog) (w.alloc (.cells #[.int .i64 t] 3)) 22 22 n 3 i0 (.int .i64 0) 1 8 Try.underlying22 hi0 hz0 hz1 hz2 rfl (by decide) x.1 x.2.length (ints x.2) (hown.alloc _) (w.heap.size + 1) _ 1 (ints [t]) rt (ints_oneT _) (by unfold maxLen; omega) (by omega) (by have := h.hi; simp; omega)
  obtain ⟨ao, c', rfl, hc1, hc2⟩ := owns_valP h2
  rw [World.size_alloc] at h4
  have hs3 := h3.size
  rw [World.size_alloc] at hs3
  have hkeep : ∀ k, k < w.heap.size → some k ≠ x.1.ownBlock → w2.heap[k]? = w.heap[k]? := fun k hk hn => by
    rw [h3.block k (by simp; omega) hn, Below.heap_alloc _ _ _ hk]
  have h2' : w2.ownsRow n 3 1 (.slice ao (x.2.length + 1) c') (x.2 ++ [t]).length (ints (x.2 ++ [t])) := by
    rw [List.length_append]; simpa [ints] using h2
  obtain ⟨r1, r2, r3, r4, r5, r6, r7⟩ := h.replN hN i x hx _ _ (by omega) hkeep h2' (by
    rcases h4 with h5 | h5
    · exact .inl h5
    · exact .inr ⟨_, h5, by omega⟩)
  have hB : Below n w w2 := ((Below.refl n w).alloc h.hi _).grown h3 (by have := h.hi; simp; omega) fun k e => (hown.lt k e).1
  exact ⟨ao, c', w2, h1, r1, r2, r3, r4, r5, hB.setCell (p := ⟨b, i, none⟩) (h.out.lt b rfl).1 _, r6, r7⟩
theorem Ofs.atN {w n g X ao c N} (hN : X.length = N) (h : Ofs w n g (.slice ao N c) X) (i : Nat) (x : Value × List Int) (hx : X[i]? = some x) : ∃ b, ao = some ⟨b, 0, none⟩ ∧ n ≤ b ∧ b < w.heap.size ∧ w.cell? ⟨b, i, none⟩ = some x.1 ∧ (∀ j, w.frozen? ⟨b, j, none⟩ = false) ∧ b ≠ g := by
  subst hN; exact h.at i x hx
theorem info_intsI : (Try.prog.info? 22).map (fun i => (i.zero, i.size, i.bytes)) = some (some (.slice none 0 0), 1, 24) := by kernel_rfl
theorem Ofs.made {wm : World} {n c N : Nat} (T : TypeId) (hT : T = 77) (ho : wm.ownsRow n 22 1 (.slice (some ⟨n, 0, none⟩) N c) N (List.replicate N (.slice none 0 0))) (hn : n < wm.heap.size) :
    Ofs (wm.alloc (.cells #[.slice (some ⟨n, 0, none⟩) N c] T)) n wm.heap.size (.slice (some ⟨n, 0, none⟩) N c) (List.replicate N (.slice none 0 0, [])) := by
  subst hT
  refine ⟨by simp; omega, by omega, Array.getElem?_push_size, by rw [List.length_replicate, List.map_replicate]; exact ho.alloc _, fun x hx => by rw [(List.mem_replicate.1 hx).2]; exact World.ownsRow_nil _ _ _ _, ?_⟩
  refine List.pairwise_cons.2 ⟨fun u hu => ?_, List.pairwise_cons.2 ⟨fun u hu => ?_, ?_⟩⟩
  · rcases List.mem_cons.1 hu with rfl | hu
    · right; intro e; exact absurd (Option.some.inj (show some wm.heap.size = some n from e)) (by omega)
    · rw [List.map_replicate] at hu
      rw [(List.mem_replicate.1 hu).2]; right; intro e; cases e
  · rw [List.map_replicate] at hu
    rw [(List.mem_replicate.1 hu).2]; right; intro e; cases e
  · rw [List.map_replicate]
    exact List.pairwise_replicate.2 (.inr (.inl rfl))
end Go.Proofs.Ytfmcigodfihlcaa
