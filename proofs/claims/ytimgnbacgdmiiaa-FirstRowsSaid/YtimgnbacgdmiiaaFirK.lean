/-
  The document's Grown, and Of.
-/
import Derived.Test.YtimgnbacgdmiiaaFirJ
import Derived.Test.YtimgnbacgdmiiaaBnfE
namespace Go.Proofs.Ytimgnbacgdmiiaa
open Go.RowKit PK
set_option linter.unusedVariables false
set_option linter.unusedSimpArgs false
attribute [local go_sem ↓] append_appM

theorem strs_oneT (l : List Value) (h : ∀ u ∈ l, u = .slice none 0 0) : ∀ u ∈ l, u.oneCell' = true := by
  intro u hu; rw [h u hu]; rfl
theorem own_pushS {w : World} {n m : Nat} {lv : Value} (hn : n ≤ w.heap.size) (h : w.ownsRow n 32 1 lv m (List.replicate m (.slice none 0 0))) (hl : m + 1 ≤ 10000000) :
    ∃ a c w3, Sem.run Try.prog (appM #[27, 27] 27 #[lv, .slice (some ⟨w.heap.size, 0, none⟩) 1 1]) (w.alloc (.cells #[.slice none 0 0] 32)) = .ok (.slice a (m + 1) c) w3 ∧ w3.ownsRow n 32 1 (.slice a (m + 1) c) (m + 1) (List.replicate (m + 1) (.slice none 0 0)) ∧ Below n w w3 := by
  obtain ⟨i0, hi0, hz0, hz1, hz2⟩ := info_parts info_strs
  have rt : Row (w.alloc (.cells #[.slice none 0 0] 32)) (w.heap.size + 1) 1 (.slice (some ⟨w.heap.size, 0, none⟩) 1 1) 1 [.slice none 0 0] := row_cellsB w [.slice none 0 0] 1 1 1 _ rfl (Nat.le_refl _) (by unfold maxLen; omega)
  obtain ⟨v', w2, h1, h2, h3, h4⟩ := run_append_row (P := Try.prog) (w.alloc (.cells #[.slice none 0 0] 32)) 27 27 n 32 i0 (.slice none 0 0) 1 24 Try.underlying27 hi0 hz0 hz1 hz2 rfl (by decide) lv m _ (h.alloc _) (w.heap.size + 1) _ 1 [.slice none 0 0] rt (strs_oneT _ (by simp)) (by unfold maxLen; omega) (by omega) (by simp; omega)
  have e : List.replicate m (Value.slice none 0 0) ++ [.slice none 0 0] = List.replicate (m + 1) (.slice none 0 0) := by rw [List.replicate_succ']
  rw [e] at h2
  obtain ⟨a, c, rfl, _, _⟩ := owns_valP h2
  exact ⟨a, c, w2, h1, h2, ((Below.refl n w).alloc hn _).grown h3 (by simp; omega) fun k e => (h.lt k e).1⟩
/-- The document's sets in memory. -/
structure DSt (W : World) (n0 g N c : Nat) (X : List (Value × List Tx)) : Prop where
  lt : n0 ≤ g ∧ g < W.heap.size
  len : X.length = N
  out : W.ownsRow n0 32 1 (.slice (some ⟨g, 0, none⟩) N c) N (X.map (·.1))
  each : ∀ x ∈ X, W.ownsRow n0 9 1 x.1 x.2.length (svt x.2)
  ap : ∀ x ∈ X, ∀ q, x.1.ownBlock = some q → q ≠ g
theorem DSt.below {W W' : World} {n0 g N c : Nat} {X : List (Value × List Tx)} (h : DSt W n0 g N c X) (hb : Below W.heap.size W W') : DSt W' n0 g N c X :=
  ⟨⟨h.lt.1, Nat.lt_of_lt_of_le h.lt.2 hb.size⟩, h.len, owns_belowP h.out hb, fun x hx => owns_belowP (h.each x hx) hb, h.ap⟩
theorem DSt.sets {W : World} {n0 g N c : Nat} {X : List (Value × List Tx)} (h : DSt W n0 g N c X) (hN : 0 < N) : SetsR W g N c (X.map (·.2)) := by
  refine ⟨by rw [List.length_map]; exact h.len, h.lt.2, fun j hj => ?_⟩
  rw [List.length_map] at hj
  obtain ⟨g', hv, _, _, hc, _⟩ := owns_cellN h.out hN
  simp only [Option.some.injEq, Addr.mk.injEq, and_true] at hv
  subst hv
  refine ⟨X[j].1, hc j _ (by rw [List.getElem?_map, List.getElem?_eq_getElem hj]; rfl), ?_⟩
  rw [List.getElem_map]
  exact Row.of_owns (h.each _ (List.getElem_mem hj))
theorem DSt.put {W : World} {n0 g N c : Nat} {X : List (Value × List Tx)} (h : DSt W n0 g N c X) (j : Nat) (hj : j < N) (v : Value) (l : List Tx) (n1 : Nat) (hv : W.ownsRow n1 9 1 v l.length (svt l)) (hn : g < n1) : DSt (W.setCell ⟨g, j, none⟩ v) n0 g N c (X.set j (v, l)) := by
  have hs : (W.setCell ⟨g, j, none⟩ v).heap.size = W.heap.size := by simp [World.setCell]
  have hb : ∀ q, q ≠ g → (W.setCell ⟨g, j, none⟩ v).heap[q]? = W.heap[q]? := fun q hq => Below.heap_setCell _ _ _ _ hq
  refine ⟨⟨h.lt.1, by rw [hs]; exact h.lt.2⟩, by rw [List.length_set]; exact h.len, ?_, fun x hx => ?_, fun x hx q e => ?_⟩
  · have e : (X.set j (v, l)).map (·.1) = (X.map (·.1)).set j v := by rw [List.map_set]
    rw [e]
    exact owns_setN h.out j (by rw [List.length_map, h.len]; exact hj) v
  · rcases List.mem_or_eq_of_mem_set hx with h1 | h1
    · exact owns_blockN (h.each x h1) fun q e => hb q (h.ap x h1 q e)
    · subst h1
      exact owns_blockN (owns_baseP hv (by have := h.lt.1; omega)) fun q e => hb q (by have := (hv.lt q e).1; omega)
  · rcases List.mem_or_eq_of_mem_set hx with h1 | h1
    · exact h.ap x h1 q e
    · subst h1; have := (hv.lt q e).1; omega
def lenV : Value → Nat
  | .slice _ n _ => n
  | _ => 0
/-- How much sets may grow yet. -/
def restW (most : Nat) (W : World) (g N : Nat) : Nat := ((List.range N).map fun j => most - lenV ((W.cell? ⟨g, j, none⟩).getD undef)).sum
theorem DSt.rest {W : World} {n0 g N c most : Nat} {X : List (Value × List Tx)} (h : DSt W n0 g N c X) (hN : 0 < N) : restW most W g N + 1 = muG most (some (X.map (·.2))) := by
  show _ = 1 + _
  rw [Nat.add_comm]
  congr 1
  unfold restW
  congr 1
  refine List.ext_getElem (by simp [h.len]) fun j h1 h2 => ?_
  have hj : j < X.length := by simpa using h2
  obtain ⟨g', hv, _, _, hc, _⟩ := owns_cellN h.out hN
  simp only [Option.some.injEq, Addr.mk.injEq, and_true] at hv
  subst hv
  have h3 := hc j X[j].1 (by rw [List.getElem?_map, List.getElem?_eq_getElem hj]; rfl)
  obtain ⟨a, c', h4, _, _⟩ := owns_valP (h.each _ (List.getElem_mem hj))
  simp only [List.getElem_map, List.getElem_range, h3, Option.getD_some, h4, lenV]
/-- Nothing is to be done at a production. -/
def QP (k : Int) (most : Nat) (S : Sts) (p : Pr) : Prop := ¬ OverR k most S p.right ∧ ∀ x ∈ rowS k S p.right, x ∈ stAt S p.left
/-- What the document's Grown answers. -/
def GrownP (w : World) (b : Bn) (k : Int) (most : Nat) (e : Ending) (w' : World) : Prop :=
  ((∃ g c S, e = .returned (.tuple #[.slice (some ⟨g, 0, none⟩) b.of.length c, .bool true]) ∧ InvS b k most S ∧ Closed b k S ∧ (∀ p ∈ b.l, ¬ OverR k most S p.right) ∧ SetsR w' g b.of.length c S) ∨ (e = .returned (.tuple #[.slice none 0 0, .bool false]) ∧ ∃ S, Sound b k S ∧ Over b k most S)) ∧ Below w.heap.size w w'
end Go.Proofs.Ytimgnbacgdmiiaa
