/-
  A trie's sets in memory: a text more in one of them.
-/
import Derived.Test.YtbmaappambmhoaaTriZ
namespace Go.Proofs.Ytbmaappambmhoaa
open Go.RowKit PK
set_option linter.unusedVariables false
set_option linter.unusedSimpArgs false

theorem map_at (X : List (Value × List Tx)) (i : Nat) (x : Value × List Tx) (hx : X[i]? = some x) : (X.map (·.1))[i]? = some x.1 := by rw [List.getElem?_map, hx]; rfl
theorem Srs.at {w B X ao c} (h : Srs w B (.slice ao X.length c) X) (i : Nat) (x : Value × List Tx) (hx : X[i]? = some x) : ∃ b, ao = some ⟨b, 0, none⟩ ∧ B ≤ b ∧ b < w.heap.size ∧ w.cell? ⟨b, i, none⟩ = some x.1 ∧ (∀ j, w.frozen? ⟨b, j, none⟩ = false) := by
  have hi := (List.getElem?_eq_some_iff.1 hx).1
  obtain ⟨g, rfl, hb, hl, hc, hf⟩ := owns_cellN h.out (by omega)
  exact ⟨g, rfl, hb, hl, hc _ _ (map_at X i x hx), hf⟩
theorem SBox.append {w : World} {n g b c : Nat} {X : List (Value × List Tx)} (h : SBox w n g (.slice (some ⟨b, 0, none⟩) X.length c) X) (i : Nat) (x : Value × List Tx) (hx : X[i]? = some x) (t : Tx) (s : ByteArray) (hs : s = ⟨t.toArray⟩) (hl : x.2.length + 1 ≤ 1000000) :
    ∃ ao' c' w2, Sem.run Try.prog (appM #[22, 22] 22 #[x.1, .slice (some ⟨w.heap.size, 0, none⟩) 1 1]) (w.alloc (.cells #[.string s] 9)).drew = .ok (.slice ao' (x.2.length + 1) c') w2 ∧ x.2.length + 1 ≤ c' ∧ c' ≤ maxLen ∧
      w2.cell? ⟨g, 0, none⟩ = some (.slice (some ⟨b, 0, none⟩) X.length c) ∧ w2.cell? ⟨b, i, none⟩ = some x.1 ∧ w2.frozen? ⟨b, i, none⟩ = false ∧ b < w2.heap.size ∧
      SBox (w2.setCell ⟨b, i, none⟩ (.slice ao' (x.2.length + 1) c')) n g (.slice (some ⟨b, 0, none⟩) X.length c) (X.set i (.slice ao' (x.2.length + 1) c', x.2 ++ [t])) ∧ KS g w (w2.setCell ⟨b, i, none⟩ (.slice ao' (x.2.length + 1) c')) (.slice (some ⟨b, 0, none⟩) X.length c) X (.slice (some ⟨b, 0, none⟩) X.length c) (X.set i (.slice ao' (x.2.length + 1) c', x.2 ++ [t])) := by
  subst hs
  obtain ⟨i0, hi0, hz0, hz1, hz2⟩ := info_parts info_str
  obtain ⟨hi, hxe⟩ := List.getElem?_eq_some_iff.1 hx
  have hmem := List.mem_of_getElem? hx
  have hown := h.rows.each x hmem
  have rt : Row (w.alloc (.cells #[.string ⟨t.toArray⟩] 9)).drew (w.heap.size + 1) 1 (.slice (some ⟨w.heap.size, 0, none⟩) 1 1) 1 (svt [t]) := row_cellsB w (svt [t]) 1 1 1 _ rfl (Nat.le_refl _) (by unfold maxLen; omega)
  obtain ⟨v', w2, h1, h2, h3, h4⟩ := run_append_row (P := Try.prog) (w.alloc (.cells #[.string ⟨t.toArray⟩] 9)).drew 22 22 n 9 i0 (.string ByteArray.empty) 1 16 Try.underlying22 hi0 hz0 hz1 hz2 rfl (by decide) x.1 x.2.length (svt x.2) (owns_drewN (hown.alloc _)) (w.heap.size + 1) _ 1 (svt [t]) rt (svt_one _) (by unfold maxLen; omega) (by omega) (by have := h.hi; simp; omega)
  obtain ⟨ao, c', rfl, hc1, hc2⟩ := owns_valP h2
  have h3' : (w.alloc (.cells #[.string ⟨t.toArray⟩] 9)).grownBy w2 x.1.ownBlock := ⟨h3.os, h3.tape, h3.output, h3.size, h3.block⟩
  have hsz : (w.alloc (.cells #[.string ⟨t.toArray⟩] 9)).drew.heap.size = w.heap.size + 1 := by simp
  rw [hsz] at h4
  have hs3 := h3'.size
  rw [World.size_alloc] at hs3
  have hbl := h.rows.out.lt b rfl
  have hgl := h.cell.2.2
  have e0 : ((.slice (some ⟨b, 0, none⟩) X.length c : Value) :: X.map (·.1))[0]? = some (.slice (some ⟨b, 0, none⟩) X.length c) := rfl
  have ex : ((.slice (some ⟨b, 0, none⟩) X.length c : Value) :: X.map (·.1))[i + 1]? = some x.1 := by rw [List.getElem?_cons_succ]; exact map_at X i x hx
  have hne : ∀ {p q : Nat} {a d : Value} {k : Nat}, ((.slice (some ⟨b, 0, none⟩) X.length c : Value) :: X.map (·.1))[p]? = some a → ((.slice (some ⟨b, 0, none⟩) X.length c : Value) :: X.map (·.1))[q]? = some d → p ≠ q → a.ownBlock = some k → some k ≠ d.ownBlock := fun hp hq hpq hk e => by
    rcases apart_ne h.rows.apart hp hq hpq with h5 | h5
    · rw [hk] at h5; cases h5
    · rw [hk] at h5; exact h5 e
  have hkeep : ∀ k, k < w.heap.size → some k ≠ x.1.ownBlock → w2.heap[k]? = w.heap[k]? := fun k hk hn => by
    rw [h3'.block k (by simp; omega) hn, Below.heap_alloc _ _ _ hk]
  have hb2 : w2.heap[b]? = w.heap[b]? := hkeep b hbl.2 (hne e0 ex (by omega) rfl)
  have hg2 : w2.heap[g]? = w.heap[g]? := hkeep g hgl (fun e => by have := (hown.lt g e.symm).1; have := h.lo; omega)
  obtain ⟨b', hb', _, _, y1, yf⟩ := h.rows.at i x hx
  simp only [Option.some.injEq, Addr.mk.injEq, and_true] at hb'
  subst hb'
  refine ⟨ao, c', w2, h1, hc1, hc2, (cell_eq (p := ⟨g, 0, none⟩) hg2).trans h.cell.1, (cell_eq (p := ⟨b, i, none⟩) hb2).trans y1, (frozen_eq (p := ⟨b, i, none⟩) hb2).trans (yf _), by omega, ⟨h.lo, by have := h.hi; simp [World.setCell]; omega, ?_, ?_⟩, ?_⟩
  · rw [Below.heap_setCell _ _ _ _ (by have := h.lo; show g ≠ b; omega), hg2]; exact h.ptr
  · refine ⟨?_, ?_, ?_⟩
    · rw [List.length_set, List.map_set]
      exact owns_setN (owns_blockN h.rows.out fun k e => by cases e; exact hb2) i (by rw [List.length_map]; exact hi) _
    · intro y hy
      obtain ⟨d, hd, rfl⟩ := List.getElem_of_mem hy
      have hd' : d < X.length := by simpa using hd
      rw [List.getElem_set]
      by_cases hid : i = d
      · rw [if_pos hid]
        refine owns_blockN (w := w2) (by simpa [svt] using h2) fun k hk => Below.heap_setCell _ _ _ _ ?_
        show k ≠ b
        intro e
        subst e
        rcases h4 with h5 | h5
        · exact hne e0 ex (by omega) rfl (h5 ▸ hk.symm)
        · rw [h5] at hk; cases hk; omega
      · rw [if_neg hid]
        have ed : ((.slice (some ⟨b, 0, none⟩) X.length c : Value) :: X.map (·.1))[d + 1]? = some X[d].1 := by rw [List.getElem?_cons_succ]; exact map_at X d X[d] (List.getElem?_eq_getElem hd')
        refine owns_blockN (h.rows.each _ (List.getElem_mem hd')) fun k hk => ?_
        have hkl := (h.rows.lt (List.mem_of_getElem? ed) hk).2
        rw [Below.heap_setCell _ _ _ _ (by show k ≠ b; intro e; subst e; exact hne ed e0 (by omega) hk rfl), hkeep k hkl (hne ed ex (by omega) hk)]
    · rw [List.map_set]
      exact apart_set h.rows.apart (i + 1) x.1 _ (w.heap.size + 1) ex (fun u hu j hj => by have := (h.rows.lt hu hj).2; omega) h4
  · refine ⟨h3'.os, h3'.tape, h3'.output, by simp [World.setCell]; omega, fun k hk hkg hn => ?_, fun u hu k hk => ?_⟩
    · rw [Below.heap_setCell _ _ _ _ (by show k ≠ b; intro e; subst e; exact hn _ List.mem_cons_self rfl)]
      exact hkeep k hk fun e => hn x.1 (List.mem_cons_of_mem _ (List.mem_map.2 ⟨x, hmem, rfl⟩)) e.symm
    · rcases List.mem_cons.1 hu with rfl | hu
      · exact .inl ⟨_, List.mem_cons_self, hk⟩
      · rw [List.map_set] at hu
        rcases List.mem_or_eq_of_mem_set hu with hu | rfl
        · exact .inl ⟨u, List.mem_cons_of_mem _ hu, hk⟩
        · rcases h4 with h5 | h5
          · exact .inl ⟨x.1, List.mem_cons_of_mem _ (List.mem_map.2 ⟨x, hmem, rfl⟩), by rw [← h5]; exact hk⟩
          · rw [h5] at hk; cases hk; exact .inr (by omega)
end Go.Proofs.Ytbmaappambmhoaa
