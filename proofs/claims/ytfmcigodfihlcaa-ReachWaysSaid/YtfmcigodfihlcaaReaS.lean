/-
  slices.Sort and Compact of a row of one's own; a row is done anew in its place.
-/
import Derived.Test.YtfmcigodfihlcaaReaB
import Derived.Test.YtfmcigodfihlcaaSetB
import Derived.Test.YtfmcigodfihlcaaShelf
namespace Go.Proofs.Ytfmcigodfihlcaa
open Go.RowKit PK Go.Sort
set_option linter.unusedVariables false
set_option linter.unusedSimpArgs false

theorem below_growP (X : World) (os : Array Obj) : Below X.heap.size X (grow X os) := ⟨rfl, rfl, rfl, by simp [grow], fun k hk => heap_grow_old _ _ hk⟩
theorem compact_lenI (l : List Int) : (Go.Lib.compact l).length ≤ l.length := by
  unfold Go.Lib.compact Go.Lib.compactUpTo
  rw [List.length_map]
  refine Nat.le_trans (List.length_filter_le _ _) ?_
  simp
/-- What a call does that works in a row's own block. -/
structure InRow (n : Nat) (v : Value) (w w' : World) : Prop where
  below : Below n w w'
  keep : ∀ k, k < w.heap.size → some k ≠ v.ownBlock → w'.heap[k]? = w.heap[k]?
theorem sortI_any (v : Value) (l : List Int) (n : Nat) (w : World) (hn : n ≤ w.heap.size) (hown : w.ownsRow n 3 1 v l.length (ints l)) (hl : l.length ≤ 100000000) :
    Calls Try.prog 62 #[v] w fun e w' => e = .returned (.tuple #[]) ∧ w'.ownsRow n 3 1 v l.length (ints (l.mergeSort fun x y => decide (x ≤ y))) ∧ InRow n v w w' := by
  by_cases h0 : l.length = 0
  · obtain ⟨a, c, rfl, _, _⟩ := owns_valP hown
    rw [h0]
    refine (Try.slices_Sort_int_none a c w).mono ?_
    rintro e w' ⟨rfl, rfl⟩
    have e0 := List.length_eq_zero_iff.1 h0
    subst e0
    exact ⟨rfl, by rw [List.mergeSort_nil]; exact hown, Below.refl _ _, fun _ _ _ => rfl⟩
  · obtain ⟨g, cap, rfl, hbg, hg1, hncap, hcm, _, hH1⟩ := Lib.holds_of_ownsRow hown (fun e => by
      obtain ⟨a, c, hv, _⟩ := owns_valP hown
      rw [e] at hv; simp at hv; exact h0 (by omega))
    refine (Try.slices_Sort_int g 0 cap l w hH1 hg1 (by omega)).mono ?_
    rintro e w2 ⟨rfl, q, os, hw2⟩
    have hs : (putRow (Value.int .i64) (Sort.ahead w q) g 0 (l.mergeSort fun x y => decide (x ≤ y)).toArray).heap.size = w.heap.size := by simp [Sort.putRow, Sort.mapBlock, Sort.ahead]
    refine ⟨rfl, ?_, ?_, fun k hk hne => ?_⟩
    · rw [hw2]
      have h5 := Lib.ownsRow_putRow (q := q) (k := l.length) (ys := l.mergeSort fun x y => decide (x ≤ y)) hown (by rw [List.length_mergeSort]) (Nat.le_refl _)
      rw [List.take_of_length_le (by rw [List.length_mergeSort]; exact Nat.le_refl _)] at h5
      exact owns_belowP h5 (below_growP _ _)
    · rw [hw2]
      exact (Lib.below_putRow (Below.refl n w) hbg).trans ((below_growP _ _).mono (by rw [hs]; exact hn))
    · rw [hw2, (below_growP _ _).block k (by rw [hs]; exact hk)]
      exact putRow_block _ _ _ _ _ (fun e => hne (by rw [e]; rfl))
theorem compactI_any (v : Value) (l : List Int) (n : Nat) (w : World) (hn : n ≤ w.heap.size) (hown : w.ownsRow n 3 1 v l.length (ints l)) (hl : l.length ≤ 100000000) :
    Calls Try.prog 63 #[v] w fun e w' => ∃ a c, e = .returned (.slice a (Go.Lib.compact l).length c) ∧ w'.ownsRow n 3 1 (.slice a (Go.Lib.compact l).length c) (Go.Lib.compact l).length (ints (Go.Lib.compact l)) ∧ (Value.slice a (Go.Lib.compact l).length c).ownBlock = v.ownBlock ∧ InRow n v w w' := by
  by_cases h0 : l.length = 0
  · obtain ⟨a, c, rfl, _, _⟩ := owns_valP hown
    rw [h0]
    refine (Try.slices_Compact_int_empty a c w).mono ?_
    rintro e w' ⟨rfl, rfl⟩
    have e0 := List.length_eq_zero_iff.1 h0
    subst e0
    exact ⟨a, c, rfl, hown, rfl, Below.refl _ _, fun _ _ _ => rfl⟩
  · obtain ⟨g, cap, rfl, hbg, hg1, hncap, hcm, _, hH1⟩ := Lib.holds_of_ownsRow hown (fun e => by
      obtain ⟨a, c, hv, _⟩ := owns_valP hown
      rw [e] at hv; simp at hv; exact h0 (by omega))
    refine (Try.slices_Compact_int g 0 cap l w hH1 (by omega) hncap).mono ?_
    rintro e w3 ⟨rfl, q, rfl⟩
    have hlen := compact_lenI l
    refine ⟨_, _, rfl, ?_, rfl, Lib.below_putRow (Below.refl n w) hbg, fun k hk hne => putRow_block _ _ _ _ _ (fun e => hne (by rw [e]; rfl))⟩
    have := Lib.ownsRow_putRow (q := q) (k := (Go.Lib.compact l).length) (ys := Go.Lib.compact l ++ List.replicate (l.length - (Go.Lib.compact l).length) 0) hown (by simp; omega) hlen
    rw [List.take_left] at this
    exact this
theorem Ofs.redo {w w2 : World} {n g : Nat} {vo : Value} {X : List (Value × List Int)} (h : Ofs w n g vo X) (i : Nat) (x : Value × List Int) (hx : X[i]? = some x) (l : List Int)
    (hi : InRow n x.1 w w2) (hv : w2.ownsRow n 3 1 x.1 l.length (ints l)) : Ofs w2 n g vo (X.set i (x.1, l)) := by
  obtain ⟨hil, hxe⟩ := List.getElem?_eq_some_iff.1 hx
  have eg : (boxV g :: vo :: X.map (·.1))[0]? = some (boxV g) := rfl
  have e0 : (boxV g :: vo :: X.map (·.1))[1]? = some vo := rfl
  have ex : (boxV g :: vo :: X.map (·.1))[i + 1 + 1]? = some x.1 := by rw [List.getElem?_cons_succ, List.getElem?_cons_succ]; exact map_atI X i x hx
  have hne : ∀ {p q : Nat} {a d : Value} {k : Nat}, (boxV g :: vo :: X.map (·.1))[p]? = some a → (boxV g :: vo :: X.map (·.1))[q]? = some d → p ≠ q → a.ownBlock = some k → some k ≠ d.ownBlock := fun hp hq hpq hk e => by
    rcases apart_ne h.apart hp hq hpq with h5 | h5
    · rw [hk] at h5; cases h5
    · rw [hk] at h5; exact h5 e
  have hm : (X.set i (x.1, l)).map (·.1) = X.map (·.1) := by
    rw [List.map_set]; exact set_same _ _ _ (map_atI X i x hx)
  refine ⟨Nat.le_trans h.hi hi.below.size, h.gn, ?_, ?_, ?_, by rw [hm]; exact h.apart⟩
  · rw [hi.keep g h.box.2.2 (hne eg ex (by omega) rfl)]; exact h.ptr
  · rw [List.length_set, hm]
    exact owns_blockN h.out fun k hk => hi.keep k (h.out.lt k hk).2 (hne e0 ex (by omega) hk)
  · intro y hy
    obtain ⟨d, hd, rfl⟩ := List.getElem_of_mem hy
    have hd' : d < X.length := by simpa using hd
    rw [List.getElem_set]
    by_cases hid : i = d
    · rw [if_pos hid]; exact hv
    · rw [if_neg hid]
      have ed : (boxV g :: vo :: X.map (·.1))[d + 1 + 1]? = some X[d].1 := by rw [List.getElem?_cons_succ, List.getElem?_cons_succ]; exact map_atI X d X[d] (List.getElem?_eq_getElem hd')
      exact owns_blockN (h.each _ (List.getElem_mem hd')) fun k hk => hi.keep k (h.lt (List.mem_of_getElem? ed) hk).2 (hne ed ex (by omega) hk)
theorem Ofs.base {w : World} {n n2 g : Nat} {vo : Value} {X : List (Value × List Int)} (h : Ofs w n g vo X) (h2 : n2 ≤ n) : Ofs w n2 g vo X :=
  ⟨Nat.le_trans h2 h.hi, Nat.le_trans h2 h.gn, h.ptr, owns_baseP h.out h2, fun x hx => owns_baseP (h.each x hx) h2, h.apart⟩
/-- What parts makes: a function by which the rows can be had. -/
def PartsP (w : World) (b : Bn) (f : Sy → Bool) (e : Ending) (w' : World) : Prop := ∃ g vo X, e = .returned (.func (.func 64) #[] #[.pointer (some ⟨g, 0, none⟩)]) ∧ Ofs w' w.heap.size g vo X ∧ X.length = b.of.length ∧ (∀ (j : Nat) x, X[j]? = some x → x.2 = nextI b f (j : Int)) ∧ Below w.heap.size w w'
theorem toSetI_eq (l : List Int) : Go.Lib.compact (l.mergeSort fun x y => decide (x ≤ y)) = toSetI l := rfl
end Go.Proofs.Ytfmcigodfihlcaa
