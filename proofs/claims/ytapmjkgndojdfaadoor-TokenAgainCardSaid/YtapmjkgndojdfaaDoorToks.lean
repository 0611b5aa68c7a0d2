/-
  Tokens in memory: their cells, and the walk that tells whether two rows of them are the same.
-/
import Derived.Test.YtapmjkgndojdfaaDoorScope
import Derived.Test.YtapmjkgndojdfaaDoorKeyw
import Derived.SliceStrings
import Derived.Deep.QuietTactic
import Derived.BigQuiet
namespace Go.Proofs.YtapmjkgndojdfaaDoor
open Go.RowKit LX
set_option linter.unusedVariables false

theorem owns_below {w w' : World} {base e size v n xs} (h : w.ownsRow base e size v n xs) (hb : Below w.heap.size w w') : w'.ownsRow base e size v n xs := by
  refine ⟨h.1, ?_⟩
  rcases h.2 with hn | ⟨g, cap, cur, rfl, hb', hg, rest⟩
  · exact .inl hn
  · refine .inr ⟨g, cap, cur, rfl, hb', ?_, rest⟩
    rw [hb.block g (Array.getElem?_eq_some_iff.1 hg).1]
    exact hg
theorem row_cells (w : World) (xs : List Value) (size n c : Nat) (t : TypeId) (hl : xs.length = n * size) (hn : n ≤ c) (hc : c ≤ maxLen) : Row (w.alloc (.cells xs.toArray t)) (w.heap.size + 1) size (.slice (some ⟨w.heap.size, 0, none⟩) n c) n xs := by
  refine ⟨hl, by omega, .inr ⟨_, c, rfl, hn, hc, .inr (by show w.heap.size < _; omega), fun j u hu => ?_⟩⟩
  rw [cell_add _ _ _ _ _ (heap_alloc_new w _)]
  simpa using hu
theorem row_alloc2 (w : World) (o : Obj) (xs : List Value) (size : Nat) (t : TypeId) (hl : xs.length = size) : Row ((w.alloc o).alloc (.cells xs.toArray t)) (w.heap.size + 2) size (.slice (some ⟨w.heap.size + 1, 0, none⟩) 1 1) 1 xs := by
  have h := row_cells (w.alloc o) xs size 1 1 t (by omega) (Nat.le_refl _) (by unfold maxLen; omega)
  simpa only [World.size_alloc] using h
def tokC (t : Tok) : List Value := [.int .i64 t.k, .string t.s, .int .i64 t.n, .int .i64 t.p]
def toksC (l : List Tok) : List Value := l.flatMap tokC
theorem tokC_one (t : Tok) : ∀ u ∈ tokC t, u.oneCell' = true := by
  intro u hu
  simp only [tokC, List.mem_cons, List.not_mem_nil, or_false] at hu
  rcases hu with rfl | rfl | rfl | rfl <;> rfl
theorem toksC_length (l : List Tok) : (toksC l).length = l.length * 4 := by
  induction l with
  | nil => rfl
  | cons t r ih =>
    have : toksC (t :: r) = tokC t ++ toksC r := rfl
    rw [this, List.length_append, ih]; simp [tokC]; omega
theorem toksC_snoc (l : List Tok) (t : Tok) : toksC (l ++ [t]) = toksC l ++ tokC t := by simp [toksC]
/-- What a reader of texts tells: a slice of tokens, a place, what is wrong. -/
def AllPost (T : TypeId) (w : World) (r : List Tok × Nat × Nat) (e : Ending) (w' : World) : Prop :=
  ∃ v, e = .returned (.tuple #[v, .int .i64 (r.2.1 : Nat), .int .i64 (r.2.2 : Nat)]) ∧ w'.ownsRow w.heap.size T 4 v r.1.length (toksC r.1) ∧ Below w.heap.size w w'
theorem info_tok : (Tryd.prog.info? 31).map (fun i => (i.zero, i.size, i.bytes)) = some (some (.agg #[.int .i64 0, .string ByteArray.empty, .int .i64 0, .int .i64 0]), 4, 40) := by kernel_rfl
/-- A row that the call owns: its block, and its cells. -/
theorem owns_cells {w : World} {base e size : Nat} {v : Value} {n : Nat} {xs : List Value} (h : w.ownsRow base e size v n xs) (hn : 0 < n) : ∃ g c, v = .slice (some ⟨g, 0, none⟩) n c ∧ n ≤ c ∧ c ≤ maxLen ∧ base ≤ g ∧ g < w.heap.size ∧ ∀ j u, xs[j]? = some u → w.cell? ⟨g, j, none⟩ = some u := by
  rcases h.2 with ⟨_, h0⟩ | ⟨g, c, cur, rfl, hb, hg, h1, h2, h3, h4⟩
  · omega
  · refine ⟨g, c, rfl, h1, h2, hb, (Array.getElem?_eq_some_iff.1 hg).1, fun j u hu => ?_⟩
    rw [cell_of_row w g j cur e (0, 0) hg]
    rw [← h4, List.getElem?_take] at hu
    split at hu
    · simpa using hu
    · cases hu
theorem toksC_at (l : List Tok) (k : Nat) (hk : k < l.length) (j : Nat) (hj : j < 4) : (toksC l)[k * 4 + j]? = (tokC l[k])[j]? := by
  induction l generalizing k with
  | nil => simp at hk
  | cons t r ih =>
    have e : toksC (t :: r) = tokC t ++ toksC r := rfl
    have e4 : (tokC t).length = 4 := rfl
    rw [e]
    cases k with
    | zero => rw [List.getElem?_append_left (by omega)]; simp
    | succ k =>
      rw [List.getElem?_append_right (by omega), e4, show (k + 1) * 4 + j - 4 = k * 4 + j from by omega]
      exact ih k (by simpa using hk)

set_option maxRecDepth 100000 in
set_option maxHeartbeats 1600000 in
theorem same_any (v1 v2 : Value) (l : List Tok) (w : World) (r1 : Row w w.heap.size 4 v1 l.length (toksC l)) (r2 : Row w w.heap.size 4 v2 l.length (toksC l)) :
    Calls Tryd.prog 9 #[v1, v2] w fun e w' => e = .returned (.int .i64 1) ∧ Below w.heap.size w w' := by
  obtain ⟨ao, c, rfl, hc1, hc2⟩ := r1.val
  obtain ⟨bo, d, rfl, hd1, hd2⟩ := r2.val
  have hl63 : l.length ≤ 9223372036854775807 := by unfold maxLen at hc2; omega
  have R1 := Lib.hid r1; have R2 := Lib.hid r2
  clear r1 r2
  go_enter Tryd.func9, Tryd.ntmps9
  go_wp2_with fail
  go_loopw [5] (fun i wr => ∃ k : Nat, k ≤ l.length ∧ i = .int .i64 k ∧ Below w.heap.size w wr) (fun i _ => l.length - (intOf i).toNat)
  case atStart => exact ⟨0, Nat.zero_le _, rfl, Below.refl _ _⟩
  case round =>
    obtain ⟨k, hk, rfl, hbel⟩ := hrel
    by_cases hlt : k < l.length
    · have a1 := R1.out.below hbel
      have a2 := R2.out.below hbel
      obtain ⟨b1, o1, rfl, hb1, _⟩ := a1.at (by rw [toksC_length]; omega)
      obtain ⟨b2, o2, rfl, hb2, _⟩ := a2.at (by rw [toksC_length]; omega)
      have c10 := a1.cell (k * 4 + 0) _ (toksC_at l k hlt 0 (by omega))
      have c11 := a1.cell (k * 4 + 1) _ (toksC_at l k hlt 1 (by omega))
      have c12 := a1.cell (k * 4 + 2) _ (toksC_at l k hlt 2 (by omega))
      have c13 := a1.cell (k * 4 + 3) _ (toksC_at l k hlt 3 (by omega))
      simp only [Nat.add_zero, ← Nat.add_assoc] at c10 c11 c12 c13
      have c20 := a2.cell (k * 4 + 0) _ (toksC_at l k hlt 0 (by omega))
      have c21 := a2.cell (k * 4 + 1) _ (toksC_at l k hlt 1 (by omega))
      have c22 := a2.cell (k * 4 + 2) _ (toksC_at l k hlt 2 (by omega))
      have c23 := a2.cell (k * 4 + 3) _ (toksC_at l k hlt 3 (by omega))
      simp only [Nat.add_zero, ← Nat.add_assoc] at c20 c21 c22 c23
      have hk0 : (k : Int) < (l.length : Int) := by omega
      have hk1 : (0 : Int) ≤ (k : Int) := by omega
      clear a1 a2
      generalize l[k] = t at *
      go_wp2_with fail
      go_region
      all_goals
        go_wp2_with fail
        go_roundw
        case rel => exact ⟨k + 1, hlt, by go_num, by first | exact hbel.drew | exact hbel⟩
        case measure => simp [intOf]; omega
    · obtain rfl : k = l.length := by omega
      go_wp2_with fail
      go_ret
      exact ⟨rfl, hbel⟩
end Go.Proofs.YtapmjkgndojdfaaDoor
