/-
  A slice that came in, of elements of whatever type of one cell or more: as a row of cells, each element's with its reading.
-/
import Derived.Test.YtimgnbacgdmiiaaSl
import Derived.ChangeArms
import Derived.WideShapes
namespace Go.Proofs.Ytimgnbacgdmiiaa
open Go.RowKit
set_option linter.unusedVariables false

theorem flat_at (xs : List (List Value)) (size : Nat) (hs : ∀ c ∈ xs, c.length = size) (k : Nat) (hk : k < xs.length) (j : Nat) (hj : j < size) : xs.flatten[k * size + j]? = xs[k][j]? := by
  induction xs generalizing k with
  | nil => simp at hk
  | cons c r ih =>
    have hc := hs c (by simp)
    rw [List.flatten_cons]
    cases k with
    | zero => rw [List.getElem?_append_left (by omega)]; simp
    | succ k =>
      rw [List.getElem?_append_right (by rw [hc, Nat.succ_mul]; omega), hc, show (k + 1) * size + j - size = k * size + j from by rw [Nat.succ_mul]; omega]
      simpa using ih (fun c hc => hs c (by simp [hc])) k (by simpa using hk)
theorem flat_len (xs : List (List Value)) (size : Nat) (hs : ∀ c ∈ xs, c.length = size) : xs.flatten.length = xs.length * size := by
  induction xs with
  | nil => simp
  | cons c r ih => rw [List.flatten_cons, List.length_append, hs c (by simp), ih (fun c hc => hs c (by simp [hc]))]; simp [Nat.succ_mul]; omega
theorem listOf (Q : Nat → List Value → Prop) (m : Nat) (hx : ∀ i, i < m → ∃ cs, Q i cs) : ∃ xs : List (List Value), xs.length = m ∧ ∀ i (hi : i < xs.length), Q i xs[i] := by
  induction m with
  | zero => exact ⟨[], rfl, fun i hi => by simp at hi⟩
  | succ m ih =>
    obtain ⟨xs, h1, h2⟩ := ih (fun i hi => hx i (by omega))
    obtain ⟨cs, h3⟩ := hx m (by omega)
    refine ⟨xs ++ [cs], by simp [h1], fun i hi => ?_⟩
    by_cases him : i < xs.length
    · rw [List.getElem_append_left him]; exact h2 i him
    · have : i = m := by simp at hi; omega
      subst this
      rw [List.getElem_append_right (by omega)]
      simp only [h1, Nat.sub_self, List.getElem_cons_zero]
      exact h3
theorem rowOfElems {H : Type} {enc : TypeId × Value → H} {P : Program} {w : World} {base : Nat} {spare : Nat → Bool} {held : Bool} {t e : TypeId} {size : Nat} {v : Value} {d : DataW H} {p : List MemPlace}
    (ht : P.underlying t = some (.slice e)) (hc : P.cellsOf e = size) (hsz : 0 < size) (hok : ∃ a len cap, v = .slice a len cap) (h : DataW.Trod enc P w base spare held t v d p) :
    ∃ xs : List (List Value), Row w w.heap.size size v xs.length xs.flatten ∧ ∀ c ∈ xs, c.length = size ∧ ∃ n y, DataW.trod enc P w base spare held n e c = some y := by
  obtain ⟨fuel, hf⟩ := h
  obtain ⟨a0, len0, cap0, rfl⟩ := hok
  rcases DataW.trod_slice ht hf with ⟨hcs, _⟩ | ⟨a, len, cap, elems, rest, n, _, hcs, _, _, hl, hm, hlen, hel, _, _⟩
  · simp [Value.cells] at hcs
    obtain ⟨rfl, rfl, rfl⟩ := hcs
    exact ⟨[], ⟨by simp, Nat.zero_le _, .inl ⟨rfl, rfl⟩⟩, fun c hc => by cases hc⟩
  · simp [Value.cells] at hcs
    obtain ⟨rfl, rfl, rfl⟩ := hcs
    rw [hc] at hel
    have hx : ∀ i, i < len0 → ∃ cs : List Value, cs.length = size ∧ (∀ j, j < size → w.cell? (a.add (i * size + j)) = cs[j]?) ∧ ∃ y, DataW.trod enc P w base spare held n e cs = some y := fun i hi => by
      have h1 := hel i hi
      have h2 : elems[i]? = some (elems[i]'(by omega)) := List.getElem?_eq_getElem (by omega)
      rw [h2, Option.bind_eq_some_iff] at h1
      obtain ⟨cs, hcells, hd⟩ := h1
      obtain ⟨_, hl2, hcell⟩ := World.cells?_some hcells
      exact ⟨cs, hl2, fun j hj => by rw [← hcell j hj]; unfold Addr.add; by_cases h0 : i * size = 0 <;> by_cases h1 : j = 0 <;> simp [h0, h1, Nat.add_assoc], _, hd⟩
    have hall := listOf (fun i cs => cs.length = size ∧ (∀ j, j < size → w.cell? (a.add (i * size + j)) = cs[j]?) ∧ ∃ y, DataW.trod enc P w base spare held n e cs = some y) len0 hx
    obtain ⟨xs, h1, h2⟩ := hall
    have hs : ∀ c ∈ xs, c.length = size := fun c hc => by obtain ⟨i, hi, rfl⟩ := List.getElem_of_mem hc; exact (h2 i hi).1
    refine ⟨xs, ⟨flat_len xs size hs, by omega, .inr ⟨a, cap0, by rw [h1], by omega, hm, ?_, ?_⟩⟩, fun c hc => ?_⟩
    · rcases Nat.eq_zero_or_pos xs.length with h0 | h0
      · exact .inl h0
      · right
        obtain ⟨h3, h4, _⟩ := h2 0 h0
        have h5 := h4 0 hsz
        rw [List.getElem?_eq_getElem (by omega)] at h5
        have := World.block_lt_of_cell? w _ h5
        simpa [Addr.add] using this
    · intro j u hu
      have hj : j < xs.length * size := by rw [← flat_len xs size hs]; exact (List.getElem?_eq_some_iff.1 hu).1
      have hd := Nat.div_lt_of_lt_mul (by rw [Nat.mul_comm]; exact hj : j < size * xs.length)
      have hmd := Nat.mod_lt j hsz
      have hj2 : j = j / size * size + j % size := (Nat.div_add_mod' j size).symm
      rw [hj2, flat_at xs size hs _ hd _ hmd] at hu
      rw [hj2, (h2 _ hd).2.1 _ hmd]; exact hu
    · obtain ⟨i, hi, rfl⟩ := List.getElem_of_mem hc
      obtain ⟨h3, _, y, h5⟩ := h2 i hi
      exact ⟨h3, n, y, h5⟩
end Go.Proofs.Ytimgnbacgdmiiaa
