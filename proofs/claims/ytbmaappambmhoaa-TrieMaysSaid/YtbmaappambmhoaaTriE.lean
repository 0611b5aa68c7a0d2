/-
  A list of lists of texts that came in.
-/
import Derived.Test.YtbmaappambmhoaaTriA
import Derived.Test.YtbmaappambmhoaaSlC
import Derived.SliceStrings
namespace Go.Proofs.Ytbmaappambmhoaa
open Go.RowKit PK
set_option linter.unusedVariables false

theorem rrBuild (w : World) : ∀ xs : List (List Value), (∀ c ∈ xs, ∃ u l, c = [u] ∧ Row w w.heap.size 1 u l.length (svt l) ∧ ∀ x ∈ l, x.length ≤ maxLen) →
    ∃ S : List (List Tx), S.length = xs.length ∧ (∀ i (hi : i < S.length), ∃ u, xs.flatten[i]? = some u ∧ Row w w.heap.size 1 u S[i].length (svt S[i])) ∧ ∀ l ∈ S, ∀ x ∈ l, x.length ≤ maxLen := by
  intro xs
  induction xs with
  | nil => intro _; exact ⟨[], rfl, fun i hi => by simp at hi, fun l hl => by cases hl⟩
  | cons c r ih =>
    intro h
    obtain ⟨S, h1, h2, h3⟩ := ih fun d hd => h d (List.mem_cons_of_mem _ hd)
    obtain ⟨u, l, rfl, hr, hx⟩ := h c List.mem_cons_self
    refine ⟨l :: S, by simp [h1], fun i hi => ?_, fun m hm => ?_⟩
    · cases i with
      | zero => exact ⟨u, by simp, by simpa using hr⟩
      | succ i =>
        obtain ⟨v, hv, hrv⟩ := h2 i (by simpa using hi)
        exact ⟨v, by simpa using hv, by simpa using hrv⟩
    · rcases List.mem_cons.1 hm with e | e
      · subst e; exact hx
      · exact h3 m e
set_option maxRecDepth 100000 in
theorem rrOf {H : Type} {enc : TypeId × Value → H} {P : Program} {w : World} {base : Nat} {spare : Nat → Bool} {held : Bool} {t e f : TypeId} {v : Value} {d : DataW H} {p : List MemPlace}
    (ht : P.underlying t = some (.slice e)) (hes : P.underlying e = some (.slice f)) (hfs : P.underlying f = some .string) (hce : P.cellsOf e = 1) (hcf : P.cellsOf f = 1) (hok : ∃ a len cap, v = .slice a len cap) (h : DataW.Trod enc P w base spare held t v d p) :
    ∃ S : List (List Tx), RR w w.heap.size v S ∧ ∀ l ∈ S, ∀ x ∈ l, x.length ≤ maxLen := by
  obtain ⟨xs, hrow, hel⟩ := rowOfElems ht hce (by decide) hok h
  obtain ⟨S, h1, h2, h3⟩ := rrBuild w xs fun c hc => by
    obtain ⟨_, n, y, hf⟩ := hel c hc
    obtain ⟨d', p'⟩ := y
    rcases Go.ChangeShapes.open_strings hes hfs hcf hf with ⟨hcs, _⟩ | ⟨a, len', cap', zs, hcs, _, hl, hm, hz, hx, hcell, hwz⟩
    · exact ⟨_, [], hcs, ⟨rfl, Nat.zero_le _, .inl ⟨rfl, rfl⟩⟩, fun n hn => by cases hn⟩
    · have hzl : len' ≤ zs.length := by split at hz <;> omega
      have hlen : (zs.take len').length = len' := by rw [List.length_take]; omega
      refine ⟨_, (zs.take len').map (·.data.toList), hcs, ?_, fun x hxm => ?_⟩
      · have hl2 : ((zs.take len').map (·.data.toList)).length = len' := by rw [List.length_map]; exact hlen
        refine ⟨by simp [svt], by rw [hl2]; omega, .inr ⟨a, cap', by rw [hl2], by rw [hl2]; exact hl, hm, ?_, ?_⟩⟩
        · rw [hl2]
          rcases Nat.eq_zero_or_pos len' with h0 | h0
          · exact .inl h0
          · right
            have := World.block_lt_of_cell? w _ (hcell 0 (by omega))
            simpa [Addr.add] using this
        · intro j u hu
          unfold svt at hu
          rw [Lib.map_encStr, List.getElem?_map, List.getElem?_take] at hu
          split at hu
          · have hj : j < zs.length := by omega
            rw [hcell j hj, ← hu]
            simp [hj]
          · simp at hu
      · obtain ⟨y, hy, rfl⟩ := List.mem_map.1 hxm
        have := hwz y (List.mem_of_mem_take hy)
        rw [Array.length_toList]; exact this
  rw [← h1] at hrow
  exact ⟨S, ⟨xs.flatten, hrow, h2⟩, h3⟩
end Go.Proofs.Ytbmaappambmhoaa
