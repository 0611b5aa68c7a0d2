/-
  What the sample's beginnings are.
-/
import Derived.Test.YtimgnbacgdmiiaaFirM
namespace Go.Proofs.Ytimgnbacgdmiiaa
open Go.RowKit PK
set_option linter.unusedVariables false
set_option linter.unusedSimpArgs false

theorem may_smp14 : bmay smp14 = 0 := by decide
def sol14 : Sts := [[[1, 1], [1, 2], [2]]]
theorem ok_smp14 : ∀ p ∈ smp14.l, prOk smp14 p = true := by decide
theorem fd2 : FD smp14 2 [⟨true, 2⟩] [2] := .tok (l := []) (x := []) .nil rfl
theorem fd1 : FD smp14 2 [⟨true, 1⟩] [1] := .tok (l := []) (x := []) .nil rfl
theorem fd12 : FD smp14 2 [⟨true, 1⟩, ⟨false, 0⟩] [1, 2] := .non (l := [⟨true, 1⟩]) (x := [1]) (y := [2]) (p := ⟨0, [⟨true, 2⟩]⟩) fd1 rfl (by simp [smp14]) rfl fd2
theorem fd11 : FD smp14 2 [⟨true, 1⟩, ⟨false, 0⟩] [1, 1] := .non (l := [⟨true, 1⟩]) (x := [1]) (y := [1, 2]) (p := ⟨0, [⟨true, 1⟩, ⟨false, 0⟩]⟩) fd1 rfl (by simp [smp14]) rfl fd12
theorem sol_at (n : Int) (x : Tx) (h : x ∈ stAt sol14 n) : n.toNat = 0 ∧ (x = [1, 1] ∨ x = [1, 2] ∨ x = [2]) := by
  unfold stAt sol14 at h
  match hn : n.toNat with
  | 0 => rw [hn] at h; simpa using h
  | k + 1 => rw [hn] at h; simp at h
theorem sound14 : Sound smp14 2 sol14 := by
  refine ⟨rfl, fun l hl => ?_, fun n x hx => ?_⟩
  · have e : l = [[1, 1], [1, 2], [2]] := by simpa [sol14] using hl
    rw [e]
    refine List.pairwise_cons.2 ⟨fun y hy => ?_, List.pairwise_cons.2 ⟨fun y hy => ?_, List.pairwise_singleton _ _⟩⟩
    · simp only [List.mem_cons, List.not_mem_nil, or_false] at hy
      rcases hy with rfl | rfl <;> decide
    · simp only [List.mem_cons, List.not_mem_nil, or_false] at hy
      subst hy; decide
  · obtain ⟨h0, rfl | rfl | rfl⟩ := sol_at n x hx
    · exact ⟨⟨0, [⟨true, 1⟩, ⟨false, 0⟩]⟩, by simp [smp14], by rw [h0]; rfl, fd11⟩
    · exact ⟨⟨0, [⟨true, 1⟩, ⟨false, 0⟩]⟩, by simp [smp14], by rw [h0]; rfl, fd12⟩
    · exact ⟨⟨0, [⟨true, 2⟩]⟩, by simp [smp14], by rw [h0]; rfl, fd2⟩
theorem row1 (x : Tx) (h : x ∈ rowS 2 sol14 [⟨true, 1⟩]) : x = [1] := by
  have e : ([⟨true, 1⟩] : List Sy) = [] ++ [⟨true, 1⟩] := rfl
  rw [e, rowS_snoc, catL_mem] at h
  obtain ⟨a, ha, y, hy, rfl⟩ := h
  have h1 : a = [] := by simpa [rowS] using ha
  have h2 : y = [1] := by simpa [symS] using hy
  rw [h1, h2]; rfl
theorem row2 (x : Tx) (h : x ∈ rowS 2 sol14 [⟨true, 2⟩]) : x = [2] := by
  have e : ([⟨true, 2⟩] : List Sy) = [] ++ [⟨true, 2⟩] := rfl
  rw [e, rowS_snoc, catL_mem] at h
  obtain ⟨a, ha, y, hy, rfl⟩ := h
  have h1 : a = [] := by simpa [rowS] using ha
  have h2 : y = [2] := by simpa [symS] using hy
  rw [h1, h2]; rfl
theorem row10 (x : Tx) (h : x ∈ rowS 2 sol14 [⟨true, 1⟩, ⟨false, 0⟩]) : x = [1, 1] ∨ x = [1, 2] := by
  have e : ([⟨true, 1⟩, ⟨false, 0⟩] : List Sy) = [⟨true, 1⟩] ++ [⟨false, 0⟩] := rfl
  rw [e, rowS_snoc, catL_mem] at h
  obtain ⟨a, ha, y, hy, rfl⟩ := h
  rw [row1 a ha]
  have h2 : y ∈ stAt sol14 0 := by simpa [symS] using hy
  obtain ⟨_, rfl | rfl | rfl⟩ := sol_at 0 y h2
  · exact .inl rfl
  · exact .inl rfl
  · exact .inr rfl
theorem closed14 : Closed smp14 2 sol14 := by
  intro p hp x hx
  simp only [smp14, List.mem_cons, List.not_mem_nil, or_false] at hp
  rcases hp with rfl | rfl
  · rcases row10 x hx with rfl | rfl <;> (show _ ∈ stAt sol14 0; simp [stAt, sol14])
  · rw [row2 x hx]; show _ ∈ stAt sol14 0; simp [stAt, sol14]
theorem not_over14 (S : Sts) (hS : Sound smp14 2 S) : ¬ Over smp14 2 600 S := fun h => by
  refine Over.not h (hS.sub ok_smp14 closed14) sound14.set closed14 (fun p hp ho => ?_) (fun n => ?_)
  · obtain ⟨i, hi, h1⟩ := ho
    simp only [smp14, List.mem_cons, List.not_mem_nil, or_false] at hp
    rcases hp with rfl | rfl
    · have h2 : i = 0 ∨ i = 1 := by simp at hi; omega
      rcases h2 with rfl | rfl
      · have : (rowS 2 sol14 [⟨true, 1⟩]).length ≤ ([[1]] : List Tx).length := tset_sub (rowS_set _ _ _) fun x hx => by rw [row1 x hx]; simp
        simp at this h1; omega
      · have : (rowS 2 sol14 [⟨true, 1⟩, ⟨false, 0⟩]).length ≤ ([[1, 1], [1, 2]] : List Tx).length := tset_sub (rowS_set _ _ _) fun x hx => by rcases row10 x hx with rfl | rfl <;> simp
        simp at this h1; omega
    · have h2 : i = 0 := by simp at hi; omega
      subst h2
      have : (rowS 2 sol14 [⟨true, 2⟩]).length ≤ ([[2]] : List Tx).length := tset_sub (rowS_set _ _ _) fun x hx => by rw [row2 x hx]; simp
      simp at this h1; omega
  · unfold stAt sol14
    match n.toNat with
    | 0 => simp
    | k + 1 => simp
theorem sol_uniq (S : Sts) (hS : Sound smp14 2 S) (hc : Closed smp14 2 S) : S = sol14 := hS.uniq ok_smp14 sound14 hc closed14
end Go.Proofs.Ytimgnbacgdmiiaa
