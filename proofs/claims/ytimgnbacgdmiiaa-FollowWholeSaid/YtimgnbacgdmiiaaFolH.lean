/-
  The laws of stage 15: few, the chapter's sample.
-/
import Derived.Test.YtimgnbacgdmiiaaFolF
import Derived.Test.YtimgnbacgdmiiaaFolG
import Derived.Test.YtimgnbacgdmiiaaFirS
import Derived.BigQuiet
namespace Go.Proofs.Ytimgnbacgdmiiaa
open Go.RowKit PK
set_option linter.unusedVariables false
set_option linter.unusedSimpArgs false
attribute [local go_sem ↓] append_appM

def smp15 : Bn := ⟨2, 1, [-1, -1], [⟨0, [⟨false, 1⟩, ⟨true, 1⟩]⟩, ⟨1, [⟨true, 2⟩]⟩]⟩
theorem br_smp15 (w : World) (A : Obj) : ∃ W, W = ((((w.alloc A).alloc (.cells #[.int .i64 (-1), .int .i64 (-1)] 3)).alloc (.cells #[.bool false, .int .i64 1, .bool true, .int .i64 1] 39)).alloc (.cells #[.bool true, .int .i64 2] 39)).alloc (.cells #[.int .i64 0, .slice (some ⟨w.heap.size + 1 + 1, 0, none⟩) 2 2, .int .i64 1, .slice (some ⟨w.heap.size + 1 + 1 + 1, 0, none⟩) 1 1] 57) ∧
    BR W W.heap.size (.slice (some ⟨w.heap.size + 1, 0, none⟩) 2 2) (.slice (some ⟨w.heap.size + 1 + 1 + 1 + 1, 0, none⟩) 2 2) smp15 ∧ Below w.heap.size w W ∧ Below (w.heap.size + 1) (w.alloc A) W := by
  have s1 : (w.alloc A).heap.size = w.heap.size + 1 := by simp
  obtain ⟨W1, hW1⟩ : ∃ W1, W1 = w.alloc A := ⟨_, rfl⟩
  have b1 : Below w.heap.size w W1 := by rw [hW1]; exact (Below.refl w.heap.size w).alloc (Nat.le_refl _) _
  rw [← hW1] at s1 ⊢
  have r1 := row_cellsB W1 (ints [-1, -1]) 1 2 2 3 rfl (Nat.le_refl _) (by unfold maxLen; omega)
  have s2 : (W1.alloc (.cells (ints [-1, -1]).toArray 3)).heap.size = W1.heap.size + 1 := by simp
  have b2 := (Below.refl W1.heap.size W1).alloc (Nat.le_refl _) (.cells (ints [-1, -1]).toArray 3)
  rw [show W1.alloc (.cells #[.int .i64 (-1), .int .i64 (-1)] 3) = W1.alloc (.cells (ints [-1, -1]).toArray 3) from rfl]
  generalize W1.alloc (.cells (ints [-1, -1]).toArray 3) = W2 at *
  have r2 := row_cellsB W2 (symC [⟨false, 1⟩, ⟨true, 1⟩]) 2 2 2 39 rfl (Nat.le_refl _) (by unfold maxLen; omega)
  have s3 : (W2.alloc (.cells (symC [⟨false, 1⟩, ⟨true, 1⟩]).toArray 39)).heap.size = W2.heap.size + 1 := by simp
  have b3 := (Below.refl W2.heap.size W2).alloc (Nat.le_refl _) (.cells (symC [⟨false, 1⟩, ⟨true, 1⟩]).toArray 39)
  rw [show W2.alloc (.cells #[.bool false, .int .i64 1, .bool true, .int .i64 1] 39) = W2.alloc (.cells (symC [⟨false, 1⟩, ⟨true, 1⟩]).toArray 39) from rfl]
  generalize W2.alloc (.cells (symC [⟨false, 1⟩, ⟨true, 1⟩]).toArray 39) = W3 at *
  have r3 := row_cellsB W3 (symC [⟨true, 2⟩]) 2 1 1 39 rfl (Nat.le_refl _) (by unfold maxLen; omega)
  have s4 : (W3.alloc (.cells (symC [⟨true, 2⟩]).toArray 39)).heap.size = W3.heap.size + 1 := by simp
  have b4 := (Below.refl W3.heap.size W3).alloc (Nat.le_refl _) (.cells (symC [⟨true, 2⟩]).toArray 39)
  rw [show W3.alloc (.cells #[.bool true, .int .i64 2] 39) = W3.alloc (.cells (symC [⟨true, 2⟩]).toArray 39) from rfl]
  generalize W3.alloc (.cells (symC [⟨true, 2⟩]).toArray 39) = W4 at *
  have r4 := row_cellsB W4 ([[.int .i64 0, .slice (some ⟨w.heap.size + 1 + 1, 0, none⟩) 2 2], [.int .i64 1, .slice (some ⟨w.heap.size + 1 + 1 + 1, 0, none⟩) 1 1]] : List (List Value)).flatten 2 2 2 57 rfl (Nat.le_refl _) (by unfold maxLen; omega)
  have s5 : (W4.alloc (.cells ([[.int .i64 0, .slice (some ⟨w.heap.size + 1 + 1, 0, none⟩) 2 2], [.int .i64 1, .slice (some ⟨w.heap.size + 1 + 1 + 1, 0, none⟩) 1 1]] : List (List Value)).flatten.toArray 57)).heap.size = W4.heap.size + 1 := by simp
  have b5 := (Below.refl W4.heap.size W4).alloc (Nat.le_refl _) (.cells ([[.int .i64 0, .slice (some ⟨w.heap.size + 1 + 1, 0, none⟩) 2 2], [.int .i64 1, .slice (some ⟨w.heap.size + 1 + 1 + 1, 0, none⟩) 1 1]] : List (List Value)).flatten.toArray 57)
  refine ⟨_, rfl, ?_⟩
  rw [show W4.alloc (.cells #[.int .i64 0, .slice (some ⟨w.heap.size + 1 + 1, 0, none⟩) 2 2, .int .i64 1, .slice (some ⟨w.heap.size + 1 + 1 + 1, 0, none⟩) 1 1] 57) = W4.alloc (.cells ([[.int .i64 0, .slice (some ⟨w.heap.size + 1 + 1, 0, none⟩) 2 2], [.int .i64 1, .slice (some ⟨w.heap.size + 1 + 1 + 1, 0, none⟩) 1 1]] : List (List Value)).flatten.toArray 57) from rfl]
  generalize W4.alloc (.cells ([[.int .i64 0, .slice (some ⟨w.heap.size + 1 + 1, 0, none⟩) 2 2], [.int .i64 1, .slice (some ⟨w.heap.size + 1 + 1 + 1, 0, none⟩) 1 1]] : List (List Value)).flatten.toArray 57) = W5 at *
  rw [s1] at s2 r1 b2
  rw [s2] at s3 r2 b3
  rw [s3] at s4 r3 b4
  rw [s4] at s5 r4 b5
  rw [s5]
  have c4 := b5
  have c3 := b4.trans (c4.mono (by omega))
  have c2 := b3.trans (c3.mono (by omega))
  have c1 := b2.trans (c2.mono (by omega))
  refine ⟨⟨((r1.below c2).mono (by omega) : Row W5 _ 1 _ 2 (ints [-1, -1])), _, r4, rfl, fun c hc => ?_, fun i hi => ?_⟩, b1.trans (c1.mono (by omega)), c1⟩
  · simp only [List.mem_cons, List.not_mem_nil, or_false] at hc
    rcases hc with rfl | rfl <;> rfl
  · match i, hi with
    | 0, _ => exact ⟨_, rfl, (r2.below c3).mono (by omega)⟩
    | 1, _ => exact ⟨_, rfl, (r3.below c4).mono (by omega)⟩
set_option maxHeartbeats 1000000 in
theorem any_smp15 (w : World) : Calls Try.prog 49 #[] w fun e w' => ∃ o l, e = .returned (.agg #[.int .i64 2, .int .i64 1, o, l]) ∧ BR w' w'.heap.size o l smp15 ∧ Below w.heap.size w w' := by
  have hc := fun A => br_smp15 w A
  go_enter Try.func49, Try.ntmps49
  go_wp2_with fail
  obtain ⟨W, hW, hr, hb, hb2⟩ := hc (.cells #[.int .i64 2, .int .i64 1, .slice (some ⟨w.heap.size + 1, 0, none⟩) 2 2, .slice (some ⟨w.heap.size + 1 + 1 + 1 + 1, 0, none⟩) 2 2] 25)
  rw [← hW]
  have q := fun j u h => (hb2.cell (p := ⟨w.heap.size, j, none⟩) (Nat.lt_succ_self _)).trans (cell_new w #[.int .i64 2, .int .i64 1, .slice (some ⟨w.heap.size + 1, 0, none⟩) 2 2, .slice (some ⟨w.heap.size + 1 + 1 + 1 + 1, 0, none⟩) 2 2] 25 j u h)
  have q5 := q 0 _ rfl
  have q6 := q 1 _ rfl
  have q7 := q 2 _ rfl
  have q8 := q 3 _ rfl
  clear hc hW q
  refine bodyPost_ret (v := .agg #[.int .i64 2, .int .i64 1, .slice (some ⟨w.heap.size + 1, 0, none⟩) 2 2, .slice (some ⟨w.heap.size + 1 + 1 + 1 + 1, 0, none⟩) 2 2]) (by simp [results, Try.results49, go_sem, q5, q6, q7, q8]) rfl ?_
  exact ⟨_, _, rfl, hr, hb⟩

theorem may_smp15 : bmay smp15 = 0 := by decide
theorem ok_smp15 : ∀ p ∈ smp15.l, prOk smp15 p = true := by decide
def sol15 : Sts := [[[2]], [[2]]]
theorem fdb15 : FD smp15 1 [⟨true, 2⟩] [2] := .tok (l := []) (x := []) .nil rfl
theorem fdn15 : FD smp15 1 [⟨false, 1⟩] [2] := .non (l := []) (x := []) (y := [2]) (p := ⟨1, [⟨true, 2⟩]⟩) .nil rfl (by simp [smp15]) rfl fdb15
theorem fda15 : FD smp15 1 [⟨false, 1⟩, ⟨true, 1⟩] [2] := .tok (l := [⟨false, 1⟩]) (x := [2]) fdn15 rfl
theorem sol_at15 (n : Int) (x : Tx) (h : x ∈ stAt sol15 n) : (n.toNat = 0 ∨ n.toNat = 1) ∧ x = [2] := by
  unfold stAt sol15 at h
  match hn : n.toNat with
  | 0 => rw [hn] at h; exact ⟨.inl rfl, by simpa using h⟩
  | 1 => rw [hn] at h; exact ⟨.inr rfl, by simpa using h⟩
  | k + 2 => rw [hn] at h; simp at h
theorem sound15 : Sound smp15 1 sol15 := by
  refine ⟨rfl, fun l hl => ?_, fun n x hx => ?_⟩
  · have e : l = [[2]] := by simpa [sol15] using hl
    rw [e]; exact List.pairwise_singleton _ _
  · obtain ⟨h0 | h0, rfl⟩ := sol_at15 n x hx
    · exact ⟨⟨0, [⟨false, 1⟩, ⟨true, 1⟩]⟩, by simp [smp15], by rw [h0]; rfl, fda15⟩
    · exact ⟨⟨1, [⟨true, 2⟩]⟩, by simp [smp15], by rw [h0]; rfl, fdb15⟩
theorem rowt15 (n : Int) (hn : 0 ≤ n) (x : Tx) (h : x ∈ rowS 1 sol15 [⟨true, n⟩]) : x = [UInt8.ofNat n.toNat] := by
  have e : ([⟨true, n⟩] : List Sy) = [] ++ [⟨true, n⟩] := rfl
  rw [e, rowS_snoc, catL_mem] at h
  obtain ⟨a, ha, y, hy, rfl⟩ := h
  have h1 : a = [] := by simpa [rowS] using ha
  have h2 : y = [UInt8.ofNat n.toNat] := by simpa [symS] using hy
  rw [h1, h2]; rfl
theorem rown15 (x : Tx) (h : x ∈ rowS 1 sol15 [⟨false, 1⟩]) : x = [2] := by
  have e : ([⟨false, 1⟩] : List Sy) = [] ++ [⟨false, 1⟩] := rfl
  rw [e, rowS_snoc, catL_mem] at h
  obtain ⟨a, ha, y, hy, rfl⟩ := h
  have h1 : a = [] := by simpa [rowS] using ha
  have h2 : y ∈ stAt sol15 1 := by simpa [symS] using hy
  rw [h1, (sol_at15 1 y h2).2]; rfl
theorem rowa15 (x : Tx) (h : x ∈ rowS 1 sol15 [⟨false, 1⟩, ⟨true, 1⟩]) : x = [2] := by
  have e : ([⟨false, 1⟩, ⟨true, 1⟩] : List Sy) = [⟨false, 1⟩] ++ [⟨true, 1⟩] := rfl
  rw [e, rowS_snoc, catL_mem] at h
  obtain ⟨a, ha, y, hy, rfl⟩ := h
  have h2 : y = [1] := by simpa [symS] using hy
  rw [rown15 a ha, h2]; rfl
theorem closed15 : Closed smp15 1 sol15 := by
  intro p hp x hx
  simp only [smp15, List.mem_cons, List.not_mem_nil, or_false] at hp
  rcases hp with rfl | rfl
  · rw [rowa15 x hx]; show _ ∈ stAt sol15 0; simp [stAt, sol15]
  · rw [rowt15 2 (by decide) x hx]; show _ ∈ stAt sol15 1; simp [stAt, sol15]
theorem len15 {l : List Sy} {y : Tx} (h : ∀ x, x ∈ rowS 1 sol15 l → x = y) : (rowS 1 sol15 l).length ≤ 1 := by
  have : (rowS 1 sol15 l).length ≤ ([y] : List Tx).length := tset_sub (rowS_set _ _ _) fun x hx => by rw [h x hx]; simp
  simpa using this
theorem not_over15 (S : Sts) (hS : Sound smp15 1 S) : ¬ Over smp15 1 600 S := fun h => by
  refine Over.not h (hS.sub ok_smp15 closed15) sound15.set closed15 (fun p hp ho => ?_) (fun n => ?_)
  · obtain ⟨i, hi, h1⟩ := ho
    simp only [smp15, List.mem_cons, List.not_mem_nil, or_false] at hp
    rcases hp with rfl | rfl
    · have h2 : i = 0 ∨ i = 1 := by simp at hi; omega
      rcases h2 with rfl | rfl
      · have := len15 rown15; simp at h1; omega
      · have := len15 rowa15; simp at h1; omega
    · have h2 : i = 0 := by simp at hi; omega
      subst h2
      have := len15 (rowt15 2 (by decide)); simp at h1; omega
  · unfold stAt sol15
    match n.toNat with
    | 0 => simp
    | 1 => simp
    | k + 2 => simp
theorem sol_uniq15 (S : Sts) (hS : Sound smp15 1 S) (hc : Closed smp15 1 S) : S = sol15 := hS.uniq ok_smp15 sound15 hc closed15
theorem rowt1 : rowS 1 sol15 [⟨true, 1⟩] = [[1]] := by
  refine set_ext (rowS_set _ _ _) (List.pairwise_singleton _ _) fun x => ⟨fun h => by rw [rowt15 1 (by decide) x h]; simp, fun h => ?_⟩
  have h1 : x = [1] := by simpa using h
  have e : ([⟨true, 1⟩] : List Sy) = [] ++ [⟨true, 1⟩] := rfl
  rw [e, rowS_snoc, catL_mem, h1]
  exact ⟨[], by simp [rowS], [1], by simp [symS], rfl⟩
def T15 : List Tri := [(0, 1, [[1]])]
theorem st15 : stAll 1 sol15 smp15.l = T15 := by
  have h : stAll 1 sol15 smp15.l = [(0, 1, rowS 1 sol15 [⟨true, 1⟩])] := rfl
  rw [h, rowt1]; rfl
theorem no_st15 : ¬ OverSt smp15 1 sol15 := fun ⟨p, hp, i, s, h1, h2, h3⟩ => by
  simp only [smp15, List.mem_cons, List.not_mem_nil, or_false] at hp
  rcases hp with rfl | rfl
  · match i with
    | 0 =>
      obtain ⟨j, hj, h4⟩ := h3
      have hj0 : j = 0 := by simp at hj; omega
      subst hj0
      have := len15 (rowt15 1 (by decide)); simp at h4; omega
    | 1 => simp at h1; rw [← h1] at h2; cases h2
    | k + 2 => simp at h1
  · match i with
    | 0 => simp at h1; rw [← h1] at h2; cases h2
    | k + 1 => simp at h1
def fol15 : Sts := [[[0]], [[1]]]
theorem soundF15 : SoundF T15 1 [0] 2 fol15 := by
  refine ⟨rfl, fun l hl => ?_, fun n x hx => ?_⟩
  · simp only [fol15, List.mem_cons, List.not_mem_nil, or_false] at hl
    rcases hl with rfl | rfl <;> exact List.pairwise_singleton _ _
  · unfold stAt fol15 at hx
    match hn : n.toNat with
    | 0 =>
      rw [hn] at hx
      have h1 : x = [0] := by simpa using hx
      rw [h1]; exact .zero
    | 1 =>
      rw [hn] at hx
      have h1 : x = [1] := by simpa using hx
      rw [h1]
      exact FolD.step (L := T15) (k := 1) (z := [0]) (t := (0, 1, [[1]])) (x := [0]) (y := [1]) (by simp [T15]) .zero (by simp)
    | k + 2 => rw [hn] at hx; simp at hx
theorem closedF15 : ClosedF T15 1 [0] fol15 := by
  refine ⟨by simp [stAt, fol15], fun t ht x hx => ?_⟩
  have ht' : t = (0, 1, [[1]]) := by simpa [T15] using ht
  subst ht'
  obtain ⟨y, hy, u, hu, rfl⟩ := (catL_mem _ _ _ _).1 hx
  have h1 : y = [1] := by simpa using hy
  have h2 : u = [0] := by simpa [stAt, fol15] using hu
  rw [h1, h2]
  show _ ∈ stAt fol15 1
  simp [stAt, fol15]; rfl
theorem few15F (n : Int) : (stAt fol15 n).length ≤ 600 := by
  unfold stAt fol15
  match n.toNat with
  | 0 => simp
  | 1 => simp
  | k + 2 => simp
end Go.Proofs.Ytimgnbacgdmiiaa
