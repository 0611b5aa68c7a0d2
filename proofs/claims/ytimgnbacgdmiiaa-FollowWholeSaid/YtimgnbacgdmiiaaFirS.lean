/-
  What the sample's beginnings are.
  Stage 14's few.
  Stage 14: what its works() asks.
  FirstOf: both functions find the same beginnings.
  first.Row.
  FirstRows: the beginnings of a row.
-/
import Derived.Test.YtimgnbacgdmiiaaFirM
import Derived.BigQuiet
namespace Go.Proofs.Ytimgnbacgdmiiaa
open Go.RowKit PK
set_option linter.unusedVariables false
set_option linter.unusedSimpArgs false

theorem may_smp14 : bmay smp14 = 0 := by decide
def sol14 : Sts := [[[1, 1], [1, 2], [2]]]
theorem ok_smp14 : ∀ p ∈ smp14.l, prOk smp14 p = true := by decide
theorem fd2 : FD smp14 2 [⟨true, 2⟩] [2] := .tok (l := []) (x := []) .nil rfl
theorem fd1 : FD smp14 2 [⟨true, 1⟩] [1] := .tok (l := []) (x := []) .nil rfl
theorem fd12 : FD smp14 2 [⟨true, 1⟩, ⟨false, 0⟩] [1, 2] := .non (l := [⟨true, 1⟩]) (x := [1]) (y := [2]) (p := ⟨0, [⟨true, 2⟩]⟩) fd1 rfl (by simp [smp14]) rfl fd2
theorem fd11 : FD smp14 2 [⟨true, 1⟩, ⟨false, 0⟩] [1, 1] := .non (l := [⟨true, 1⟩]) (x := [1]) (y := [1, 2]) (p := ⟨0, [⟨true, 1⟩, ⟨false, 0⟩]⟩) fd1 rfl (by simp [smp14]) rfl fd12
theorem sol_at (n : Int) (x : Tx) (h : x ∈ stAt sol14 n) : n.toNat = 0 ∧ (x = [1, 1] ∨ x = [1, 2] ∨ x = [2]) := by
  unfold stAt sol14 at h
  match hn : n.toNat with
  | 0 => rw [hn] at h; simpa using h
  | k + 1 => rw [hn] at h; simp at h
theorem sound14 : Sound smp14 2 sol14 := by
  refine ⟨rfl, fun l hl => ?_, fun n x hx => ?_⟩
  · have e : l = [[1, 1], [1, 2], [2]] := by simpa [sol14] using hl
    rw [e]
    refine List.pairwise_cons.2 ⟨fun y hy => ?_, List.pairwise_cons.2 ⟨fun y hy => ?_, List.pairwise_singleton _ _⟩⟩
    · simp only [List.mem_cons, List.not_mem_nil, or_false] at hy
      rcases hy with rfl | rfl <;> decide
    · simp only [List.mem_cons, List.not_mem_nil, or_false] at hy
      subst hy; decide
  · obtain ⟨h0, rfl | rfl | rfl⟩ := sol_at n x hx
    · exact ⟨⟨0, [⟨true, 1⟩, ⟨false, 0⟩]⟩, by simp [smp14], by rw [h0]; rfl, fd11⟩
    · exact ⟨⟨0, [⟨true, 1⟩, ⟨false, 0⟩]⟩, by simp [smp14], by rw [h0]; rfl, fd12⟩
    · exact ⟨⟨0, [⟨true, 2⟩]⟩, by simp [smp14], by rw [h0]; rfl, fd2⟩
theorem row1 (x : Tx) (h : x ∈ rowS 2 sol14 [⟨true, 1⟩]) : x = [1] := by
  have e : ([⟨true, 1⟩] : List Sy) = [] ++ [⟨true, 1⟩] := rfl
  rw [e, rowS_snoc, catL_mem] at h
  obtain ⟨a, ha, y, hy, rfl⟩ := h
  have h1 : a = [] := by simpa [rowS] using ha
  have h2 : y = [1] := by simpa [symS] using hy
  rw [h1, h2]; rfl
theorem row2 (x : Tx) (h : x ∈ rowS 2 sol14 [⟨true, 2⟩]) : x = [2] := by
  have e : ([⟨true, 2⟩] : List Sy) = [] ++ [⟨true, 2⟩] := rfl
  rw [e, rowS_snoc, catL_mem] at h
  obtain ⟨a, ha, y, hy, rfl⟩ := h
  have h1 : a = [] := by simpa [rowS] using ha
  have h2 : y = [2] := by simpa [symS] using hy
  rw [h1, h2]; rfl
theorem row10 (x : Tx) (h : x ∈ rowS 2 sol14 [⟨true, 1⟩, ⟨false, 0⟩]) : x = [1, 1] ∨ x = [1, 2] := by
  have e : ([⟨true, 1⟩, ⟨false, 0⟩] : List Sy) = [⟨true, 1⟩] ++ [⟨false, 0⟩] := rfl
  rw [e, rowS_snoc, catL_mem] at h
  obtain ⟨a, ha, y, hy, rfl⟩ := h
  rw [row1 a ha]
  have h2 : y ∈ stAt sol14 0 := by simpa [symS] using hy
  obtain ⟨_, rfl | rfl | rfl⟩ := sol_at 0 y h2
  · exact .inl rfl
  · exact .inl rfl
  · exact .inr rfl
theorem closed14 : Closed smp14 2 sol14 := by
  intro p hp x hx
  simp only [smp14, List.mem_cons, List.not_mem_nil, or_false] at hp
  rcases hp with rfl | rfl
  · rcases row10 x hx with rfl | rfl <;> (show _ ∈ stAt sol14 0; simp [stAt, sol14])
  · rw [row2 x hx]; show _ ∈ stAt sol14 0; simp [stAt, sol14]
theorem not_over14 (S : Sts) (hS : Sound smp14 2 S) : ¬ Over smp14 2 600 S := fun h => by
  refine Over.not h (hS.sub ok_smp14 closed14) sound14.set closed14 (fun p hp ho => ?_) (fun n => ?_)
  · obtain ⟨i, hi, h1⟩ := ho
    simp only [smp14, List.mem_cons, List.not_mem_nil, or_false] at hp
    rcases hp with rfl | rfl
    · have h2 : i = 0 ∨ i = 1 := by simp at hi; omega
      rcases h2 with rfl | rfl
      · have : (rowS 2 sol14 [⟨true, 1⟩]).length ≤ ([[1]] : List Tx).length := tset_sub (rowS_set _ _ _) fun x hx => by rw [row1 x hx]; simp
        simp at this h1; omega
      · have : (rowS 2 sol14 [⟨true, 1⟩, ⟨false, 0⟩]).length ≤ ([[1, 1], [1, 2]] : List Tx).length := tset_sub (rowS_set _ _ _) fun x hx => by rcases row10 x hx with rfl | rfl <;> simp
        simp at this h1; omega
    · have h2 : i = 0 := by simp at hi; omega
      subst h2
      have : (rowS 2 sol14 [⟨true, 2⟩]).length ≤ ([[2]] : List Tx).length := tset_sub (rowS_set _ _ _) fun x hx => by rw [row2 x hx]; simp
      simp at this h1; omega
  · unfold stAt sol14
    match n.toNat with
    | 0 => simp
    | k + 1 => simp
theorem sol_uniq (S : Sts) (hS : Sound smp14 2 S) (hc : Closed smp14 2 S) : S = sol14 := hS.uniq ok_smp14 sound14 hc closed14
end Go.Proofs.Ytimgnbacgdmiiaa
namespace Go.Proofs.Ytimgnbacgdmiiaa
open Go.RowKit PK
set_option linter.unusedVariables false
set_option linter.unusedSimpArgs false
attribute [local go_sem ↓] append_appM

def cut4 (p : Pr) : Pr := ⟨p.left, p.right.take 4⟩
def few14B (b : Bn) : Bn := let c := fewB 8 14 b; ⟨c.toks, c.look, c.of, c.l.map cut4⟩
theorem owns_cut {w : World} {base n c m : Nat} {a : Option Addr} {l : List Sy} (h : w.ownsRow base 39 2 (.slice a n c) n (symC l)) (hm : m ≤ n) (hl : l.length = n) : w.ownsRow base 39 2 (.slice a m c) m (symC (l.take m)) := by
  have e : symC (l.take m) = (symC l).take (m * 2) := by rw [symC_take]
  rcases h.2 with ⟨hv, hn⟩ | ⟨g, cap, cur, hv, hb, hg, h1, h2, h3, h4⟩
  · simp only [Value.slice.injEq] at hv
    obtain ⟨rfl, rfl, rfl⟩ := hv
    obtain rfl : m = 0 := by omega
    exact World.ownsRow_nil _ _ _ _
  · simp only [Value.slice.injEq] at hv
    obtain ⟨rfl, _, rfl⟩ := hv
    refine ⟨by rw [e, List.length_take, h.1]; omega, .inr ⟨g, c, cur, rfl, hb, hg, by omega, h2, h3, ?_⟩⟩
    rw [e, ← h4, List.take_take]
    congr 1; omega
/-- Productions that are cut one by one. -/
structure CPr (w : World) (n0 g n c : Nat) (X : List Cp) : Prop where
  lt : n0 ≤ g ∧ g < w.heap.size
  len : X.length = n
  out : w.ownsRow n0 57 2 (.slice (some ⟨g, 0, none⟩) n c) n (outP X)
  each : ∀ x ∈ X, w.ownsRow n0 39 2 x.rv x.right.length (symC x.right)
  ap : ∀ x ∈ X, ∀ k, x.rv.ownBlock = some k → k ≠ g
def cutCp (x : Cp) (v : Value) : Cp := ⟨x.left, v, x.right.take 4⟩
theorem outP_set (X : List Cp) (i : Nat) (x : Cp) (v : Value) (hx : X[i]? = some x) : (outP X).set (i * 2 + 1) v = outP (X.set i (cutCp x v)) := by
  induction X generalizing i with
  | nil => simp at hx
  | cons y X ih =>
    have e : outP (y :: X) = .int .i64 y.left :: y.rv :: outP X := by simp [outP]
    cases i with
    | zero =>
      simp at hx; subst hx
      rw [e]
      simp [outP, cutCp]
    | succ i =>
      rw [e, show (i + 1) * 2 + 1 = i * 2 + 1 + 1 + 1 by omega, List.set_cons_succ, List.set_cons_succ, ih i (by simpa using hx), List.set_cons_succ]
      simp [outP]
theorem CPr.cut {w : World} {n0 g n c : Nat} {X : List Cp} (h : CPr w n0 g n c X) (i : Nat) (x : Cp) (hx : X[i]? = some x) (a : Option Addr) (d : Nat) (hv : x.rv = .slice a x.right.length d) :
    CPr (w.setCell ⟨g, i * 2 + 1, none⟩ (.slice a (x.right.take 4).length d)) n0 g n c (X.set i (cutCp x (.slice a (x.right.take 4).length d))) := by
  have hs : (w.setCell ⟨g, i * 2 + 1, none⟩ (.slice a (x.right.take 4).length d)).heap.size = w.heap.size := by simp [World.setCell]
  have hb : ∀ q, q ≠ g → (w.setCell ⟨g, i * 2 + 1, none⟩ (.slice a (x.right.take 4).length d)).heap[q]? = w.heap[q]? := fun q hq => Below.heap_setCell _ _ _ _ hq
  have hil := (List.getElem?_eq_some_iff.1 hx).1
  have hxm := List.mem_of_getElem? hx
  have hol : (outP X).length = X.length * 2 := by have := h.out.1; rw [h.len]; omega
  refine ⟨⟨h.lt.1, by rw [hs]; exact h.lt.2⟩, by rw [List.length_set]; exact h.len, ?_, fun y hy => ?_, fun y hy k e => ?_⟩
  · rw [← outP_set X i x _ hx]
    exact owns_setN h.out (i * 2 + 1) (by omega) _
  · rcases List.mem_or_eq_of_mem_set hy with h1 | h1
    · exact owns_blockN (h.each y h1) fun q e => hb q (h.ap y h1 q e)
    · subst h1
      have h2 := h.each x hxm
      rw [hv] at h2
      have h3 := owns_cut h2 (show (x.right.take 4).length ≤ x.right.length by rw [List.length_take]; omega) rfl
      have e4 : x.right.take (x.right.take 4).length = x.right.take 4 := by rw [List.length_take, Nat.min_comm, ← List.take_take]; exact List.take_of_length_le (by rw [List.length_take]; omega)
      rw [e4] at h3
      refine owns_blockN h3 fun q e => hb q (h.ap x hxm q ?_)
      rw [hv]; cases a <;> exact e
  · rcases List.mem_or_eq_of_mem_set hy with h1 | h1
    · exact h.ap y h1 k e
    · subst h1
      refine h.ap x hxm k ?_
      rw [hv]; cases a <;> exact e
theorem CPr.below {w w' : World} {n0 g n c : Nat} {X : List Cp} (h : CPr w n0 g n c X) (hb : Below w.heap.size w w') : CPr w' n0 g n c X :=
  ⟨⟨h.lt.1, Nat.lt_of_lt_of_le h.lt.2 hb.size⟩, h.len, owns_belowP h.out hb, fun x hx => owns_belowP (h.each x hx) hb, h.ap⟩
theorem prsOf_set (X : List Cp) (i : Nat) (x : Cp) (v : Value) (hx : X[i]? = some x) : prsOf (X.set i (cutCp x v)) = (prsOf X).set i (cut4 ⟨x.left, x.right⟩) := by
  unfold prsOf; rw [List.map_set]; rfl
theorem agg_box14 (w : World) (tk lk : Int) (ov lv : Value) : Below w.heap.size w (w.alloc (.cells #[.int .i64 tk, .int .i64 lk, ov, lv] 25)) := (Below.refl w.heap.size w).alloc (Nat.le_refl _) _
/-- What stage 14's few answers. -/
def Few14P (w : World) (tk lk : Int) (B : Bn) (e : Ending) (w' : World) : Prop := ∃ o l, e = .returned (.agg #[.int .i64 tk, .int .i64 lk, o, l]) ∧ (∀ W' : World, (∀ k, w.heap.size + 2 ≤ k → W'.heap[k]? = w'.heap[k]?) → W'.heap.size = w'.heap.size → BR W' w'.heap.size o l B) ∧ Below w.heap.size w w'
theorem four_far {W : World} {b k : Nat} (u0 u1 u2 u3 : Value) (h : k ≠ b) : ((((W.setCell ⟨b, 0, none⟩ u0).setCell ⟨b, 1, none⟩ u1).setCell ⟨b, 2, none⟩ u2).setCell ⟨b, 3, none⟩ u3).heap[k]? = W.heap[k]? := by
  have hne : ∀ j : Nat, k ≠ (⟨b, j, none⟩ : Addr).block := fun j => h
  rw [Below.heap_setCell _ _ _ _ (hne 3), Below.heap_setCell _ _ _ _ (hne 2), Below.heap_setCell _ _ _ _ (hne 1), Below.heap_setCell _ _ _ _ (hne 0)]
theorem CPr.pr {w W' : World} {n0 g n c : Nat} {X : List Cp} (h : CPr w n0 g n c X) (hk : ∀ k, n0 ≤ k → W'.heap[k]? = w.heap[k]?) (hs : W'.heap.size = w.heap.size) : PR W' w.heap.size (.slice (some ⟨g, 0, none⟩) n c) (prsOf X) := by
  have h1 : ∀ x ∈ X, W'.ownsRow n0 39 2 x.rv x.right.length (symC x.right) := fun x hx => owns_blockN (h.each x hx) fun q e => hk q ((h.each x hx).lt q e).1
  have h2 : W'.ownsRow n0 57 2 (.slice (some ⟨g, 0, none⟩) n c) n (outP X) := owns_blockN h.out fun q e => hk q (h.out.lt q e).1
  have hl : (prsOf X).length = n := by rw [prsOf_len]; exact h.len
  refine ⟨X.map fun x => [.int .i64 x.left, x.rv], ?_, by simp [prsOf], fun c hc => ?_, fun i hi => ?_⟩
  · have e : (X.map fun x => [Value.int .i64 x.left, x.rv]).flatten = outP X := rfl
    rw [e, hl, ← hs]; exact Row.of_owns h2
  · obtain ⟨x, _, rfl⟩ := List.mem_map.1 hc; rfl
  · have hi' : i < X.length := by rw [prsOf_len] at hi; exact hi
    have h3 := Row.of_owns (h1 _ (List.getElem_mem hi'))
    rw [hs] at h3
    have e : (prsOf X)[i] = ⟨X[i].left, X[i].right⟩ := by simp [prsOf]
    rw [e]
    exact ⟨X[i].rv, by simp [hi'], h3⟩
theorem outP_at (X : List Cp) (i : Nat) (hi : i < X.length) : (outP X)[i * 2 + 1]? = some X[i].rv := by
  induction X generalizing i with
  | nil => simp at hi
  | cons y X ih =>
    have e : outP (y :: X) = .int .i64 y.left :: y.rv :: outP X := by simp [outP]
    cases i with
    | zero => rw [e]; rfl
    | succ i => rw [e, show (i + 1) * 2 + 1 = i * 2 + 1 + 1 + 1 by omega, List.getElem?_cons_succ, List.getElem?_cons_succ, ih i (by simpa using hi)]; rfl
theorem CPr.made {w : World} {n0 n : Nat} {o l : Value} {X : List Cp} {ofs : List Int} (h : FewO w n0 o l X ofs) (hn : X.length = n) (h0 : 0 < n) : ∃ g c, l = .slice (some ⟨g, 0, none⟩) n c ∧ CPr w n0 g n c X ∧ (∀ k, o.ownBlock = some k → k ≠ g) := by
  have h1 := h.prs.out
  rw [hn] at h1
  obtain ⟨a, c, rfl, _, _⟩ := owns_valP h1
  obtain ⟨g, rfl, h2, h3, _, _⟩ := owns_cellN h1 h0
  refine ⟨g, c, rfl, ⟨⟨h2, h3⟩, hn, h1, h.prs.each, fun x hx k e hk => ?_⟩, fun k e hk => ?_⟩
  · subst hk
    have := (List.pairwise_cons.1 h.prs.apart).1 x.rv (List.mem_map.2 ⟨x, hx, rfl⟩)
    rcases this with h4 | h4
    · cases h4
    · exact h4 e.symm
  · subst hk; exact h.ofa _ List.mem_cons_self k rfl e
/-- The walk's state: the box of the cut grammar. -/
structure FS (w : World) (n0 b4 : Nat) (tk lk : Int) (o l : Value) (ofs : List Int) (X : List Cp) : Prop where
  ptr : w.heap[b4]? = some (.cells #[.int .i64 tk, .int .i64 lk, o, l] 25 (0, 0))
  of : w.ownsRow n0 3 1 o ofs.length (ints ofs)
  row : (X = [] ∧ Prs w n0 l []) ∨ ∃ g c, l = .slice (some ⟨g, 0, none⟩) X.length c ∧ CPr w n0 g X.length c X ∧ (∀ k, o.ownBlock = some k → k ≠ g) ∧ g < b4
theorem FS.made {w : World} {n0 : Nat} {tk lk : Int} {o l : Value} {X : List Cp} {ofs : List Int} (h : FewO w n0 o l X ofs) : FS (w.alloc (.cells #[.int .i64 tk, .int .i64 lk, o, l] 25)) n0 w.heap.size tk lk o l ofs X := by
  have hb := (Below.refl w.heap.size w).alloc (Nat.le_refl _) (.cells #[.int .i64 tk, .int .i64 lk, o, l] 25)
  refine ⟨Array.getElem?_push_size, owns_belowP h.of hb, ?_⟩
  rcases Nat.eq_zero_or_pos X.length with h0 | h0
  · obtain rfl := List.length_eq_zero_iff.1 h0
    exact .inl ⟨rfl, h.prs.below hb⟩
  · obtain ⟨g, c, h1, h2, h3⟩ := CPr.made h rfl h0
    exact .inr ⟨g, c, h1, h2.below hb, h3, h2.lt.2⟩
theorem FS.br {w W' : World} {n0 b4 : Nat} {tk lk : Int} {o l : Value} {X : List Cp} {ofs : List Int} (h : FS w n0 b4 tk lk o l ofs X) (hk : ∀ k, n0 ≤ k → W'.heap[k]? = w.heap[k]?) (hs : W'.heap.size = w.heap.size) : BR W' w.heap.size o l ⟨tk, lk, ofs, prsOf X⟩ := by
  refine ⟨?_, ?_⟩
  · have h1 : W'.ownsRow n0 3 1 o ofs.length (ints ofs) := owns_blockN h.of fun q e => hk q (h.of.lt q e).1
    rw [← hs]; exact Row.of_owns h1
  · rcases h.row with ⟨rfl, h1⟩ | ⟨g, c, rfl, h1, _, _⟩
    · have h2 := (h1.keep (w' := W') fun k ⟨u, hu, e⟩ => hk k (h1.lt hu e).1).pr
      rw [← hs]; exact h2
    · exact h1.pr hk hs
theorem FS.cell {w : World} {n0 b4 : Nat} {tk lk : Int} {o l : Value} {X : List Cp} {ofs : List Int} (h : FS w n0 b4 tk lk o l ofs X) :
    w.cell? ⟨b4, 0, none⟩ = some (.int .i64 tk) ∧ w.cell? ⟨b4, 1, none⟩ = some (.int .i64 lk) ∧ w.cell? ⟨b4, 2, none⟩ = some o ∧ w.cell? ⟨b4, 3, none⟩ = some l := by
  obtain ⟨q0, q1, q2, q3, _⟩ := four_cells h.ptr
  exact ⟨q0, q1, q2, q3⟩
theorem FS.round {w : World} {n0 b4 : Nat} {tk lk : Int} {o l : Value} {X : List Cp} {ofs : List Int} (h : FS w n0 b4 tk lk o l ofs X) (i : Nat) (hi : i < X.length) :
    ∃ g c a d, l = .slice (some ⟨g, 0, none⟩) X.length c ∧ X[i].rv = .slice a X[i].right.length d ∧ X[i].right.length ≤ d ∧ d ≤ maxLen ∧ g < w.heap.size ∧ n0 ≤ g ∧ w.cell? ⟨g, i * 2 + 1, none⟩ = some (.slice a X[i].right.length d) ∧ w.frozen? ⟨g, i * 2 + 1, none⟩ = false ∧
      FS (w.setCell ⟨g, i * 2 + 1, none⟩ (.slice a (X[i].right.take 4).length d)) n0 b4 tk lk o l ofs (X.set i (cutCp X[i] (.slice a (X[i].right.take 4).length d))) ∧ Below n0 w (w.setCell ⟨g, i * 2 + 1, none⟩ (.slice a (X[i].right.take 4).length d)) := by
  rcases h.row with ⟨rfl, _⟩ | ⟨g, c, rfl, h1, h2, h3⟩
  · simp at hi
  · have hx : X[i]? = some X[i] := List.getElem?_eq_getElem hi
    obtain ⟨a, d, hv, hd1, hd2⟩ := owns_valP (h1.each X[i] (List.getElem_mem hi))
    obtain ⟨g', hg', _, _, hc, hf⟩ := owns_cellN h1.out (by omega)
    simp only [Option.some.injEq, Addr.mk.injEq] at hg'
    obtain ⟨rfl, _⟩ := hg'
    have hcut := h1.cut i X[i] hx a d hv
    have hat := outP_at X i hi
    rw [hv] at hat
    refine ⟨g, c, a, d, rfl, hv, hd1, hd2, h1.lt.2, h1.lt.1, hc _ _ hat, hf _, ⟨?_, ?_, .inr ⟨g, c, ?_, ?_, h2, h3⟩⟩, (Below.refl n0 w).setCell h1.lt.1 _⟩
    · rw [Below.heap_setCell _ _ _ _ (show b4 ≠ g by omega)]; exact h.ptr
    · exact owns_blockN h.of fun q e => Below.heap_setCell _ _ _ _ (h2 q e)
    · rw [List.length_set]
    · rw [List.length_set]; exact hcut
theorem FS.same {w w' : World} {n0 b4 : Nat} {tk lk : Int} {o l : Value} {X : List Cp} {ofs : List Int} (h : FS w n0 b4 tk lk o l ofs X) (e : w'.heap = w.heap) : FS w' n0 b4 tk lk o l ofs X := by
  have hk : ∀ k : Nat, w'.heap[k]? = w.heap[k]? := fun k => by rw [e]
  refine ⟨by rw [hk]; exact h.ptr, owns_blockN h.of fun q _ => hk q, ?_⟩
  rcases h.row with ⟨rfl, h1⟩ | ⟨g, c, rfl, h1, h2, h3⟩
  · exact .inl ⟨rfl, h1.keep fun k _ => hk k⟩
  · exact .inr ⟨g, c, rfl, ⟨⟨h1.lt.1, by rw [e]; exact h1.lt.2⟩, h1.len, owns_blockN h1.out fun q _ => hk q, fun x hx => owns_blockN (h1.each x hx) fun q _ => hk q, h1.ap⟩, h2, h3⟩
set_option maxHeartbeats 4000000 in
set_option maxRecDepth 100000 in
theorem few14_any (b : Bn) (tk lk : Int) (ov lv : Value) (B : Nat) (w : World) (etk : b.toks = tk) (elk : b.look = lk) (hB : B ≤ w.heap.size) (r : BR w B ov lv b) :
    Calls Try.prog 10 #[.agg #[.int .i64 tk, .int .i64 lk, ov, lv]] w (Few14P w tk lk (few14B b)) := by
  have hb1 := agg_box14 w tk lk ov lv
  have hb2 := (Below.refl _ (w.alloc (.cells #[.int .i64 tk, .int .i64 lk, ov, lv] 25))).alloc (Nat.le_refl _) (.cells #[.int .i64 0, .int .i64 0, .slice none 0 0, .slice none 0 0] 25)
  have hb12 := hb1.trans (hb2.mono hb1.size)
  have hs1 : (w.alloc (.cells #[.int .i64 tk, .int .i64 lk, ov, lv] 25)).heap.size = w.heap.size + 1 := by simp
  have hs2 : ((w.alloc (.cells #[.int .i64 tk, .int .i64 lk, ov, lv] 25)).alloc (.cells #[.int .i64 0, .int .i64 0, .slice none 0 0, .slice none 0 0] 25)).heap.size = w.heap.size + 2 := by simp
  have hp : ((w.alloc (.cells #[.int .i64 tk, .int .i64 lk, ov, lv] 25)).alloc (.cells #[.int .i64 0, .int .i64 0, .slice none 0 0, .slice none 0 0] 25)).heap[(w.alloc (.cells #[.int .i64 tk, .int .i64 lk, ov, lv] 25)).heap.size]? = some (.cells #[.int .i64 0, .int .i64 0, .slice none 0 0, .slice none 0 0] 25 (0, 0)) := Array.getElem?_push_size
  rw [hs1] at hp
  have hfew := few_prs b ov lv 8 14 (by decide) (by decide) B _ (Nat.le_trans hB hb12.size) (r.below (hb12.mono hB))
  rw [etk, elk] at hfew
  have q0 := fun j u h => (hb2.cell (p := ⟨w.heap.size, j, none⟩) (show w.heap.size < _ by rw [hs1]; omega)).trans (cell_new w #[.int .i64 tk, .int .i64 lk, ov, lv] 25 j u h)
  have c0 := q0 0 _ rfl
  have c1 := q0 1 _ rfl
  have c2 := q0 2 _ rfl
  have c3 := q0 3 _ rfl
  have Hfew := Lib.hid hfew; have Hb := Lib.hid hb12; have Hp := Lib.hid hp; have Hs2 := Lib.hid hs2
  clear hfew hb1 hb2 hb12 hp hs1 hs2 q0 r
  go_enter Try.func10, Try.ntmps10
  go_upto_region 1 with fail
  generalize (w.alloc (.cells #[.int .i64 tk, .int .i64 lk, ov, lv] 25)).alloc (.cells #[.int .i64 0, .int .i64 0, .slice none 0 0, .slice none 0 0] 25) = w2 at *
  go_wp2_with fail
  refine (Hfew.out).mono ?_
  rintro e w3 ⟨o3, l3, rfl, ⟨X, ofs, hX, hO⟩, hb3⟩
  have hF := FS.made (tk := tk) (lk := lk) (hO w3 (fun _ _ => rfl) rfl)
  have hb4 := hb3.trans (((Below.refl w3.heap.size w3).alloc (Nat.le_refl _) (.cells #[.int .i64 tk, .int .i64 lk, o3, l3] 25)).mono hb3.size)
  have hbt : Below w.heap.size w _ := Hb.out.trans (hb4.mono Hb.out.size)
  have hp4 := (hb4.block _ (show w.heap.size + 1 < w2.heap.size by have := Hs2.out; omega)).trans Hp.out
  have hXl : X.length = ((b.l.take 14).map cutP).length := by
    have := congrArg (fun c => c.l.length) hX
    simpa [prsOf_len, fewB] using this
  have hn14 : X.length ≤ 14 := by rw [hXl, List.length_map, List.length_take]; omega
  obtain ⟨n, hn⟩ : ∃ n, n = X.length := ⟨_, rfl⟩
  have hlv : ∃ a c, l3 = .slice a n c := by
    rcases hF.row with ⟨rfl, h1⟩ | ⟨g, c, h1, _⟩
    · obtain ⟨a, c, h2, _⟩ := owns_valP h1.out; exact ⟨a, c, by rw [hn]; exact h2⟩
    · exact ⟨_, c, by rw [hn]; exact h1⟩
  obtain ⟨la, lc, rfl⟩ := hlv
  obtain ⟨oa, oc, rfl, _, _⟩ := owns_valP hF.of
  obtain ⟨n0, hn0⟩ : ∃ n0, n0 = w2.heap.size + 2 := ⟨_, rfl⟩
  rw [← hn0] at hF
  have hq := hF.cell
  have hn3 : n0 ≤ w3.heap.size + 2 := by have := hb3.size; omega
  have HF := Lib.hid hF; have Hbt := Lib.hid hbt; have Hp4 := Lib.hid hp4; have HX := Lib.hid hX; have Hn := Lib.hid hn; have Hn0 := Lib.hid hn0; have Hb3 := Lib.hid hb3
  clear hF hb3 hb4 hbt hp4 hX hXl hn0 hO
  clear Hb Hp Hfew hB hq hn
  go_wp2_with fail
  go_loopw [4] (fun iv wr => ∃ (i : Nat) (X' : List Cp), i ≤ n ∧ iv = .int .i64 (i : Nat) ∧ Hid (FS wr n0 w3.heap.size tk lk (.slice oa ofs.length oc) (.slice la n lc) ofs X') ∧ Hid (prsOf X' = ((prsOf X).take i).map cut4 ++ (prsOf X).drop i) ∧ Hid (Below n0 (w3.alloc (.cells #[.int .i64 tk, .int .i64 lk, .slice oa ofs.length oc, .slice la n lc] 25)) wr)) (fun iv _ => n - (intOf iv).toNat)
  case atStart => exact ⟨0, X, Nat.zero_le _, rfl, HF, Lib.hid (by simp), Lib.hid (Below.refl _ _)⟩
  case round =>
    obtain ⟨i, X', hi, rfl, HFr, HX', HBr⟩ := hrel
    obtain ⟨c0, c1, c2, c3⟩ := HFr.out.cell
    have hl' : X'.length = n := by
      have h1 := congrArg List.length HX'.out
      rw [prsOf_len] at h1
      simp [prsOf_len] at h1
      have := Hn.out; omega
    by_cases hlt : i < n
    · obtain ⟨g, c, a, d, hls, hrv, hd1, hd2, hg, hgn, hcell, hfr, hF2, hB2⟩ := HFr.out.round i (by omega)
      simp only [Value.slice.injEq] at hls
      obtain ⟨rfl, hls', rfl⟩ := hls
      clear hls'
      have hX2 : prsOf (X'.set i (cutCp X'[i] (.slice a (X'[i].right.take 4).length d))) = ((prsOf X).take (i + 1)).map cut4 ++ (prsOf X).drop (i + 1) := by
        rw [prsOf_set X' i X'[i] _ (List.getElem?_eq_getElem (by omega)), HX'.out]
        have hix : i < (prsOf X).length := by rw [prsOf_len]; have := Hn.out; omega
        have e0 : (⟨X'[i].left, X'[i].right⟩ : Pr) = (prsOf X)[i] := by
          have h1 : (prsOf X')[i]? = some ⟨X'[i].left, X'[i].right⟩ := by simp [prsOf, show i < X'.length by omega]
          rw [HX'.out, List.getElem?_append_right (by simp; omega)] at h1
          simp [List.length_take, Nat.min_eq_left (Nat.le_of_lt hix)] at h1
          have h2 := List.getElem?_eq_getElem hix
          rw [h2] at h1
          exact (Option.some.inj h1).symm
        rw [e0, List.set_append_right _ _ (by simp; omega), List.take_succ_eq_append_getElem hix, List.map_append, List.append_assoc]
        congr 1
        simp only [List.length_map, List.length_take, Nat.min_eq_left (Nat.le_of_lt hix), Nat.sub_self]
        rw [List.drop_eq_getElem_cons hix]
        simp only [List.set_cons_zero, List.map_cons, List.map_nil, List.cons_append, List.nil_append]
      generalize X'.set i (cutCp X'[i] (.slice a (X'[i].right.take 4).length d)) = X2 at hF2 hX2
      have HF2 := Lib.hid hF2; have HX2 := Lib.hid hX2; have HB2 := Lib.hid (HBr.out.trans hB2)
      have hmin : (X'[i].right.take 4).length = min X'[i].right.length 4 := by rw [List.length_take, Nat.min_comm]
      generalize (X'[i].right.take 4).length = m4 at *
      generalize X'[i].right.length = m at *
      have q4 : m4 ≤ d := by omega
      have q5 : min (m : Int) 4 = (m4 : Int) := by omega
      have Q5 := Lib.hid q5
      clear q5 hmin
      have q2 : (m4 : Int) ≤ (d : Int) := by omega
      have hin : (i : Int) < (n : Int) := by omega
      have hi0 : (0 : Int) ≤ (i : Int) := by omega
      have hi9 : (i : Int) ≤ 14 := by have := Hn.out; omega
      have Hlt := Lib.hid hlt; have Hl' := Lib.hid hl'
      clear hF2 hX2 hB2 hrv hlt hl' hi
      go_upto_region 6 with fail
      have HS5 := Lib.hid (And.intro c3 (And.intro hcell hfr))
      refine wp_region_ord 10 [(0, true), (1, true), (2, true), (3, true), (4, true), (5, true), (6, true), (7, true), (8, true), (9, true), (10, false)] (fun w' => w'.cell? ⟨w3.heap.size, 3, none⟩ = some (.slice (some ⟨g, 0, none⟩) n lc) ∧ w'.cell? ⟨g, i * 2 + 1, none⟩ = some (.slice a m d) ∧ w'.frozen? ⟨g, i * 2 + 1, none⟩ = false) (by kernel_rfl) (by kernel_rfl) HS5.out ?_
      simp only [ordL, List.getElem?_toArray, List.getElem?_cons_succ, List.getElem?_cons_zero]
      iterate 10 (
        refine ordW_read (v := ?_) (by rfl) ?_ (fun _ _ _ h => h) ?_
        rotate_left
        focus (intro w' hS; obtain ⟨s0, s1, s2⟩ := hS; go_simp; (try rw [Q5.out]); (try with_reducible rfl); done)
        try simp only [Act.put, List.setIfInBounds_toArray, List.set_cons_zero, List.set_cons_succ])
      refine ordW_do (by rfl) (fun K' HK => ?_)
      go_simp
      refine HK.out _ _ (fun h => absurd rfl h) (ordW_nil ?_)
      clear HK K'
      go_wp2_with fail
      go_roundw
      case rel => exact ⟨i + 1, X2, Hlt.out, by go_num, Lib.hid (HF2.out.same (by rfl)), HX2, Lib.hid (by first | exact HB2.out.drew | exact (HBr.out.drew).setCell hgn _)⟩
      case measure => have := Hlt.out; simp [intOf]; omega
    · have hk0 : decide (i < n) = false := decide_eq_false hlt
      have hk1 : ¬ (i : Int) < (n : Int) := by omega
      have hX2 : (⟨tk, lk, ofs, prsOf X'⟩ : Bn) = few14B b := by
        have h1 : i = n := by omega
        have h2 := HX'.out
        rw [h1, Hn.out, List.take_of_length_le (by rw [prsOf_len]; exact Nat.le_refl _), List.drop_of_length_le (by rw [prsOf_len]; exact Nat.le_refl _), List.append_nil] at h2
        show _ = (⟨(fewB 8 14 b).toks, (fewB 8 14 b).look, (fewB 8 14 b).of, (fewB 8 14 b).l.map cut4⟩ : Bn)
        rw [← HX.out, h2]
      have hb5 : Below w.heap.size w wr := Hbt.out.trans (HBr.out.mono (by have := Hn0.out; have := Hs2.out; omega))
      have hpr := (HBr.out.block _ (show w.heap.size + 1 < n0 by have := Hn0.out; have := Hs2.out; omega)).trans Hp4.out
      have hn02 : w.heap.size + 2 ≤ n0 := by have := Hn0.out; have := Hs2.out; omega
      have Hfin : ∀ W' : World, (∀ k, w.heap.size + 2 ≤ k → W'.heap[k]? = ((((wr.setCell ⟨w.heap.size + 1, 0, none⟩ (.int .i64 tk)).setCell ⟨w.heap.size + 1, 1, none⟩ (.int .i64 lk)).setCell ⟨w.heap.size + 1, 2, none⟩ (.slice oa ofs.length oc)).setCell ⟨w.heap.size + 1, 3, none⟩ (.slice la n lc)).heap[k]?) → W'.heap.size = wr.heap.size → BR W' wr.heap.size (.slice oa ofs.length oc) (.slice la n lc) ⟨tk, lk, ofs, prsOf X'⟩ := fun W' hk hs => HFr.out.br (fun k h2 => by
        rw [hk k (by omega), four_far _ _ _ _ (by omega)]) hs
      have Hb4 := Lib.hid (below_four hb5 (show w.heap.size ≤ w.heap.size + 1 by omega) (.int .i64 tk) (.int .i64 lk) (.slice oa ofs.length oc) (.slice la n lc))
      have hqs : ((((wr.setCell ⟨w.heap.size + 1, 0, none⟩ (.int .i64 tk)).setCell ⟨w.heap.size + 1, 1, none⟩ (.int .i64 lk)).setCell ⟨w.heap.size + 1, 2, none⟩ (.slice oa ofs.length oc)).setCell ⟨w.heap.size + 1, 3, none⟩ (.slice la n lc)).heap.size = wr.heap.size := by simp [World.setCell]
      obtain ⟨p0, p1, p2, p3, q5, q6, q7, q8, _⟩ := four_cells hpr
      obtain ⟨r5, r6, r7, r8, _⟩ := four_cells (four_set hpr (.int .i64 tk) (.int .i64 lk) (.slice oa ofs.length oc) (.slice la n lc))
      have HX2 := Lib.hid hX2; have HFin := Lib.hid Hfin; have Hqs := Lib.hid hqs
      clear hX2 hb5 hpr hn02 Hfin hqs hlt hi hl'
      go_wp2_with fail
      refine bodyPost_ret (v := .agg #[.int .i64 tk, .int .i64 lk, .slice oa ofs.length oc, .slice la n lc]) (by simp [results, Try.results10, go_sem, r5, r6, r7, r8]) rfl ?_
      refine ⟨_, _, rfl, ?_, Hb4.out⟩
      rw [Hqs.out, ← HX2.out]; exact HFin.out
end Go.Proofs.Ytimgnbacgdmiiaa
namespace Go.Proofs.Ytimgnbacgdmiiaa
open Go.RowKit PK
set_option linter.unusedVariables false
set_option linter.unusedSimpArgs false
attribute [local go_sem ↓] append_appM

theorem first_smp14 (o l : Value) (B : Nat) (w : World) (hB : B ≤ w.heap.size) (r : BR w B o l smp14) :
    Calls Try.prog 11 #[.agg #[.int .i64 2, .int .i64 2, o, l]] w fun e w' => ∃ g v, e = .returned (.tuple #[.slice (some ⟨g, 0, none⟩) 1 1, .int .i64 0]) ∧ w'.cell? ⟨g, 0, none⟩ = some v ∧ g < w'.heap.size ∧ Row w' w'.heap.size 1 v 3 (svt [[1, 1], [1, 2], [2]]) ∧ Below w.heap.size w w' :=
  (firstOf_any smp14 2 2 o l B w rfl rfl hB r).mono fun e w' h => by
    obtain ⟨h, hb⟩ := h
    rcases h with ⟨h0, _⟩ | ⟨_, ⟨g, S, he, hI, hc, _, hS⟩ | ⟨_, S, h1, h2⟩⟩
    · exact absurd may_smp14 h0
    · have e1 := sol_uniq S hI.sound hc
      subst e1
      obtain ⟨v, h3, h4⟩ := hS.at_ 0 (by decide)
      exact ⟨g, v, he, h3, hS.lt, h4, hb⟩
    · exact absurd h2 (not_over14 S h1)
set_option maxHeartbeats 4000000 in
set_option maxRecDepth 100000 in
theorem works14_any (w : World) : Calls Try.prog 14 #[] w (BoolB w true) := by
  have Hs := Lib.hid any_smp14
  go_enter Try.func14, Try.ntmps14
  go_wp2_with fail
  refine (Hs.out _).mono ?_
  rintro e w1 ⟨o1, l1, rfl, r1, b1⟩
  have Hn := Lib.hid (first_smp14 o1 l1 _ w1 (Nat.le_refl _) r1)
  have B1 := Lib.hid b1
  clear r1 b1
  go_wp2_with fail
  refine (Hn.out).mono ?_
  rintro e w2 ⟨g, v, rfl, hc, hg, r2, b2⟩
  obtain ⟨va, vc, rfl, _⟩ := r2.val
  have B2 := Lib.hid (B1.out.trans (b2.mono B1.out.size))
  have b3 := (Below.refl w2.heap.size w2).alloc (Nat.le_refl _) (.cells (svt [[1, 1], [1, 2], [2]]).toArray 9)
  have Hc := Lib.hid (sameTexts_any (.slice va 3 vc) (.slice (some ⟨w2.heap.size, 0, none⟩) 3 3) [[1, 1], [1, 2], [2]] [[1, 1], [1, 2], [2]] _ _ (w2.alloc (.cells (svt [[1, 1], [1, 2], [2]]).toArray 9)) b3.size (by simp) (r2.below b3) (row_cellsB w2 (svt [[1, 1], [1, 2], [2]]) 1 3 3 9 rfl (Nat.le_refl _) (by unfold maxLen; omega)))
  have B3 := Lib.hid (B2.out.trans (b3.mono B2.out.size))
  clear b2 b3 r2 Hn
  have esv : (svt [[1, 1], [1, 2], [2]]).toArray = #[.string ⟨#[1, 1]⟩, .string ⟨#[1, 2]⟩, .string ⟨#[2]⟩] := rfl
  rw [esv] at Hc B3
  simp only [decide_true] at Hc
  go_wp2_with fail
  refine (Hc.out).mono ?_
  rintro e w4 ⟨rfl, b4⟩
  have B4 := Lib.hid (B3.out.trans (b4.mono B3.out.size))
  clear b4 Hc
  go_wp2_with fail
  go_ret
  exact ⟨rfl, B4.out⟩
end Go.Proofs.Ytimgnbacgdmiiaa
namespace Go.Proofs.Ytimgnbacgdmiiaa
open Go.RowKit PK
set_option linter.unusedVariables false
set_option linter.unusedSimpArgs false
attribute [local go_sem ↓] append_appM

theorem cut_pr (p : Pr) : cut4 (cutP (cut4 (cutP p))) = cut4 (cutP p) := by
  simp [cut4, cutP, List.take_take]
theorem few14_twice (b : Bn) : few14B (few14B b) = few14B b := by
  simp only [few14B, fewB, Bn.mk.injEq, List.take_take, ← List.map_take, List.map_map, Nat.min_self, true_and]
  exact List.map_congr_left fun p _ => cut_pr p
theorem few14_toks (b : Bn) : (few14B b).toks = b.toks ∧ (few14B b).look = b.look := ⟨rfl, rfl⟩
theorem OfP.form {w w' : World} {b : Bn} {e : Ending} (h : OfP w b e w') : ∃ a N c x, e = .returned (.tuple #[.slice a N c, .int .i64 x]) := by
  rcases h.1 with ⟨_, h1⟩ | ⟨_, ⟨g, S, h1, _⟩ | ⟨h1, _⟩⟩
  · exact ⟨_, _, _, _, h1⟩
  · exact ⟨_, _, _, _, h1⟩
  · exact ⟨_, _, _, _, h1⟩
theorem ROfP.form {w w' : World} {b : Bn} {e : Ending} (h : ROfP w b e w') : ∃ a N c x, e = .returned (.tuple #[.slice a N c, .int .i64 x]) := by
  rcases h.1 with ⟨_, h1⟩ | ⟨_, ⟨g, c, S, h1, _⟩ | ⟨h1, _⟩⟩
  · exact ⟨_, _, _, _, h1⟩
  · exact ⟨_, _, _, _, h1⟩
  · exact ⟨_, _, _, _, h1⟩
/-- What both answer, side by side. -/
structure Both (w : World) (N : Nat) (a1 : Option Addr) (a2 : Option Addr) (S : Sts) : Prop where
  len : S.length = N
  at_ : ∀ j (hj : j < S.length), ∃ g1 g2 v1 v2, a1 = some ⟨g1, 0, none⟩ ∧ a2 = some ⟨g2, 0, none⟩ ∧ w.cell? ⟨g1, j, none⟩ = some v1 ∧ w.cell? ⟨g2, j, none⟩ = some v2 ∧ Row w w.heap.size 1 v1 S[j].length (svt S[j]) ∧ Row w w.heap.size 1 v2 S[j].length (svt S[j]) ∧ g1 < w.heap.size ∧ g2 < w.heap.size
theorem same14 {w1 w2 w3 : World} {b : Bn} {a1 a2 : Option Addr} {N1 N2 c1 c2 : Nat} {x1 x2 : Int} (h1 : OfP w1 b (.returned (.tuple #[.slice a1 N1 c1, .int .i64 x1])) w2) (h2 : ROfP w2 b (.returned (.tuple #[.slice a2 N2 c2, .int .i64 x2])) w3) :
    x2 = x1 ∧ N2 = N1 ∧ N1 ≤ 500 ∧ N1 ≤ c1 + 0 * c2 ∧ ∃ S, Both w3 N1 a1 a2 S := by
  have hb := h2.2
  rcases h1.1 with ⟨z1, e1⟩ | ⟨z1, ⟨g1, S1, e1, I1, C1, O1, R1⟩ | ⟨e1, S1, s1, o1⟩⟩
  · rcases h2.1 with ⟨z2, e2⟩ | ⟨z2, _⟩
    · simp only [Ending.returned.injEq, Value.tuple.injEq, Array.mk.injEq, List.cons.injEq, Value.slice.injEq, Value.int.injEq, and_true, true_and] at e1 e2
      obtain ⟨⟨rfl, rfl, rfl⟩, rfl⟩ := e1
      obtain ⟨⟨rfl, rfl, rfl⟩, rfl⟩ := e2
      exact ⟨rfl, rfl, by omega, by omega, [], rfl, fun j hj => by simp at hj⟩
    · exact absurd z2 z1
  · obtain ⟨_, hN, _, _, _, hok, _⟩ := bmay_zero z1
    rcases h2.1 with ⟨z2, _⟩ | ⟨_, ⟨g2, cc, S2, e2, I2, C2, O2, R2⟩ | ⟨_, S2, s2, o2⟩⟩
    · exact absurd z1 z2
    · simp only [Ending.returned.injEq, Value.tuple.injEq, Array.mk.injEq, List.cons.injEq, Value.slice.injEq, Value.int.injEq, and_true, true_and] at e1 e2
      obtain ⟨⟨rfl, rfl, rfl⟩, rfl⟩ := e1
      obtain ⟨⟨rfl, rfl, rfl⟩, rfl⟩ := e2
      have e3 := Sound.uniq hok I2.sound I1.sound C2 C1
      subst e3
      refine ⟨rfl, rfl, hN, by omega, S2, R2.len, fun j hj => ?_⟩
      obtain ⟨v1, q1, q2⟩ := (R1.below hb).at_ j hj
      obtain ⟨v2, q3, q4⟩ := R2.at_ j hj
      exact ⟨g1, g2, v1, v2, rfl, rfl, q1, q3, q2, q4, (R1.below hb).lt, R2.lt⟩
    · exact (o2.not (Sound.sub hok s2 C1) I1.sound.set C1 O1 fun n => stAt_few n I1.few).elim
  · obtain ⟨_, hN, _, _, _, hok, _⟩ := bmay_zero z1
    rcases h2.1 with ⟨z2, _⟩ | ⟨_, ⟨g2, cc, S2, e2, I2, C2, O2, R2⟩ | ⟨e2, S2, s2, o2⟩⟩
    · exact absurd z1 z2
    · exact (o1.not (Sound.sub hok s1 C2) I2.sound.set C2 O2 fun n => stAt_few n I2.few).elim
    · simp only [Ending.returned.injEq, Value.tuple.injEq, Array.mk.injEq, List.cons.injEq, Value.slice.injEq, Value.int.injEq, and_true, true_and] at e1 e2
      obtain ⟨⟨rfl, rfl, rfl⟩, rfl⟩ := e1
      obtain ⟨⟨rfl, rfl, rfl⟩, rfl⟩ := e2
      exact ⟨rfl, rfl, by omega, by omega, [], rfl, fun j hj => by simp at hj⟩
theorem Both.below {w w' : World} {N : Nat} {a1 a2 : Option Addr} {S : Sts} (h : Both w N a1 a2 S) (hb : Below w.heap.size w w') : Both w' N a1 a2 S :=
  ⟨h.len, fun j hj => by
    obtain ⟨g1, g2, v1, v2, h1, h2, h3, h4, h5, h6, h7, h8⟩ := h.at_ j hj
    exact ⟨g1, g2, v1, v2, h1, h2, (hb.cell (p := ⟨g1, j, none⟩) h7).trans h3, (hb.cell (p := ⟨g2, j, none⟩) h8).trans h4, (h5.below hb).mono hb.size, (h6.below hb).mono hb.size, Nat.lt_of_lt_of_le h7 hb.size, Nat.lt_of_lt_of_le h8 hb.size⟩⟩
set_option maxHeartbeats 4000000 in
set_option maxRecDepth 100000 in
theorem firstOf_walk (b : Bn) (ov lv : Value) (w : World) (r : BR w w.heap.size ov lv b) :
    Calls Try.prog 3 #[.agg #[.int .i64 b.toks, .int .i64 b.look, ov, lv]] w (BoolB w true) := by
  have hb1 := agg_box14 w b.toks b.look ov lv
  have hbx := BoxB.new b.toks b.look 25 (Nat.le_refl w.heap.size) r
  have hp1 : (w.alloc (.cells #[.int .i64 b.toks, .int .i64 b.look, ov, lv] 25)).heap[w.heap.size]? = some (.cells #[.int .i64 b.toks, .int .i64 b.look, ov, lv] 25 (0, 0)) := Array.getElem?_push_size
  have hfw := few14_any b b.toks b.look ov lv _ _ rfl rfl hbx.le hbx.r
  have h2 := few14_twice b
  obtain ⟨htk, hlk⟩ := few14_toks b
  generalize few14B b = B at *
  generalize b.toks = tk at *
  generalize b.look = lk at *
  have hfew2 : ∀ o l W BW, BW ≤ W.heap.size → BR W BW o l B → Calls Try.prog 10 #[.agg #[.int .i64 tk, .int .i64 lk, o, l]] W (Few14P W tk lk B) := fun o l W BW hBW hr => by
    have := few14_any B tk lk o l BW W htk hlk hBW hr
    rw [h2] at this; exact this
  have hof : ∀ o l W BW, BW ≤ W.heap.size → BR W BW o l B → Calls Try.prog 11 #[.agg #[.int .i64 tk, .int .i64 lk, o, l]] W (OfP W B) := fun o l W BW hBW hr => firstOf_any B tk lk o l BW W htk hlk hBW hr
  have hrf : ∀ o l W BW, BW ≤ W.heap.size → BR W BW o l B → Calls Try.prog 12 #[.agg #[.int .i64 tk, .int .i64 lk, o, l]] W (ROfP W B) := fun o l W BW hBW hr => refOf14_any B tk lk o l BW W htk hlk hBW hr
  have Hfw := Lib.hid hfw; have Hp1 := Lib.hid hp1; have Hb1 := Lib.hid hb1; have Hbx := Lib.hid hbx
  have Hfew2 := Lib.hid hfew2; have Hof := Lib.hid hof; have Hrf := Lib.hid hrf
  have Hwk := Lib.hid works14_any
  clear hfw hp1 hb1 htk hlk r hbx hfew2 hof hrf h2
  go_enter Try.func3, Try.ntmps3
  go_upto_region 1 with fail
  generalize w.alloc (.cells #[.int .i64 tk, .int .i64 lk, ov, lv] 25) = w1 at *
  obtain ⟨y0, y1, y2, y3, _, _, _, _, hlt0⟩ := four_cells Hp1.out
  go_wp2_with fail
  refine (Hfw.out).mono ?_
  rintro e w3 ⟨o, l, rfl, hbr, hb3⟩
  obtain ⟨oa, oc, rfl, _, _⟩ := (hbr w3 (fun _ _ => rfl) rfl).of.val
  obtain ⟨la, lc, rfl, _, _⟩ := (hbr w3 (fun _ _ => rfl) rfl).l.val
  have hp3 : w3.heap[w.heap.size]? = some (.cells #[.int .i64 tk, .int .i64 lk, ov, lv] 25 (0, 0)) := by rw [hb3.block _ hlt0]; exact Hp1.out
  have hbox := BoxB.put tk lk hp3 (show w.heap.size < w1.heap.size + 2 by omega) hbr
  have HB4 := Lib.hid (below_four (Hb1.out.trans (hb3.mono Hb1.out.size)) (Nat.le_refl w.heap.size) (.int .i64 tk) (.int .i64 lk) (.slice oa B.of.length oc) (.slice la B.l.length lc))
  obtain ⟨x0, x1, x2, x3, f0, f1, f2, f3, hlt2⟩ := four_cells hp3
  have Hbox := Lib.hid hbox
  clear y0 y1 y2 y3 hlt0 hp3 hbr hb3 hbox Hfw Hbx Hp1
  go_upto_region 2 with fail
  generalize hw4 : (((w3.setCell ⟨w.heap.size, 0, none⟩ (.int .i64 tk)).setCell ⟨w.heap.size, 1, none⟩ (.int .i64 lk)).setCell ⟨w.heap.size, 2, none⟩ (.slice oa B.of.length oc)).setCell ⟨w.heap.size, 3, none⟩ (.slice la B.l.length lc) = w4 at *
  clear x0 x1 x2 x3 f0 f1 f2 f3 hlt2 hw4
  have Hq := Lib.hid (Hfew2.out _ _ w4 _ Hbox.out.le Hbox.out.r)
  obtain ⟨c0, c1, c2, c3⟩ := Hbox.out.four
  go_wp2_with fail
  refine (Hq.out).mono ?_
  rintro e w5 ⟨o5, l5, rfl, hbr5, hb5⟩
  have Hof5 := Lib.hid (Hof.out o5 l5 w5 _ (Nat.le_refl _) (hbr5 w5 (fun _ _ => rfl) rfl))
  have HB5 := Lib.hid (HB4.out.trans (hb5.mono HB4.out.size))
  have Hbox5 := Lib.hid (Hbox.out.keep hb5)
  clear Hq Hbox hbr5 hb5 Hof Hfew2 c0 c1 c2 c3
  go_wp2_with fail
  refine (Hof5.out).mono ?_
  intro e w6 hp6
  obtain ⟨a1, N1, d1, er1, rfl⟩ := hp6.form
  have HP6 := Lib.hid hp6
  have HB6 := Lib.hid (HB5.out.trans (hp6.2.mono HB5.out.size))
  have Hbox6 := Lib.hid (Hbox5.out.keep hp6.2)
  have Hq := Lib.hid (Hrf.out _ _ w6 _ Hbox6.out.le Hbox6.out.r)
  obtain ⟨c0, c1, c2, c3⟩ := Hbox6.out.four
  clear Hof5 Hbox5 hp6 Hrf
  go_wp2_with fail
  refine (Hq.out).mono ?_
  intro e w7 hp7
  obtain ⟨a2, N2, d2, er2, rfl⟩ := hp7.form
  obtain ⟨hx, hN, hN5, hd, S, hS⟩ := same14 HP6.out hp7
  subst hx hN
  have HB7 := Lib.hid (HB6.out.trans (hp7.2.mono HB6.out.size))
  have HS := Lib.hid hS
  clear HP6 Hq hp7 hS c0 c1 c2 c3 Hbox6
  go_wp2_with fail
  go_loopw [7] (fun iv wr => ∃ k : Nat, k ≤ N2 ∧ iv = .int .i64 (k : Nat) ∧ Hid (Below w7.heap.size w7 wr)) (fun iv _ => N2 - (intOf iv).toNat)
  case atStart => exact ⟨0, Nat.zero_le _, rfl, Lib.hid (Below.refl _ _)⟩
  case round =>
    obtain ⟨k, hk, rfl, HBk⟩ := hrel
    by_cases hlt : k < N2
    · obtain ⟨g1, g2, v1, v2, rfl, rfl, q1, q2, q3, q4, q5, q6⟩ := (HS.out.below HBk.out).at_ k (by rw [HS.out.len]; exact hlt)
      obtain ⟨t1, s1, rfl, _, _⟩ := q3.val
      obtain ⟨t2, s2, rfl, _, _⟩ := q4.val
      generalize S[k]'(by rw [HS.out.len]; exact hlt) = T at *
      have Hd0 := Lib.hid (HBk.out.drew)
      have Hq := Lib.hid (sameTexts_any (.slice t1 T.length s1) (.slice t2 T.length s2) T T _ _ wr.drew (Nat.le_refl _) (Nat.le_refl _) q3 q4)
      simp only [decide_true] at Hq
      have HS5 := Lib.hid (And.intro (show wr.drew.cell? ⟨g1, k, none⟩ = some _ from q1) (show wr.drew.cell? ⟨g2, k, none⟩ = some _ from q2))
      have hk1 : (k : Int) < (N2 : Int) := by omega
      have hk2 : (0 : Int) ≤ (k : Int) := by omega
      have hk3 : (k : Int) ≤ 500 := by omega
      have Hlt := Lib.hid hlt; have Q5 := Lib.hid q5; have Q6 := Lib.hid q6
      clear hlt hk q1 q2 q3 q4 q5 q6
      go_upto_region 9 with fail
      refine wp_region_ord 9 [(0, true), (1, true), (2, true), (3, true), (4, true), (5, true), (6, true), (7, true), (8, false), (9, false)] (fun w' => w'.cell? ⟨g1, k, none⟩ = some (.slice t1 T.length s1) ∧ w'.cell? ⟨g2, k, none⟩ = some (.slice t2 T.length s2)) (by kernel_rfl) (by kernel_rfl) HS5.out ?_
      simp only [ordL, List.getElem?_toArray, List.getElem?_cons_succ, List.getElem?_cons_zero]
      iterate 8 (
        refine ordW_read (v := ?_) (by rfl) ?_ (fun _ _ _ h => h) ?_
        rotate_left
        focus (intro w' hS; obtain ⟨s0, s1⟩ := hS; go_simp; (try with_reducible rfl); done)
        try simp only [Act.put, List.setIfInBounds_toArray, List.set_cons_zero, List.set_cons_succ])
      refine ordW_do (by rfl) (fun K' HK => ?_)
      go_simp
      refine (Hq.out).mono ?_
      rintro e w8 ⟨rfl, hb8⟩
      have hb8' : Below wr.heap.size wr w8 := (Below.refl wr.heap.size wr).drew.trans (hb8 : Below wr.heap.size wr.drew w8)
      have HB8 := Lib.hid (HBk.out.trans (hb8'.mono HBk.out.size))
      have HS6 := Lib.hid (And.intro ((hb8.cell (p := ⟨g1, k, none⟩) Q5.out).trans HS5.out.1) ((hb8.cell (p := ⟨g2, k, none⟩) Q6.out).trans HS5.out.2))
      refine HK.out _ _ (fun _ => HS6.out) ?_
      clear HK K' hb8 hb8'
      try simp only [Act.put, List.setIfInBounds_toArray, List.set_cons_zero, List.set_cons_succ]
      refine ordW_do (by rfl) (fun K' HK => ?_)
      go_simp
      refine HK.out _ _ (fun h => absurd rfl h) (ordW_nil ?_)
      clear HK K'
      go_wp2_with fail
      go_roundw
      case rel => exact ⟨k + 1, Hlt.out, by go_num, HB8⟩
      case measure => have := Hlt.out; simp [intOf]; omega
    · have hk0 : decide (k < N2) = false := decide_eq_false hlt
      have HBe := Lib.hid (HB7.out.trans (HBk.out.mono HB7.out.size))
      have Hw := Lib.hid (Hwk.out wr)
      clear hlt hk Hwk
      go_wp2_with fail
      refine (Hw.out).mono ?_
      rintro e w9 ⟨rfl, hb9⟩
      have HB9 := Lib.hid (HBe.out.trans (hb9.mono HBe.out.size))
      clear hb9 Hw
      go_wp2_with fail
      go_ret
      exact ⟨rfl, HB9.out⟩
set_option maxRecDepth 100000 in
theorem firstOf_law {H : Type} {base : Nat} (enc : TypeId × Value → H) (W : World)
    (v0 : Value) (d0 : DataW H) (p0 : List MemPlace) (k0 : Value.okWide Try.prog W .any base 25 v0) (h0 : DataW.Trod enc Try.prog W 0 (fun _ => true) true 25 v0 d0 p0) :
    Calls Try.prog 3 #[v0] W fun e w' => e = .returned (.bool true) ∧ Below W.heap.size W w' := by
  obtain ⟨b, o, l, rfl, r, _⟩ := bnfOf k0 h0
  exact firstOf_walk b o l W r
end Go.Proofs.Ytimgnbacgdmiiaa
namespace Go.Proofs.Ytimgnbacgdmiiaa
open Go.RowKit PK
set_option linter.unusedVariables false
set_option linter.unusedSimpArgs false
attribute [local go_sem ↓] append_appM

/-- Sets that are the beginnings of each nonterminal. -/
def GoodS (b : Bn) (S : Sts) : Prop := InvS b b.look 600 S ∧ Closed b b.look S ∧ ∀ p ∈ b.l, ¬ OverR b.look 600 S p.right
/-- What first.Row answers. -/
def FRes (w' : World) (b : Bn) (l : List Sy) (v : Value) (x : Int) : Prop :=
  (bmay b ≠ 0 ∧ v = .slice none 0 0 ∧ x = bmay b) ∨ (bmay b = 0 ∧ (∃ S, Sound b b.look S ∧ Over b b.look 600 S) ∧ v = .slice none 0 0 ∧ x = 15) ∨ (bmay b = 0 ∧ ∃ S, GoodS b S ∧ ((l.all (symOk b) = false ∧ v = .slice none 0 0 ∧ x = 4) ∨ (l.all (symOk b) = true ∧ OverR b.look 600 S l ∧ v = .slice none 0 0 ∧ x = 15) ∨ (l.all (symOk b) = true ∧ ¬ OverR b.look 600 S l ∧ x = 0 ∧ Row w' w'.heap.size 1 v (rowS b.look S l).length (svt (rowS b.look S l)))))
def FRowP (w : World) (b : Bn) (l : List Sy) (e : Ending) (w' : World) : Prop := (∃ v x, e = .returned (.tuple #[v, .int .i64 x]) ∧ FRes w' b l v x) ∧ Below w.heap.size w w'
theorem symOk_wide {b : Bn} (h0 : bmay b = 0) {s : Sy} (h : symOk b s = true) : (s.tok = true → 0 ≤ s.n ∧ s.n ≤ 255) ∧ (s.tok = false → 0 ≤ s.n ∧ s.n < b.of.length) := by
  obtain ⟨_, _, _, _, _, _, h7, _, _, _⟩ := bmay_zero h0
  unfold symOk at h
  refine ⟨fun ht => ?_, fun ht => ?_⟩
  · rw [ht, if_pos rfl, Bool.and_eq_true, decide_eq_true_eq, decide_eq_true_eq] at h; omega
  · rw [ht] at h; simp only [Bool.false_eq_true, if_false, Bool.and_eq_true, decide_eq_true_eq] at h; exact h
theorem InvS.ok {b : Bn} {k : Int} {S : Sts} (h : InvS b k 600 S) : SOk k S := fun a ha => ⟨h.sound.set a ha, h.le a ha, h.few a ha⟩
set_option maxHeartbeats 4000000 in
set_option maxRecDepth 100000 in
theorem firstRow_any (b : Bn) (l : List Sy) (tk lk : Int) (ov bv lv : Value) (B BL : Nat) (w : World) (etk : b.toks = tk) (elk : b.look = lk) (hB : B ≤ w.heap.size) (r : BR w B ov bv b) (hBL : BL ≤ w.heap.size) (rl : SR w BL lv l) :
    Calls Try.prog 15 #[.agg #[.int .i64 tk, .int .i64 lk, ov, bv], lv] w (FRowP w b l) := by
  obtain ⟨oa, oc, rfl, ho1, ho2⟩ := r.of.val
  obtain ⟨la, lc, rfl, hl1, hl2⟩ := r.l.val
  obtain ⟨ra, rc, rfl, hr1, hr2⟩ := Row.val rl
  unfold maxLen at hr2
  subst etk elk
  have hbox := BoxB.new b.toks b.look 25 hB r
  have hb1 := (Below.refl w.heap.size w).alloc (Nat.le_refl _) (.cells #[.int .i64 b.toks, .int .i64 b.look, .slice oa b.of.length oc, .slice la b.l.length lc] 25)
  have hof := firstOf_any b b.toks b.look _ _ B _ rfl rfl hbox.le hbox.r
  have hok : ∀ s : Sy, symOk b s = if s.tok then decide (1 ≤ s.n) && decide (s.n ≤ b.toks) else decide (0 ≤ s.n) && decide (s.n < b.of.length) := fun s => rfl
  have hwide : bmay b = 0 → ∀ s, symOk b s = true → (s.tok = true → 0 ≤ s.n ∧ s.n ≤ 255) ∧ (s.tok = false → 0 ≤ s.n ∧ s.n < b.of.length) := fun h0 s h => symOk_wide h0 h
  have hres : ∀ W v x, FRes W b l v x → FRes W b l v x := fun _ _ _ h => h
  obtain ⟨f, hf⟩ : ∃ f, f = symOk b := ⟨_, rfl⟩
  obtain ⟨ol, hol⟩ : ∃ ol, ol = b.of.length := ⟨_, rfl⟩
  obtain ⟨ll, hll⟩ : ∃ ll, ll = b.l.length := ⟨_, rfl⟩
  obtain ⟨rn, hrn⟩ : ∃ rn, rn = l.length := ⟨_, rfl⟩
  obtain ⟨tk, htk⟩ : ∃ tk, tk = b.toks := ⟨_, rfl⟩
  obtain ⟨lk, hlk⟩ : ∃ lk, lk = b.look := ⟨_, rfl⟩
  rw [← hf] at hok hwide
  rw [← hol, ← hll, ← htk, ← hlk] at hbox hb1 hof
  rw [← hol, ← htk] at hok
  rw [← hol] at hwide
  rw [← hol, ← hll, ← htk, ← hlk, ← hrn]
  rw [← hrn] at rl hr1
  have hrn63 : (rn : Int) ≤ 9223372036854775807 := by omega
  have Hbox := Lib.hid hbox; have Hb1 := Lib.hid hb1; have Hof := Lib.hid hof; have Hok := Lib.hid hok; have Hwide := Lib.hid hwide; have Hf := Lib.hid hf; have Hol := Lib.hid hol; have Hlk := Lib.hid hlk; have Hrn := Lib.hid hrn
  have Hmk := Lib.hid mkAhead_any
  have Rl := Lib.hid (fun W (hW : Below w.heap.size w W) => (show SR W BL (.slice ra rn rc) l from by rw [hrn]; exact Row.below (by rw [hrn] at rl; exact rl) (hW.mono hBL)))
  have HBL := Lib.hid hBL
  clear r hbox hb1 hof hok hwide hres hf hol hll htk hlk ho1 ho2 hl1 hl2 hB rl hr1 hr2 hrn hBL
  go_enter Try.func15, Try.ntmps15
  go_upto_region 1 with fail
  generalize w.alloc (.cells #[.int .i64 tk, .int .i64 lk, .slice oa ol oc, .slice la ll lc] 25) = w1 at *
  obtain ⟨c0, c1, c2, c3⟩ := Hbox.out.four
  go_wp2_with fail
  refine (Hof.out).mono ?_
  rintro e w2 ⟨h2, hb2⟩
  have Hbx2 := Lib.hid (Hbox.out.keep hb2)
  have HB2 := Lib.hid (Hb1.out.trans (hb2.mono Hb1.out.size))
  clear hb2 c0 c1 c2 c3 Hof
  rcases h2 with ⟨h0, rfl⟩ | ⟨h0, ⟨g, S, rfl, hI, hcl, hno, hst⟩ | ⟨rfl, hS⟩⟩
  · have Hne := Lib.hid h0
    have hq : ((bmay b : Int) == 0) = false := by rw [beq_eq_false_iff_ne]; exact h0
    have hq2 : ((bmay b : Int) != 0) = true := by rw [bne_iff_ne]; exact h0
    clear h0
    generalize hm : bmay b = m at *
    have HE : Hid (FRowP w b l (.returned (.tuple #[.slice none 0 0, .int .i64 m])) w2) := Lib.hid ⟨⟨_, _, rfl, .inl ⟨by rw [hm]; exact Hne.out, rfl, hm.symm⟩⟩, HB2.out⟩
    clear hm
    go_wp2_with fail
    go_ret2
    exact HE.out
  · rw [← Hol.out]
    have hN : ol ≤ 1000 := by have := (bmay_zero h0).2.1; have := Hol.out; omega
    have hk4 : 1 ≤ lk ∧ lk ≤ 4 := by have := (bmay_zero h0).2.2.2.2.2.2.2.2; have := Hlk.out; omega
    have hgood : GoodS b S := ⟨hI, hcl, hno⟩
    have Hgood := Lib.hid hgood; have H0 := Lib.hid h0; have HN := Lib.hid hN; have Hk4 := Lib.hid hk4
    have Hst := Lib.hid hst
    rw [← Hol.out] at Hst
    have HSo := Lib.hid hI.ok
    rw [← Hlk.out] at HSo
    clear hI hcl hno hst h0 hN hk4 hgood
    go_wp2_with fail
    go_loopw [22] (fun iv wr => ∃ i : Nat, i ≤ rn ∧ iv = .int .i64 (i : Nat) ∧ Hid ((l.take i).all f = true) ∧ Hid (Below w2.heap.size w2 wr)) (fun iv _ => rn - (intOf iv).toNat)
    case atStart => exact ⟨0, Nat.zero_le _, rfl, Lib.hid rfl, Lib.hid (Below.refl _ _)⟩
    case round =>
      obtain ⟨i, hi, rfl, Hai, HB⟩ := hrel
      have HBw := Lib.hid (HB2.out.trans (HB.out.mono HB2.out.size))
      obtain ⟨c0, c1, c2, c3⟩ := (Hbx2.out.keep HB.out).four
      by_cases hli : i < rn
      · have hli' : i < l.length := by have := Hrn.out; omega
        obtain ⟨b6, o6, hao, hb6, e0, e1⟩ := SR.get (show SR wr BL (.slice ra l.length rc) l by have := Rl.out wr HBw.out; rw [Hrn.out] at this; exact this) i hli'
        subst hao
        have Hsy := Lib.hid (all_step l f i hli' Hai.out)
        have Hsn := Lib.hid (all_no l f i hli')
        have hk0 : (i : Int) < (rn : Int) := by omega
        have hk1 : (0 : Int) ≤ (i : Int) := by omega
        have hok := Hok.out l[i]
        have Hli := Lib.hid hli
        generalize l[i] = s at *
        obtain ⟨t, n⟩ := s
        simp only at e0 e1 hok
        have hbs := (Below.refl wr.heap.size wr).alloc (Nat.le_refl _) (.cells #[.bool t, .int .i64 n] 39)
        have hx0 : (wr.alloc (.cells #[.bool t, .int .i64 n] 39)).cell? ⟨wr.heap.size, 0, none⟩ = some (.bool t) := cell_new wr _ _ 0 _ rfl
        have hx1 : (wr.alloc (.cells #[.bool t, .int .i64 n] 39)).cell? ⟨wr.heap.size, 1, none⟩ = some (.int .i64 n) := cell_new wr _ _ 1 _ rfl
        obtain ⟨d0, d1, d2, d3⟩ := ((Hbx2.out.keep HB.out).keep hbs).four
        have HB7 := Lib.hid (HB.out.trans (hbs.mono HB.out.size))
        have HBe := Lib.hid (HB2.out.trans (HB7.out.mono HB2.out.size))
        clear hli hi hli' hb6 hbs
        go_upto_region 7 with fail
        generalize wr.alloc (.cells #[.bool t, .int .i64 n] 39) = ws at *
        clear e0 e1 c0 c1 c2 c3
        have Hbad : Hid (f ⟨t, n⟩ = false → FRowP w b l (.returned (.tuple #[.slice none 0 0, .int .i64 4])) ws) := Lib.hid fun h => ⟨⟨_, _, rfl, .inr (.inr ⟨H0.out, S, Hgood.out, .inl ⟨by rw [← Hf.out]; exact Hsn.out h, rfl, rfl⟩⟩)⟩, HBe.out⟩
        cases t with
        | true =>
          simp only [if_true] at hok
          by_cases h1 : n < 1
          · have q1 : decide (n < 1) = true := decide_eq_true h1
            have HY := Lib.hid (Hbad.out (by rw [hok, decide_eq_false (by omega)]; rfl))
            clear hok h1 Hsy Hsn Hbad
            go_wp2_with fail
            go_ret2
            exact HY.out
          have q1 : decide (n < 1) = false := decide_eq_false h1
          by_cases h2 : tk < n
          · have q2 : decide (tk < n) = true := decide_eq_true h2
            have HY := Lib.hid (Hbad.out (by rw [hok, decide_eq_false (show ¬ n ≤ tk by omega), Bool.and_false]))
            clear hok h1 h2 Hsy Hsn Hbad
            go_wp2_with fail
            go_ret2
            exact HY.out
          have q2 : decide (tk < n) = false := decide_eq_false h2
          have HY := Lib.hid (Hsy.out (by rw [hok, decide_eq_true (show 1 ≤ n by omega), decide_eq_true (show n ≤ tk by omega)]; rfl))
          clear hok h1 h2 Hsy Hsn Hbad
          go_wp2_with fail
          go_roundw
          case rel => exact ⟨i + 1, Hli.out, by go_num, HY, HB7⟩
          case measure => have := Hli.out; simp [intOf]; omega
        | false =>
          simp only [Bool.false_eq_true, if_false] at hok
          by_cases h1 : n < 0
          · have q1 : decide (n < 0) = true := decide_eq_true h1
            have HY := Lib.hid (Hbad.out (by rw [hok, decide_eq_false (by omega)]; rfl))
            clear hok h1 Hsy Hsn Hbad
            go_wp2_with fail
            go_ret2
            exact HY.out
          have q1 : decide (n < 0) = false := decide_eq_false h1
          by_cases h2 : (ol : Int) ≤ n
          · have q2 : decide ((ol : Int) ≤ n) = true := decide_eq_true h2
            have HY := Lib.hid (Hbad.out (by rw [hok, decide_eq_false (show ¬ n < (ol : Int) by omega), Bool.and_false]))
            clear hok h1 h2 Hsy Hsn Hbad
            go_wp2_with fail
            go_ret2
            exact HY.out
          have q2 : decide ((ol : Int) ≤ n) = false := decide_eq_false h2
          have HY := Lib.hid (Hsy.out (by rw [hok, decide_eq_true (show 0 ≤ n by omega), decide_eq_true (show n < (ol : Int) by omega)]; rfl))
          clear hok h1 h2 Hsy Hsn Hbad
          go_wp2_with fail
          go_roundw
          case rel => exact ⟨i + 1, Hli.out, by go_num, HY, HB7⟩
          case measure => have := Hli.out; simp [intOf]; omega
      · have hall : l.all f = true := by
          have := Hai.out
          rw [List.take_of_length_le (by have := Hrn.out; omega)] at this; exact this
        have hk0 : decide (i < rn) = false := decide_eq_false hli
        have Hall := Lib.hid (show l.all (symOk b) = true by rw [← Hf.out]; exact hall)
        have hsw : ∀ s ∈ l, (s.tok = true → 0 ≤ s.n ∧ s.n ≤ 255) ∧ (s.tok = false → 0 ≤ s.n ∧ s.n < ol) := fun s hs => Hwide.out H0.out s (List.all_eq_true.1 hall s hs)
        have Hrow := Lib.hid fun W (hW : Below wr.heap.size wr W) kb (hc : W.cell? ⟨kb, 0, none⟩ = some (.int .i64 lk)) (hkb : kb < W.heap.size) => rowOf_any l (.slice ra rn rc) lk kb g ol ol 600 S BL W (Rl.out W (HBw.out.trans (hW.mono HBw.out.size))) (Nat.le_trans HBL.out (Nat.le_trans HBw.out.size hW.size)) (Hst.out.below (HB.out.trans (hW.mono HB.out.size))) hc hkb Hk4.out (Nat.le_refl _) HSo.out hsw HN.out
        have hb3 := (Below.refl wr.heap.size wr).alloc (Nat.le_refl _) (.cells #[.int .i64 lk] 3)
        have hr := Lib.hid (Hrow.out _ hb3 wr.heap.size (cell_new wr #[.int .i64 lk] 3 0 _ rfl) (by simp))
        have HB3 := Lib.hid (HBw.out.trans (hb3.mono HBw.out.size))
        clear hall hsw hli hi Hrow hb3
        go_wp2_with fail
        refine (Hmk.out lk wr).mono ?_
        rintro e w3 ⟨rfl, rfl⟩
        go_wp2_with fail
        refine (hr.out).mono ?_
        rintro e w4 ⟨h4, hb4⟩
        have HB4 := Lib.hid (HB3.out.trans (hb4.mono HB3.out.size))
        clear hb4 hr c0 c1 c2 c3
        rcases h4 with ⟨hn, v, rfl, hrow⟩ | ⟨ho, rfl⟩
        · obtain ⟨va, vc, rfl, _, _⟩ := hrow.val
          have HE : Hid (FRowP w b l (.returned (.tuple #[.slice va (rowS lk S l).length vc, .int .i64 0])) w4) := Lib.hid ⟨⟨_, _, rfl, .inr (.inr ⟨H0.out, S, Hgood.out, .inr (.inr ⟨Hall.out, by rw [← Hlk.out]; exact hn, rfl, by rw [← Hlk.out]; exact hrow⟩)⟩)⟩, HB4.out⟩
          clear hn hrow
          go_wp2_with fail
          go_ret2
          exact HE.out
        · have HE : Hid (FRowP w b l (.returned (.tuple #[.slice none 0 0, .int .i64 15])) w4) := Lib.hid ⟨⟨_, _, rfl, .inr (.inr ⟨H0.out, S, Hgood.out, .inr (.inl ⟨Hall.out, by rw [← Hlk.out]; exact ho, rfl, rfl⟩)⟩)⟩, HB4.out⟩
          clear ho
          go_wp2_with fail
          go_ret2
          exact HE.out
  · have HE : Hid (FRowP w b l (.returned (.tuple #[.slice none 0 0, .int .i64 15])) w2) := Lib.hid ⟨⟨_, _, rfl, .inr (.inl ⟨h0, hS, rfl, rfl⟩)⟩, HB2.out⟩
    clear hS
    go_wp2_with fail
    go_ret2
    exact HE.out
end Go.Proofs.Ytimgnbacgdmiiaa
namespace Go.Proofs.Ytimgnbacgdmiiaa
open Go.RowKit PK
set_option linter.unusedVariables false
set_option linter.unusedSimpArgs false
attribute [local go_sem ↓] append_appM

theorem FRes.val {w : World} {b : Bn} {l : List Sy} {v : Value} {x : Int} (h : FRes w b l v x) : ∃ a n c, v = .slice a n c := by
  rcases h with ⟨_, h, _⟩ | ⟨_, _, h, _⟩ | ⟨_, S, _, ⟨_, h, _⟩ | ⟨_, _, h, _⟩ | ⟨_, _, _, h⟩⟩
  · exact ⟨_, _, _, h⟩
  · exact ⟨_, _, _, h⟩
  · exact ⟨_, _, _, h⟩
  · exact ⟨_, _, _, h⟩
  · obtain ⟨a, c, h, _⟩ := h.val; exact ⟨_, _, _, h⟩
/-- Both answers side by side. -/
theorem rows14 {w2 w3 : World} {b : Bn} {l : List Sy} {v : Value} {x : Int} {a2 : Option Addr} {N2 c2 : Nat} {x2 : Int} (h1 : FRes w2 b l v x) (h2 : ROfP w2 b (.returned (.tuple #[.slice a2 N2 c2, .int .i64 x2])) w3) :
    (x2 ≠ 0 ∧ x = x2 ∧ v = .slice none 0 0) ∨ (x2 = 0 ∧ bmay b = 0 ∧ ∃ g S, a2 = some ⟨g, 0, none⟩ ∧ N2 = b.of.length ∧ GoodS b S ∧ SetsR w3 g N2 c2 S ∧ ((l.all (symOk b) = false ∧ v = .slice none 0 0 ∧ x = 4) ∨ (l.all (symOk b) = true ∧ OverR b.look 600 S l ∧ v = .slice none 0 0 ∧ x = 15) ∨ (l.all (symOk b) = true ∧ ¬ OverR b.look 600 S l ∧ x = 0 ∧ Row w2 w2.heap.size 1 v (rowS b.look S l).length (svt (rowS b.look S l))))) := by
  rcases h2.1 with ⟨z2, e2⟩ | ⟨z2, ⟨g2, cc, S2, e2, I2, C2, O2, R2⟩ | ⟨e2, S2, s2, o2⟩⟩
  · simp only [Ending.returned.injEq, Value.tuple.injEq, Array.mk.injEq, List.cons.injEq, Value.slice.injEq, Value.int.injEq, and_true, true_and] at e2
    obtain ⟨⟨rfl, rfl, rfl⟩, rfl⟩ := e2
    rcases h1 with ⟨_, h, h'⟩ | ⟨h, _⟩ | ⟨h, _⟩
    · exact .inl ⟨z2, h', h⟩
    · exact absurd h z2
    · exact absurd h z2
  · simp only [Ending.returned.injEq, Value.tuple.injEq, Array.mk.injEq, List.cons.injEq, Value.slice.injEq, Value.int.injEq, and_true, true_and] at e2
    obtain ⟨⟨rfl, rfl, rfl⟩, rfl⟩ := e2
    obtain ⟨_, _, _, _, _, hok, _⟩ := bmay_zero z2
    rcases h1 with ⟨h, _⟩ | ⟨_, ⟨S1, s1, o1⟩, _⟩ | ⟨_, S, ⟨I1, C1, O1⟩, h⟩
    · exact absurd z2 h
    · exact (o1.not (Sound.sub hok s1 C2) I2.sound.set C2 O2 fun n => stAt_few n I2.few).elim
    · have e3 := Sound.uniq hok I1.sound I2.sound C1 C2
      subst e3
      exact .inr ⟨rfl, z2, g2, S, rfl, rfl, ⟨I1, C1, O1⟩, R2, h⟩
  · simp only [Ending.returned.injEq, Value.tuple.injEq, Array.mk.injEq, List.cons.injEq, Value.slice.injEq, Value.int.injEq, and_true, true_and] at e2
    obtain ⟨⟨rfl, rfl, rfl⟩, rfl⟩ := e2
    obtain ⟨_, _, _, _, _, hok, _⟩ := bmay_zero z2
    rcases h1 with ⟨h, _⟩ | ⟨_, _, h, h'⟩ | ⟨_, S, ⟨I1, C1, O1⟩, h⟩
    · exact absurd z2 h
    · exact .inl ⟨by omega, h', h⟩
    · exact (o2.not (Sound.sub hok s2 C1) I1.sound.set C1 O1 fun n => stAt_few n I1.few).elim
set_option maxHeartbeats 4000000 in
set_option maxRecDepth 100000 in
theorem firstRows_walk (b : Bn) (l : List Sy) (ov bv lv : Value) (w : World) (r : BR w w.heap.size ov bv b) (rl : SR w w.heap.size lv l) :
    Calls Try.prog 4 #[.agg #[.int .i64 b.toks, .int .i64 b.look, ov, bv], lv] w (BoolB w true) := by
  obtain ⟨ra, rc, rfl, hr1, hr2⟩ := Row.val rl
  have hb1 := agg_box14 w b.toks b.look ov bv
  have hbx := BoxB.new b.toks b.look 25 (Nat.le_refl w.heap.size) r
  have hp1 : (w.alloc (.cells #[.int .i64 b.toks, .int .i64 b.look, ov, bv] 25)).heap[w.heap.size]? = some (.cells #[.int .i64 b.toks, .int .i64 b.look, ov, bv] 25 (0, 0)) := Array.getElem?_push_size
  have hfw := few14_any b b.toks b.look ov bv _ _ rfl rfl hbx.le hbx.r
  have h2 := few14_twice b
  obtain ⟨htk, hlk⟩ := few14_toks b
  generalize few14B b = B at *
  generalize b.toks = tk at *
  generalize b.look = lk at *
  have hfew2 : ∀ o l W BW, BW ≤ W.heap.size → BR W BW o l B → Calls Try.prog 10 #[.agg #[.int .i64 tk, .int .i64 lk, o, l]] W (Few14P W tk lk B) := fun o l W BW hBW hr => by
    have := few14_any B tk lk o l BW W htk hlk hBW hr
    rw [h2] at this; exact this
  have hof : ∀ o bv W BW l lv BL, BW ≤ W.heap.size → BR W BW o bv B → BL ≤ W.heap.size → SR W BL lv l → Calls Try.prog 15 #[.agg #[.int .i64 tk, .int .i64 lk, o, bv], lv] W (FRowP W B l) := fun o bv W BW l lv BL hBW hr hBL hl => firstRow_any B l tk lk o bv lv BW BL W htk hlk hBW hr hBL hl
  have hrf : ∀ o l W BW, BW ≤ W.heap.size → BR W BW o l B → Calls Try.prog 12 #[.agg #[.int .i64 tk, .int .i64 lk, o, l]] W (ROfP W B) := fun o l W BW hBW hr => refOf14_any B tk lk o l BW W htk hlk hBW hr
  have Hfw := Lib.hid hfw; have Hp1 := Lib.hid hp1; have Hb1 := Lib.hid hb1; have Hbx := Lib.hid hbx
  have Hfew2 := Lib.hid hfew2; have Hof := Lib.hid hof; have Hrf := Lib.hid hrf
  have Htk := Lib.hid htk; have Hlk := Lib.hid hlk
  have Hwk := Lib.hid works14_any
  obtain ⟨rn, hrn⟩ : ∃ rn, rn = l.length := ⟨_, rfl⟩
  have Hrl := Lib.hid rl
  have Hrn := Lib.hid hrn
  rw [← hrn] at Hrl hr1 ⊢
  clear hfw hp1 hb1 htk hlk r hbx hfew2 hof hrf h2 rl hrn
  go_enter Try.func4, Try.ntmps4
  go_upto_region 1 with fail
  generalize w.alloc (.cells #[.int .i64 tk, .int .i64 lk, ov, bv] 25) = w1 at *
  obtain ⟨y0, y1, y2, y3, _, _, _, _, hlt0⟩ := four_cells Hp1.out
  go_wp2_with fail
  refine (Hfw.out).mono ?_
  rintro e w3 ⟨o, l3, rfl, hbr, hb3⟩
  obtain ⟨oa, oc, rfl, _, _⟩ := (hbr w3 (fun _ _ => rfl) rfl).of.val
  obtain ⟨la, lc, rfl, _, _⟩ := (hbr w3 (fun _ _ => rfl) rfl).l.val
  have hp3 : w3.heap[w.heap.size]? = some (.cells #[.int .i64 tk, .int .i64 lk, ov, bv] 25 (0, 0)) := by rw [hb3.block _ hlt0]; exact Hp1.out
  have hbox := BoxB.put tk lk hp3 (show w.heap.size < w1.heap.size + 2 by omega) hbr
  have HB4 := Lib.hid (below_four (Hb1.out.trans (hb3.mono Hb1.out.size)) (Nat.le_refl w.heap.size) (.int .i64 tk) (.int .i64 lk) (.slice oa B.of.length oc) (.slice la B.l.length lc))
  obtain ⟨x0, x1, x2, x3, f0, f1, f2, f3, hlt2⟩ := four_cells hp3
  have Hbox := Lib.hid hbox
  clear y0 y1 y2 y3 hlt0 hp3 hbr hb3 hbox Hfw Hbx Hp1
  go_upto_region 2 with fail
  generalize hw4 : (((w3.setCell ⟨w.heap.size, 0, none⟩ (.int .i64 tk)).setCell ⟨w.heap.size, 1, none⟩ (.int .i64 lk)).setCell ⟨w.heap.size, 2, none⟩ (.slice oa B.of.length oc)).setCell ⟨w.heap.size, 3, none⟩ (.slice la B.l.length lc) = w4 at *
  clear x0 x1 x2 x3 f0 f1 f2 f3 hlt2 hw4
  unfold maxLen at hr2
  have hrn63 : (rn : Int) ≤ 9223372036854775807 := by omega
  have Hr1 := Lib.hid hr1
  have qa : (0 : Int) ≤ min (rn : Int) 4 := by omega
  have qb : min (rn : Int) 4 ≤ (rc : Int) := by omega
  obtain ⟨l4, hl4⟩ : ∃ l4, l4 = l.take (min (rn : Int) 4).toNat := ⟨_, rfl⟩
  have hl4n : l4.length = (min (rn : Int) 4).toNat := by rw [hl4, List.length_take]; have := Hrn.out; omega
  have hsr4 : SR w w.heap.size (.slice ra (min (rn : Int) 4).toNat rc) l4 := by
    have h1 := Row.take (show Row w w.heap.size 2 (.slice ra l.length rc) l.length (symC l) by have := Hrl.out; rw [Hrn.out] at this; exact this) (min (rn : Int) 4).toNat (by have := Hrn.out; omega)
    rw [symC_take, ← hl4] at h1
    unfold SR; rw [hl4n]; exact h1
  obtain ⟨a5, c5, w5, happ5, own5, b5⟩ := sym_copy w4 ra (min (rn : Int) 4).toNat rc l4 w.heap.size (Nat.le_trans (Nat.le_refl _) HB4.out.size) (Row.below hsr4 HB4.out) (by rw [hl4n]; omega)
  have HB5 := Lib.hid (HB4.out.trans (b5.mono HB4.out.size))
  have Hbox5 := Lib.hid (Hbox.out.keep b5)
  have hl4m : l4.length ≤ 4 := by rw [hl4n]; omega
  have Hl4m := Lib.hid hl4m
  have Ho5 := Lib.hid own5
  clear hr1 hr2 hl4 hl4n hsr4 Hrl Hrn own5 b5 hl4m Hbox
  go_upto_region 3 with fail
  clear qa qb happ5
  obtain ⟨ln, hln⟩ : ∃ ln, ln = l4.length := ⟨_, rfl⟩
  have Hln := Lib.hid hln
  have Hr5 := Lib.hid (Row.of_owns Ho5.out)
  rw [← hln] at Hr5 ⊢
  have hln4 : (ln : Int) ≤ 4 := by have := Hl4m.out; omega
  have Hq := Lib.hid (Hfew2.out _ _ w5 _ Hbox5.out.le Hbox5.out.r)
  obtain ⟨c0, c1, c2, c3⟩ := Hbox5.out.four
  clear hln Ho5
  go_wp2_with fail
  refine (Hq.out).mono ?_
  rintro e w6 ⟨o6, l6, rfl, hbr6, hb6⟩
  have Hbr6 := Lib.hid (hbr6 w6 (fun _ _ => rfl) rfl)
  have HB6 := Lib.hid (HB5.out.trans (hb6.mono HB5.out.size))
  have Hbox6 := Lib.hid (Hbox5.out.keep hb6)
  have Hr6 := Lib.hid ((Hr5.out.below hb6).mono hb6.size)
  obtain ⟨a7, c7, w7, happ7, own7, b7⟩ := sym_copy w6 a5 ln c5 l4 _ (Nat.le_refl _) (show SR w6 w6.heap.size (.slice a5 ln c5) l4 by unfold SR; rw [← Hln.out]; exact Hr6.out) (by have := Hl4m.out; omega)
  rw [← Hln.out] at happ7
  have HB7 := Lib.hid (HB6.out.trans (b7.mono HB6.out.size))
  have Hbox7 := Lib.hid (Hbox6.out.keep b7)
  have Hr7 := Lib.hid ((Hr6.out.below b7).mono b7.size)
  have Hq7 := Lib.hid (Hof.out o6 l6 w7 _ l4 (.slice a7 ln c7) _ b7.size (Hbr6.out.below b7) (Nat.le_refl _) (show SR w7 w7.heap.size (.slice a7 ln c7) l4 by unfold SR; rw [Hln.out]; exact Row.of_owns own7))
  clear hbr6 hb6 Hq Hfew2 Hbox5 Hr5 c0 c1 c2 c3 b7 own7 Hof Hbr6
  go_wp2_with fail
  refine (Hq7.out).mono ?_
  rintro e w8 ⟨⟨v8, x8, rfl, hf8⟩, hb8⟩
  obtain ⟨va, vn, vc, rfl⟩ := hf8.val
  have Hf8 := Lib.hid hf8
  have HB8 := Lib.hid (HB7.out.trans (hb8.mono HB7.out.size))
  have Hbox8 := Lib.hid (Hbox7.out.keep hb8)
  have Hr8 := Lib.hid ((Hr7.out.below hb8).mono hb8.size)
  have Hq := Lib.hid (Hrf.out _ _ w8 _ Hbox8.out.le Hbox8.out.r)
  obtain ⟨c0, c1, c2, c3⟩ := Hbox8.out.four
  clear hf8 hb8 Hq7 happ7 Hbox6 Hbox7 Hr6 Hr7 Hrf
  go_wp2_with fail
  refine (Hq.out).mono ?_
  intro e w9 hp9
  obtain ⟨a2, N2, d2, er2, rfl⟩ := hp9.form
  have HB9 := Lib.hid (HB8.out.trans (hp9.2.mono HB8.out.size))
  have Hbox9 := Lib.hid (Hbox8.out.keep hp9.2)
  have Hr9 := Lib.hid ((Hr8.out.below hp9.2).mono hp9.2.size)
  have hb9 := hp9.2
  rcases rows14 Hf8.out hp9 with ⟨hne, rfl, hv⟩ | ⟨rfl, hm0, g, S, rfl, rfl, hgood, hst, halt⟩
  · simp only [Value.slice.injEq] at hv
    obtain ⟨rfl, rfl, rfl⟩ := hv
    have hq : ((x8 : Int) == 0) = false := by rw [beq_eq_false_iff_ne]; exact hne
    have hq2 : ((x8 : Int) != 0) = true := by rw [bne_iff_ne]; exact hne
    have Hw := Lib.hid (Hwk.out w9)
    clear hne hb9 hp9 Hq c0 c1 c2 c3 Hf8 Hbox8 Hr8
    go_wp2_with fail
    refine (Hw.out).mono ?_
    rintro e w10 ⟨rfl, hb10⟩
    have HBe := Lib.hid (HB9.out.trans (hb10.mono HB9.out.size))
    clear hb10 Hw
    go_wp2_with fail
    go_ret
    exact ⟨rfl, HBe.out⟩
  · have Hst := Lib.hid hst; have Hgood := Lib.hid hgood; have Halt := Lib.hid halt; have H0 := Lib.hid hm0
    have hf : ∀ s : Sy, symOk B s = if s.tok then decide (1 ≤ s.n) && decide (s.n ≤ B.toks) else decide (0 ≤ s.n) && decide (s.n < B.of.length) := fun s => rfl
    have hwide : ∀ s, symOk B s = true → (s.tok = true → 0 ≤ s.n ∧ s.n ≤ 255) ∧ (s.tok = false → 0 ≤ s.n ∧ s.n < B.of.length) := fun s h => symOk_wide hm0 h
    have hN : B.of.length ≤ 1000 := by have := (bmay_zero hm0).2.1; omega
    have hk4 : 1 ≤ lk ∧ lk ≤ 4 := by have := (bmay_zero hm0).2.2.2.2.2.2.2.2; have := Hlk.out; omega
    rw [Htk.out] at hf
    have HN := Lib.hid hN; have Hk4 := Lib.hid hk4
    have Hwide := Lib.hid hwide
    have HSo := Lib.hid hgood.1.ok
    rw [Hlk.out] at HSo Halt
    obtain ⟨f, hfe⟩ : ∃ f, f = symOk B := ⟨_, rfl⟩
    rw [← hfe] at hf Halt Hwide
    obtain ⟨ol, hol⟩ : ∃ ol, ol = B.of.length := ⟨_, rfl⟩
    rw [← hol] at hf Hst HN Hwide ⊢
    rw [← hol] at Hbox9
    have Hok := Lib.hid hf
    have Hwb := Lib.hid hb9
    have Hf8r : Hid (∀ W v n, Below w8.heap.size w8 W → Row w8 w8.heap.size 1 v n (svt (rowS lk S l4)) → Row W W.heap.size 1 v n (svt (rowS lk S l4))) := Lib.hid fun W v n hW h => (h.below hW).mono hW.size
    clear hst hgood halt hm0 hf hwide hN hk4 hfe hol hb9 hp9 Hq c0 c1 c2 c3 Hf8 Hbox8 Hr8 Hgood
    go_wp2_with fail
    go_loopw [9] (fun iv wr => ∃ i : Nat, i ≤ ln ∧ iv = .int .i64 (i : Nat) ∧ Hid ((l4.take i).all f = true) ∧ Hid (Below w9.heap.size w9 wr)) (fun iv _ => ln - (intOf iv).toNat)
    case atStart => exact ⟨0, Nat.zero_le _, rfl, Lib.hid rfl, Lib.hid (Below.refl _ _)⟩
    case round =>
      obtain ⟨i, hi, rfl, Hai, HB⟩ := hrel
      have HBe := Lib.hid (HB9.out.trans (HB.out.mono HB9.out.size))
      obtain ⟨c0, c1, c2, c3⟩ := (Hbox9.out.keep HB.out).four
      by_cases hli : i < ln
      · have hli' : i < l4.length := by have := Hln.out; omega
        obtain ⟨b6, o6, hao, hb6, e0, e1⟩ := SR.get (show SR wr w9.heap.size (.slice a5 l4.length c5) l4 by have := Hr9.out.below HB.out; rw [Hln.out] at this; exact this) i hli'
        subst hao
        have Hsy := Lib.hid (all_step l4 f i hli' Hai.out)
        have Hsn := Lib.hid (all_no l4 f i hli')
        have hk0 : (i : Int) < (ln : Int) := by omega
        have hk1 : (0 : Int) ≤ (i : Int) := by omega
        have hok := Hok.out l4[i]
        have Hli := Lib.hid hli
        generalize l4[i] = s at *
        obtain ⟨t, n⟩ := s
        simp only at e0 e1 hok
        have Hbad : Hid (f ⟨t, n⟩ = false → Value.slice va vn vc = .slice none 0 0 ∧ x8 = 4) := Lib.hid fun h => by
          have h2 := Hsn.out h
          rcases Halt.out with ⟨_, h3, h4⟩ | ⟨h3, _⟩ | ⟨h3, _⟩
          · exact ⟨h3, h4⟩
          · rw [h2] at h3; cases h3
          · rw [h2] at h3; cases h3
        clear hli hi hli' hb6 c1 c3
        go_upto_region 10 with fail
        cases t with
        | true =>
          simp only [if_true] at hok
          by_cases h1 : n < 1
          · have q1 : decide (n < 1) = true := decide_eq_true h1
            have HY := Lib.hid (Hbad.out (by rw [hok, decide_eq_false (by omega)]; rfl))
            obtain ⟨hv, hx⟩ := HY.out
            simp only [Value.slice.injEq] at hv
            obtain ⟨rfl, rfl, rfl⟩ := hv
            subst hx
            have hbq : ∀ nq, Below w.heap.size w (wr.drewN nq) := fun nq => HBe.out.trans ((below_drewsP wr nq).mono HBe.out.size)
            have HBq := Lib.hid hbq
            clear hok h1 Hsy Hsn Hbad HY hbq
            refine wp_region_quiet_lit (by kernel_rfl) (by kernel_rfl) ?_
            repeat (first | go_big_quiet_step (fail) | quiet_step (fail))
            refine wpQuiet_nil ?_
            intro _ hw'
            obtain ⟨nq, hw''⟩ := hw'
            subst hw''
            clear c0 c2 e0 e1 q1
            have Hw := Lib.hid (Hwk.out (wr.drewN nq))
            have HBn := Lib.hid (HBq.out nq)
            go_wp2_with fail
            refine (Hw.out).mono ?_
            rintro e w10 ⟨rfl, hb10⟩
            have HBz := Lib.hid (HBn.out.trans (hb10.mono HBn.out.size))
            clear hb10 Hw
            go_wp2_with fail
            go_ret
            exact ⟨rfl, HBz.out⟩
          have q1 : decide (n < 1) = false := decide_eq_false h1
          by_cases h2 : tk < n
          · have q2 : decide (tk < n) = true := decide_eq_true h2
            have HY := Lib.hid (Hbad.out (by rw [hok, decide_eq_false (show ¬ n ≤ tk by omega), Bool.and_false]))
            obtain ⟨hv, hx⟩ := HY.out
            simp only [Value.slice.injEq] at hv
            obtain ⟨rfl, rfl, rfl⟩ := hv
            subst hx
            have hbq : ∀ nq, Below w.heap.size w (wr.drewN nq) := fun nq => HBe.out.trans ((below_drewsP wr nq).mono HBe.out.size)
            have HBq := Lib.hid hbq
            clear hok h1 h2 Hsy Hsn Hbad HY hbq
            refine wp_region_quiet_lit (by kernel_rfl) (by kernel_rfl) ?_
            repeat (first | go_big_quiet_step (fail) | quiet_step (fail))
            refine wpQuiet_nil ?_
            intro _ hw'
            obtain ⟨nq, hw''⟩ := hw'
            subst hw''
            clear c0 c2 e0 e1 q1 q2
            have Hw := Lib.hid (Hwk.out (wr.drewN nq))
            have HBn := Lib.hid (HBq.out nq)
            go_wp2_with fail
            refine (Hw.out).mono ?_
            rintro e w10 ⟨rfl, hb10⟩
            have HBz := Lib.hid (HBn.out.trans (hb10.mono HBn.out.size))
            clear hb10 Hw
            go_wp2_with fail
            go_ret
            exact ⟨rfl, HBz.out⟩
          have q2 : decide (tk < n) = false := decide_eq_false h2
          have HY := Lib.hid (Hsy.out (by rw [hok, decide_eq_true (show 1 ≤ n by omega), decide_eq_true (show n ≤ tk by omega)]; rfl))
          have HBq := Lib.hid (fun nq => HB.out.trans ((below_drewsP wr nq).mono HB.out.size))
          clear hok h1 h2 Hsy Hsn Hbad
          refine wp_region_quiet_lit (by kernel_rfl) (by kernel_rfl) ?_
          repeat (first | go_big_quiet_step (fail) | quiet_step (fail))
          refine wpQuiet_nil ?_
          intro _ hw'
          obtain ⟨nq, hw''⟩ := hw'
          subst hw''
          clear c0 c2 e0 e1 q1 q2
          have HBn := Lib.hid (HBq.out nq)
          go_wp2_with fail
          go_roundw
          case rel => exact ⟨i + 1, Hli.out, by go_num, HY, HBn⟩
          case measure => have := Hli.out; simp [intOf]; omega
        | false =>
          simp only [Bool.false_eq_true, if_false] at hok
          by_cases h1 : n < 0
          · have q1 : decide (n < 0) = true := decide_eq_true h1
            have HY := Lib.hid (Hbad.out (by rw [hok, decide_eq_false (by omega)]; rfl))
            obtain ⟨hv, hx⟩ := HY.out
            simp only [Value.slice.injEq] at hv
            obtain ⟨rfl, rfl, rfl⟩ := hv
            subst hx
            have hbq : ∀ nq, Below w.heap.size w (wr.drewN nq) := fun nq => HBe.out.trans ((below_drewsP wr nq).mono HBe.out.size)
            have HBq := Lib.hid hbq
            clear hok h1 Hsy Hsn Hbad HY hbq
            refine wp_region_quiet_lit (by kernel_rfl) (by kernel_rfl) ?_
            repeat (first | go_big_quiet_step (fail) | quiet_step (fail))
            refine wpQuiet_nil ?_
            intro _ hw'
            obtain ⟨nq, hw''⟩ := hw'
            subst hw''
            clear c0 c2 e0 e1 q1
            have Hw := Lib.hid (Hwk.out (wr.drewN nq))
            have HBn := Lib.hid (HBq.out nq)
            go_wp2_with fail
            refine (Hw.out).mono ?_
            rintro e w10 ⟨rfl, hb10⟩
            have HBz := Lib.hid (HBn.out.trans (hb10.mono HBn.out.size))
            clear hb10 Hw
            go_wp2_with fail
            go_ret
            exact ⟨rfl, HBz.out⟩
          have q1 : decide (n < 0) = false := decide_eq_false h1
          by_cases h2 : (ol : Int) ≤ n
          · have q2 : decide ((ol : Int) ≤ n) = true := decide_eq_true h2
            have HY := Lib.hid (Hbad.out (by rw [hok, decide_eq_false (show ¬ n < (ol : Int) by omega), Bool.and_false]))
            obtain ⟨hv, hx⟩ := HY.out
            simp only [Value.slice.injEq] at hv
            obtain ⟨rfl, rfl, rfl⟩ := hv
            subst hx
            have hbq : ∀ nq, Below w.heap.size w (wr.drewN nq) := fun nq => HBe.out.trans ((below_drewsP wr nq).mono HBe.out.size)
            have HBq := Lib.hid hbq
            clear hok h1 h2 Hsy Hsn Hbad HY hbq
            refine wp_region_quiet_lit (by kernel_rfl) (by kernel_rfl) ?_
            repeat (first | go_big_quiet_step (fail) | quiet_step (fail))
            refine wpQuiet_nil ?_
            intro _ hw'
            obtain ⟨nq, hw''⟩ := hw'
            subst hw''
            clear c0 c2 e0 e1 q1 q2
            have Hw := Lib.hid (Hwk.out (wr.drewN nq))
            have HBn := Lib.hid (HBq.out nq)
            go_wp2_with fail
            refine (Hw.out).mono ?_
            rintro e w10 ⟨rfl, hb10⟩
            have HBz := Lib.hid (HBn.out.trans (hb10.mono HBn.out.size))
            clear hb10 Hw
            go_wp2_with fail
            go_ret
            exact ⟨rfl, HBz.out⟩
          have q2 : decide ((ol : Int) ≤ n) = false := decide_eq_false h2
          have HY := Lib.hid (Hsy.out (by rw [hok, decide_eq_true (show 0 ≤ n by omega), decide_eq_true (show n < (ol : Int) by omega)]; rfl))
          have HBq := Lib.hid (fun nq => HB.out.trans ((below_drewsP wr nq).mono HB.out.size))
          clear hok h1 h2 Hsy Hsn Hbad
          refine wp_region_quiet_lit (by kernel_rfl) (by kernel_rfl) ?_
          repeat (first | go_big_quiet_step (fail) | quiet_step (fail))
          refine wpQuiet_nil ?_
          intro _ hw'
          obtain ⟨nq, hw''⟩ := hw'
          subst hw''
          clear c0 c2 e0 e1 q1 q2
          have HBn := Lib.hid (HBq.out nq)
          go_wp2_with fail
          go_roundw
          case rel => exact ⟨i + 1, Hli.out, by go_num, HY, HBn⟩
          case measure => have := Hli.out; simp [intOf]; omega
      · have hall : l4.all f = true := by
          have := Hai.out
          rw [List.take_of_length_le (by have := Hln.out; omega)] at this; exact this
        have hk0 : decide (i < ln) = false := decide_eq_false hli
        have hsw : ∀ s ∈ l4, (s.tok = true → 0 ≤ s.n ∧ s.n ≤ 255) ∧ (s.tok = false → 0 ≤ s.n ∧ s.n < ol) := fun s hs => Hwide.out s (List.all_eq_true.1 hall s hs)
        have Hrow := Lib.hid (refRow14_any l4 (.slice a5 ln c5) lk g ol d2 600 S _ wr (show SR wr w9.heap.size (.slice a5 ln c5) l4 by have := Hr9.out.below HB.out; unfold SR; rw [← Hln.out]; exact this) HB.out.size (Hst.out.below HB.out) Hk4.out (Nat.le_refl _) HSo.out hsw HN.out)
        have halt : (OverR lk 600 S l4 ∧ Value.slice va vn vc = .slice none 0 0 ∧ x8 = 15) ∨ (¬ OverR lk 600 S l4 ∧ x8 = 0 ∧ Row w8 w8.heap.size 1 (.slice va vn vc) (rowS lk S l4).length (svt (rowS lk S l4))) := by
          rcases Halt.out with ⟨h3, _⟩ | ⟨_, h4⟩ | ⟨_, h4⟩
          · rw [hall] at h3; cases h3
          · exact .inl h4
          · exact .inr h4
        have Ht := Lib.hid halt
        clear hall hsw halt hli hi c0 c2 c3 Hwide Hst Halt Hok
        go_wp2_with fail
        refine (Hrow.out).mono ?_
        rintro e w10 ⟨h10, hb10⟩
        have HB10 := Lib.hid (HBe.out.trans (hb10.mono HBe.out.size))
        have HB8w := Lib.hid (Hwb.out.trans ((HB.out.trans (hb10.mono HB.out.size)).mono Hwb.out.size))
        clear hb10 Hrow c1
        rcases h10 with ⟨hn, v, rfl, hrow⟩ | ⟨ho, rfl⟩
        · rcases Ht.out with ⟨ho, _⟩ | ⟨_, rfl, hr8⟩
          · exact absurd ho hn
          · obtain ⟨ya, yc, rfl, _, _⟩ := hrow.val
            obtain rfl : vn = (rowS lk S l4).length := by
              obtain ⟨_, _, hv, _⟩ := hr8.val
              simp only [Value.slice.injEq] at hv; exact hv.2.1
            have Hq := Lib.hid (sameTexts_any (.slice va (rowS lk S l4).length vc) (.slice ya (rowS lk S l4).length yc) (rowS lk S l4) (rowS lk S l4) _ _ w10 (Nat.le_refl _) (Nat.le_refl _) (Hf8r.out _ _ _ HB8w.out hr8) hrow)
            simp only [decide_true] at Hq
            generalize (rowS lk S l4).length = zn at *
            clear hr8 hrow hn Ht
            go_wp2_with fail
            refine (Hq.out).mono ?_
            rintro e w11 ⟨rfl, hb11⟩
            have HB11 := Lib.hid (HB10.out.trans (hb11.mono HB10.out.size))
            have Hw := Lib.hid (Hwk.out w11)
            clear hb11 Hq
            go_wp2_with fail
            refine (Hw.out).mono ?_
            rintro e w12 ⟨rfl, hb12⟩
            have HBz := Lib.hid (HB11.out.trans (hb12.mono HB11.out.size))
            clear hb12 Hw
            go_wp2_with fail
            go_ret
            exact ⟨rfl, HBz.out⟩
        · rcases Ht.out with ⟨_, hv, rfl⟩ | ⟨hn, _⟩
          · simp only [Value.slice.injEq] at hv
            obtain ⟨rfl, rfl, rfl⟩ := hv
            have Hw := Lib.hid (Hwk.out w10)
            clear ho Ht
            go_wp2_with fail
            refine (Hw.out).mono ?_
            rintro e w12 ⟨rfl, hb12⟩
            have HBz := Lib.hid (HB10.out.trans (hb12.mono HB10.out.size))
            clear hb12 Hw
            go_wp2_with fail
            go_ret
            exact ⟨rfl, HBz.out⟩
          · exact absurd ho hn
set_option maxRecDepth 100000 in
theorem firstRows_law {H : Type} {base : Nat} (enc : TypeId × Value → H) (W : World)
    (v0 : Value) (d0 : DataW H) (p0 : List MemPlace) (k0 : Value.okWide Try.prog W .any base 25 v0) (h0 : DataW.Trod enc Try.prog W 0 (fun _ => true) true 25 v0 d0 p0)
    (v1 : Value) (d1 : DataW H) (p1 : List MemPlace) (k1 : Value.okWide Try.prog W .any base 35 v1) (h1 : DataW.Trod enc Try.prog W 0 (fun _ => true) true 35 v1 d1 p1) :
    Calls Try.prog 4 #[v0, v1] W fun e w' => e = .returned (.bool true) ∧ Below W.heap.size W w' := by
  obtain ⟨b, o, l, rfl, r, _⟩ := bnfOf k0 h0
  obtain ⟨L, rl, _⟩ := symsOf (Go.WideShapes.okWide_slice Try.underlying35 k1) h1
  exact firstRows_walk b L o l v1 W r rl
end Go.Proofs.Ytimgnbacgdmiiaa
