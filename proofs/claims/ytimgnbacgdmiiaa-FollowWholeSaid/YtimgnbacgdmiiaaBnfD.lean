/-
  The document's Few of plain rules.
-/
import Derived.Test.YtimgnbacgdmiiaaBnfC
import Derived.Test.YtimgnbacgdmiiaaRegT
namespace Go.Proofs.Ytimgnbacgdmiiaa
open Go.RowKit
set_option linter.unusedVariables false
set_option linter.unusedSimpArgs false
attribute [local go_sem ↓] append_appM

def Apart (L : List Value) : Prop := L.Pairwise fun a b => a.ownBlock = none ∨ a.ownBlock ≠ b.ownBlock
theorem apart_symm {a b : Value} (h : a.ownBlock = none ∨ a.ownBlock ≠ b.ownBlock) : b.ownBlock = none ∨ b.ownBlock ≠ a.ownBlock := by
  rcases h with h | h
  · cases hb : b.ownBlock with
    | none => exact .inl rfl
    | some k => rw [h]; exact .inr (by simp)
  · exact .inr fun e => h e.symm
theorem apart_ne {L : List Value} (h : Apart L) {p q : Nat} {a b : Value} (hp : L[p]? = some a) (hq : L[q]? = some b) (hne : p ≠ q) : a.ownBlock = none ∨ a.ownBlock ≠ b.ownBlock := by
  obtain ⟨h1, rfl⟩ := List.getElem?_eq_some_iff.1 hp
  obtain ⟨h2, rfl⟩ := List.getElem?_eq_some_iff.1 hq
  have h' := List.pairwise_iff_getElem.1 h
  rcases Nat.lt_or_gt_of_ne hne with hlt | hlt
  · exact h' p q h1 h2 hlt
  · exact apart_symm (h' q p h2 h1 hlt)
theorem apart_set {L : List Value} (h : Apart L) (p : Nat) (a v : Value) (k : Nat) (hp : L[p]? = some a) (hlt : ∀ u ∈ L, ∀ j, u.ownBlock = some j → j < k) (hv : v.ownBlock = a.ownBlock ∨ v.ownBlock = some k) : Apart (L.set p v) := by
  have key : ∀ q b, L[q]? = some b → p ≠ q → v.ownBlock = none ∨ v.ownBlock ≠ b.ownBlock := fun q b hq hne => by
    rcases hv with hv | hv
    · rw [hv]; exact apart_ne h hp hq hne
    · right
      rw [hv]
      intro e
      have := hlt b (List.mem_of_getElem? hq) k e.symm
      omega
  unfold Apart
  rw [List.pairwise_iff_getElem]
  intro i j hi hj hij
  have hi' : i < L.length := by simpa using hi
  have hj' : j < L.length := by simpa using hj
  rw [List.getElem_set, List.getElem_set]
  by_cases e1 : p = i
  · rw [if_pos e1, if_neg (by omega)]
    exact key j _ (List.getElem?_eq_getElem hj') (by omega)
  · rw [if_neg e1]
    by_cases e2 : p = j
    · rw [if_pos e2]; exact apart_symm (key i _ (List.getElem?_eq_getElem hi') (by omega))
    · rw [if_neg e2]; exact List.pairwise_iff_getElem.1 h i j hi' hj' hij
/-- A production as it lies. -/
structure Cp where
  left : Int
  rv : Value
  right : List Sy
def outP (X : List Cp) : List Value := X.flatMap fun x => [.int .i64 x.left, x.rv]
def blkP (X : List Cp) : List Value := X.map (·.rv)
def prsOf (X : List Cp) : List Pr := X.map fun x => ⟨x.left, x.right⟩
theorem outP_snoc (X : List Cp) (x : Cp) : outP (X ++ [x]) = outP X ++ [.int .i64 x.left, x.rv] := by simp [outP]
theorem blkP_snoc (X : List Cp) (x : Cp) : blkP (X ++ [x]) = blkP X ++ [x.rv] := by simp [blkP]
theorem prsOf_snoc (X : List Cp) (x : Cp) : prsOf (X ++ [x]) = prsOf X ++ [⟨x.left, x.right⟩] := by simp [prsOf]
theorem prsOf_len (X : List Cp) : (prsOf X).length = X.length := by simp [prsOf]
structure Prs (w : World) (B : Nat) (vo : Value) (X : List Cp) : Prop where
  out : w.ownsRow B 57 2 vo X.length (outP X)
  each : ∀ x ∈ X, w.ownsRow B 39 2 x.rv x.right.length (symC x.right)
  apart : Apart (vo :: blkP X)
theorem Prs.lt {w B vo X} (h : Prs w B vo X) {u : Value} (hu : u ∈ vo :: blkP X) {k : Nat} (hk : u.ownBlock = some k) : B ≤ k ∧ k < w.heap.size := by
  rcases List.mem_cons.1 hu with rfl | hu
  · exact h.out.lt k hk
  · obtain ⟨x, hx, rfl⟩ := List.mem_map.1 hu
    exact (h.each x hx).lt k hk
theorem Prs.keep {w w' B vo X} (h : Prs w B vo X) (hk : ∀ k, (∃ u ∈ vo :: blkP X, u.ownBlock = some k) → w'.heap[k]? = w.heap[k]?) : Prs w' B vo X :=
  ⟨owns_blockN h.out fun k e => hk k ⟨vo, List.mem_cons_self, e⟩, fun x hx => owns_blockN (h.each x hx) fun k e => hk k ⟨x.rv, List.mem_cons_of_mem _ (List.mem_map.2 ⟨x, hx, rfl⟩), e⟩, h.apart⟩
theorem Prs.below {w w' B vo X} (h : Prs w B vo X) (hb : Below w.heap.size w w') : Prs w' B vo X := h.keep fun k ⟨u, hu, hk⟩ => hb.block k (h.lt hu hk).2
theorem Prs.pr {w B vo X} (h : Prs w B vo X) : PR w w.heap.size vo (prsOf X) := by
  refine ⟨X.map fun x => [.int .i64 x.left, x.rv], ?_, by simp [prsOf], fun c hc => ?_, fun i hi => ?_⟩
  · have e : (X.map fun x => [Value.int .i64 x.left, x.rv]).flatten = outP X := rfl
    rw [e, prsOf_len]; exact Row.of_owns h.out
  · obtain ⟨x, _, rfl⟩ := List.mem_map.1 hc; rfl
  · have hi' : i < X.length := by rw [prsOf_len] at hi; exact hi
    have h1 := h.each _ (List.getElem_mem hi')
    have e : (prsOf X)[i] = ⟨X[i].left, X[i].right⟩ := by simp [prsOf]
    rw [e]
    exact ⟨X[i].rv, by simp [hi'], Row.of_owns h1⟩
/-- A production with a row of its own is put behind the others. -/
theorem Prs.grow {w w2 : World} {B : Nat} {vo v' : Value} {X : List Cp} (h : Prs w B vo X) (o : Obj) (hg : (w.alloc o).grownBy w2 vo.ownBlock) (x : Cp) (h1 : w.ownsRow B 39 2 x.rv x.right.length (symC x.right))
    (hap : Apart ((vo :: blkP X) ++ [x.rv])) (hown : w2.ownsRow B 57 2 v' (X.length + 1) (outP (X ++ [x]))) (hat : v'.ownBlock = vo.ownBlock ∨ v'.ownBlock = some (w.heap.size + 1)) : Prs w2 B v' (X ++ [x]) := by
  have hlt : ∀ u ∈ (vo :: blkP X) ++ [x.rv], ∀ k, u.ownBlock = some k → k < w.heap.size := fun u hu k hk => by
    rcases List.mem_append.1 hu with hu | hu
    · exact (h.lt hu hk).2
    · rw [List.mem_singleton.1 hu] at hk; exact (h1.lt k hk).2
  have hpw : ∀ u ∈ blkP X ++ [x.rv], vo.ownBlock = none ∨ vo.ownBlock ≠ u.ownBlock := (List.pairwise_cons.1 (show Apart (vo :: (blkP X ++ [x.rv])) from hap)).1
  have hsame : ∀ u ∈ blkP X ++ [x.rv], ∀ k, u.ownBlock = some k → w2.heap[k]? = w.heap[k]? := fun u hu k hk => by
    have hl := hlt u (List.mem_cons_of_mem _ hu) k hk
    rw [hg.block k (by simp; omega) (fun e => ?_), Below.heap_alloc _ _ _ hl]
    rcases apart_symm (hpw u hu) with h3 | h3
    · rw [hk] at h3; cases h3
    · rw [hk] at h3; exact h3 e
  refine ⟨by rw [List.length_append]; exact hown, fun y hy => ?_, ?_⟩
  · rcases List.mem_append.1 hy with hy | hy
    · exact owns_blockN (h.each y hy) fun k e => hsame _ (List.mem_append_left _ (List.mem_map.2 ⟨y, hy, rfl⟩)) k e
    · rw [List.mem_singleton.1 hy]
      exact owns_blockN h1 fun k e => hsame _ (List.mem_append_right _ (by simp)) k e
  · have h3 : Apart (((vo :: blkP X) ++ [x.rv]).set 0 v') := apart_set hap 0 vo v' (w.heap.size + 1) rfl (fun u hu j hj => by have := hlt u hu j hj; omega) hat
    rw [List.cons_append, List.set_cons_zero] at h3
    rw [blkP_snoc]; exact h3
theorem apart_one {w : World} {B : Nat} {vo a : Value} {X : List Cp} (h : Prs w B vo X) (ha : ∀ k, a.ownBlock = some k → w.heap.size ≤ k) : Apart ((vo :: blkP X) ++ [a]) := by
  unfold Apart
  rw [List.pairwise_append]
  refine ⟨h.apart, List.pairwise_singleton _ _, fun x hx y hy => ?_⟩
  rw [List.mem_singleton.1 hy]
  cases e : x.ownBlock with
  | none => exact .inl rfl
  | some k =>
    right; intro e2
    have h1 := (h.lt hx e).2
    have := ha k e2.symm; omega
/-- Rules in a variable of its own, that is block w.heap.size; the row of nodes too is its own. -/
structure PSt (w wr : World) (n0 : Nat) (tk lk : Int) (ov vo : Value) (X : List Cp) (ofs : List Int) : Prop where
  ptr : wr.heap[w.heap.size]? = some (.cells #[.int .i64 tk, .int .i64 lk, ov, vo] 25 (0, 0))
  prs : Prs wr (w.heap.size + 1) vo X
  bel : Below w.heap.size w wr
  of : wr.ownsRow n0 3 1 ov ofs.length (ints ofs)
  ofa : ∀ u ∈ vo :: blkP X, ∀ k, u.ownBlock = some k → ov.ownBlock ≠ some k
  ofg : ov.ownBlock ≠ some w.heap.size
theorem PSt.made {w wr : World} {n0 : Nat} {tk lk : Int} {ov : Value} {ofs : List Int} (hp : wr.heap[w.heap.size]? = some (.cells #[.int .i64 tk, .int .i64 lk, ov, .slice none 0 0] 25 (0, 0))) (hb : Below w.heap.size w wr) (ho : wr.ownsRow n0 3 1 ov ofs.length (ints ofs)) (hg : ov.ownBlock ≠ some w.heap.size) :
    PSt w wr n0 tk lk ov (.slice none 0 0) [] ofs :=
  ⟨hp, ⟨World.ownsRow_nil _ _ _ _, (fun x hx => by cases hx), List.pairwise_singleton _ _⟩, hb, ho, (fun u hu k hk => by rw [List.mem_singleton.1 hu] at hk; cases hk), hg⟩
theorem PSt.lt {w a : World} {n0 : Nat} {tk lk : Int} {ov vo : Value} {X : List Cp} {ofs : List Int} (h : PSt w a n0 tk lk ov vo X ofs) : w.heap.size < a.heap.size := (Array.getElem?_eq_some_iff.1 h.ptr).1
theorem PSt.keep {w a b : World} {n0 : Nat} {tk lk : Int} {ov vo : Value} {X : List Cp} {ofs : List Int} (h : PSt w a n0 tk lk ov vo X ofs) (hb : Below a.heap.size a b) : PSt w b n0 tk lk ov vo X ofs :=
  ⟨(hb.block _ h.lt).trans h.ptr, h.prs.below hb, h.bel.trans (hb.mono h.bel.size), owns_belowP h.of hb, h.ofa, h.ofg⟩
theorem PSt.cell {w a : World} {n0 : Nat} {tk lk : Int} {ov vo : Value} {X : List Cp} {ofs : List Int} (h : PSt w a n0 tk lk ov vo X ofs) : a.cell? ⟨w.heap.size, 0, none⟩ = some (.int .i64 tk) ∧ a.cell? ⟨w.heap.size, 1, none⟩ = some (.int .i64 lk) ∧ a.cell? ⟨w.heap.size, 2, none⟩ = some ov ∧ a.cell? ⟨w.heap.size, 3, none⟩ = some vo := by
  refine ⟨?_, ?_, ?_, ?_⟩ <;> (rw [cell_of_row a w.heap.size _ _ _ (0, 0) h.ptr]; rfl)
theorem PSt.madeA {w2 w3 : World} {tk lk : Int} {ov : Value} {ofs : List Int} {base : Nat} (hba : w2.heap.size ≤ base) (ho : w3.ownsRow base 3 1 ov ofs.length (ints ofs)) (hb : Below w2.heap.size w2 w3) :
    PSt w3 (w3.alloc (.cells #[.int .i64 tk, .int .i64 lk, ov, .slice none 0 0] 25)) w2.heap.size tk lk ov (.slice none 0 0) [] ofs ∧ Below w2.heap.size w2 (w3.alloc (.cells #[.int .i64 tk, .int .i64 lk, ov, .slice none 0 0] 25)) :=
  ⟨PSt.made (heap_alloc_new w3 _) ((Below.refl _ w3).alloc (Nat.le_refl _) _) ((owns_baseP ho hba).alloc _) (fun e => by have := (ho.lt _ e).2; omega), hb.alloc hb.size _⟩
theorem PSt.madeB {w2 w3 : World} {tk lk : Int} {ov : Value} {ofs : List Int} {base : Nat} (ho : w3.ownsRow base 3 1 ov ofs.length (ints ofs)) (hlt : w2.heap.size < base) (hb : Below w2.heap.size w2 w3)
    (hz : w3.heap[w2.heap.size]? = some (.cells #[.int .i64 0, .int .i64 0, .slice none 0 0, .slice none 0 0] 25 (0, 0))) :
    PSt w2 ((((w3.setCell ⟨w2.heap.size, 0, none⟩ (.int .i64 tk)).setCell ⟨w2.heap.size, 1, none⟩ (.int .i64 lk)).setCell ⟨w2.heap.size, 2, none⟩ ov).setCell ⟨w2.heap.size, 3, none⟩ (.slice none 0 0)) w2.heap.size tk lk ov (.slice none 0 0) [] ofs ∧
      Below w2.heap.size w2 ((((w3.setCell ⟨w2.heap.size, 0, none⟩ (.int .i64 tk)).setCell ⟨w2.heap.size, 1, none⟩ (.int .i64 lk)).setCell ⟨w2.heap.size, 2, none⟩ ov).setCell ⟨w2.heap.size, 3, none⟩ (.slice none 0 0)) := by
  have hbel := (((hb.setCell (p := ⟨w2.heap.size, 0, none⟩) (Nat.le_refl _) (.int .i64 tk)).setCell (p := ⟨w2.heap.size, 1, none⟩) (Nat.le_refl _) (.int .i64 lk)).setCell (p := ⟨w2.heap.size, 2, none⟩) (Nat.le_refl _) ov).setCell (p := ⟨w2.heap.size, 3, none⟩) (Nat.le_refl _) (.slice none 0 0)
  refine ⟨PSt.made (ptr_set (ptr_set (ptr_set (ptr_set hz 0 _) 1 _) 2 _) 3 _) hbel (owns_blockN (owns_baseP ho (Nat.le_of_lt hlt)) fun k hk => ?_) (fun e => ?_), hbel⟩
  · have hne : ∀ j : Nat, k ≠ (⟨w2.heap.size, j, none⟩ : Addr).block := fun j e => by
      have e' : k = w2.heap.size := e
      have := (ho.lt k hk).1; omega
    rw [Below.heap_setCell _ _ _ _ (hne 3), Below.heap_setCell _ _ _ _ (hne 2), Below.heap_setCell _ _ _ _ (hne 1), Below.heap_setCell _ _ _ _ (hne 0)]
  · have := (ho.lt _ e).1; omega
theorem four_set {W : World} {b : Nat} {x0 x1 x2 x3 : Value} {T : TypeId} (h : W.heap[b]? = some (.cells #[x0, x1, x2, x3] T (0, 0))) (u0 u1 u2 u3 : Value) :
    ((((W.setCell ⟨b, 0, none⟩ u0).setCell ⟨b, 1, none⟩ u1).setCell ⟨b, 2, none⟩ u2).setCell ⟨b, 3, none⟩ u3).heap[b]? = some (.cells #[u0, u1, u2, u3] T (0, 0)) := ptr_set (ptr_set (ptr_set (ptr_set h 0 u0) 1 u1) 2 u2) 3 u3
theorem four_cells {W : World} {b : Nat} {x0 x1 x2 x3 : Value} {T : TypeId} (h : W.heap[b]? = some (.cells #[x0, x1, x2, x3] T (0, 0))) :
    W.cell? ⟨b, 0, none⟩ = some x0 ∧ W.cell? ⟨b, 1, none⟩ = some x1 ∧ W.cell? ⟨b, 2, none⟩ = some x2 ∧ W.cell? ⟨b, 3, none⟩ = some x3 ∧ W.frozen? ⟨b, 0, none⟩ = false ∧ W.frozen? ⟨b, 1, none⟩ = false ∧ W.frozen? ⟨b, 2, none⟩ = false ∧ W.frozen? ⟨b, 3, none⟩ = false ∧ b < W.heap.size := by
  refine ⟨?_, ?_, ?_, ?_, ?_, ?_, ?_, ?_, (Array.getElem?_eq_some_iff.1 h).1⟩
  · rw [cell_of_row W b _ _ _ (0, 0) h]; rfl
  · rw [cell_of_row W b _ _ _ (0, 0) h]; rfl
  · rw [cell_of_row W b _ _ _ (0, 0) h]; rfl
  · rw [cell_of_row W b _ _ _ (0, 0) h]; rfl
  all_goals simp [World.frozen?, h]
theorem below_four {W w : World} {b n : Nat} (h : Below n w W) (hb : n ≤ b) (u0 u1 u2 u3 : Value) : Below n w ((((W.setCell ⟨b, 0, none⟩ u0).setCell ⟨b, 1, none⟩ u1).setCell ⟨b, 2, none⟩ u2).setCell ⟨b, 3, none⟩ u3) :=
  (((h.setCell (p := ⟨b, 0, none⟩) hb u0).setCell (p := ⟨b, 1, none⟩) hb u1).setCell (p := ⟨b, 2, none⟩) hb u2).setCell (p := ⟨b, 3, none⟩) hb u3
theorem info_prod : (Try.prog.info? 57).map (fun i => (i.zero, i.size, i.bytes)) = some (some (.agg #[.int .i64 0, .slice none 0 0]), 2, 32) := by kernel_rfl
theorem info_sym : (Try.prog.info? 39).map (fun i => (i.zero, i.size, i.bytes)) = some (some (.agg #[.bool false, .int .i64 0]), 2, 16) := by kernel_rfl
theorem PSt.push {w w0 w6 : World} {n0 : Nat} {tk lk : Int} {ov vo : Value} {X : List Cp} {ofs : List Int} (h : PSt w w0 n0 tk lk ov vo X ofs) (hl : X.length + 1 ≤ 1000000) (left : Int) (rv : Value) (l : List Sy)
    (o6 : w6.ownsRow w0.heap.size 39 2 rv l.length (symC l)) (b6 : Below w0.heap.size w0 w6) :
    ∃ ao c w7, Sem.run Try.prog (appM #[23, 23] 23 #[vo, .slice (some ⟨w6.heap.size, 0, none⟩) 1 1]) (w6.alloc (.cells #[.int .i64 left, rv] 57)) = .ok (.slice ao (X.length + 1) c) w7 ∧
      w7.cell? ⟨w.heap.size, 3, none⟩ = some vo ∧ w7.frozen? ⟨w.heap.size, 3, none⟩ = false ∧ w.heap.size < w7.heap.size ∧ Below w.heap.size w w7 ∧
      PSt w (w7.setCell ⟨w.heap.size, 3, none⟩ (.slice ao (X.length + 1) c)) n0 tk lk ov (.slice ao (X.length + 1) c) (X ++ [⟨left, rv, l⟩]) ofs := by
  have h6 : PSt w w6 n0 tk lk ov vo X ofs := h.keep b6
  have hlt := h.lt
  have o1' := owns_baseP o6 (show w.heap.size + 1 ≤ _ by omega)
  have hap := apart_one (a := rv) h.prs (fun j hj => (o6.lt j hj).1)
  obtain ⟨i0, hi, hz0, hz1, hz2⟩ := info_parts info_prod
  have hone : ∀ u ∈ [Value.int .i64 left, rv], u.oneCell' = true := by
    obtain ⟨_, _, rfl, _, _⟩ := owns_valP o6
    intro u hu; simp only [List.mem_cons, List.not_mem_nil, or_false] at hu; rcases hu with rfl | rfl <;> rfl
  have rt : Row (w6.alloc (.cells #[.int .i64 left, rv] 57)) (w6.heap.size + 1) 2 (.slice (some ⟨w6.heap.size, 0, none⟩) 1 1) 1 [.int .i64 left, rv] := row_cellsB w6 [.int .i64 left, rv] 2 1 1 _ rfl (Nat.le_refl _) (by unfold maxLen; omega)
  obtain ⟨v', w7, h1, h2, h3, h4⟩ := run_append_row (P := Try.prog) (w6.alloc (.cells #[.int .i64 left, rv] 57)) 23 23 (w.heap.size + 1) 57 i0 (.agg #[.int .i64 0, .slice none 0 0]) 2 32 Try.underlying23 hi hz0 hz1 hz2 rfl (by decide) vo X.length (outP X) (h6.prs.out.alloc _) (w6.heap.size + 1) _ 1 [.int .i64 left, rv] rt hone (by unfold maxLen; omega) (by omega) (by have := h6.lt; simp; omega)
  obtain ⟨ao, c, rfl, hc1, hc2⟩ := owns_valP h2
  rw [World.size_alloc] at h4
  have h6l := h6.lt
  have hg0 : w7.heap[w.heap.size]? = w6.heap[w.heap.size]? := by
    rw [h3.block w.heap.size (by simp; omega) (fun e => ?_), Below.heap_alloc _ _ _ h6l]
    have := (h6.prs.out.lt w.heap.size e.symm).1; omega
  have hptr := hg0.trans h6.ptr
  have hs3 := h3.size
  rw [World.size_alloc] at hs3
  have hprs := h6.prs.grow _ h3 ⟨left, rv, l⟩ (owns_baseP o6 (by omega)) hap (by rw [outP_snoc]; exact h2) h4
  have hb7 : Below w.heap.size w w7 := (h6.bel.alloc h6.bel.size _).grown h3 (by simp; omega) (fun j hj => by have := (h6.prs.out.lt j hj).1; omega)
  have hofl : ∀ k, ov.ownBlock = some k → k < w0.heap.size := fun k hk => (h.of.lt k hk).2
  have ho7 : w7.ownsRow n0 3 1 ov ofs.length (ints ofs) := owns_blockN h6.of fun k hk => by
    have hl := hofl k hk
    have hl6 := b6.size
    rw [h3.block k (by simp; omega) (fun e => h6.ofa vo List.mem_cons_self k e.symm hk), Below.heap_alloc _ _ _ (by omega)]
  refine ⟨ao, c, w7, h1, by rw [cell_of_row w7 w.heap.size _ _ _ (0, 0) hptr]; rfl, by simp [World.frozen?, hptr], by omega, hb7, ptr_set hptr 3 _, ?_, hb7.setCell (p := ⟨w.heap.size, 3, none⟩) (Nat.le_refl _) _, ?_, ?_, h6.ofg⟩
  · refine hprs.keep fun j ⟨u, hu, hj⟩ => Below.heap_setCell _ _ _ _ fun e => ?_
    have e' : j = w.heap.size := e
    have := (hprs.lt hu hj).1; omega
  · exact owns_blockN ho7 fun k hk => Below.heap_setCell _ _ _ _ fun e => h.ofg (by rw [hk]; exact congrArg some e)
  · intro u hu k hk hov
    have hl := hofl k hov
    rcases List.mem_cons.1 hu with rfl | hu
    · rcases h4 with h4 | h4
      · rw [h4] at hk; exact h6.ofa vo List.mem_cons_self k hk hov
      · rw [h4] at hk; have := Option.some.inj hk; have := b6.size; omega
    · rw [blkP_snoc, List.mem_append] at hu
      rcases hu with hu | hu
      · exact h6.ofa u (List.mem_cons_of_mem _ hu) k hk hov
      · rw [List.mem_singleton.1 hu] at hk
        have := (o6.lt k hk).1; omega
/-- What stands when the result has been laid into its block g. -/
theorem PSt.fin {w wr : World} {n0 g : Nat} {tk lk : Int} {ov vo : Value} {X : List Cp} {ofs : List Int} (h : PSt w wr n0 tk lk ov vo X ofs) (hg : g < n0) (hn : n0 ≤ w.heap.size) (u0 u1 u2 u3 : Value) :
    BR ((((wr.setCell ⟨g, 0, none⟩ u0).setCell ⟨g, 1, none⟩ u1).setCell ⟨g, 2, none⟩ u2).setCell ⟨g, 3, none⟩ u3) wr.heap.size ov vo ⟨tk, lk, ofs, prsOf X⟩ := by
  have hs : ((((wr.setCell ⟨g, 0, none⟩ u0).setCell ⟨g, 1, none⟩ u1).setCell ⟨g, 2, none⟩ u2).setCell ⟨g, 3, none⟩ u3).heap.size = wr.heap.size := by simp [World.setCell]
  have hk : ∀ k, n0 ≤ k → ((((wr.setCell ⟨g, 0, none⟩ u0).setCell ⟨g, 1, none⟩ u1).setCell ⟨g, 2, none⟩ u2).setCell ⟨g, 3, none⟩ u3).heap[k]? = wr.heap[k]? := fun k hk => by
    have hne : ∀ j : Nat, k ≠ (⟨g, j, none⟩ : Addr).block := fun j e => by
      have e' : k = g := e
      omega
    rw [Below.heap_setCell _ _ _ _ (hne 3), Below.heap_setCell _ _ _ _ (hne 2), Below.heap_setCell _ _ _ _ (hne 1), Below.heap_setCell _ _ _ _ (hne 0)]
  have h1 := Row.of_owns (owns_blockN h.of fun k e => hk k (h.of.lt k e).1)
  have h2 := (h.prs.keep (w' := ((((wr.setCell ⟨g, 0, none⟩ u0).setCell ⟨g, 1, none⟩ u1).setCell ⟨g, 2, none⟩ u2).setCell ⟨g, 3, none⟩ u3)) fun k ⟨u, hu, e⟩ => hk k (by have := (h.prs.lt hu e).1; omega)).pr
  rw [hs] at h1 h2
  exact ⟨h1, h2⟩
theorem PSt.fin2 {w wr W' : World} {n0 m : Nat} {tk lk : Int} {ov vo : Value} {X : List Cp} {ofs : List Int} (h : PSt w wr n0 tk lk ov vo X ofs) (hm : m ≤ n0) (hn : n0 ≤ w.heap.size) (hk : ∀ k, m ≤ k → W'.heap[k]? = wr.heap[k]?) (hs : W'.heap.size = wr.heap.size) :
    BR W' wr.heap.size ov vo ⟨tk, lk, ofs, prsOf X⟩ := by
  have h1 := Row.of_owns (owns_blockN h.of fun k e => hk k (Nat.le_trans hm (h.of.lt k e).1))
  have h2 := (h.prs.keep (w' := W') fun k ⟨u, hu, e⟩ => hk k (by have := (h.prs.lt hu e).1; omega)).pr
  rw [hs] at h1 h2
  exact ⟨h1, h2⟩
/-- A copy of a row of symbols. -/
theorem sym_copy (w : World) (ao : Option Addr) (n c : Nat) (l : List Sy) (B : Nat) (hB : B ≤ w.heap.size) (r : SR w B (.slice ao n c) l) (hl : l.length ≤ 100000) :
    ∃ a c' w', Sem.run Try.prog (appM #[35, 35] 35 #[.slice (some ⟨w.heap.size, 0, none⟩) 0 0, .slice ao n c]) (w.alloc (.cells #[] 39)) = .ok (.slice a l.length c') w' ∧
      w'.ownsRow w.heap.size 39 2 (.slice a l.length c') l.length (symC l) ∧ Below w.heap.size w w' := by
  obtain ⟨i0, hi, hz0, hz1, hz2⟩ := info_parts info_sym
  have hbel := (Below.refl w.heap.size w).alloc (Nat.le_refl _) (.cells #[] 39)
  have hown0 := World.ownsRow_made (base := w.heap.size) (e := 39) (size := 2) w #[] 0 (Nat.le_refl _) (Nat.zero_le _) rfl
  have hn : n = l.length := by obtain ⟨_, _, hv, _, _⟩ := Row.val r; simp only [Value.slice.injEq] at hv; exact hv.2.1
  subst hn
  obtain ⟨v', w', e1, e2, e3, e4⟩ := run_append_row (P := Try.prog) (w.alloc (.cells #[] 39)) 35 35 w.heap.size 39 i0 (.agg #[.bool false, .int .i64 0]) 2 16 Try.underlying35 hi hz0 hz1 hz2 rfl (by decide) _ 0 [] hown0 B (.slice ao l.length c) l.length (symC l) (Row.below r (hbel.mono hB)) (symC_one l) (by unfold maxLen; omega) (by omega) hbel.size
  have HB := hbel.grown e3 hbel.size (fun g hg => (hown0.lt g hg).1)
  have Ho : w'.ownsRow w.heap.size 39 2 v' l.length (symC l) := by simpa using e2
  obtain ⟨a, c', rfl, _, _⟩ := owns_valP Ho
  exact ⟨a, c', w', e1, Ho, HB⟩
def cutP (p : Pr) : Pr := ⟨p.left, p.right.take 8⟩
def fewB (n m : Nat) (b : Bn) : Bn := ⟨b.toks, b.look, b.of.take n, (b.l.take m).map cutP⟩
theorem cutP_succ (L : List Pr) (i : Nat) (h : i < L.length) : (L.take (i + 1)).map cutP = (L.take i).map cutP ++ [cutP L[i]] := by
  rw [List.take_succ_eq_append_getElem h, List.map_append]; rfl
end Go.Proofs.Ytimgnbacgdmiiaa
