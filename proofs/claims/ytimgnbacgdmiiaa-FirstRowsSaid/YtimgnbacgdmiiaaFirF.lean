/-
  The look of first.grower.grow, in memory.
-/
import Derived.Test.YtimgnbacgdmiiaaFirE
namespace Go.Proofs.Ytimgnbacgdmiiaa
open Go.RowKit PK
set_option linter.unusedVariables false
set_option linter.unusedSimpArgs false
attribute [local go_sem ↓] append_appM

/-- What the look holds on to: boxes, the row of sets, each set's row. -/
structure GSt (W : World) (b : Bn) (k : Int) (most N s0 gb gs gr ge kb g B : Nat) (tk lk : Int) (ov lv : Value) (X : List (Value × List Tx)) (P : Nat → Prop) : Prop where
  bx : BoxB W gb B tk lk ov lv b
  sx : W.cell? ⟨gs, 0, none⟩ = some (.slice (some ⟨g, 0, none⟩) N N)
  r0 : W.cell? ⟨gr, 0, none⟩ = some (.func (.func 60) #[] #[.pointer (some ⟨kb, 0, none⟩)])
  r1 : W.cell? ⟨gr, 1, none⟩ = some (.int .i64 (most : Nat))
  ex : W.heap[ge]? = some (.cells #[.int .i64 0] 28 (0, 0))
  kx : W.cell? ⟨kb, 0, none⟩ = some (.int .i64 k)
  lt : gs < s0 ∧ gr < s0 ∧ ge < s0 ∧ kb < s0 ∧ gb < s0 ∧ g < s0 ∧ B ≤ s0 ∧ s0 ≤ W.heap.size
  ne : g ≠ gs ∧ g ≠ gr ∧ g ≠ ge ∧ g ≠ kb ∧ g ≠ gb ∧ B ≤ g
  out : W.ownsRow 0 32 1 (.slice (some ⟨g, 0, none⟩) N N) N (X.map (·.1))
  len : X.length = N
  each : ∀ x ∈ X, W.ownsRow 0 9 1 x.1 x.2.length (svt x.2)
  ap : ∀ x ∈ X, ∀ q, x.1.ownBlock = some q → q ≠ g ∧ (q < s0 ∨ P q)
theorem KP.cell {n : Nat} {P : Nat → Prop} {W W' : World} (h : KP n P W W') {p : Addr} (h1 : p.block < n) (h2 : n ≤ W.heap.size) : W'.cell? p = W.cell? p := cell_eq (h.block _ (by omega) (.inl h1))
theorem KP.frozen {n : Nat} {P : Nat → Prop} {W W' : World} (h : KP n P W W') {p : Addr} (h1 : p.block < n) (h2 : n ≤ W.heap.size) : W'.frozen? p = W.frozen? p := frozen_eq (h.block _ (by omega) (.inl h1))
theorem KP.low {n m : Nat} {P : Nat → Prop} {W W' : World} (h : KP n P W W') (h1 : m ≤ n) (h2 : n ≤ W.heap.size) : Below m W W' := ⟨h.os, h.tape, h.output, h.size, fun k hk => h.block k (by omega) (.inl (by omega))⟩
theorem KP.of_below {n : Nat} {P : Nat → Prop} {W W' : World} (h : Below W.heap.size W W') : KP n P W W' := ⟨h.os, h.tape, h.output, h.size, fun k hk _ => h.block k hk⟩
theorem GSt.keep {W W' : World} {b : Bn} {k : Int} {most N s0 gb gs gr ge kb g B : Nat} {tk lk : Int} {ov lv : Value} {X : List (Value × List Tx)} {P : Nat → Prop} (h : GSt W b k most N s0 gb gs gr ge kb g B tk lk ov lv X P) (hk : KP s0 P W W') : GSt W' b k most N s0 gb gs gr ge kb g B tk lk ov lv X P := by
  obtain ⟨l1, l2, l3, l4, l5, l6, l7, l8⟩ := h.lt
  have hgb : gb < W.heap.size := by omega
  refine ⟨⟨(hk.cell (p := ⟨gb, 0, none⟩) l5 l8).trans h.bx.c0, (hk.cell (p := ⟨gb, 1, none⟩) l5 l8).trans h.bx.c1, (hk.cell (p := ⟨gb, 2, none⟩) l5 l8).trans h.bx.c2, (hk.cell (p := ⟨gb, 3, none⟩) l5 l8).trans h.bx.c3, Nat.lt_of_lt_of_le hgb hk.size, by have := hk.size; omega, h.bx.r.below (hk.low l7 l8)⟩, (hk.cell (p := ⟨gs, 0, none⟩) l1 l8).trans h.sx, (hk.cell (p := ⟨gr, 0, none⟩) l2 l8).trans h.r0, (hk.cell (p := ⟨gr, 1, none⟩) l2 l8).trans h.r1, (hk.block ge (by omega) (.inl l3)).trans h.ex, (hk.cell (p := ⟨kb, 0, none⟩) l4 l8).trans h.kx, ⟨l1, l2, l3, l4, l5, l6, l7, Nat.le_trans l8 hk.size⟩, h.ne, ?_, h.len, fun x hx => ?_, h.ap⟩
  · refine owns_blockN h.out fun q e => hk.block q ?_ (.inl ?_)
    · have e2 : g = q := by have := Option.some.inj e; exact this
      omega
    · have e2 : g = q := by have := Option.some.inj e; exact this
      omega
  · exact owns_blockN (h.each x hx) fun q e => hk.block q ((h.each x hx).lt q e).2 (h.ap x hx q e).2
theorem GSt.below {W W' : World} {b : Bn} {k : Int} {most N s0 gb gs gr ge kb g B : Nat} {tk lk : Int} {ov lv : Value} {X : List (Value × List Tx)} {P : Nat → Prop} (h : GSt W b k most N s0 gb gs gr ge kb g B tk lk ov lv X P) (hb : Below W.heap.size W W') : GSt W' b k most N s0 gb gs gr ge kb g B tk lk ov lv X P := h.keep (KP.of_below hb)
theorem GSt.sets {W : World} {b : Bn} {k : Int} {most N s0 gb gs gr ge kb g B : Nat} {tk lk : Int} {ov lv : Value} {X : List (Value × List Tx)} {P : Nat → Prop} (h : GSt W b k most N s0 gb gs gr ge kb g B tk lk ov lv X P) (hN : 0 < N) : SetsR W g N N (X.map (·.2)) := by
  obtain ⟨l1, l2, l3, l4, l5, l6, l7, l8⟩ := h.lt
  refine ⟨by rw [List.length_map]; exact h.len, by omega, fun j hj => ?_⟩
  rw [List.length_map] at hj
  obtain ⟨g', hv, _, _, hc, _⟩ := owns_cellN h.out hN
  simp only [Option.some.injEq, Addr.mk.injEq, and_true] at hv
  subst hv
  refine ⟨X[j].1, hc j _ (by rw [List.getElem?_map, List.getElem?_eq_getElem hj]; rfl), ?_⟩
  rw [List.getElem_map]
  exact Row.of_owns (h.each _ (List.getElem_mem hj))
theorem GSt.put {W : World} {b : Bn} {k : Int} {most N s0 gb gs gr ge kb g B : Nat} {tk lk : Int} {ov lv : Value} {X : List (Value × List Tx)} {P : Nat → Prop} (h : GSt W b k most N s0 gb gs gr ge kb g B tk lk ov lv X P) (j : Nat) (hj : j < N) (v : Value) (l : List Tx) (n1 : Nat) (hv : W.ownsRow n1 9 1 v l.length (svt l)) (hn : g < n1) :
    GSt (W.setCell ⟨g, j, none⟩ v) b k most N s0 gb gs gr ge kb g B tk lk ov lv (X.set j (v, l)) (fun q => P q ∨ v.ownBlock = some q) := by
  obtain ⟨l1, l2, l3, l4, l5, l6, l7, l8⟩ := h.lt
  obtain ⟨n1', n2, n3, n4, n5, n6⟩ := h.ne
  have hs : (W.setCell ⟨g, j, none⟩ v).heap.size = W.heap.size := by simp [World.setCell]
  have hb : ∀ q, q ≠ g → (W.setCell ⟨g, j, none⟩ v).heap[q]? = W.heap[q]? := fun q hq => Below.heap_setCell _ _ _ _ hq
  have hB : Below B W (W.setCell ⟨g, j, none⟩ v) := (Below.refl B W).setCell (p := ⟨g, j, none⟩) n6 v
  have hc : ∀ (q i : Nat), q ≠ g → (W.setCell ⟨g, j, none⟩ v).cell? ⟨q, i, none⟩ = W.cell? ⟨q, i, none⟩ := fun q i hq => cell_eq (p := ⟨q, i, none⟩) (hb q hq)
  refine ⟨⟨(hc gb 0 (Ne.symm n5)).trans h.bx.c0, (hc gb 1 (Ne.symm n5)).trans h.bx.c1, (hc gb 2 (Ne.symm n5)).trans h.bx.c2, (hc gb 3 (Ne.symm n5)).trans h.bx.c3, by rw [hs]; omega, by rw [hs]; omega, h.bx.r.below hB⟩, (hc gs 0 (Ne.symm n1')).trans h.sx, (hc gr 0 (Ne.symm n2)).trans h.r0, (hc gr 1 (Ne.symm n2)).trans h.r1, (hb ge (Ne.symm n3)).trans h.ex, (hc kb 0 (Ne.symm n4)).trans h.kx, ⟨l1, l2, l3, l4, l5, l6, l7, by rw [hs]; exact l8⟩, h.ne, ?_, by rw [List.length_set]; exact h.len, fun x hx => ?_, fun x hx q e => ?_⟩
  · have e : (X.set j (v, l)).map (·.1) = (X.map (·.1)).set j v := by rw [List.map_set]
    rw [e]
    exact owns_setN h.out j (by rw [List.length_map, h.len]; exact hj) v
  · rcases List.mem_or_eq_of_mem_set hx with h1 | h1
    · exact owns_blockN (h.each x h1) fun q e => hb q (h.ap x h1 q e).1
    · subst h1
      exact owns_blockN (owns_baseP hv (Nat.zero_le _)) fun q e => hb q (by have := (hv.lt q e).1; omega)
  · rcases List.mem_or_eq_of_mem_set hx with h1 | h1
    · obtain ⟨h2, h3⟩ := h.ap x h1 q e
      exact ⟨h2, h3.elim .inl fun h4 => .inr (.inl h4)⟩
    · subst h1
      exact ⟨by have := (hv.lt q e).1; omega, .inr (.inr e)⟩
/-- The state that Settle keeps. -/
def JG (b : Bn) (k : Int) (most N s0 gb gs gr ge kb g B : Nat) (tk lk : Int) (ov lv : Value) (W : World) (st : Option Sts) (P : Nat → Prop) : Prop := match st with
  | none => False
  | some S => ∃ X, S = X.map (·.2) ∧ GSt W b k most N s0 gb gs gr ge kb g B tk lk ov lv X P
/-- What is so when a look has found too much. -/
def QG (b : Bn) (k : Int) (most g ge : Nat) (W W' : World) : Prop := W'.cell? ⟨ge, 0, none⟩ = some (.int .i64 15) ∧ (∃ S, Sound b k S ∧ Over b k most S) ∧ W'.os = W.os ∧ W'.tape = W.tape ∧ W'.output = W.output ∧ W.heap.size ≤ W'.heap.size ∧ ∀ q, q < W.heap.size → q ≠ g → q ≠ ge → W'.heap[q]? = W.heap[q]?
end Go.Proofs.Ytimgnbacgdmiiaa
