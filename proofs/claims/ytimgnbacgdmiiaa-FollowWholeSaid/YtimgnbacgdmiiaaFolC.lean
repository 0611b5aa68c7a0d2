/-
  The look of follow.Of.
-/
import Derived.Test.YtimgnbacgdmiiaaFolB
namespace Go.Proofs.Ytimgnbacgdmiiaa
open Go.RowKit PK Go.Maps Go.WideMaps
set_option linter.unusedVariables false
set_option linter.unusedSimpArgs false
attribute [local go_sem ↓] append_appM

/-- What the look of follow.Of holds on to. -/
structure FSt (W : World) (k : Int) (N s0 gl gs gc ge kk g n1 : Nat) (lv : Value) (L : List Sd) (X : List (Value × List Tx)) (P : Nat → Prop) : Prop where
  lx : W.cell? ⟨gl, 0, none⟩ = some lv
  sx : W.cell? ⟨gs, 0, none⟩ = some (.slice (some ⟨g, 0, none⟩) N N)
  cx : W.cell? ⟨gc, 0, none⟩ = some (.func (.func 60) #[] #[.pointer (some ⟨kk, 0, none⟩)])
  ex : W.heap[ge]? = some (.cells #[.int .i64 0] 28 (0, 0))
  kx : W.cell? ⟨kk, 0, none⟩ = some (.int .i64 k)
  sd : SdR W n1 lv L
  lt : gl < s0 ∧ gs < s0 ∧ gc < s0 ∧ ge < s0 ∧ kk < s0 ∧ g < s0 ∧ s0 ≤ W.heap.size
  ne : g ≠ gl ∧ g ≠ gs ∧ g ≠ gc ∧ g ≠ ge ∧ g ≠ kk
  lo : (∀ q, blk lv q → q < s0 ∧ q ≠ g) ∧ ∀ x ∈ L, 0 < x.b.length → ∀ q, x.bv.ownBlock = some q → q < s0 ∧ q ≠ g
  out : W.ownsRow 0 32 1 (.slice (some ⟨g, 0, none⟩) N N) N (X.map (·.1))
  len : X.length = N
  each : ∀ x ∈ X, W.ownsRow 0 9 1 x.1 x.2.length (svt x.2)
  ap : ∀ x ∈ X, ∀ q, x.1.ownBlock = some q → q ≠ g ∧ (q < s0 ∨ P q)
section
variable {W W' : World} {k : Int} {N s0 gl gs gc ge kk g n1 : Nat} {lv : Value} {L : List Sd} {X : List (Value × List Tx)} {P : Nat → Prop}
theorem FSt.keep (h : FSt W k N s0 gl gs gc ge kk g n1 lv L X P) (hk : KP s0 P W W') : FSt W' k N s0 gl gs gc ge kk g n1 lv L X P := by
  obtain ⟨l1, l2, l3, l4, l5, l6, l7⟩ := h.lt
  refine ⟨(hk.cell (p := ⟨gl, 0, none⟩) l1 l7).trans h.lx, (hk.cell (p := ⟨gs, 0, none⟩) l2 l7).trans h.sx, (hk.cell (p := ⟨gc, 0, none⟩) l3 l7).trans h.cx, (hk.block ge (by omega) (.inl l4)).trans h.ex, (hk.cell (p := ⟨kk, 0, none⟩) l5 l7).trans h.kx, h.sd.kept hk.size (fun q hq => ?_), ⟨l1, l2, l3, l4, l5, l6, Nat.le_trans l7 hk.size⟩, h.ne, h.lo, ?_, h.len, fun x hx => ?_, h.ap⟩
  · have hq0 : q < s0 := by
      rcases hq with h1 | ⟨x, hx, h0, h1⟩
      · exact (h.lo.1 q h1).1
      · exact (h.lo.2 x hx h0 q h1).1
    exact hk.block q (by omega) (.inl hq0)
  · refine owns_blockN h.out fun q e => hk.block q ?_ (.inl ?_)
    · have e2 : g = q := by have := Option.some.inj e; exact this
      omega
    · have e2 : g = q := by have := Option.some.inj e; exact this
      omega
  · exact owns_blockN (h.each x hx) fun q e => hk.block q ((h.each x hx).lt q e).2 (h.ap x hx q e).2
theorem FSt.below (h : FSt W k N s0 gl gs gc ge kk g n1 lv L X P) (hb : Below W.heap.size W W') : FSt W' k N s0 gl gs gc ge kk g n1 lv L X P := h.keep (KP.of_below hb)
theorem FSt.at_ (h : FSt W k N s0 gl gs gc ge kk g n1 lv L X P) (q : Nat) (hq : q < N) : ∃ a c, W.cell? ⟨g, q, none⟩ = some (.slice a (stAt (X.map (·.2)) (q : Int)).length c) ∧ W.frozen? ⟨g, q, none⟩ = false ∧ g < W.heap.size ∧ Row W W.heap.size 1 (.slice a (stAt (X.map (·.2)) (q : Int)).length c) (stAt (X.map (·.2)) (q : Int)).length (svt (stAt (X.map (·.2)) (q : Int))) := by
  have hqX : q < X.length := by rw [h.len]; exact hq
  obtain ⟨g', hv, _, hgl, hcl, hfr⟩ := owns_cellN h.out (Nat.lt_of_le_of_lt (Nat.zero_le _) hq)
  simp only [Option.some.injEq, Addr.mk.injEq, and_true] at hv
  subst hv
  have hst : stAt (X.map (·.2)) (q : Int) = X[q].2 := by
    rw [stAt_nat _ q (by rw [List.length_map]; exact hqX), List.getElem_map]
  have hr := Row.of_owns (h.each _ (List.getElem_mem hqX))
  rw [hst]
  obtain ⟨a, c, hxv, _, _⟩ := hr.val
  refine ⟨a, c, ?_, hfr q, hgl, by rw [← hxv]; exact hr⟩
  rw [← hxv]
  exact hcl q _ (by rw [List.getElem?_map, List.getElem?_eq_getElem hqX]; rfl)
theorem FSt.put (h : FSt W k N s0 gl gs gc ge kk g n1 lv L X P) (j : Nat) (hj : j < N) (v : Value) (l : List Tx) (m1 : Nat) (hv : W.ownsRow m1 9 1 v l.length (svt l)) (hn : g < m1) :
    FSt (W.setCell ⟨g, j, none⟩ v) k N s0 gl gs gc ge kk g n1 lv L (X.set j (v, l)) (fun q => P q ∨ v.ownBlock = some q) := by
  obtain ⟨l1, l2, l3, l4, l5, l6, l7⟩ := h.lt
  obtain ⟨e1, e2, e3, e4, e5⟩ := h.ne
  have hs : (W.setCell ⟨g, j, none⟩ v).heap.size = W.heap.size := by simp [World.setCell]
  have hb : ∀ q, q ≠ g → (W.setCell ⟨g, j, none⟩ v).heap[q]? = W.heap[q]? := fun q hq => Below.heap_setCell _ _ _ _ hq
  have hc : ∀ (q i : Nat), q ≠ g → (W.setCell ⟨g, j, none⟩ v).cell? ⟨q, i, none⟩ = W.cell? ⟨q, i, none⟩ := fun q i hq => cell_eq (p := ⟨q, i, none⟩) (hb q hq)
  refine ⟨(hc gl 0 (Ne.symm e1)).trans h.lx, (hc gs 0 (Ne.symm e2)).trans h.sx, (hc gc 0 (Ne.symm e3)).trans h.cx, (hb ge (Ne.symm e4)).trans h.ex, (hc kk 0 (Ne.symm e5)).trans h.kx, h.sd.kept (by rw [hs]; exact Nat.le_refl _) (fun q hq => hb q ?_), ⟨l1, l2, l3, l4, l5, l6, by rw [hs]; exact l7⟩, h.ne, h.lo, ?_, by rw [List.length_set]; exact h.len, fun x hx => ?_, fun x hx q e => ?_⟩
  · rcases hq with h1 | ⟨x, hx, h0, h1⟩
    · exact (h.lo.1 q h1).2
    · exact (h.lo.2 x hx h0 q h1).2
  · have e : (X.set j (v, l)).map (·.1) = (X.map (·.1)).set j v := by rw [List.map_set]
    rw [e]
    exact owns_setN h.out j (by rw [List.length_map, h.len]; exact hj) v
  · rcases List.mem_or_eq_of_mem_set hx with h1 | h1
    · exact owns_blockN (h.each x h1) fun q e => hb q (h.ap x h1 q e).1
    · subst h1
      exact owns_blockN (owns_basePK hv (Nat.zero_le _)) fun q e => hb q (by have := (hv.lt q e).1; omega)
  · rcases List.mem_or_eq_of_mem_set hx with h1 | h1
    · obtain ⟨h2, h3⟩ := h.ap x h1 q e
      exact ⟨h2, h3.elim .inl fun h4 => .inr (.inl h4)⟩
    · subst h1
      exact ⟨by have := (hv.lt q e).1; omega, .inr (.inr e)⟩
end
/-- The state that Settle keeps. -/
def JF (k : Int) (N s0 gl gs gc ge kk g n1 : Nat) (lv : Value) (L : List Sd) (W : World) (st : Option Sts) (P : Nat → Prop) : Prop := match st with
  | none => False
  | some F => ∃ X, F = X.map (·.2) ∧ FSt W k N s0 gl gs gc ge kk g n1 lv L X P
/-- What is so when a look has found too much. -/
def QF (T : List Tri) (k : Int) (z : Tx) (N g ge : Nat) (W W' : World) : Prop := W'.cell? ⟨ge, 0, none⟩ = some (.int .i64 15) ∧ (∃ F, SoundF T k z N F ∧ OverF T k 600 F) ∧ W'.os = W.os ∧ W'.tape = W.tape ∧ W'.output = W.output ∧ W.heap.size ≤ W'.heap.size ∧ ∀ q, q < W.heap.size → q ≠ g → q ≠ ge → W'.heap[q]? = W.heap[q]?
theorem QF.made {T : List Tri} {k : Int} {z : Tx} {N g ge : Nat} {W W3 : World} (h : W3.heap[ge]? = some (.cells #[.int .i64 0] 28 (0, 0))) (hb : Below W.heap.size W W3) (hS : ∃ F, SoundF T k z N F ∧ OverF T k 600 F) : QF T k z N g ge W (W3.setCell ⟨ge, 0, none⟩ (.int .i64 15)) := by
  refine ⟨?_, hS, hb.os, hb.tape, hb.output, by simpa [World.setCell] using hb.size, fun q hq _ hne => ?_⟩
  · rw [cell_of_row _ ge _ _ _ (0, 0) (ptr_set h 0 _)]; rfl
  · rw [Below.heap_setCell _ _ _ _ hne]; exact hb.block q hq
def LookFP (T : List Tri) (k : Int) (z : Tx) (N s0 gl gs gc ge kk g n1 : Nat) (lv : Value) (L : List Sd) (W : World) (F : Sts) (P : Nat → Prop) (i : Nat) (e : Ending) (W' : World) : Prop :=
  (e = .returned (.tuple #[.int .i64 (lookF T k 600 (some F) i).2, .bool true]) ∧ (∃ P', JF k N s0 gl gs gc ge kk g n1 lv L W' (lookF T k 600 (some F) i).1 P' ∧ ∀ q, P' q → (P q ∨ W.heap.size ≤ q) ∧ q < W'.heap.size) ∧ KB W.heap.size g W W') ∨ (∃ x, e = .returned (.tuple #[.int .i64 x, .bool false]) ∧ QF T k z N g ge W W')
theorem SdR.get {W : World} {n1 : Nat} {la : Option Addr} {lc : Nat} {L : List Sd} (h : SdR W n1 (.slice la L.length lc) L) (i : Nat) (hi : i < L.length) : ∃ lb va vc, la = some ⟨lb, 0, none⟩ ∧ lb < W.heap.size ∧ W.cell? ⟨lb, i * 3, none⟩ = some (.int .i64 L[i].left) ∧ W.cell? ⟨lb, i * 3 + 1, none⟩ = some (.int .i64 L[i].n) ∧ W.cell? ⟨lb, i * 3 + 2, none⟩ = some (.slice va L[i].b.length vc) ∧ Row W W.heap.size 1 (.slice va L[i].b.length vc) L[i].b.length (svt L[i].b) := by
  obtain ⟨⟨va, vc, hv⟩, hr, _⟩ := h.each _ (List.getElem_mem hi)
  rcases h.own.2 with ⟨_, h0⟩ | ⟨lb, cap, cur, hlv, _, hg, hc1, hc2, hc3, hc4⟩
  · omega
  · simp only [Value.slice.injEq] at hlv
    obtain ⟨rfl, _, rfl⟩ := hlv
    have hat : ∀ j u, (sdC L)[j]? = some u → W.cell? ⟨lb, j, none⟩ = some u := fun j u hu => by
      have := h.own.cells rfl j u hu
      have e1 : (⟨lb, 0, none⟩ : Addr).add j = ⟨lb, j, none⟩ := by unfold Addr.add; split <;> simp_all
      rw [e1] at this; exact this
    have key : ∀ j, j < 3 → (sdC L)[i * 3 + j]? = [Value.int .i64 L[i].left, .int .i64 L[i].n, L[i].bv][j]? := fun j hj => by
      have e : sdC L = sdC (L.take i) ++ (([Value.int .i64 L[i].left, .int .i64 L[i].n, L[i].bv] : List Value) ++ sdC (L.drop (i + 1))) := by
        have h1 : L = L.take i ++ (L[i] :: L.drop (i + 1)) := by rw [List.getElem_cons_drop, List.take_append_drop]
        conv => lhs; rw [h1]
        unfold sdC; rw [List.flatMap_append, List.flatMap_cons]
      have hl : (sdC (L.take i)).length = i * 3 := by rw [sdC_len, List.length_take]; congr 1; omega
      rw [e, List.getElem?_append_right (by rw [hl]; omega), hl, Nat.add_sub_cancel_left, List.getElem?_append_left (by simp; omega)]
    refine ⟨lb, va, vc, rfl, (Array.getElem?_eq_some_iff.1 hg).1, hat _ _ (key 0 (by omega)), hat _ _ (key 1 (by omega)), ?_, by rw [← hv]; exact hr⟩
    rw [← hv]; exact hat _ _ (key 2 (by omega))
end Go.Proofs.Ytimgnbacgdmiiaa
