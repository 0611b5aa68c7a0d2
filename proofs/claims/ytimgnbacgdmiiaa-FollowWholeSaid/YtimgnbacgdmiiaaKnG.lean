/-
  follow.stands: its walk.
-/
import Derived.Test.YtimgnbacgdmiiaaKnF
namespace Go.Proofs.Ytimgnbacgdmiiaa
open Go.RowKit PK Go.Maps Go.WideMaps
set_option linter.unusedVariables false
set_option linter.unusedSimpArgs false
attribute [local go_sem ↓] append_appM

/-- How far stands has come: gs are blocks that stay, ex a row that is to be kept. -/
def StI (W : World) (n0 kb am nm g N c : Nat) (k : Int) (kk : Nat) (S : Sts) (cnt : Nat) (gs : List (Nat × Obj)) (ex : List Sd) (P : List (Int × Int × List Tx)) (wr : World) (lv : Value) (ln : Nat) : Prop :=
  ∃ L cv C, (∃ na nx fa fx, Kn (blk lv) wr n0 kb am nm cv g N c k kk S (1 + 1000 * cnt) C na nx fa fx) ∧ (∃ x, C[0]? = some x ∧ x.2 = [[]]) ∧ SdR wr n0 lv L ∧ L.length = ln ∧ L.map Sd.tri = P ∧ ln + ex.length ≤ cnt ∧ Below n0 W wr ∧
    (∀ x ∈ L, 0 < x.b.length → ∀ q, x.bv.ownBlock = some q → ¬ ownK kb am nm cv q) ∧
    (∀ x ∈ ex, (∃ a c, x.bv = .slice a x.b.length c) ∧ Row wr wr.heap.size 1 x.bv x.b.length (svt x.b) ∧ (0 < x.b.length → ∀ q, x.bv.ownBlock = some q → q < wr.heap.size ∧ ¬ ownK kb am nm cv q ∧ ¬ blk lv q)) ∧
    (∀ y ∈ gs, wr.heap[y.1]? = some y.2 ∧ ¬ ownK kb am nm cv y.1 ∧ ¬ blk lv y.1)
section
variable {W : World} {n0 kb am nm g N c : Nat} {k : Int} {kk : Nat} {S : Sts} {cnt : Nat} {gs : List (Nat × Obj)} {ex : List Sd} {P : List (Int × Int × List Tx)} {wr : World} {lv : Value} {ln : Nat}
theorem StI.bel (h : StI W n0 kb am nm g N c k kk S cnt gs ex P wr lv ln) : Below n0 W wr := by obtain ⟨_, _, _, _, _, _, _, _, _, h, _⟩ := h; exact h
theorem StI.more (h : StI W n0 kb am nm g N c k kk S cnt gs ex P wr lv ln) {cnt' : Nat} (hc : cnt ≤ cnt') : StI W n0 kb am nm g N c k kk S cnt' gs ex P wr lv ln := by
  obtain ⟨L, cv, C, ⟨na, nx, fa, fx, hK⟩, h1, h2, h3, h4, h5, h6⟩ := h
  exact ⟨L, cv, C, ⟨na, nx, fa, fx, hK.more (by omega)⟩, h1, h2, h3, h4, by omega, h6⟩
theorem StI.below {w' : World} (h : StI W n0 kb am nm g N c k kk S cnt gs ex P wr lv ln) (hb : Below wr.heap.size wr w') : StI W n0 kb am nm g N c k kk S cnt gs ex P w' lv ln := by
  obtain ⟨L, cv, C, ⟨na, nx, fa, fx, hK⟩, h1, h2, h3, h4, h5, h6, h7, h8, h9⟩ := h
  exact ⟨L, cv, C, ⟨na, nx, fa, fx, hK.below hb⟩, h1, h2.below hb, h3, h4, h5, h6.trans (hb.mono hK.lt.2.2.2.2.2), h7, fun x hx => ⟨(h8 x hx).1, ((h8 x hx).2.1.below hb).mono hb.size, fun h0 q e => ⟨Nat.lt_of_lt_of_le ((h8 x hx).2.2 h0 q e).1 hb.size, ((h8 x hx).2.2 h0 q e).2⟩⟩, fun y hy => ⟨(hb.block _ (Array.getElem?_eq_some_iff.1 (h9 y hy).1).1).trans (h9 y hy).1, (h9 y hy).2⟩⟩
theorem StI.add (h : StI W n0 kb am nm g N c k kk S cnt gs ex P wr lv ln) (o : Obj) : StI W n0 kb am nm g N c k kk S cnt ((wr.heap.size, o) :: gs) ex P (wr.alloc o) lv ln := by
  obtain ⟨L, cv, C, ⟨na, nx, fa, fx, hK⟩, h1, h2, h3, h4, h5, h6, h7, h8, h9⟩ := h.below ((Below.refl wr.heap.size wr).alloc (Nat.le_refl _) o)
  obtain ⟨L', cv', C', ⟨na', nx', fa', fx', hK'⟩, _, h2', _⟩ := h
  refine ⟨L, cv, C, ⟨na, nx, fa, fx, hK⟩, h1, h2, h3, h4, h5, h6, h7, h8, fun y hy => ?_⟩
  rcases List.mem_cons.1 hy with rfl | hy
  · refine ⟨Array.getElem?_push_size, fun ho => ?_, fun hb => ?_⟩
    · have ec : cv = cv' := by
        have e1 := hK.box
        have e2 : (wr.alloc o).heap[kb]? = wr.heap[kb]? := Below.heap_alloc _ _ _ hK'.kbl
        rw [e2, hK'.box] at e1
        simp only [Option.some.injEq, Obj.cells.injEq, Array.mk.injEq, List.cons.injEq, and_true, true_and] at e1
        exact e1.symm
      subst ec
      have := hK'.own_lt _ ho
      simp at this
    · have := (h2'.own.lt _ hb).2
      simp at this
  · exact h9 y hy
theorem StI.gets (h : StI W n0 kb am nm g N c k kk S cnt gs ex P wr lv ln) {q : Nat} {o : Obj} (hq : (q, o) ∈ gs) : wr.heap[q]? = some o := by
  obtain ⟨L, cv, C, _, _, _, _, _, _, _, _, _, h9⟩ := h
  exact (h9 _ hq).1
theorem StI.drop (h : StI W n0 kb am nm g N c k kk S cnt gs ex P wr lv ln) {gs' : List (Nat × Obj)} (hs : ∀ y ∈ gs', y ∈ gs) : StI W n0 kb am nm g N c k kk S cnt gs' ex P wr lv ln := by
  obtain ⟨L, cv, C, hK, h1, h2, h3, h4, h5, h6, h7, h8, h9⟩ := h
  exact ⟨L, cv, C, hK, h1, h2, h3, h4, h5, h6, h7, h8, fun y hy => h9 y (hs y hy)⟩
/-- A row that is asked for. -/
theorem StI.row (h : StI W n0 kb am nm g N c k kk S cnt gs [] P wr lv ln) (l : List Sy) (rv : Value) (BL : Nat) (rl : SR wr BL rv l) (hBL : BL ≤ n0) (hs : ∀ s ∈ l, (s.tok = true → 0 ≤ s.n ∧ s.n ≤ 255) ∧ (s.tok = false → 0 ≤ s.n ∧ s.n < N)) (hk : 1 ≤ k ∧ k ≤ 4) (hN : N ≤ 1000) (hS : SOk k S) (hl : l.length ≤ 500) (hc : cnt ≤ 100000000) (left n : Int) :
    Calls Try.prog 72 #[.pointer (some ⟨kb, 0, none⟩), rv] wr fun e w' => (OverR k 600 S l ∧ e = .returned (.tuple #[.slice none 0 0, .bool false]) ∧ Below n0 W w') ∨
      (¬ OverR k 600 S l ∧ ∃ va vc, e = .returned (.tuple #[.slice va (rowS k S l).length vc, .bool true]) ∧ StI W n0 kb am nm g N c k kk S (cnt + 1) gs [⟨left, n, .slice va (rowS k S l).length vc, rowS k S l⟩] P w' lv ln) := by
  obtain ⟨L, cv, C, ⟨na, nx, fa, fx, hK⟩, h1, h2, h3, h4, h5, h6, h7, h8, h9⟩ := h
  refine (knRow_any (blk lv) wr n0 kb am nm cv g N c k kk S (1 + 1000 * cnt) C na nx fa fx hK l rv BL rl hBL h1 hs hk hN hS (by omega)).mono ?_
  rintro e w' ⟨cv', C', hG, hor⟩
  have hlow : Below n0 wr w' := hG.2.2.1.low hK.lt.2.2.2.2.2 hK.own_ge
  have hB := h6.trans hlow
  rcases hor with ⟨hno, va, vc, rfl, hr, hap⟩ | ⟨hov, rfl⟩
  · refine .inr ⟨hno, va, vc, rfl, ?_⟩
    obtain ⟨⟨na', nx', fa', fx', hK'⟩, hp, hkp, ho⟩ := hG
    have hsame : ∀ q, q < wr.heap.size → ¬ ownK kb am nm cv q → w'.heap[q]? = wr.heap[q]? := hkp.block
    have hown : ∀ q, q < wr.heap.size → ¬ ownK kb am nm cv q → ¬ ownK kb am nm cv' q := fun q hq hn h => by
      rcases ho q h with h10 | h10
      · exact hn h10
      · omega
    have hrow : ∀ x ∈ L, 0 < x.b.length → ∀ q, x.bv.ownBlock = some q → q < wr.heap.size ∧ ¬ ownK kb am nm cv q := fun x hx h0 q e => ⟨((h2.each x hx).2.2 h0 q e).1, h7 x hx h0 q e⟩
    refine ⟨L, cv', C', ⟨na', nx', fa', fx', hK'.more (by omega)⟩, ?_, ?_, h3, h4, by simp at h5 ⊢; omega, hB, fun x hx h0 q e => hown q (hrow x hx h0 q e).1 (hrow x hx h0 q e).2, fun x hx => ?_, fun y hy => ?_⟩
    · obtain ⟨x, hx, hx2⟩ := h1; exact ⟨x, hp 0 x hx, hx2⟩
    · refine h2.kept hkp.size fun q hq => ?_
      rcases hq with h10 | ⟨x, hx, h0, h10⟩
      · exact hsame q (h2.own.lt q h10).2 (hK.xg q h10).2.2
      · exact hsame q (hrow x hx h0 q h10).1 (hrow x hx h0 q h10).2
    · rw [List.mem_singleton.1 hx]
      exact ⟨⟨va, vc, rfl⟩, hr, fun h0 q e => by
        have := hap h0 q (by rw [← ownB va (rowS k S l).length vc]; exact e)
        exact ⟨this.2.1, this.1, this.2.2⟩⟩
    · obtain ⟨h10, h11, h12⟩ := h9 y hy
      have hy := (Array.getElem?_eq_some_iff.1 h10).1
      exact ⟨(hsame _ hy h11).trans h10, hown _ hy h11, h12⟩
  · exact .inl ⟨hov, rfl, hB⟩
/-- What was asked for is kept. -/
theorem StI.push {la : Option Addr} {lc : Nat} {left n : Int} {va : Option Addr} {vc : Nat} {b : List Tx} (h : StI W n0 kb am nm g N c k kk S cnt gs [⟨left, n, .slice va b.length vc, b⟩] P wr (.slice la ln lc) ln) (hc : cnt ≤ 100000000) :
    ∃ a' c' W2, Sem.run Try.prog (appM #[69, 69] 69 #[.slice la ln lc, .slice (some ⟨wr.heap.size, 0, none⟩) 1 1]) (wr.alloc (.cells #[.int .i64 left, .int .i64 n, .slice va b.length vc] 75)) = .ok (.slice a' (ln + 1) c') W2 ∧
      StI W n0 kb am nm g N c k kk S cnt gs [] (P ++ [(left, n, b)]) W2 (.slice a' (ln + 1) c') (ln + 1) := by
  obtain ⟨L, cv, C, ⟨na, nx, fa, fx, hK⟩, h1, h2, rfl, h4, h5, h6, h7, h8, h9⟩ := h
  obtain ⟨_, hr, hap⟩ := h8 _ List.mem_cons_self
  simp only at hr hap
  obtain ⟨a', c', W2, happ, hS2, hs, ho, hb, hX⟩ := h2.push hK.lt.2.2.2.2.2 left n va vc b hr (fun h0 q e => by
    have := hap h0 q (by rw [ownB]; exact e)
    exact ⟨this.1, this.2.2⟩) (by simp at h5; omega)
  have hlow : Below n0 wr W2 := ⟨ho.1, ho.2.1, ho.2.2, hs, fun q hq => hb q (by have := hK.lt; omega) fun h => by have := (h2.own.lt q h).1; omega⟩
  refine ⟨a', c', W2, happ, L ++ [⟨left, n, .slice va b.length vc, b⟩], cv, C, ⟨na, nx, fa, fx, hK.ext hs ho hb hX⟩, h1, hS2, by simp, by rw [List.map_append, h4]; rfl, by simp at h5 ⊢; omega, h6.trans hlow, fun x hx h0 q e => ?_, fun x hx => (by cases hx), fun y hy => ?_⟩
  · rcases List.mem_append.1 hx with h10 | h10
    · exact h7 x h10 h0 q e
    · rw [List.mem_singleton.1 h10] at h0 e
      exact (hap h0 q e).2.1
  · obtain ⟨h10, h11, h12⟩ := h9 y hy
    have hy := (Array.getElem?_eq_some_iff.1 h10).1
    refine ⟨(hb _ hy h12).trans h10, h11, fun h => ?_⟩
    rcases hX _ h with h13 | h13
    · exact h12 h13
    · omega
theorem StI.start {kb am nm : Nat} {cv : Value} {C : List (Value × List Tx)} (hK : ∃ na nx fa fx, Kn (fun _ => False) wr n0 kb am nm cv g N c k kk S 1 C na nx fa fx) (h1 : ∃ x, C[0]? = some x ∧ x.2 = [[]]) (hb : Below n0 W wr) : StI W n0 kb am nm g N c k kk S 0 [] [] [] wr (.slice none 0 0) 0 := by
  obtain ⟨na, nx, fa, fx, hK⟩ := hK
  refine ⟨[], cv, C, ⟨na, nx, fa, fx, ?_⟩, h1, ⟨World.ownsRow_nil _ _ _ _, fun x hx => by cases hx⟩, rfl, rfl, Nat.le_refl _, hb, (fun x hx => by cases hx), (fun x hx => by cases hx), fun y hy => by cases hy⟩
  exact hK.ext (Nat.le_refl _) ⟨rfl, rfl, rfl⟩ (fun _ _ _ => rfl) fun q hq => by cases hq
end
end Go.Proofs.Ytimgnbacgdmiiaa
