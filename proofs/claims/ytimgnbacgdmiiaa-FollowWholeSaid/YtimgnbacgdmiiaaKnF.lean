/-
  follow.stands.
-/
import Derived.Test.YtimgnbacgdmiiaaKnE
namespace Go.Proofs.Ytimgnbacgdmiiaa
open Go.RowKit PK Go.Maps Go.WideMaps
set_option linter.unusedVariables false
set_option linter.unusedSimpArgs false
attribute [local go_sem ↓] append_appM

theorem row_dropB {w : World} {B size b o n c : Nat} {xs : List Value} (h : Row w B size (.slice (some ⟨b, o, none⟩) n c) n xs) (d : Nat) (hd : d ≤ n) : Row w B size (.slice (some ⟨b, o + d * size, none⟩) (n - d) (c - d)) (n - d) (xs.drop (d * size)) := by
  refine ⟨?_, by have := h.2.1; omega, ?_⟩
  · rw [List.length_drop, h.1, Nat.sub_mul]
  · rcases h.2.2 with ⟨hv, _⟩ | ⟨a, c', hv, h1, h2, h3, hc⟩
    · cases hv
    · simp only [Value.slice.injEq, Option.some.injEq] at hv
      obtain ⟨rfl, _, rfl⟩ := hv
      refine .inr ⟨_, _, rfl, by omega, by omega, ?_, fun j u hu => ?_⟩
      · rcases h3 with h3 | h3
        · exact .inl (by omega)
        · exact .inr h3
      · rw [List.getElem?_drop] at hu
        have := hc _ u hu
        have e1 : ∀ x y : Nat, (⟨b, x, none⟩ : Addr).add y = ⟨b, x + y, none⟩ := fun x y => by unfold Addr.add; split <;> simp_all
        rw [e1] at this ⊢
        rw [Nat.add_assoc]; exact this
theorem symC_drop (l : List Sy) (d : Nat) : (symC l).drop (d * 2) = symC (l.drop d) := by
  induction d generalizing l with
  | zero => simp
  | succ d ih =>
    cases l with
    | nil => simp [symC]
    | cons s l =>
      have : symC (s :: l) = .bool s.tok :: .int .i64 s.n :: symC l := rfl
      rw [this, show (d + 1) * 2 = d * 2 + 1 + 1 by omega, List.drop_succ_cons, List.drop_succ_cons, ih]; rfl
/-- A Known in whose world other blocks have turned. -/
theorem Kn.ext {X X' : Nat → Prop} {W W' : World} {n0 kb am nm : Nat} {cv : Value} {g N c : Nat} {k : Int} {kk : Nat} {S : Sts} {T : Nat} {C : List (Value × List Tx)} {na nx : Nat} {fa fx : Value → Option Value} (h : Kn X W n0 kb am nm cv g N c k kk S T C na nx fa fx)
    (hs : W.heap.size ≤ W'.heap.size) (ho : W'.os = W.os ∧ W'.tape = W.tape ∧ W'.output = W.output) (hb : ∀ q, q < W.heap.size → ¬ X q → W'.heap[q]? = W.heap[q]?) (hX : ∀ q, X' q → X q ∨ (W.heap.size ≤ q ∧ q < W'.heap.size)) : Kn X' W' n0 kb am nm cv g N c k kk S T C na nx fa fx := by
  have h1 := h.kept hs ho fun q hq => by
    rcases hq with h1 | h1 | ⟨x, hx, h0, h1⟩
    · exact hb q (by have := h.lt; omega) fun h2 => by have := h.xg q h2; omega
    · exact hb q (h.own_lt q h1) fun h2 => (h.xg q h2).2.2 h1
    · exact hb q ((h.each x hx).2 h0 q h1).2.1 ((h.each x hx).2 h0 q h1).2.2
  refine ⟨h1.box, h1.kx, h1.lt, h1.ne, h1.len, h1.sets, h1.come, h1.cne, fun x hx => ⟨(h1.each x hx).1, fun h0 q e => ⟨((h1.each x hx).2 h0 q e).1, ((h1.each x hx).2 h0 q e).2.1, fun h2 => ?_⟩⟩, fun q hq => ?_, h1.atM, h1.nxM, h1.cnt, h1.ok, h1.faS, h1.fxS⟩
  · have h3 := (h.each x hx).2 h0 q e
    rcases hX q h2 with h4 | h4
    · exact h3.2.2 h4
    · omega
  · have hl := h.lt
    rcases hX q hq with h4 | h4
    · exact ⟨(h.xg q h4).1, Nat.lt_of_lt_of_le (h.xg q h4).2.1 hs, (h.xg q h4).2.2⟩
    · exact ⟨by omega, h4.2, fun h5 => by have := h.own_lt q h5; omega⟩
/-- A nonterminal that stands somewhere, with what may come behind it. -/
structure Sd where
  left : Int
  n : Int
  bv : Value
  b : List Tx
def sdC (L : List Sd) : List Value := L.flatMap fun x => [.int .i64 x.left, .int .i64 x.n, x.bv]
theorem sdC_len (L : List Sd) : (sdC L).length = L.length * 3 := by
  induction L with
  | nil => rfl
  | cons x L ih =>
    have : sdC (x :: L) = [.int .i64 x.left, .int .i64 x.n, x.bv] ++ sdC L := rfl
    rw [this, List.length_append, ih, List.length_cons]; simp; omega
theorem sdC_snoc (L : List Sd) (x : Sd) : sdC (L ++ [x]) = sdC L ++ [.int .i64 x.left, .int .i64 x.n, x.bv] := by unfold sdC; simp
theorem info_sd : (Try.prog.info? 75).map (fun i => (i.zero, i.size, i.bytes)) = some (some (.agg #[.int .i64 0, .int .i64 0, .slice none 0 0]), 3, 40) := by kernel_rfl
def blk (v : Value) (q : Nat) : Prop := v.ownBlock = some q
/-- The stands that there are, in memory. -/
structure SdR (W : World) (n0 : Nat) (lv : Value) (L : List Sd) : Prop where
  own : W.ownsRow n0 75 3 lv L.length (sdC L)
  each : ∀ x ∈ L, (∃ a c, x.bv = .slice a x.b.length c) ∧ Row W W.heap.size 1 x.bv x.b.length (svt x.b) ∧ (0 < x.b.length → ∀ q, x.bv.ownBlock = some q → q < W.heap.size ∧ ¬ blk lv q)
theorem SdR.kept {W W' : World} {n0 : Nat} {lv : Value} {L : List Sd} (h : SdR W n0 lv L) (hs : W.heap.size ≤ W'.heap.size) (hb : ∀ q, (blk lv q ∨ ∃ x ∈ L, 0 < x.b.length ∧ x.bv.ownBlock = some q) → W'.heap[q]? = W.heap[q]?) : SdR W' n0 lv L :=
  ⟨owns_blockN h.own fun q e => hb q (.inl e), fun x hx => ⟨(h.each x hx).1, row_keptB (h.each x hx).2.1 hs fun h0 q e => hb q (.inr ⟨x, hx, h0, e⟩), fun h0 q e => ⟨Nat.lt_of_lt_of_le ((h.each x hx).2.2 h0 q e).1 hs, ((h.each x hx).2.2 h0 q e).2⟩⟩⟩
theorem SdR.below {W W' : World} {n0 : Nat} {lv : Value} {L : List Sd} (h : SdR W n0 lv L) (hb : Below W.heap.size W W') : SdR W' n0 lv L :=
  h.kept hb.size fun q hq => hb.block q (by
    rcases hq with h1 | ⟨x, hx, h0, h1⟩
    · exact (h.own.lt q h1).2
    · exact ((h.each x hx).2.2 h0 q h1).1)
theorem sd_one (a b : Int) (va : Option Addr) (n c : Nat) : ∀ u ∈ [Value.int .i64 a, .int .i64 b, .slice va n c], u.oneCell' = true := by
  intro u hu
  simp only [List.mem_cons, List.not_mem_nil, or_false] at hu
  rcases hu with rfl | rfl | rfl <;> rfl
/-- One stand more. -/
theorem SdR.push {W : World} {n0 : Nat} {la : Option Addr} {lc : Nat} {L : List Sd} (h : SdR W n0 (.slice la L.length lc) L) (hn : n0 ≤ W.heap.size) (left n : Int) (va : Option Addr) (vc : Nat) (b : List Tx) (hr : Row W W.heap.size 1 (.slice va b.length vc) b.length (svt b)) (hv : 0 < b.length → ∀ q, va.map (·.block) = some q → q < W.heap.size ∧ ¬ blk (.slice la L.length lc) q) (hm : L.length + 1 ≤ 100000000000) :
    ∃ a' c' W2, Sem.run Try.prog (appM #[69, 69] 69 #[.slice la L.length lc, .slice (some ⟨W.heap.size, 0, none⟩) 1 1]) (W.alloc (.cells #[.int .i64 left, .int .i64 n, .slice va b.length vc] 75)) = .ok (.slice a' (L.length + 1) c') W2 ∧
      SdR W2 n0 (.slice a' (L.length + 1) c') (L ++ [⟨left, n, .slice va b.length vc, b⟩]) ∧ W.heap.size ≤ W2.heap.size ∧ (W2.os = W.os ∧ W2.tape = W.tape ∧ W2.output = W.output) ∧ (∀ q, q < W.heap.size → ¬ blk (.slice la L.length lc) q → W2.heap[q]? = W.heap[q]?) ∧ (∀ q, blk (.slice a' (L.length + 1) c') q → blk (.slice la L.length lc) q ∨ (W.heap.size ≤ q ∧ q < W2.heap.size)) := by
  obtain ⟨i0, hi0, hz0, hz1, hz2⟩ := info_parts info_sd
  have rt : Row (W.alloc (.cells #[.int .i64 left, .int .i64 n, .slice va b.length vc] 75)) (W.heap.size + 1) 3 (.slice (some ⟨W.heap.size, 0, none⟩) 1 1) 1 [.int .i64 left, .int .i64 n, .slice va b.length vc] := row_cellsB W [.int .i64 left, .int .i64 n, .slice va b.length vc] 3 1 1 _ rfl (Nat.le_refl _) (by unfold maxLen; omega)
  obtain ⟨v', W2, h1, h2, h3, h4⟩ := run_append_row (P := Try.prog) (W.alloc (.cells #[.int .i64 left, .int .i64 n, .slice va b.length vc] 75)) 69 69 n0 75 i0 (.agg #[.int .i64 0, .int .i64 0, .slice none 0 0]) 3 40 Try.underlying69 hi0 hz0 hz1 hz2 rfl (by decide) (.slice la L.length lc) L.length _ (h.own.alloc _) (W.heap.size + 1) _ 1 [.int .i64 left, .int .i64 n, .slice va b.length vc] rt (sd_one _ _ _ _ _) (by unfold maxLen; omega) (by omega) (by simp; omega)
  obtain ⟨a', c', rfl, _, _⟩ := owns_valPK h2
  rw [World.size_alloc] at h4
  have hs2 : W.heap.size ≤ W2.heap.size := Nat.le_trans (by simp) h3.size
  have hb2 : ∀ q, q < W.heap.size → ¬ blk (.slice la L.length lc) q → W2.heap[q]? = W.heap[q]? := fun q hq hn => by
    rw [h3.block q (by simp; omega) (fun e => hn e.symm), Below.heap_alloc _ _ _ hq]
  have hcb : ∀ q, blk (.slice a' (L.length + 1) c') q → blk (.slice la L.length lc) q ∨ (W.heap.size ≤ q ∧ q < W2.heap.size) := fun q e => by
    rcases h4 with h5 | h5
    · exact .inl (h5.symm.trans e)
    · have e' : some (W.heap.size + 1) = some q := h5.symm.trans e
      have := Option.some.inj e'
      exact .inr ⟨by omega, (h2.lt q e).2⟩
  refine ⟨a', c', W2, h1, ⟨?_, fun x hx => ?_⟩, hs2, ⟨h3.os, h3.tape, h3.output⟩, hb2, hcb⟩
  · rw [List.length_append, List.length_singleton, sdC_snoc]; exact h2
  · have key : ∀ (u : Value) (xs : List Tx), Row W W.heap.size 1 u xs.length (svt xs) → (0 < xs.length → ∀ q, u.ownBlock = some q → q < W.heap.size ∧ ¬ blk (.slice la L.length lc) q) → Row W2 W2.heap.size 1 u xs.length (svt xs) ∧ (0 < xs.length → ∀ q, u.ownBlock = some q → q < W2.heap.size ∧ ¬ blk (.slice a' (L.length + 1) c') q) := fun u xs h5 h6 =>
      ⟨row_keptB h5 hs2 fun h0 q e => hb2 q (h6 h0 q e).1 (h6 h0 q e).2, fun h0 q e => ⟨Nat.lt_of_lt_of_le (h6 h0 q e).1 hs2, fun h7 => by
        rcases hcb q h7 with h8 | h8
        · exact (h6 h0 q e).2 h8
        · have := (h6 h0 q e).1; omega⟩⟩
    rcases List.mem_append.1 hx with h5 | h5
    · exact ⟨(h.each x h5).1, key x.bv x.b (h.each x h5).2.1 (h.each x h5).2.2⟩
    · rw [List.mem_singleton.1 h5]
      exact ⟨⟨va, vc, rfl⟩, key _ _ hr fun h0 q e => hv h0 q (by rw [← ownB va b.length vc]; exact e)⟩
/-- What stands where. -/
def stOne (k : Int) (S : Sts) (p : Pr) (i : Nat) : List (Int × Int × List Tx) := match p.right[i]? with
  | some s => if s.tok then [] else [(p.left, s.n, rowS k S (p.right.drop (i + 1)))]
  | none => []
def stPr (k : Int) (S : Sts) (p : Pr) (m : Nat) : List (Int × Int × List Tx) := (List.range m).flatMap (stOne k S p)
def stAll (k : Int) (S : Sts) (L : List Pr) : List (Int × Int × List Tx) := L.flatMap fun p => stPr k S p p.right.length
def Sd.tri (x : Sd) : Int × Int × List Tx := (x.left, x.n, x.b)
theorem stPr_succ (k : Int) (S : Sts) (p : Pr) (m : Nat) : stPr k S p (m + 1) = stPr k S p m ++ stOne k S p m := by
  unfold stPr; rw [List.range_succ, List.flatMap_append]; simp
theorem stAll_succ (k : Int) (S : Sts) (L : List Pr) (i : Nat) (h : i < L.length) : stAll k S (L.take (i + 1)) = stAll k S (L.take i) ++ stPr k S L[i] L[i].right.length := by
  unfold stAll; rw [List.take_succ_eq_append_getElem h, List.flatMap_append]; simp
def OverAt (k : Int) (S : Sts) (p : Pr) (i : Nat) : Prop := ∃ s, p.right[i]? = some s ∧ s.tok = false ∧ OverR k 600 S (p.right.drop (i + 1))
def OverSt (b : Bn) (k : Int) (S : Sts) : Prop := ∃ p ∈ b.l, ∃ i, OverAt k S p i
end Go.Proofs.Ytimgnbacgdmiiaa
