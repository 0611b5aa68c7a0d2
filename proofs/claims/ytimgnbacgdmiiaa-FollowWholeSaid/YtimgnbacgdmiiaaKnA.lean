/-
  row.Known in memory.
-/
import Derived.Test.YtimgnbacgdmiiaaMapG
import Derived.Test.YtimgnbacgdmiiaaBldA
import Derived.Test.YtimgnbacgdmiiaaFirM
namespace Go.Proofs.Ytimgnbacgdmiiaa
open Go.RowKit PK Go.Maps Go.WideMaps
set_option linter.unusedVariables false
set_option linter.unusedSimpArgs false
attribute [local go_sem ↓] append_appM

/-- A set as one text: each of its texts with its length ahead. -/
def encS (l : List Tx) : Tx := l.flatMap fun x => UInt8.ofNat x.length :: x
theorem encS_snoc (l : List Tx) (x : Tx) : encS (l ++ [x]) = encS l ++ UInt8.ofNat x.length :: x := by unfold encS; simp
theorem encS_take (l : List Tx) (i : Nat) (h : i < l.length) : encS (l.take (i + 1)) = encS (l.take i) ++ UInt8.ofNat l[i].length :: l[i] := by
  rw [List.take_succ_eq_append_getElem h, encS_snoc]
theorem ofNat_len_inj {a b : Nat} (ha : a ≤ 255) (hb : b ≤ 255) (h : UInt8.ofNat a = UInt8.ofNat b) : a = b := by
  have := congrArg UInt8.toNat h
  simp at this; omega
theorem encS_inj : ∀ {a b : List Tx}, Le 4 a → Le 4 b → encS a = encS b → a = b := by
  intro a
  induction a with
  | nil =>
    intro b _ _ h
    cases b with
    | nil => rfl
    | cons y b => simp [encS] at h
  | cons x a ih =>
    intro b ha hb h
    cases b with
    | nil => simp [encS] at h
    | cons y b =>
      have hx := ha x List.mem_cons_self
      have hy := hb y List.mem_cons_self
      have e1 : encS (x :: a) = UInt8.ofNat x.length :: (x ++ encS a) := by unfold encS; simp
      have e2 : encS (y :: b) = UInt8.ofNat y.length :: (y ++ encS b) := by unfold encS; simp
      rw [e1, e2, List.cons.injEq] at h
      have hl := ofNat_len_inj (by omega) (by omega) h.1
      have h2 := List.append_inj h.2 hl
      rw [h2.1, ih (fun z hz => ha z (List.mem_cons_of_mem _ hz)) (fun z hz => hb z (List.mem_cons_of_mem _ hz)) h2.2]
theorem encS_len {l : List Tx} (h : Le 4 l) : (encS l).length ≤ 5 * l.length := by
  induction l with
  | nil => simp [encS]
  | cons x l ih =>
    have hx := h x List.mem_cons_self
    have e1 : encS (x :: l) = UInt8.ofNat x.length :: (x ++ encS l) := by unfold encS; simp
    rw [e1, List.length_cons, List.length_append, List.length_cons]
    have := ih fun z hz => h z (List.mem_cons_of_mem _ hz)
    omega
theorem row_keptB {W W' : World} {B B' n : Nat} {v : Value} {xs : List Value} (h : Row W B 1 v n xs) (hB : B ≤ B') (hk : 0 < n → ∀ q, v.ownBlock = some q → W'.heap[q]? = W.heap[q]?) : Row W' B' 1 v n xs := by
  refine ⟨h.1, h.2.1, ?_⟩
  rcases h.2.2 with hn | ⟨a, c, rfl, h1, h2, h3, h4⟩
  · exact .inl hn
  · refine .inr ⟨a, c, rfl, h1, h2, h3.imp_right fun h => Nat.lt_of_lt_of_le h hB, fun j u hu => ?_⟩
    have hn : 0 < n := by
      have h5 := h.1
      have h6 : j < xs.length := (List.getElem?_eq_some_iff.1 hu).1
      omega
    replace hk := hk hn
    rw [cell_eq (p := a.add j) (w := W) (w2 := W') ?_]
    · exact h4 j u hu
    · have e : (a.add j).block = a.block := by unfold Addr.add; split <;> rfl
      rw [e]; exact hk a.block rfl
/-- The blocks that a Known writes. -/
def ownK (kb am nm : Nat) (cv : Value) (q : Nat) : Prop := q = kb ∨ q = am ∨ q = nm ∨ cv.ownBlock = some q
/-- A Known in a world. -/
structure Kn (X : Nat → Prop) (W : World) (n0 kb am nm : Nat) (cv : Value) (g N c : Nat) (k : Int) (kk : Nat) (S : Sts) (T : Nat) (C : List (Value × List Tx)) (na nx : Nat) (fa fx : Value → Option Value) : Prop where
  box : W.heap[kb]? = some (.cells #[.slice (some ⟨g, 0, none⟩) N c, .int .i64 600, .func (.func 60) #[] #[.pointer (some ⟨kk, 0, none⟩)], cv, .map (some am), .map (some nm)] 128 (0, 0))
  kx : W.cell? ⟨kk, 0, none⟩ = some (.int .i64 k)
  lt : kk < n0 ∧ g < n0 ∧ n0 ≤ kb ∧ n0 ≤ am ∧ n0 ≤ nm ∧ n0 ≤ W.heap.size
  ne : kb ≠ am ∧ kb ≠ nm ∧ am ≠ nm
  len : S.length = N
  sets : ∀ j (hj : j < S.length), ∃ v, W.cell? ⟨g, j, none⟩ = some v ∧ Row W n0 1 v S[j].length (svt S[j])
  come : W.ownsRow n0 32 1 cv C.length (C.map (·.1))
  cne : ∀ q, cv.ownBlock = some q → q ≠ kb ∧ q ≠ am ∧ q ≠ nm
  each : ∀ x ∈ C, Row W W.heap.size 1 x.1 x.2.length (svt x.2) ∧ (0 < x.2.length → ∀ q, x.1.ownBlock = some q → ¬ ownK kb am nm cv q ∧ q < W.heap.size ∧ ¬ X q)
  xg : ∀ q, X q → n0 ≤ q ∧ q < W.heap.size ∧ ¬ ownK kb am nm cv q
  atM : MapG 9 W am na fa
  nxM : MapG 131 W nm nx fx
  cnt : C.length ≤ T ∧ na ≤ T ∧ nx ≤ T
  ok : ∀ x ∈ C, IsSet x.2 ∧ Le k x.2 ∧ x.2.length ≤ 600
  faS : ∀ (s : ByteArray) v, fa (.string s) = some v → ∃ (i : Nat) (x : Value × List Tx), v = .int .i64 (i : Nat) ∧ C[i]? = some x ∧ s = ⟨(encS x.2).toArray⟩
  fxS : ∀ (j : Nat) (t : Bool) (n : Int) v, fx (.agg #[.int .i64 (j : Nat), .bool t, .int .i64 n]) = some v → ∃ x, C[j]? = some x ∧ ((v = .int .i64 (-1) ∧ 600 < (catL x.2 (symS S ⟨t, n⟩) k).length) ∨ ∃ (m : Nat) (y : Value × List Tx), v = .int .i64 (m : Nat) ∧ C[m]? = some y ∧ y.2 = catL x.2 (symS S ⟨t, n⟩) k)
/-- What a call at a Known keeps. -/
structure KnKeep (O : Nat → Prop) (W W' : World) : Prop where
  os : W'.os = W.os
  tape : W'.tape = W.tape
  output : W'.output = W.output
  size : W.heap.size ≤ W'.heap.size
  block : ∀ q, q < W.heap.size → ¬ O q → W'.heap[q]? = W.heap[q]?
theorem KnKeep.refl (O : Nat → Prop) (W : World) : KnKeep O W W := ⟨rfl, rfl, rfl, Nat.le_refl _, fun _ _ _ => rfl⟩
theorem KnKeep.of_below {O : Nat → Prop} {W W' : World} (h : Below W.heap.size W W') : KnKeep O W W' := ⟨h.os, h.tape, h.output, h.size, fun q hq _ => h.block q hq⟩
theorem KnKeep.low {O : Nat → Prop} {W W' : World} {n : Nat} (h : KnKeep O W W') (hn : n ≤ W.heap.size) (hO : ∀ q, O q → n ≤ q) : Below n W W' := ⟨h.os, h.tape, h.output, h.size, fun q hq => h.block q (by omega) fun h' => by have := hO q h'; omega⟩
theorem KnKeep.trans {O O' : Nat → Prop} {W W' W'' : World} (h : KnKeep O W W') (h' : KnKeep O' W' W'') (hO : ∀ q, O' q → O q ∨ W.heap.size ≤ q) : KnKeep O W W'' :=
  ⟨h'.os.trans h.os, h'.tape.trans h.tape, h'.output.trans h.output, Nat.le_trans h.size h'.size, fun q hq hn => (h'.block q (Nat.lt_of_lt_of_le hq h.size) fun h2 => (hO q h2).elim hn fun h3 => by omega).trans (h.block q hq hn)⟩
section
variable {X : Nat → Prop} {W : World} {n0 kb am nm : Nat} {cv : Value} {g N c : Nat} {k : Int} {kk : Nat} {S : Sts} {T : Nat} {C : List (Value × List Tx)} {na nx : Nat} {fa fx : Value → Option Value}
theorem Kn.own_ge (h : Kn X W n0 kb am nm cv g N c k kk S T C na nx fa fx) : ∀ q, ownK kb am nm cv q → n0 ≤ q := fun q hq => by
  rcases hq with rfl | rfl | rfl | hq
  · exact h.lt.2.2.1
  · exact h.lt.2.2.2.1
  · exact h.lt.2.2.2.2.1
  · exact (h.come.lt q hq).1
theorem Kn.kbl (h : Kn X W n0 kb am nm cv g N c k kk S T C na nx fa fx) : kb < W.heap.size := (Array.getElem?_eq_some_iff.1 h.box).1
/-- Blocks from n0 on that are kept: what was a Known is one. -/
theorem Kn.below {W' : World} (h : Kn X W n0 kb am nm cv g N c k kk S T C na nx fa fx) (hb : Below W.heap.size W W') : Kn X W' n0 kb am nm cv g N c k kk S T C na nx fa fx := by
  obtain ⟨l1, l2, l3, l4, l5, l6⟩ := h.lt
  refine ⟨(hb.block _ h.kbl).trans h.box, (hb.cell (p := ⟨kk, 0, none⟩) (by show kk < _; omega)).trans h.kx, ⟨l1, l2, l3, l4, l5, Nat.le_trans l6 hb.size⟩, h.ne, h.len, fun j hj => ?_, owns_belowPK h.come hb, h.cne, fun x hx => ⟨((h.each x hx).1.below hb).mono hb.size, fun h0 q e => ⟨((h.each x hx).2 h0 q e).1, Nat.lt_of_lt_of_le ((h.each x hx).2 h0 q e).2.1 hb.size, ((h.each x hx).2 h0 q e).2.2⟩⟩, (fun q hq => ⟨(h.xg q hq).1, Nat.lt_of_lt_of_le (h.xg q hq).2.1 hb.size, (h.xg q hq).2.2⟩), h.atM.kept (hb.block _ h.atM.lt), h.nxM.kept (hb.block _ h.nxM.lt), h.cnt, h.ok, h.faS, h.fxS⟩
  obtain ⟨v, h1, h2⟩ := h.sets j hj
  exact ⟨v, (hb.cell (p := ⟨g, j, none⟩) (by show g < _; omega)).trans h1, h2.below (hb.mono l6)⟩
theorem Kn.more (h : Kn X W n0 kb am nm cv g N c k kk S T C na nx fa fx) {T' : Nat} (hT : T ≤ T') : Kn X W n0 kb am nm cv g N c k kk S T' C na nx fa fx :=
  ⟨h.box, h.kx, h.lt, h.ne, h.len, h.sets, h.come, h.cne, h.each, h.xg, h.atM, h.nxM, ⟨by have := h.cnt; omega, by have := h.cnt; omega, by have := h.cnt; omega⟩, h.ok, h.faS, h.fxS⟩
/-- A world in which all of a Known's blocks, and all that it refers to, lie as they lay. -/
theorem Kn.kept {W' : World} (h : Kn X W n0 kb am nm cv g N c k kk S T C na nx fa fx) (hs : W.heap.size ≤ W'.heap.size) (ho : W'.os = W.os ∧ W'.tape = W.tape ∧ W'.output = W.output) (hb : ∀ q, (q < n0 ∨ ownK kb am nm cv q ∨ ∃ x ∈ C, 0 < x.2.length ∧ x.1.ownBlock = some q) → W'.heap[q]? = W.heap[q]?) : Kn X W' n0 kb am nm cv g N c k kk S T C na nx fa fx := by
  obtain ⟨l1, l2, l3, l4, l5, l6⟩ := h.lt
  have hlow : Below n0 W W' := ⟨ho.1, ho.2.1, ho.2.2, hs, fun q hq => hb q (.inl hq)⟩
  refine ⟨(hb kb (.inr (.inl (.inl rfl)))).trans h.box, (hlow.cell (p := ⟨kk, 0, none⟩) l1).trans h.kx, ⟨l1, l2, l3, l4, l5, Nat.le_trans l6 hs⟩, h.ne, h.len, fun j hj => ?_, owns_blockN h.come fun q e => hb q (.inr (.inl (.inr (.inr (.inr e))))), h.cne, fun x hx => ?_, (fun q hq => ⟨(h.xg q hq).1, Nat.lt_of_lt_of_le (h.xg q hq).2.1 hs, (h.xg q hq).2.2⟩), h.atM.kept (hb am (.inr (.inl (.inr (.inl rfl))))), h.nxM.kept (hb nm (.inr (.inl (.inr (.inr (.inl rfl)))))), h.cnt, h.ok, h.faS, h.fxS⟩
  · obtain ⟨v, h1, h2⟩ := h.sets j hj
    exact ⟨v, (hlow.cell (p := ⟨g, j, none⟩) l2).trans h1, h2.below hlow⟩
  · obtain ⟨h1, h2⟩ := h.each x hx
    exact ⟨row_keptB h1 hs fun h0 q e => hb q (.inr (.inr ⟨x, hx, h0, e⟩)), fun h0 q e => ⟨(h2 h0 q e).1, Nat.lt_of_lt_of_le (h2 h0 q e).2.1 hs, (h2 h0 q e).2.2⟩⟩
/-- The map of steps takes one more. -/
theorem Kn.step {W' : World} (h : Kn X W n0 kb am nm cv g N c k kk S T C na nx fa fx) (hg : W.grownBy W' (some nm)) (fx' : Value → Option Value) (hm : MapG 131 W' nm (nx + 1) fx')
    (hS : ∀ (j : Nat) (t : Bool) (n : Int) v, fx' (.agg #[.int .i64 (j : Nat), .bool t, .int .i64 n]) = some v → ∃ x, C[j]? = some x ∧ ((v = .int .i64 (-1) ∧ 600 < (catL x.2 (symS S ⟨t, n⟩) k).length) ∨ ∃ (m : Nat) (y : Value × List Tx), v = .int .i64 (m : Nat) ∧ C[m]? = some y ∧ y.2 = catL x.2 (symS S ⟨t, n⟩) k)) :
    Kn X W' n0 kb am nm cv g N c k kk S (T + 1) C na (nx + 1) fa fx' ∧ KnKeep (ownK kb am nm cv) W W' := by
  obtain ⟨l1, l2, l3, l4, l5, l6⟩ := h.lt
  obtain ⟨n1, n2, n3⟩ := h.ne
  have hb : ∀ q, q < W.heap.size → q ≠ nm → W'.heap[q]? = W.heap[q]? := fun q hq hn => hg.block q hq fun e => hn (by simpa using e)
  have hlow : Below n0 W W' := ⟨hg.os, hg.tape, hg.output, hg.size, fun q hq => hb q (by omega) (by omega)⟩
  refine ⟨⟨(hb kb h.kbl n2).trans h.box, (hlow.cell (p := ⟨kk, 0, none⟩) l1).trans h.kx, ⟨l1, l2, l3, l4, l5, Nat.le_trans l6 hg.size⟩, h.ne, h.len, fun j hj => ?_, owns_blockN h.come fun q e => hb q (h.come.lt q e).2 (h.cne q e).2.2, h.cne, fun x hx => ?_, (fun q hq => ⟨(h.xg q hq).1, Nat.lt_of_lt_of_le (h.xg q hq).2.1 hg.size, (h.xg q hq).2.2⟩), h.atM.kept (hb am h.atM.lt n3), hm, ⟨by have := h.cnt; omega, by have := h.cnt; omega, by have := h.cnt; omega⟩, h.ok, h.faS, hS⟩, ⟨hg.os, hg.tape, hg.output, hg.size, fun q hq hn => hb q hq fun e => hn (.inr (.inr (.inl e)))⟩⟩
  · obtain ⟨v, h1, h2⟩ := h.sets j hj
    exact ⟨v, (hlow.cell (p := ⟨g, j, none⟩) l2).trans h1, h2.below hlow⟩
  · obtain ⟨h1, h2⟩ := h.each x hx
    exact ⟨row_keptB h1 hg.size fun h0 q e => hb q (h2 h0 q e).2.1 fun e2 => (h2 h0 q e).1 (.inr (.inr (.inl e2))), fun h0 q e => ⟨(h2 h0 q e).1, Nat.lt_of_lt_of_le (h2 h0 q e).2.1 hg.size, (h2 h0 q e).2.2⟩⟩
/-- The map of places takes one more. -/
theorem Kn.mark {W' : World} (h : Kn X W n0 kb am nm cv g N c k kk S T C na nx fa fx) (hg : W.grownBy W' (some am)) (fa' : Value → Option Value) (hm : MapG 9 W' am (na + 1) fa')
    (hS : ∀ (s : ByteArray) v, fa' (.string s) = some v → ∃ (i : Nat) (x : Value × List Tx), v = .int .i64 (i : Nat) ∧ C[i]? = some x ∧ s = ⟨(encS x.2).toArray⟩) (hT : na + 1 ≤ T) :
    Kn X W' n0 kb am nm cv g N c k kk S T C (na + 1) nx fa' fx ∧ KnKeep (ownK kb am nm cv) W W' := by
  obtain ⟨l1, l2, l3, l4, l5, l6⟩ := h.lt
  obtain ⟨n1, n2, n3⟩ := h.ne
  have hb : ∀ q, q < W.heap.size → q ≠ am → W'.heap[q]? = W.heap[q]? := fun q hq hn => hg.block q hq fun e => hn (by simpa using e)
  have hlow : Below n0 W W' := ⟨hg.os, hg.tape, hg.output, hg.size, fun q hq => hb q (by omega) (by omega)⟩
  refine ⟨⟨(hb kb h.kbl n1).trans h.box, (hlow.cell (p := ⟨kk, 0, none⟩) l1).trans h.kx, ⟨l1, l2, l3, l4, l5, Nat.le_trans l6 hg.size⟩, h.ne, h.len, fun j hj => ?_, owns_blockN h.come fun q e => hb q (h.come.lt q e).2 (h.cne q e).2.1, h.cne, fun x hx => ?_, (fun q hq => ⟨(h.xg q hq).1, Nat.lt_of_lt_of_le (h.xg q hq).2.1 hg.size, (h.xg q hq).2.2⟩), hm, h.nxM.kept (hb nm h.nxM.lt (Ne.symm n3)), ⟨by have := h.cnt; omega, by have := h.cnt; omega, by have := h.cnt; omega⟩, h.ok, hS, h.fxS⟩, ⟨hg.os, hg.tape, hg.output, hg.size, fun q hq hn => hb q hq fun e => hn (.inr (.inl e))⟩⟩
  · obtain ⟨v, h1, h2⟩ := h.sets j hj
    exact ⟨v, (hlow.cell (p := ⟨g, j, none⟩) l2).trans h1, h2.below hlow⟩
  · obtain ⟨h1, h2⟩ := h.each x hx
    exact ⟨row_keptB h1 hg.size fun h0 q e => hb q (h2 h0 q e).2.1 fun e2 => (h2 h0 q e).1 (.inr (.inl e2)), fun h0 q e => ⟨(h2 h0 q e).1, Nat.lt_of_lt_of_le (h2 h0 q e).2.1 hg.size, (h2 h0 q e).2.2⟩⟩
theorem strs_one1 (v : Value) (h : v.oneCell' = true) : ∀ u ∈ [v], u.oneCell' = true := by
  intro u hu; rw [List.mem_singleton.1 hu]; exact h
/-- One set more has been come to. -/
theorem Kn.push (h : Kn X W n0 kb am nm cv g N c k kk S T C na nx fa fx) (va : Option Addr) (vc : Nat) (l : List Tx) (hr : Row W W.heap.size 1 (.slice va l.length vc) l.length (svt l)) (hv : 0 < l.length → ∀ q, (Value.slice va l.length vc).ownBlock = some q → ¬ ownK kb am nm cv q ∧ q < W.heap.size ∧ ¬ X q) (hl : IsSet l ∧ Le k l ∧ l.length ≤ 600) (hT : T ≤ 2000000000000) (hC : C.length + 1 ≤ T + 1) :
    ∃ ca cc W2, Sem.run Try.prog (appM #[27, 27] 27 #[cv, .slice (some ⟨W.heap.size, 0, none⟩) 1 1]) (W.alloc (.cells #[.slice va l.length vc] 32)) = .ok (.slice ca (C.length + 1) cc) W2 ∧
      W2.cell? ⟨kb, 3, none⟩ = some cv ∧ W2.frozen? ⟨kb, 3, none⟩ = false ∧ kb < W2.heap.size ∧
      Kn X (W2.setCell ⟨kb, 3, none⟩ (.slice ca (C.length + 1) cc)) n0 kb am nm (.slice ca (C.length + 1) cc) g N c k kk S (T + 1) (C ++ [(.slice va l.length vc, l)]) na nx fa fx ∧
      KnKeep (ownK kb am nm cv) W (W2.setCell ⟨kb, 3, none⟩ (.slice ca (C.length + 1) cc)) ∧ (∀ q, ownK kb am nm (.slice ca (C.length + 1) cc) q → ownK kb am nm cv q ∨ W.heap.size ≤ q) := by
  obtain ⟨l1, l2, l3, l4, l5, l6⟩ := h.lt
  obtain ⟨n1, n2, n3⟩ := h.ne
  obtain ⟨i0, hi0, hz0, hz1, hz2⟩ := info_parts info_strs
  have rt : Row (W.alloc (.cells #[.slice va l.length vc] 32)) (W.heap.size + 1) 1 (.slice (some ⟨W.heap.size, 0, none⟩) 1 1) 1 [.slice va l.length vc] := row_cellsB W [.slice va l.length vc] 1 1 1 _ rfl (Nat.le_refl _) (by unfold maxLen; omega)
  obtain ⟨v', W2, h1, h2, h3, h4⟩ := run_append_row (P := Try.prog) (W.alloc (.cells #[.slice va l.length vc] 32)) 27 27 n0 32 i0 (.slice none 0 0) 1 24 Try.underlying27 hi0 hz0 hz1 hz2 rfl (by decide) cv C.length _ (h.come.alloc _) (W.heap.size + 1) _ 1 [.slice va l.length vc] rt (strs_one1 _ rfl) (by unfold maxLen; omega) (by omega) (by simp; omega)
  obtain ⟨ca, cc, rfl, _, _⟩ := owns_valPK h2
  rw [World.size_alloc] at h4
  have hs2 : W.heap.size ≤ W2.heap.size := Nat.le_trans (by simp) h3.size
  have hb2 : ∀ q, q < W.heap.size → cv.ownBlock ≠ some q → W2.heap[q]? = W.heap[q]? := fun q hq hn => by
    rw [h3.block q (by simp; omega) (fun e => hn e.symm), Below.heap_alloc _ _ _ hq]
  have hcb : ∀ q, (Value.slice ca (C.length + 1) cc).ownBlock = some q → cv.ownBlock = some q ∨ q = W.heap.size + 1 := fun q e => by
    rcases h4 with h5 | h5
    · exact .inl (h5 ▸ e)
    · rw [h5] at e; exact .inr (by have := Option.some.inj e; omega)
  have hkc : cv.ownBlock ≠ some kb := fun e => (h.cne kb e).1 rfl
  have hbox2 := (hb2 kb h.kbl hkc).trans h.box
  have hs3 : (W2.setCell ⟨kb, 3, none⟩ (.slice ca (C.length + 1) cc)).heap.size = W2.heap.size := by simp [World.setCell]
  have hb3 : ∀ q, q ≠ kb → (W2.setCell ⟨kb, 3, none⟩ (.slice ca (C.length + 1) cc)).heap[q]? = W2.heap[q]? := fun q hq => Below.heap_setCell _ _ _ _ hq
  have hb : ∀ q, q < W.heap.size → cv.ownBlock ≠ some q → q ≠ kb → (W2.setCell ⟨kb, 3, none⟩ (.slice ca (C.length + 1) cc)).heap[q]? = W.heap[q]? := fun q hq hn hk => (hb3 q hk).trans (hb2 q hq hn)
  have hlow : Below n0 W (W2.setCell ⟨kb, 3, none⟩ (.slice ca (C.length + 1) cc)) := ⟨h3.os, h3.tape, h3.output, by rw [hs3]; exact hs2, fun q hq => hb q (by omega) (fun e => by have := (h.come.lt q e).1; omega) (by omega)⟩
  have hkb2 : kb < W2.heap.size := Nat.lt_of_lt_of_le h.kbl hs2
  refine ⟨ca, cc, W2, h1, by rw [cell_of_row W2 kb _ _ _ (0, 0) hbox2]; rfl, by simp [World.frozen?, hbox2], hkb2, ⟨?_, (hlow.cell (p := ⟨kk, 0, none⟩) l1).trans h.kx, ⟨l1, l2, l3, l4, l5, by rw [hs3]; omega⟩, h.ne, h.len, fun j hj => ?_, ?_, fun q e => ?_, fun x hx => ?_, (fun q hq => ⟨(h.xg q hq).1, by rw [hs3]; exact Nat.lt_of_lt_of_le (h.xg q hq).2.1 hs2, fun ho => by
    have h9 := h.xg q hq
    rcases ho with h5 | h5 | h5 | h5
    · exact h9.2.2 (.inl h5)
    · exact h9.2.2 (.inr (.inl h5))
    · exact h9.2.2 (.inr (.inr (.inl h5)))
    · rcases hcb q h5 with h6 | h6
      · exact h9.2.2 (.inr (.inr (.inr h6)))
      · omega⟩), h.atM.kept (hb am h.atM.lt (fun e => (h.cne am e).2.1 rfl) (Ne.symm n1)), h.nxM.kept (hb nm h.nxM.lt (fun e => (h.cne nm e).2.2 rfl) (Ne.symm n2)), ⟨by rw [List.length_append]; simp; omega, by have := h.cnt; omega, by have := h.cnt; omega⟩, fun x hx => ?_, fun s v hf => ?_, fun j t n v hf => ?_⟩, ⟨h3.os, h3.tape, h3.output, by rw [hs3]; exact hs2, fun q hq hn => hb q hq (fun e => hn (.inr (.inr (.inr e)))) fun e => hn (.inl e)⟩, fun q hq => ?_⟩
  · rw [ptr_set hbox2 3 _]; simp
  · obtain ⟨v, h5, h6⟩ := h.sets j hj
    exact ⟨v, (hlow.cell (p := ⟨g, j, none⟩) l2).trans h5, h6.below hlow⟩
  · have e : (C ++ [((.slice va l.length vc : Value), l)]).map (·.1) = C.map (·.1) ++ [.slice va l.length vc] := by simp
    rw [e, List.length_append, List.length_singleton]
    exact owns_blockN h2 fun q e => hb3 q fun e2 => by
      rcases hcb q e with h5 | h5
      · exact (h.cne q h5).1 e2
      · have := h.kbl; omega
  · rcases hcb q e with h5 | h5
    · exact h.cne q h5
    · have := h.kbl; have := h.atM.lt; have := h.nxM.lt; exact ⟨by omega, by omega, by omega⟩
  · have hnew : ∀ q, q < W.heap.size → ¬ ownK kb am nm cv q → ¬ ownK kb am nm (.slice ca (C.length + 1) cc) q := fun q hq hn ho => by
      rcases ho with h5 | h5 | h5 | h5
      · exact hn (.inl h5)
      · exact hn (.inr (.inl h5))
      · exact hn (.inr (.inr (.inl h5)))
      · rcases hcb q h5 with h6 | h6
        · exact hn (.inr (.inr (.inr h6)))
        · omega
    have key : ∀ (u : Value) (xs : List Tx), Row W W.heap.size 1 u xs.length (svt xs) → (0 < xs.length → ∀ q, u.ownBlock = some q → ¬ ownK kb am nm cv q ∧ q < W.heap.size ∧ ¬ X q) → Row (W2.setCell ⟨kb, 3, none⟩ (.slice ca (C.length + 1) cc)) (W2.setCell ⟨kb, 3, none⟩ (.slice ca (C.length + 1) cc)).heap.size 1 u xs.length (svt xs) ∧ (0 < xs.length → ∀ q, u.ownBlock = some q → ¬ ownK kb am nm (.slice ca (C.length + 1) cc) q ∧ q < (W2.setCell ⟨kb, 3, none⟩ (.slice ca (C.length + 1) cc)).heap.size ∧ ¬ X q) := fun u xs h5 h6 =>
      ⟨row_keptB h5 (by rw [hs3]; exact hs2) fun h0 q e => hb q (h6 h0 q e).2.1 (fun e2 => (h6 h0 q e).1 (.inr (.inr (.inr e2)))) fun e2 => (h6 h0 q e).1 (.inl e2), fun h0 q e => ⟨hnew q (h6 h0 q e).2.1 (h6 h0 q e).1, by rw [hs3]; exact Nat.lt_of_lt_of_le (h6 h0 q e).2.1 hs2, (h6 h0 q e).2.2⟩⟩
    rcases List.mem_append.1 hx with h5 | h5
    · exact key x.1 x.2 (h.each x h5).1 (h.each x h5).2
    · rw [List.mem_singleton.1 h5]; exact key _ _ hr hv
  · rcases List.mem_append.1 hx with h5 | h5
    · exact h.ok x h5
    · rw [List.mem_singleton.1 h5]; exact hl
  · obtain ⟨i, x, h5, h6, h7⟩ := h.faS s v hf
    exact ⟨i, x, h5, by rw [List.getElem?_append_left (List.getElem?_eq_some_iff.1 h6).1]; exact h6, h7⟩
  · obtain ⟨x, h5, h6⟩ := h.fxS j t n v hf
    refine ⟨x, by rw [List.getElem?_append_left (List.getElem?_eq_some_iff.1 h5).1]; exact h5, h6.imp id fun ⟨m, y, h7, h8, h9⟩ => ⟨m, y, h7, by rw [List.getElem?_append_left (List.getElem?_eq_some_iff.1 h8).1]; exact h8, h9⟩⟩
  · rcases hq with h5 | h5 | h5 | h5
    · exact .inl (.inl h5)
    · exact .inl (.inr (.inl h5))
    · exact .inl (.inr (.inr (.inl h5)))
    · rcases hcb q h5 with h6 | h6
      · exact .inl (.inr (.inr (.inr h6)))
      · exact .inr (by omega)
end
end Go.Proofs.Ytimgnbacgdmiiaa
