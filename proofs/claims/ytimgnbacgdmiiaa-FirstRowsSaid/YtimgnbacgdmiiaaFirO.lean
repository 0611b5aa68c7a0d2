/-
  Stage 14's few.
-/
import Derived.Test.YtimgnbacgdmiiaaFirN
namespace Go.Proofs.Ytimgnbacgdmiiaa
open Go.RowKit PK
set_option linter.unusedVariables false
set_option linter.unusedSimpArgs false
attribute [local go_sem ↓] append_appM

def cut4 (p : Pr) : Pr := ⟨p.left, p.right.take 4⟩
def few14B (b : Bn) : Bn := let c := fewB 8 14 b; ⟨c.toks, c.look, c.of, c.l.map cut4⟩
theorem owns_cut {w : World} {base n c m : Nat} {a : Option Addr} {l : List Sy} (h : w.ownsRow base 39 2 (.slice a n c) n (symC l)) (hm : m ≤ n) (hl : l.length = n) : w.ownsRow base 39 2 (.slice a m c) m (symC (l.take m)) := by
  have e : symC (l.take m) = (symC l).take (m * 2) := by rw [symC_take]
  rcases h.2 with ⟨hv, hn⟩ | ⟨g, cap, cur, hv, hb, hg, h1, h2, h3, h4⟩
  · simp only [Value.slice.injEq] at hv
    obtain ⟨rfl, rfl, rfl⟩ := hv
    obtain rfl : m = 0 := by omega
    exact World.ownsRow_nil _ _ _ _
  · simp only [Value.slice.injEq] at hv
    obtain ⟨rfl, _, rfl⟩ := hv
    refine ⟨by rw [e, List.length_take, h.1]; omega, .inr ⟨g, c, cur, rfl, hb, hg, by omega, h2, h3, ?_⟩⟩
    rw [e, ← h4, List.take_take]
    congr 1; omega
/-- Productions that are cut one by one. -/
structure CPr (w : World) (n0 g n c : Nat) (X : List Cp) : Prop where
  lt : n0 ≤ g ∧ g < w.heap.size
  len : X.length = n
  out : w.ownsRow n0 57 2 (.slice (some ⟨g, 0, none⟩) n c) n (outP X)
  each : ∀ x ∈ X, w.ownsRow n0 39 2 x.rv x.right.length (symC x.right)
  ap : ∀ x ∈ X, ∀ k, x.rv.ownBlock = some k → k ≠ g
def cutCp (x : Cp) (v : Value) : Cp := ⟨x.left, v, x.right.take 4⟩
theorem outP_set (X : List Cp) (i : Nat) (x : Cp) (v : Value) (hx : X[i]? = some x) : (outP X).set (i * 2 + 1) v = outP (X.set i (cutCp x v)) := by
  induction X generalizing i with
  | nil => simp at hx
  | cons y X ih =>
    have e : outP (y :: X) = .int .i64 y.left :: y.rv :: outP X := by simp [outP]
    cases i with
    | zero =>
      simp at hx; subst hx
      rw [e]
      simp [outP, cutCp]
    | succ i =>
      rw [e, show (i + 1) * 2 + 1 = i * 2 + 1 + 1 + 1 by omega, List.set_cons_succ, List.set_cons_succ, ih i (by simpa using hx), List.set_cons_succ]
      simp [outP]
theorem CPr.cut {w : World} {n0 g n c : Nat} {X : List Cp} (h : CPr w n0 g n c X) (i : Nat) (x : Cp) (hx : X[i]? = some x) (a : Option Addr) (d : Nat) (hv : x.rv = .slice a x.right.length d) :
    CPr (w.setCell ⟨g, i * 2 + 1, none⟩ (.slice a (x.right.take 4).length d)) n0 g n c (X.set i (cutCp x (.slice a (x.right.take 4).length d))) := by
  have hs : (w.setCell ⟨g, i * 2 + 1, none⟩ (.slice a (x.right.take 4).length d)).heap.size = w.heap.size := by simp [World.setCell]
  have hb : ∀ q, q ≠ g → (w.setCell ⟨g, i * 2 + 1, none⟩ (.slice a (x.right.take 4).length d)).heap[q]? = w.heap[q]? := fun q hq => Below.heap_setCell _ _ _ _ hq
  have hil := (List.getElem?_eq_some_iff.1 hx).1
  have hxm := List.mem_of_getElem? hx
  have hol : (outP X).length = X.length * 2 := by have := h.out.1; rw [h.len]; omega
  refine ⟨⟨h.lt.1, by rw [hs]; exact h.lt.2⟩, by rw [List.length_set]; exact h.len, ?_, fun y hy => ?_, fun y hy k e => ?_⟩
  · rw [← outP_set X i x _ hx]
    exact owns_setN h.out (i * 2 + 1) (by omega) _
  · rcases List.mem_or_eq_of_mem_set hy with h1 | h1
    · exact owns_blockN (h.each y h1) fun q e => hb q (h.ap y h1 q e)
    · subst h1
      have h2 := h.each x hxm
      rw [hv] at h2
      have h3 := owns_cut h2 (show (x.right.take 4).length ≤ x.right.length by rw [List.length_take]; omega) rfl
      have e4 : x.right.take (x.right.take 4).length = x.right.take 4 := by rw [List.length_take, Nat.min_comm, ← List.take_take]; exact List.take_of_length_le (by rw [List.length_take]; omega)
      rw [e4] at h3
      refine owns_blockN h3 fun q e => hb q (h.ap x hxm q ?_)
      rw [hv]; cases a <;> exact e
  · rcases List.mem_or_eq_of_mem_set hy with h1 | h1
    · exact h.ap y h1 k e
    · subst h1
      refine h.ap x hxm k ?_
      rw [hv]; cases a <;> exact e
theorem CPr.below {w w' : World} {n0 g n c : Nat} {X : List Cp} (h : CPr w n0 g n c X) (hb : Below w.heap.size w w') : CPr w' n0 g n c X :=
  ⟨⟨h.lt.1, Nat.lt_of_lt_of_le h.lt.2 hb.size⟩, h.len, owns_belowP h.out hb, fun x hx => owns_belowP (h.each x hx) hb, h.ap⟩
theorem prsOf_set (X : List Cp) (i : Nat) (x : Cp) (v : Value) (hx : X[i]? = some x) : prsOf (X.set i (cutCp x v)) = (prsOf X).set i (cut4 ⟨x.left, x.right⟩) := by
  unfold prsOf; rw [List.map_set]; rfl
theorem agg_box14 (w : World) (tk lk : Int) (ov lv : Value) : Below w.heap.size w (w.alloc (.cells #[.int .i64 tk, .int .i64 lk, ov, lv] 25)) := (Below.refl w.heap.size w).alloc (Nat.le_refl _) _
/-- What stage 14's few answers. -/
def Few14P (w : World) (tk lk : Int) (B : Bn) (e : Ending) (w' : World) : Prop := ∃ o l, e = .returned (.agg #[.int .i64 tk, .int .i64 lk, o, l]) ∧ (∀ W' : World, (∀ k, w.heap.size + 2 ≤ k → W'.heap[k]? = w'.heap[k]?) → W'.heap.size = w'.heap.size → BR W' w'.heap.size o l B) ∧ Below w.heap.size w w'
theorem four_far {W : World} {b k : Nat} (u0 u1 u2 u3 : Value) (h : k ≠ b) : ((((W.setCell ⟨b, 0, none⟩ u0).setCell ⟨b, 1, none⟩ u1).setCell ⟨b, 2, none⟩ u2).setCell ⟨b, 3, none⟩ u3).heap[k]? = W.heap[k]? := by
  have hne : ∀ j : Nat, k ≠ (⟨b, j, none⟩ : Addr).block := fun j => h
  rw [Below.heap_setCell _ _ _ _ (hne 3), Below.heap_setCell _ _ _ _ (hne 2), Below.heap_setCell _ _ _ _ (hne 1), Below.heap_setCell _ _ _ _ (hne 0)]
theorem CPr.pr {w W' : World} {n0 g n c : Nat} {X : List Cp} (h : CPr w n0 g n c X) (hk : ∀ k, n0 ≤ k → W'.heap[k]? = w.heap[k]?) (hs : W'.heap.size = w.heap.size) : PR W' w.heap.size (.slice (some ⟨g, 0, none⟩) n c) (prsOf X) := by
  have h1 : ∀ x ∈ X, W'.ownsRow n0 39 2 x.rv x.right.length (symC x.right) := fun x hx => owns_blockN (h.each x hx) fun q e => hk q ((h.each x hx).lt q e).1
  have h2 : W'.ownsRow n0 57 2 (.slice (some ⟨g, 0, none⟩) n c) n (outP X) := owns_blockN h.out fun q e => hk q (h.out.lt q e).1
  have hl : (prsOf X).length = n := by rw [prsOf_len]; exact h.len
  refine ⟨X.map fun x => [.int .i64 x.left, x.rv], ?_, by simp [prsOf], fun c hc => ?_, fun i hi => ?_⟩
  · have e : (X.map fun x => [Value.int .i64 x.left, x.rv]).flatten = outP X := rfl
    rw [e, hl, ← hs]; exact Row.of_owns h2
  · obtain ⟨x, _, rfl⟩ := List.mem_map.1 hc; rfl
  · have hi' : i < X.length := by rw [prsOf_len] at hi; exact hi
    have h3 := Row.of_owns (h1 _ (List.getElem_mem hi'))
    rw [hs] at h3
    have e : (prsOf X)[i] = ⟨X[i].left, X[i].right⟩ := by simp [prsOf]
    rw [e]
    exact ⟨X[i].rv, by simp [hi'], h3⟩
theorem outP_at (X : List Cp) (i : Nat) (hi : i < X.length) : (outP X)[i * 2 + 1]? = some X[i].rv := by
  induction X generalizing i with
  | nil => simp at hi
  | cons y X ih =>
    have e : outP (y :: X) = .int .i64 y.left :: y.rv :: outP X := by simp [outP]
    cases i with
    | zero => rw [e]; rfl
    | succ i => rw [e, show (i + 1) * 2 + 1 = i * 2 + 1 + 1 + 1 by omega, List.getElem?_cons_succ, List.getElem?_cons_succ, ih i (by simpa using hi)]; rfl
theorem CPr.made {w : World} {n0 n : Nat} {o l : Value} {X : List Cp} {ofs : List Int} (h : FewO w n0 o l X ofs) (hn : X.length = n) (h0 : 0 < n) : ∃ g c, l = .slice (some ⟨g, 0, none⟩) n c ∧ CPr w n0 g n c X ∧ (∀ k, o.ownBlock = some k → k ≠ g) := by
  have h1 := h.prs.out
  rw [hn] at h1
  obtain ⟨a, c, rfl, _, _⟩ := owns_valP h1
  obtain ⟨g, rfl, h2, h3, _, _⟩ := owns_cellN h1 h0
  refine ⟨g, c, rfl, ⟨⟨h2, h3⟩, hn, h1, h.prs.each, fun x hx k e hk => ?_⟩, fun k e hk => ?_⟩
  · subst hk
    have := (List.pairwise_cons.1 h.prs.apart).1 x.rv (List.mem_map.2 ⟨x, hx, rfl⟩)
    rcases this with h4 | h4
    · cases h4
    · exact h4 e.symm
  · subst hk; exact h.ofa _ List.mem_cons_self k rfl e
/-- The walk's state: the box of the cut grammar. -/
structure FS (w : World) (n0 b4 : Nat) (tk lk : Int) (o l : Value) (ofs : List Int) (X : List Cp) : Prop where
  ptr : w.heap[b4]? = some (.cells #[.int .i64 tk, .int .i64 lk, o, l] 25 (0, 0))
  of : w.ownsRow n0 3 1 o ofs.length (ints ofs)
  row : (X = [] ∧ Prs w n0 l []) ∨ ∃ g c, l = .slice (some ⟨g, 0, none⟩) X.length c ∧ CPr w n0 g X.length c X ∧ (∀ k, o.ownBlock = some k → k ≠ g) ∧ g < b4
theorem FS.made {w : World} {n0 : Nat} {tk lk : Int} {o l : Value} {X : List Cp} {ofs : List Int} (h : FewO w n0 o l X ofs) : FS (w.alloc (.cells #[.int .i64 tk, .int .i64 lk, o, l] 25)) n0 w.heap.size tk lk o l ofs X := by
  have hb := (Below.refl w.heap.size w).alloc (Nat.le_refl _) (.cells #[.int .i64 tk, .int .i64 lk, o, l] 25)
  refine ⟨Array.getElem?_push_size, owns_belowP h.of hb, ?_⟩
  rcases Nat.eq_zero_or_pos X.length with h0 | h0
  · obtain rfl := List.length_eq_zero_iff.1 h0
    exact .inl ⟨rfl, h.prs.below hb⟩
  · obtain ⟨g, c, h1, h2, h3⟩ := CPr.made h rfl h0
    exact .inr ⟨g, c, h1, h2.below hb, h3, h2.lt.2⟩
theorem FS.br {w W' : World} {n0 b4 : Nat} {tk lk : Int} {o l : Value} {X : List Cp} {ofs : List Int} (h : FS w n0 b4 tk lk o l ofs X) (hk : ∀ k, n0 ≤ k → W'.heap[k]? = w.heap[k]?) (hs : W'.heap.size = w.heap.size) : BR W' w.heap.size o l ⟨tk, lk, ofs, prsOf X⟩ := by
  refine ⟨?_, ?_⟩
  · have h1 : W'.ownsRow n0 3 1 o ofs.length (ints ofs) := owns_blockN h.of fun q e => hk q (h.of.lt q e).1
    rw [← hs]; exact Row.of_owns h1
  · rcases h.row with ⟨rfl, h1⟩ | ⟨g, c, rfl, h1, _, _⟩
    · have h2 := (h1.keep (w' := W') fun k ⟨u, hu, e⟩ => hk k (h1.lt hu e).1).pr
      rw [← hs]; exact h2
    · exact h1.pr hk hs
theorem FS.cell {w : World} {n0 b4 : Nat} {tk lk : Int} {o l : Value} {X : List Cp} {ofs : List Int} (h : FS w n0 b4 tk lk o l ofs X) :
    w.cell? ⟨b4, 0, none⟩ = some (.int .i64 tk) ∧ w.cell? ⟨b4, 1, none⟩ = some (.int .i64 lk) ∧ w.cell? ⟨b4, 2, none⟩ = some o ∧ w.cell? ⟨b4, 3, none⟩ = some l := by
  obtain ⟨q0, q1, q2, q3, _⟩ := four_cells h.ptr
  exact ⟨q0, q1, q2, q3⟩
theorem FS.round {w : World} {n0 b4 : Nat} {tk lk : Int} {o l : Value} {X : List Cp} {ofs : List Int} (h : FS w n0 b4 tk lk o l ofs X) (i : Nat) (hi : i < X.length) :
    ∃ g c a d, l = .slice (some ⟨g, 0, none⟩) X.length c ∧ X[i].rv = .slice a X[i].right.length d ∧ X[i].right.length ≤ d ∧ d ≤ maxLen ∧ g < w.heap.size ∧ n0 ≤ g ∧ w.cell? ⟨g, i * 2 + 1, none⟩ = some (.slice a X[i].right.length d) ∧ w.frozen? ⟨g, i * 2 + 1, none⟩ = false ∧
      FS (w.setCell ⟨g, i * 2 + 1, none⟩ (.slice a (X[i].right.take 4).length d)) n0 b4 tk lk o l ofs (X.set i (cutCp X[i] (.slice a (X[i].right.take 4).length d))) ∧ Below n0 w (w.setCell ⟨g, i * 2 + 1, none⟩ (.slice a (X[i].right.take 4).length d)) := by
  rcases h.row with ⟨rfl, _⟩ | ⟨g, c, rfl, h1, h2, h3⟩
  · simp at hi
  · have hx : X[i]? = some X[i] := List.getElem?_eq_getElem hi
    obtain ⟨a, d, hv, hd1, hd2⟩ := owns_valP (h1.each X[i] (List.getElem_mem hi))
    obtain ⟨g', hg', _, _, hc, hf⟩ := owns_cellN h1.out (by omega)
    simp only [Option.some.injEq, Addr.mk.injEq] at hg'
    obtain ⟨rfl, _⟩ := hg'
    have hcut := h1.cut i X[i] hx a d hv
    have hat := outP_at X i hi
    rw [hv] at hat
    refine ⟨g, c, a, d, rfl, hv, hd1, hd2, h1.lt.2, h1.lt.1, hc _ _ hat, hf _, ⟨?_, ?_, .inr ⟨g, c, ?_, ?_, h2, h3⟩⟩, (Below.refl n0 w).setCell h1.lt.1 _⟩
    · rw [Below.heap_setCell _ _ _ _ (show b4 ≠ g by omega)]; exact h.ptr
    · exact owns_blockN h.of fun q e => Below.heap_setCell _ _ _ _ (h2 q e)
    · rw [List.length_set]
    · rw [List.length_set]; exact hcut
theorem FS.same {w w' : World} {n0 b4 : Nat} {tk lk : Int} {o l : Value} {X : List Cp} {ofs : List Int} (h : FS w n0 b4 tk lk o l ofs X) (e : w'.heap = w.heap) : FS w' n0 b4 tk lk o l ofs X := by
  have hk : ∀ k : Nat, w'.heap[k]? = w.heap[k]? := fun k => by rw [e]
  refine ⟨by rw [hk]; exact h.ptr, owns_blockN h.of fun q _ => hk q, ?_⟩
  rcases h.row with ⟨rfl, h1⟩ | ⟨g, c, rfl, h1, h2, h3⟩
  · exact .inl ⟨rfl, h1.keep fun k _ => hk k⟩
  · exact .inr ⟨g, c, rfl, ⟨⟨h1.lt.1, by rw [e]; exact h1.lt.2⟩, h1.len, owns_blockN h1.out fun q _ => hk q, fun x hx => owns_blockN (h1.each x hx) fun q _ => hk q, h1.ap⟩, h2, h3⟩
set_option maxHeartbeats 4000000 in
set_option maxRecDepth 100000 in
theorem few14_any (b : Bn) (tk lk : Int) (ov lv : Value) (B : Nat) (w : World) (etk : b.toks = tk) (elk : b.look = lk) (hB : B ≤ w.heap.size) (r : BR w B ov lv b) :
    Calls Try.prog 10 #[.agg #[.int .i64 tk, .int .i64 lk, ov, lv]] w (Few14P w tk lk (few14B b)) := by
  have hb1 := agg_box14 w tk lk ov lv
  have hb2 := (Below.refl _ (w.alloc (.cells #[.int .i64 tk, .int .i64 lk, ov, lv] 25))).alloc (Nat.le_refl _) (.cells #[.int .i64 0, .int .i64 0, .slice none 0 0, .slice none 0 0] 25)
  have hb12 := hb1.trans (hb2.mono hb1.size)
  have hs1 : (w.alloc (.cells #[.int .i64 tk, .int .i64 lk, ov, lv] 25)).heap.size = w.heap.size + 1 := by simp
  have hs2 : ((w.alloc (.cells #[.int .i64 tk, .int .i64 lk, ov, lv] 25)).alloc (.cells #[.int .i64 0, .int .i64 0, .slice none 0 0, .slice none 0 0] 25)).heap.size = w.heap.size + 2 := by simp
  have hp : ((w.alloc (.cells #[.int .i64 tk, .int .i64 lk, ov, lv] 25)).alloc (.cells #[.int .i64 0, .int .i64 0, .slice none 0 0, .slice none 0 0] 25)).heap[(w.alloc (.cells #[.int .i64 tk, .int .i64 lk, ov, lv] 25)).heap.size]? = some (.cells #[.int .i64 0, .int .i64 0, .slice none 0 0, .slice none 0 0] 25 (0, 0)) := Array.getElem?_push_size
  rw [hs1] at hp
  have hfew := few_prs b ov lv 8 14 (by decide) (by decide) B _ (Nat.le_trans hB hb12.size) (r.below (hb12.mono hB))
  rw [etk, elk] at hfew
  have q0 := fun j u h => (hb2.cell (p := ⟨w.heap.size, j, none⟩) (show w.heap.size < _ by rw [hs1]; omega)).trans (cell_new w #[.int .i64 tk, .int .i64 lk, ov, lv] 25 j u h)
  have c0 := q0 0 _ rfl
  have c1 := q0 1 _ rfl
  have c2 := q0 2 _ rfl
  have c3 := q0 3 _ rfl
  have Hfew := Lib.hid hfew; have Hb := Lib.hid hb12; have Hp := Lib.hid hp; have Hs2 := Lib.hid hs2
  clear hfew hb1 hb2 hb12 hp hs1 hs2 q0 r
  go_enter Try.func10, Try.ntmps10
  go_upto_region 1 with fail
  generalize (w.alloc (.cells #[.int .i64 tk, .int .i64 lk, ov, lv] 25)).alloc (.cells #[.int .i64 0, .int .i64 0, .slice none 0 0, .slice none 0 0] 25) = w2 at *
  go_wp2_with fail
  refine (Hfew.out).mono ?_
  rintro e w3 ⟨o3, l3, rfl, ⟨X, ofs, hX, hO⟩, hb3⟩
  have hF := FS.made (tk := tk) (lk := lk) (hO w3 (fun _ _ => rfl) rfl)
  have hb4 := hb3.trans (((Below.refl w3.heap.size w3).alloc (Nat.le_refl _) (.cells #[.int .i64 tk, .int .i64 lk, o3, l3] 25)).mono hb3.size)
  have hbt : Below w.heap.size w _ := Hb.out.trans (hb4.mono Hb.out.size)
  have hp4 := (hb4.block _ (show w.heap.size + 1 < w2.heap.size by have := Hs2.out; omega)).trans Hp.out
  have hXl : X.length = ((b.l.take 14).map cutP).length := by
    have := congrArg (fun c => c.l.length) hX
    simpa [prsOf_len, fewB] using this
  have hn14 : X.length ≤ 14 := by rw [hXl, List.length_map, List.length_take]; omega
  obtain ⟨n, hn⟩ : ∃ n, n = X.length := ⟨_, rfl⟩
  have hlv : ∃ a c, l3 = .slice a n c := by
    rcases hF.row with ⟨rfl, h1⟩ | ⟨g, c, h1, _⟩
    · obtain ⟨a, c, h2, _⟩ := owns_valP h1.out; exact ⟨a, c, by rw [hn]; exact h2⟩
    · exact ⟨_, c, by rw [hn]; exact h1⟩
  obtain ⟨la, lc, rfl⟩ := hlv
  obtain ⟨oa, oc, rfl, _, _⟩ := owns_valP hF.of
  obtain ⟨n0, hn0⟩ : ∃ n0, n0 = w2.heap.size + 2 := ⟨_, rfl⟩
  rw [← hn0] at hF
  have hq := hF.cell
  have hn3 : n0 ≤ w3.heap.size + 2 := by have := hb3.size; omega
  have HF := Lib.hid hF; have Hbt := Lib.hid hbt; have Hp4 := Lib.hid hp4; have HX := Lib.hid hX; have Hn := Lib.hid hn; have Hn0 := Lib.hid hn0; have Hb3 := Lib.hid hb3
  clear hF hb3 hb4 hbt hp4 hX hXl hn0 hO
  clear Hb Hp Hfew hB hq hn
  go_wp2_with fail
  go_loopw [4] (fun iv wr => ∃ (i : Nat) (X' : List Cp), i ≤ n ∧ iv = .int .i64 (i : Nat) ∧ Hid (FS wr n0 w3.heap.size tk lk (.slice oa ofs.length oc) (.slice la n lc) ofs X') ∧ Hid (prsOf X' = ((prsOf X).take i).map cut4 ++ (prsOf X).drop i) ∧ Hid (Below n0 (w3.alloc (.cells #[.int .i64 tk, .int .i64 lk, .slice oa ofs.length oc, .slice la n lc] 25)) wr)) (fun iv _ => n - (intOf iv).toNat)
  case atStart => exact ⟨0, X, Nat.zero_le _, rfl, HF, Lib.hid (by simp), Lib.hid (Below.refl _ _)⟩
  case round =>
    obtain ⟨i, X', hi, rfl, HFr, HX', HBr⟩ := hrel
    obtain ⟨c0, c1, c2, c3⟩ := HFr.out.cell
    have hl' : X'.length = n := by
      have h1 := congrArg List.length HX'.out
      rw [prsOf_len] at h1
      simp [prsOf_len] at h1
      have := Hn.out; omega
    by_cases hlt : i < n
    · obtain ⟨g, c, a, d, hls, hrv, hd1, hd2, hg, hgn, hcell, hfr, hF2, hB2⟩ := HFr.out.round i (by omega)
      simp only [Value.slice.injEq] at hls
      obtain ⟨rfl, hls', rfl⟩ := hls
      clear hls'
      have hX2 : prsOf (X'.set i (cutCp X'[i] (.slice a (X'[i].right.take 4).length d))) = ((prsOf X).take (i + 1)).map cut4 ++ (prsOf X).drop (i + 1) := by
        rw [prsOf_set X' i X'[i] _ (List.getElem?_eq_getElem (by omega)), HX'.out]
        have hix : i < (prsOf X).length := by rw [prsOf_len]; have := Hn.out; omega
        have e0 : (⟨X'[i].left, X'[i].right⟩ : Pr) = (prsOf X)[i] := by
          have h1 : (prsOf X')[i]? = some ⟨X'[i].left, X'[i].right⟩ := by simp [prsOf, show i < X'.length by omega]
          rw [HX'.out, List.getElem?_append_right (by simp; omega)] at h1
          simp [List.length_take, Nat.min_eq_left (Nat.le_of_lt hix)] at h1
          have h2 := List.getElem?_eq_getElem hix
          rw [h2] at h1
          exact (Option.some.inj h1).symm
        rw [e0, List.set_append_right _ _ (by simp; omega), List.take_succ_eq_append_getElem hix, List.map_append, List.append_assoc]
        congr 1
        simp only [List.length_map, List.length_take, Nat.min_eq_left (Nat.le_of_lt hix), Nat.sub_self]
        rw [List.drop_eq_getElem_cons hix]
        simp only [List.set_cons_zero, List.map_cons, List.map_nil, List.cons_append, List.nil_append]
      generalize X'.set i (cutCp X'[i] (.slice a (X'[i].right.take 4).length d)) = X2 at hF2 hX2
      have HF2 := Lib.hid hF2; have HX2 := Lib.hid hX2; have HB2 := Lib.hid (HBr.out.trans hB2)
      have hmin : (X'[i].right.take 4).length = min X'[i].right.length 4 := by rw [List.length_take, Nat.min_comm]
      generalize (X'[i].right.take 4).length = m4 at *
      generalize X'[i].right.length = m at *
      have q4 : m4 ≤ d := by omega
      have q5 : min (m : Int) 4 = (m4 : Int) := by omega
      have Q5 := Lib.hid q5
      clear q5 hmin
      have q2 : (m4 : Int) ≤ (d : Int) := by omega
      have hin : (i : Int) < (n : Int) := by omega
      have hi0 : (0 : Int) ≤ (i : Int) := by omega
      have hi9 : (i : Int) ≤ 14 := by have := Hn.out; omega
      have Hlt := Lib.hid hlt; have Hl' := Lib.hid hl'
      clear hF2 hX2 hB2 hrv hlt hl' hi
      go_upto_region 6 with fail
      have HS5 := Lib.hid (And.intro c3 (And.intro hcell hfr))
      refine wp_region_ord 10 [(0, true), (1, true), (2, true), (3, true), (4, true), (5, true), (6, true), (7, true), (8, true), (9, true), (10, false)] (fun w' => w'.cell? ⟨w3.heap.size, 3, none⟩ = some (.slice (some ⟨g, 0, none⟩) n lc) ∧ w'.cell? ⟨g, i * 2 + 1, none⟩ = some (.slice a m d) ∧ w'.frozen? ⟨g, i * 2 + 1, none⟩ = false) (by kernel_rfl) (by kernel_rfl) HS5.out ?_
      simp only [ordL, List.getElem?_toArray, List.getElem?_cons_succ, List.getElem?_cons_zero]
      iterate 10 (
        refine ordW_read (v := ?_) (by rfl) ?_ (fun _ _ _ h => h) ?_
        rotate_left
        focus (intro w' hS; obtain ⟨s0, s1, s2⟩ := hS; go_simp; (try rw [Q5.out]); (try with_reducible rfl); done)
        try simp only [Act.put, List.setIfInBounds_toArray, List.set_cons_zero, List.set_cons_succ])
      refine ordW_do (by rfl) (fun K' HK => ?_)
      go_simp
      refine HK.out _ _ (fun h => absurd rfl h) (ordW_nil ?_)
      clear HK K'
      go_wp2_with fail
      go_roundw
      case rel => exact ⟨i + 1, X2, Hlt.out, by go_num, Lib.hid (HF2.out.same (by rfl)), HX2, Lib.hid (by first | exact HB2.out.drew | exact (HBr.out.drew).setCell hgn _)⟩
      case measure => have := Hlt.out; simp [intOf]; omega
    · have hk0 : decide (i < n) = false := decide_eq_false hlt
      have hk1 : ¬ (i : Int) < (n : Int) := by omega
      have hX2 : (⟨tk, lk, ofs, prsOf X'⟩ : Bn) = few14B b := by
        have h1 : i = n := by omega
        have h2 := HX'.out
        rw [h1, Hn.out, List.take_of_length_le (by rw [prsOf_len]; exact Nat.le_refl _), List.drop_of_length_le (by rw [prsOf_len]; exact Nat.le_refl _), List.append_nil] at h2
        show _ = (⟨(fewB 8 14 b).toks, (fewB 8 14 b).look, (fewB 8 14 b).of, (fewB 8 14 b).l.map cut4⟩ : Bn)
        rw [← HX.out, h2]
      have hb5 : Below w.heap.size w wr := Hbt.out.trans (HBr.out.mono (by have := Hn0.out; have := Hs2.out; omega))
      have hpr := (HBr.out.block _ (show w.heap.size + 1 < n0 by have := Hn0.out; have := Hs2.out; omega)).trans Hp4.out
      have hn02 : w.heap.size + 2 ≤ n0 := by have := Hn0.out; have := Hs2.out; omega
      have Hfin : ∀ W' : World, (∀ k, w.heap.size + 2 ≤ k → W'.heap[k]? = ((((wr.setCell ⟨w.heap.size + 1, 0, none⟩ (.int .i64 tk)).setCell ⟨w.heap.size + 1, 1, none⟩ (.int .i64 lk)).setCell ⟨w.heap.size + 1, 2, none⟩ (.slice oa ofs.length oc)).setCell ⟨w.heap.size + 1, 3, none⟩ (.slice la n lc)).heap[k]?) → W'.heap.size = wr.heap.size → BR W' wr.heap.size (.slice oa ofs.length oc) (.slice la n lc) ⟨tk, lk, ofs, prsOf X'⟩ := fun W' hk hs => HFr.out.br (fun k h2 => by
        rw [hk k (by omega), four_far _ _ _ _ (by omega)]) hs
      have Hb4 := Lib.hid (below_four hb5 (show w.heap.size ≤ w.heap.size + 1 by omega) (.int .i64 tk) (.int .i64 lk) (.slice oa ofs.length oc) (.slice la n lc))
      have hqs : ((((wr.setCell ⟨w.heap.size + 1, 0, none⟩ (.int .i64 tk)).setCell ⟨w.heap.size + 1, 1, none⟩ (.int .i64 lk)).setCell ⟨w.heap.size + 1, 2, none⟩ (.slice oa ofs.length oc)).setCell ⟨w.heap.size + 1, 3, none⟩ (.slice la n lc)).heap.size = wr.heap.size := by simp [World.setCell]
      obtain ⟨p0, p1, p2, p3, q5, q6, q7, q8, _⟩ := four_cells hpr
      obtain ⟨r5, r6, r7, r8, _⟩ := four_cells (four_set hpr (.int .i64 tk) (.int .i64 lk) (.slice oa ofs.length oc) (.slice la n lc))
      have HX2 := Lib.hid hX2; have HFin := Lib.hid Hfin; have Hqs := Lib.hid hqs
      clear hX2 hb5 hpr hn02 Hfin hqs hlt hi hl'
      go_wp2_with fail
      refine bodyPost_ret (v := .agg #[.int .i64 tk, .int .i64 lk, .slice oa ofs.length oc, .slice la n lc]) (by simp [results, Try.results10, go_sem, r5, r6, r7, r8]) rfl ?_
      refine ⟨_, _, rfl, ?_, Hb4.out⟩
      rw [Hqs.out, ← HX2.out]; exact HFin.out
end Go.Proofs.Ytimgnbacgdmiiaa
