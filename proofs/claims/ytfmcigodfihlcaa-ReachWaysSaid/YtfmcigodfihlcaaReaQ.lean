/-
  Stage 11's sample and works.
-/
import Derived.Test.YtfmcigodfihlcaaReaP
import Derived.Test.YtfmcigodfihlcaaEmpJ
namespace Go.Proofs.Ytfmcigodfihlcaa
open Go.RowKit PK
set_option linter.unusedVariables false
set_option linter.unusedSimpArgs false
attribute [local go_sem ↓] append_appM

/-- The chapter's sample rules. -/
def smp11 : Bn := ⟨1, 1, [-1, -1], [⟨0, [⟨false, 1⟩, ⟨true, 1⟩]⟩, ⟨1, [⟨false, 0⟩]⟩, ⟨1, []⟩]⟩
theorem br_smp11 (w : World) (A : Obj) : ∃ W, W = ((((w.alloc A).alloc (.cells #[.int .i64 (-1), .int .i64 (-1)] 3)).alloc (.cells #[.bool false, .int .i64 1, .bool true, .int .i64 1] 54)).alloc (.cells #[.bool false, .int .i64 0] 54)).alloc (.cells #[.int .i64 0, .slice (some ⟨w.heap.size + 1 + 1, 0, none⟩) 2 2, .int .i64 1, .slice (some ⟨w.heap.size + 1 + 1 + 1, 0, none⟩) 1 1, .int .i64 1, .slice none 0 0] 51) ∧
    BR W W.heap.size (.slice (some ⟨w.heap.size + 1, 0, none⟩) 2 2) (.slice (some ⟨w.heap.size + 1 + 1 + 1 + 1, 0, none⟩) 3 3) smp11 ∧ Below w.heap.size w W ∧ Below (w.heap.size + 1) (w.alloc A) W := by
  have s1 : (w.alloc A).heap.size = w.heap.size + 1 := by simp
  obtain ⟨W1, hW1⟩ : ∃ W1, W1 = w.alloc A := ⟨_, rfl⟩
  have b1 : Below w.heap.size w W1 := by rw [hW1]; exact (Below.refl w.heap.size w).alloc (Nat.le_refl _) _
  rw [← hW1] at s1 ⊢
  have r1 := row_cellsB W1 (ints [-1, -1]) 1 2 2 3 rfl (Nat.le_refl _) (by unfold maxLen; omega)
  have s2 : (W1.alloc (.cells (ints [-1, -1]).toArray 3)).heap.size = W1.heap.size + 1 := by simp
  have b2 := (Below.refl W1.heap.size W1).alloc (Nat.le_refl _) (.cells (ints [-1, -1]).toArray 3)
  rw [show W1.alloc (.cells #[.int .i64 (-1), .int .i64 (-1)] 3) = W1.alloc (.cells (ints [-1, -1]).toArray 3) from rfl]
  generalize W1.alloc (.cells (ints [-1, -1]).toArray 3) = W2 at *
  have r2 := row_cellsB W2 (symC [⟨false, 1⟩, ⟨true, 1⟩]) 2 2 2 54 rfl (Nat.le_refl _) (by unfold maxLen; omega)
  have s3 : (W2.alloc (.cells (symC [⟨false, 1⟩, ⟨true, 1⟩]).toArray 54)).heap.size = W2.heap.size + 1 := by simp
  have b3 := (Below.refl W2.heap.size W2).alloc (Nat.le_refl _) (.cells (symC [⟨false, 1⟩, ⟨true, 1⟩]).toArray 54)
  rw [show W2.alloc (.cells #[.bool false, .int .i64 1, .bool true, .int .i64 1] 54) = W2.alloc (.cells (symC [⟨false, 1⟩, ⟨true, 1⟩]).toArray 54) from rfl]
  generalize W2.alloc (.cells (symC [⟨false, 1⟩, ⟨true, 1⟩]).toArray 54) = W3 at *
  have r3 := row_cellsB W3 (symC [⟨false, 0⟩]) 2 1 1 54 rfl (Nat.le_refl _) (by unfold maxLen; omega)
  have s4 : (W3.alloc (.cells (symC [⟨false, 0⟩]).toArray 54)).heap.size = W3.heap.size + 1 := by simp
  have b4 := (Below.refl W3.heap.size W3).alloc (Nat.le_refl _) (.cells (symC [⟨false, 0⟩]).toArray 54)
  rw [show W3.alloc (.cells #[.bool false, .int .i64 0] 54) = W3.alloc (.cells (symC [⟨false, 0⟩]).toArray 54) from rfl]
  generalize W3.alloc (.cells (symC [⟨false, 0⟩]).toArray 54) = W4 at *
  have r4 := row_cellsB W4 ([[.int .i64 0, .slice (some ⟨w.heap.size + 1 + 1, 0, none⟩) 2 2], [.int .i64 1, .slice (some ⟨w.heap.size + 1 + 1 + 1, 0, none⟩) 1 1], [.int .i64 1, .slice none 0 0]] : List (List Value)).flatten 2 3 3 51 rfl (Nat.le_refl _) (by unfold maxLen; omega)
  have s5 : (W4.alloc (.cells ([[.int .i64 0, .slice (some ⟨w.heap.size + 1 + 1, 0, none⟩) 2 2], [.int .i64 1, .slice (some ⟨w.heap.size + 1 + 1 + 1, 0, none⟩) 1 1], [.int .i64 1, .slice none 0 0]] : List (List Value)).flatten.toArray 51)).heap.size = W4.heap.size + 1 := by simp
  have b5 := (Below.refl W4.heap.size W4).alloc (Nat.le_refl _) (.cells ([[.int .i64 0, .slice (some ⟨w.heap.size + 1 + 1, 0, none⟩) 2 2], [.int .i64 1, .slice (some ⟨w.heap.size + 1 + 1 + 1, 0, none⟩) 1 1], [.int .i64 1, .slice none 0 0]] : List (List Value)).flatten.toArray 51)
  refine ⟨_, rfl, ?_⟩
  rw [show W4.alloc (.cells #[.int .i64 0, .slice (some ⟨w.heap.size + 1 + 1, 0, none⟩) 2 2, .int .i64 1, .slice (some ⟨w.heap.size + 1 + 1 + 1, 0, none⟩) 1 1, .int .i64 1, .slice none 0 0] 51) = W4.alloc (.cells ([[.int .i64 0, .slice (some ⟨w.heap.size + 1 + 1, 0, none⟩) 2 2], [.int .i64 1, .slice (some ⟨w.heap.size + 1 + 1 + 1, 0, none⟩) 1 1], [.int .i64 1, .slice none 0 0]] : List (List Value)).flatten.toArray 51) from rfl]
  generalize W4.alloc (.cells ([[.int .i64 0, .slice (some ⟨w.heap.size + 1 + 1, 0, none⟩) 2 2], [.int .i64 1, .slice (some ⟨w.heap.size + 1 + 1 + 1, 0, none⟩) 1 1], [.int .i64 1, .slice none 0 0]] : List (List Value)).flatten.toArray 51) = W5 at *
  rw [s1] at s2 r1 b2
  rw [s2] at s3 r2 b3
  rw [s3] at s4 r3 b4
  rw [s4] at s5 r4 b5
  rw [s5]
  have c4 := b5
  have c3 := b4.trans (c4.mono (by omega))
  have c2 := b3.trans (c3.mono (by omega))
  have c1 := b2.trans (c2.mono (by omega))
  refine ⟨⟨((r1.below c2).mono (by omega) : Row W5 _ 1 _ 2 (ints [-1, -1])), _, r4, rfl, fun c hc => ?_, fun i hi => ?_⟩, b1.trans (c1.mono (by omega)), c1⟩
  · simp only [List.mem_cons, List.not_mem_nil, or_false] at hc
    rcases hc with rfl | rfl | rfl <;> rfl
  · match i, hi with
    | 0, _ => exact ⟨_, rfl, (r2.below c3).mono (by omega)⟩
    | 1, _ => exact ⟨_, rfl, (r3.below c4).mono (by omega)⟩
    | 2, _ => exact ⟨_, rfl, (Row.of_owns (World.ownsRow_nil W5 0 54 2)).mono (by omega)⟩
set_option maxHeartbeats 1000000 in
theorem any_smp11 (w : World) : Calls Try.prog 51 #[] w fun e w' => ∃ o l, e = .returned (.agg #[.int .i64 1, .int .i64 1, o, l]) ∧ BR w' w'.heap.size o l smp11 ∧ Below w.heap.size w w' := by
  have hc := fun A => br_smp11 w A
  go_enter Try.func51, Try.ntmps51
  go_wp2_with fail
  obtain ⟨W, hW, hr, hb, hb2⟩ := hc (.cells #[.int .i64 1, .int .i64 1, .slice (some ⟨w.heap.size + 1, 0, none⟩) 2 2, .slice (some ⟨w.heap.size + 1 + 1 + 1 + 1, 0, none⟩) 3 3] 25)
  rw [← hW]
  have q := fun j u h => (hb2.cell (p := ⟨w.heap.size, j, none⟩) (Nat.lt_succ_self _)).trans (cell_new w #[.int .i64 1, .int .i64 1, .slice (some ⟨w.heap.size + 1, 0, none⟩) 2 2, .slice (some ⟨w.heap.size + 1 + 1 + 1 + 1, 0, none⟩) 3 3] 25 j u h)
  have q5 := q 0 _ rfl
  have q6 := q 1 _ rfl
  have q7 := q 2 _ rfl
  have q8 := q 3 _ rfl
  clear hc hW q
  refine bodyPost_ret (v := .agg #[.int .i64 1, .int .i64 1, .slice (some ⟨w.heap.size + 1, 0, none⟩) 2 2, .slice (some ⟨w.heap.size + 1 + 1 + 1 + 1, 0, none⟩) 3 3]) (by simp [results, Try.results51, go_sem, q5, q6, q7, q8]) rfl ?_
  exact ⟨_, _, rfl, hr, hb⟩
theorem may_smp11 : bmay smp11 = 0 := by decide
theorem toSetI_one (x : Int) : toSetI [x] = [x] := int_ext (toSetI_set _) (List.pairwise_singleton _ _) (toSetI_mem _)
theorem fn_smp11 (st : List Bool) (hst : Fix smp11 false st) : FN smp11 st 0 = [1] ∧ FN smp11 st 1 = [0] := by
  have h1 : st.length = 2 := hst.len
  have h2 : st[1]? = some true := hst.closed ⟨1, []⟩ (by simp [smp11]) rfl
  match st, h1 with
  | [x, y], _ =>
    simp at h2
    subst h2
    have e0 : rowTo smp11 (goneF false [x, true]) smp11.l.length 0 = [1] := by cases x <;> rfl
    have e1 : rowTo smp11 (goneF false [x, true]) smp11.l.length 1 = [0] := by cases x <;> rfl
    unfold FN nextI
    rw [e0, e1, toSetI_one, toSetI_one]; exact ⟨rfl, rfl⟩
theorem left_smp11 (st : List Bool) (hst : Fix smp11 false st) (p : Nat → Bool) (hp : ∀ j : Nat, p j = true ↔ Rc (FN smp11 st) (FN smp11 st (j : Int)) (j : Int)) : pick p smp11.of.length = [0, 1] := by
  obtain ⟨e0, e1⟩ := fn_smp11 st hst
  have h0 : p 0 = true := (hp 0).2 (.step (x := 1) (.base (by show (1 : Int) ∈ FN smp11 st 0; rw [e0]; simp)) (by show (0 : Int) ∈ FN smp11 st 1; rw [e1]; simp))
  have h1 : p 1 = true := (hp 1).2 (.step (x := 0) (.base (by show (0 : Int) ∈ FN smp11 st 1; rw [e1]; simp)) (by show (1 : Int) ∈ FN smp11 st 0; rw [e0]; simp))
  show pick p 2 = [0, 1]
  rw [pick_succ, pick_succ, h0, h1]; rfl
theorem way_smp11 (st : List Bool) (hst : Fix smp11 false st) (W : List Int) (s : Nat) (h : WayOk (FN smp11 st) 0 W s) : W = [0, 1, 0] := by
  obtain ⟨e0, e1⟩ := fn_smp11 st hst
  have hw : Wk (FN smp11 st) 2 0 0 := .snoc (.snoc .nil (y := 0) (z := 1) (by rw [e0]; simp)) (by rw [e1]; simp)
  have hs2 : s ≤ 2 := by
    rcases Nat.lt_or_ge 2 s with h1 | h1
    · exact absurd hw (h.least 2 (by omega) h1)
    · exact h1
  have hl := h.len
  have hp := h.pos
  have f0 := h.fst
  have fl := h.lst
  have htr := h.tr
  clear h hw
  rcases W with _ | ⟨a, _ | ⟨b, r⟩⟩
  · simp at hl
  · simp at hl; omega
  · simp at f0
    subst f0
    have hb : b ∈ FN smp11 st 0 := htr 0 0 b rfl rfl
    rw [e0] at hb; simp at hb; subst hb
    rcases r with _ | ⟨c, _ | ⟨d, r3⟩⟩
    · have : s = 1 := by simpa using hl.symm
      subst this
      simp at fl
    · have hc : c ∈ FN smp11 st 1 := htr 1 1 c rfl rfl
      rw [e1] at hc; simp at hc; subst hc; rfl
    · simp at hl; omega
theorem way_smp11c (st : List Bool) (hst : Fix smp11 false st) : Rc (FN smp11 st) (FN smp11 st 0) 0 := by
  obtain ⟨e0, e1⟩ := fn_smp11 st hst
  exact .step (x := 1) (.base (by rw [e0]; simp)) (by rw [e1]; simp)
/-- Left and Way of the sample. -/
theorem left11_any (o l : Value) (n : Nat) (w : World) (hB : n ≤ w.heap.size) (r : BR w n o l smp11) :
    Calls Try.prog 29 #[.agg #[.int .i64 1, .int .i64 1, o, l]] w fun e w' => ∃ a c, e = .returned (.tuple #[.slice a 2 c, .int .i64 0]) ∧ Row w' w'.heap.size 1 (.slice a 2 c) 2 (ints [0, 1]) ∧ Below w.heap.size w w' := by
  refine (left_any smp11 1 1 o l n w rfl rfl hB r).mono ?_
  rintro e w2 ⟨⟨h2, _⟩ | ⟨_, v, p, st, rfl, hF, hp, ho⟩, b2⟩
  · exact absurd may_smp11 h2
  · rw [left_smp11 st hF p hp] at ho
    obtain ⟨a, c, rfl, _, _⟩ := owns_valP ho
    exact ⟨a, c, rfl, Row.of_owns ho, b2⟩
theorem way11_any (o l : Value) (n : Nat) (w : World) (hB : n ≤ w.heap.size) (r : BR w n o l smp11) :
    Calls Try.prog 33 #[.agg #[.int .i64 1, .int .i64 1, o, l], .int .i64 0] w fun e w' => ∃ a c, e = .returned (.slice a 3 c) ∧ Row w' w'.heap.size 1 (.slice a 3 c) 3 (ints [0, 1, 0]) ∧ Below w.heap.size w w' := by
  refine (way_any smp11 1 1 0 o l n w rfl rfl hB r).mono ?_
  rintro e w2 ⟨⟨h2 | h2, _⟩ | ⟨_, _, st, hF, ⟨h3, _⟩ | ⟨W, s, v, hW, _, _, rfl, ho⟩⟩, b2⟩
  · exact absurd may_smp11 h2
  · exact absurd ⟨by decide, by decide⟩ h2
  · exact absurd (way_smp11c st hF) h3
  · have e := way_smp11 st hF W s hW
    subst e
    obtain ⟨a, c, rfl, _, _⟩ := owns_valP ho
    exact ⟨a, c, rfl, Row.of_owns ho, b2⟩
set_option maxHeartbeats 1000000 in
theorem works11_any (w : World) : Calls Try.prog 26 #[] w (BoolB w true) := by
  have Hs := Lib.hid any_smp11
  go_enter Try.func26, Try.ntmps26
  go_wp2_with fail
  refine (Hs.out _).mono ?_
  rintro e w1 ⟨o1, l1, rfl, r1, b1⟩
  have Hn := Lib.hid (left11_any o1 l1 _ w1 (Nat.le_refl _) r1)
  have B1 := Lib.hid b1
  clear r1 b1
  go_wp2_with fail
  refine (Hn.out).mono ?_
  rintro e w2 ⟨a2, c2, rfl, r2, b2⟩
  have B2 := Lib.hid (B1.out.trans (b2.mono B1.out.size))
  have b3 := (Below.refl w2.heap.size w2).alloc (Nat.le_refl _) (.cells #[.int .i64 0, .int .i64 1] 3)
  have Hc := Lib.hid (sameInts_any (.slice a2 2 c2) (.slice (some ⟨w2.heap.size, 0, none⟩) 2 2) [0, 1] [0, 1] _ _ (w2.alloc (.cells #[.int .i64 0, .int .i64 1] 3)) b3.size (by simp) (r2.below b3) (row_cellsB w2 (ints [0, 1]) 1 2 2 3 rfl (Nat.le_refl _) (by unfold maxLen; omega)))
  have B3 := Lib.hid (B2.out.trans (b3.mono B2.out.size))
  clear b2 b3 r2 Hn
  go_wp2_with fail
  refine (Hc.out).mono ?_
  rintro e w4 ⟨rfl, b4⟩
  have B4 := Lib.hid (B3.out.trans (b4.mono B3.out.size))
  simp only [decide_true]
  clear b4 Hc
  go_wp2_with fail
  refine (Hs.out _).mono ?_
  rintro e w5 ⟨o5, l5, rfl, r5, b5⟩
  have Hn := Lib.hid (way11_any o5 l5 _ w5 (Nat.le_refl _) r5)
  have B5 := Lib.hid (B4.out.trans (b5.mono B4.out.size))
  clear r5 b5
  go_wp2_with fail
  refine (Hn.out).mono ?_
  rintro e w6 ⟨a6, c6, rfl, r6, b6⟩
  have B6 := Lib.hid (B5.out.trans (b6.mono B5.out.size))
  have b7 := (Below.refl w6.heap.size w6).alloc (Nat.le_refl _) (.cells #[.int .i64 0, .int .i64 1, .int .i64 0] 3)
  have Hc := Lib.hid (sameInts_any (.slice a6 3 c6) (.slice (some ⟨w6.heap.size, 0, none⟩) 3 3) [0, 1, 0] [0, 1, 0] _ _ (w6.alloc (.cells #[.int .i64 0, .int .i64 1, .int .i64 0] 3)) b7.size (by simp) (r6.below b7) (row_cellsB w6 (ints [0, 1, 0]) 1 3 3 3 rfl (Nat.le_refl _) (by unfold maxLen; omega)))
  have B7 := Lib.hid (B6.out.trans (b7.mono B6.out.size))
  clear b6 b7 r6 Hn
  go_wp2_with fail
  refine (Hc.out).mono ?_
  rintro e w8 ⟨rfl, b8⟩
  have B8 := Lib.hid (B7.out.trans (b8.mono B7.out.size))
  simp only [decide_true]
  clear b8 Hc
  go_wp2_with fail
  go_ret
  exact ⟨rfl, B8.out⟩
theorem few_any11 (b : Bn) (tk lk : Int) (o l : Value) (n : Nat) (w : World) (h1 : b.toks = tk) (h2 : b.look = lk) (hB : n ≤ w.heap.size) (r : BR w n o l b) :
    Calls Try.prog 10 #[.agg #[.int .i64 tk, .int .i64 lk, o, l], .int .i64 10, .int .i64 20] w (Few10 w tk lk (fewB 10 20 b)) := by
  subst h1 h2
  exact few_own b o l 10 20 (by decide) (by decide) n w hB r
end Go.Proofs.Ytfmcigodfihlcaa
